/- What Stop of the program's net does. -/
import Derived.Test.YtogcfeplfclobaaNo
namespace Go.Proofs.Ytogcfeplfclobaa
open Go.RowKit
set_option maxRecDepth 10000
set_option linter.unusedVariables false
set_option linter.unusedSimpArgs false

/-- The first k of those who wait are broken. -/
def brkTo (S : Nt) (k : Nat) : Nt := { S with stop := true, L := S.L.take S.first ++ ((S.L.drop S.first).take k).map Cn.break_ ++ (S.L.drop S.first).drop k }
theorem brkTo_len (S : Nt) (k : Nat) : (brkTo S k).L.length = S.L.length := by
  simp only [brkTo, List.length_append, List.length_map, List.length_take, List.length_drop]
  omega
theorem brkTo_zero (S : Nt) : brkTo S 0 = { S with stop := true } := by
  simp [brkTo]
theorem brkTo_at (S : Nt) (k : Nat) {s : Cn} (h1 : S.first ≤ S.L.length) (hs : S.L[S.first + k]? = some s) : (brkTo S k).L[S.first + k]? = some s := by
  have hlt := (List.getElem?_eq_some_iff.1 hs).1
  have hl : (S.L.take S.first ++ ((S.L.drop S.first).take k).map Cn.break_).length = S.first + k := by
    simp only [List.length_append, List.length_map, List.length_take, List.length_drop]; omega
  simp only [brkTo]
  rw [List.getElem?_append_right (by omega), hl, Nat.sub_self, List.getElem?_drop, List.getElem?_drop]
  simpa using hs
theorem brkTo_succ (S : Nt) (k : Nat) {s : Cn} (h1 : S.first ≤ S.L.length) (hs : S.L[S.first + k]? = some s) : brkTo S (k + 1) = (brkTo S k).upd ((S.first + k : Nat) : Int) s.break_ := by
  have hlt := (List.getElem?_eq_some_iff.1 hs).1
  have hl : (S.L.take S.first ++ ((S.L.drop S.first).take k).map Cn.break_).length = S.first + k := by
    simp only [List.length_append, List.length_map, List.length_take, List.length_drop]; omega
  have hd : (S.L.drop S.first)[k]? = some s := by rw [List.getElem?_drop]; exact hs
  have hk : k < (S.L.drop S.first).length := by rw [List.length_drop]; omega
  have hs' : (S.L.drop S.first)[k] = s := by rw [List.getElem?_eq_getElem hk] at hd; injection hd
  unfold Nt.upd
  simp only [brkTo, Int.toNat_natCast]
  congr 1
  rw [List.take_succ_eq_append_getElem hk, hs', List.map_append, List.set_append_right _ _ (by omega), hl, Nat.sub_self, List.drop_eq_getElem_cons hk, hs', List.set_cons_zero]
  simp
theorem brkTo_all (S : Nt) (h1 : S.first ≤ S.L.length) : { brkTo S (S.L.length - S.first) with first := S.L.length } = S.stopped := by
  have e : (S.L.drop S.first).length = S.L.length - S.first := List.length_drop
  simp only [brkTo, Nt.stopped]
  rw [← e, List.take_length, List.drop_length]
  simp
theorem stop_nil (w : World) : Calls Try.prog 27 #[.pointer none] w fun e w' => e = .returned (.tuple #[]) ∧ w = w' := by
  have hn := eql_nnil
  go_enter Try.func27, Try.ntmps27
  go_wp2
  refine bodyPost_ret (results_none rfl _ _ _) rfl ?_
  exact ⟨rfl, rfl⟩
/-- What is kept while those who wait are broken. -/
def StopAt (w wr : World) (g m : Nat) (vc : Value) (X : List Cb) (S : Nt) (k : Nat) : Prop :=
  ∃ X', NetF wr g vc X' (brkTo S k) m ∧ pv X' = pv X ∧ Mods (nfoot g vc X) w wr ∧ ∀ b ∈ fts X', b ∈ fts X ∨ w.heap.size ≤ b
theorem stop_quiet {w wr w2 : World} {g m : Nat} {vc : Value} {X : List Cb} {S : Nt} {k : Nat} (h : StopAt w wr g m vc X S k) (hm : Mods [] wr w2) : StopAt w w2 g m vc X S k := by
  obtain ⟨X', h1, h2, h3, h4⟩ := h
  exact ⟨X', h1.keep fun b hb => hm.block b (h1.lt b hb) (by simp), h2, h3.trans hm (by simp), h4⟩
theorem stop_step {w wr : World} {g m n f cc k : Nat} {A B : Option Addr} {X : List Cb} {S : Nt} (h : StopAt w wr g m (.slice A n cc) X S k) (hn : n = S.L.length) (hf : f = S.first) (hB : B = (if cc = f then A else Option.map (fun x => x.add f) A)) (hk : k < n - f) (hc : n ≤ cc) :
    ∃ (b o : Nat) (x : Cb), (B = some ⟨b, o, none⟩ ∧ wr.cell? ⟨b, o + k, none⟩ = some (.pointer (some ⟨x.b, 0, none⟩))) ∧
      Calls Try.prog 61 #[.pointer (some ⟨x.b, 0, none⟩)] wr (fun e w' => e = .returned (.tuple #[]) ∧ Hid (CnTo KP wr w' x ((S.L.getD (f + k) none_).break_))) ∧
      ∀ w2, CnTo KP wr w2 x ((S.L.getD (f + k) none_).break_) → StopAt w w2 g m (.slice A n cc) X S (k + 1) := by
  subst hn hf
  obtain ⟨X', hA, hpv, hM, hfts⟩ := h
  have hlt : S.first + k < S.L.length := by omega
  obtain ⟨s, hs⟩ : ∃ s, S.L[S.first + k]? = some s := ⟨_, List.getElem?_eq_getElem hlt⟩
  have hgd : S.L.getD (S.first + k) none_ = s := by rw [List.getD_eq_getElem?_getD, hs]; rfl
  rw [hgd]
  have hn1 : S.first ≤ S.L.length := by omega
  have hs2 := brkTo_at S k hn1 hs
  obtain ⟨x, hx⟩ := hA.cs.at1 hs2
  have hcut := hA.ptr.cut S.first hn1
  rw [← hB] at hcut
  obtain ⟨b, o, hBe, hcell⟩ := hcut.src k (.pointer (some ⟨x.b, 0, none⟩)) (by rw [List.getElem?_drop]; exact pv_at hx)
  have hcn := hA.cs.at_ _ x s hx hs2
  refine ⟨b, o, x, ⟨hBe, hcell⟩, break_any wr x s hcn, fun w2 hq => ?_⟩
  obtain ⟨x2, q1, q2, q3, q4⟩ := hq
  have hsf := hA.ok.at_ hs2
  have hok : ((brkTo S k).upd ((S.first + k : Nat) : Int) s.break_).Ok m := hA.ok.upd (Nat.le_refl _) hA.ok.mm (by simp only [Cn.break_, List.length_nil]; omega) (fun hq => hA.ok.op _ s hs2 hq)
  have ht := hA.turn hx hs2 q1 q2 q3 q4 hok rfl
  rw [← brkTo_succ S k hn1 hs] at ht
  refine ⟨_, ht, by rw [pv_set hx q2]; exact hpv, hM.trans q3 fun b hb => ?_, fun b hb => ?_⟩
  · rcases hfts b (mem_fts.2 ⟨_, x, hx, hb⟩) with h | h
    · left
      simp only [nfoot, List.mem_cons, List.mem_append]
      exact .inr (.inr h)
    · exact .inr h
  · rcases fts_set hx q4 b hb with h | h
    · exact hfts b h
    · exact .inr (Nat.le_trans hM.size h)
theorem stop_end {w wr : World} {g m n f : Nat} {vc : Value} {X X' : List Cb} {S : Nt} (hA : NetF wr g vc X' (brkTo S (n - f)) m) (hM : Mods (nfoot g vc X) w wr) (hfts : ∀ b ∈ fts X', b ∈ fts X ∨ w.heap.size ≤ b) (hn : n = S.L.length) (hf : f = S.first) (h1 : f ≤ n) :
    NetTo w (wr.setCell ⟨g, 4, none⟩ (.int .i64 (n : Nat))) g (nfoot g vc X) S.stopped m := by
  subst hn hf
  have hl := brkTo_len S (S.L.length - S.first)
  have hN := hA.put (S' := { brkTo S (S.L.length - S.first) with first := S.L.length }) 4 (.int .i64 (S.L.length : Nat)) (by
    have := hA.row.set 4 (.int .i64 (S.L.length : Nat))
    simpa using this) rfl ⟨hA.ok.b1, hA.ok.b2, hA.ok.f1, hA.ok.f2, by simp only; omega, hA.ok.n2, hA.ok.cn, fun j s hj hop => by
      have h2 := hA.ok.op j s hj hop
      have h3 : (brkTo S (S.L.length - S.first)).first = S.first := rfl
      simp only
      omega, hA.ok.mm⟩
  rw [brkTo_all S h1] at hN
  refine ⟨_, ⟨vc, X', rfl, hN⟩, hM.setCell (.inl (by simp [nfoot])) _, fun k hk => ?_⟩
  simp only [nfoot, List.mem_cons, List.mem_append] at hk ⊢
  rcases hk with hk | hk | hk
  · exact .inl (.inl hk)
  · exact .inl (.inr (.inl hk))
  · rcases hfts k hk with h | h
    · exact .inl (.inr (.inr h))
    · exact .inr h
set_option maxHeartbeats 1000000 in
theorem stop_any (w : World) (g m : Nat) (F : List Nat) (S : Nt) (h : NetA w g F S m) :
    Calls Try.prog 27 #[.pointer (some ⟨g, 0, none⟩)] w fun e w' => e = .returned (.tuple #[]) ∧ Hid (NetTo w w' g F S.stopped m) := by
  obtain ⟨vc, X, rfl, h⟩ := h
  obtain ⟨A, cc, rfl, hcc1, hcc2⟩ := h.slice
  have hn := eql_nnil
  have c1 := h.row.cell 1
  have c3 := h.row.cell 3
  have c4 := h.row.cell 4
  have f0 := h.row.free
  have h1 := h.ok.n1
  have h2 := h.ok.n2
  unfold maxLen at hcc2
  have HH := Lib.hid h
  obtain ⟨B, hB⟩ : ∃ B, B = (if cc = S.first then A else Option.map (fun x => x.add S.first) A) := ⟨_, rfl⟩
  have hoff := hB.symm
  have HB := Lib.hid hB
  have HSZ := Lib.hid (show Hid (StopAt w (w.setCell ⟨g, 1, none⟩ (.bool true)) g m (.slice A S.L.length cc) X S 0) from Lib.hid ⟨X, by
    rw [brkTo_zero]
    refine h.put 1 _ ?_ rfl ⟨h.ok.b1, h.ok.b2, h.ok.f1, h.ok.f2, h.ok.n1, h.ok.n2, h.ok.cn, h.ok.op, h.ok.mm⟩
    have := h.row.set 1 (.bool true)
    simpa using this, rfl, (Mods.refl _ _).setCell (.inl (by simp [nfoot])) _, fun b hb => .inl hb⟩)
  obtain ⟨n, hn0⟩ : ∃ n, n = S.L.length := ⟨_, rfl⟩
  obtain ⟨f, hf0⟩ : ∃ f, f = S.first := ⟨_, rfl⟩
  rw [← hn0] at c3 HSZ hcc1 h1 h2 HH ⊢
  rw [← hf0] at c4 hoff HB h1
  have HN := Lib.hid hn0
  have HFF := Lib.hid hf0
  clear h hB hn0 hf0
  go_enter Try.func27, Try.ntmps27
  go_wp2_with fail
  go_quiet (fail)
  go_wp2_with fail
  go_loopw [3, 19] (fun y i wr => ∃ k : Nat, k ≤ n - f ∧ i = .int .i64 k ∧ Hid (StopAt w wr g m (.slice A n cc) X S k)) (fun _ i _ => (n - f) - (intOf i).toNat)
  case atStart => exact ⟨0, Nat.zero_le _, rfl, Lib.hid (stop_quiet HSZ.out.out ((Mods.refl _ _).drewN _))⟩
  case round =>
    obtain ⟨k, hk, rfl, hd⟩ := hrel
    by_cases hlt : k < n - f
    · obtain ⟨b, o, x, hcell, HB2, HS2⟩ := stop_step (B := B) hd.out HN.out HFF.out HB.out hlt hcc1
      obtain ⟨rfl, hcell⟩ := hcell
      have HBR := Lib.hid HB2
      have HST := Lib.hid HS2
      clear hd HB2 HS2 hoff
      go_wp2_with fail
      refine HBR.out.mono ?_
      rintro e w2 ⟨rfl, hq⟩
      have HT := Lib.hid (HST.out _ hq.out)
      clear hq
      go_wp2
      go_roundw
      case rel => exact ⟨k + 1, by omega, by go_num, HT⟩
      case measure => simp [intOf]; omega
    · have hkn : k = n - f := by omega
      subst hkn
      obtain ⟨X', hA, hpv, hM, hfts⟩ := hd.out
      have d3 : wr.cell? ⟨g, 3, none⟩ = some (.slice A n cc) := hA.row.cell 3
      have d4 := hA.row.cell 4
      have fr := hA.row.free
      have HE := Lib.hid (stop_end hA hM hfts HN.out HFF.out h1)
      clear hd hA hpv hM hfts hoff c1 c3 c4 f0
      go_wp2
      go_end0
      exact ⟨rfl, HE⟩
end Go.Proofs.Ytogcfeplfclobaa
