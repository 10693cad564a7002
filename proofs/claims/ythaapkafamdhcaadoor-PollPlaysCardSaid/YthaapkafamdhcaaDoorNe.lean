/- What Open, Connect, Accept of the program's net do. -/
import Derived.Test.YthaapkafamdhcaaDoorNd
namespace Go.Proofs.YthaapkafamdhcaaDoor
open Go.RowKit
set_option maxRecDepth 10000
set_option linter.unusedVariables false
set_option linter.unusedSimpArgs false

theorem open_nil (w : World) (c n : Int) : Calls Tryd.prog 26 #[.pointer none, .int .i64 c, .int .i64 n] w fun e w' => e = .returned (.int .i64 1) ∧ w = w' := by
  by_cases hn : n < 0
  · go_enter Tryd.func26, Tryd.ntmps26
    go_wp2
    go_ret
    exact ⟨rfl, rfl⟩
  · go_enter Tryd.func26, Tryd.ntmps26
    go_wp2_with fail
    refine (theirs_nil w c).mono ?_
    rintro e w' ⟨rfl, rfl⟩
    go_wp2
    go_ret
    exact ⟨rfl, rfl⟩
/-- Behind the marks of an Open. -/
theorem open_tail {w w1 : World} {x : Cb} {s1 s' : Cn} {u : Int} (h : CnTo KP w w1 x s1) (hu : s' = { s1 with win := u }) :
    CnTo KP w (w1.setCell ⟨x.b, 6, none⟩ (.int .i64 u)) x s' := by
  subst hu
  exact h.put 6 _ (fun _ => rfl) (cbs_all rfl rfl rfl)
theorem open_any (w : World) (g m : Nat) (F : List Nat) (S : Nt) (c n : Int) (h : NetA w g F S m) (hm : m + 1 ≤ 900000000) :
    Calls Tryd.prog 26 #[.pointer (some ⟨g, 0, none⟩), .int .i64 c, .int .i64 n] w fun e w' => e = .returned (.int .i64 (S.openE c n)) ∧ Hid (NetTo w w' g F (S.open_ c n) (m + 1)) := by
  have HN0 := Lib.hid (NetTo.same (h.more (n := m + 1) (by omega) hm) (Mods.refl [] w))
  by_cases hn : n < 0
  · have he : S.openE c n = 1 := by unfold Nt.openE; rw [if_pos hn]
    rw [show S.open_ c n = S by unfold Nt.open_; rw [he]; rfl, he]
    clear h he
    go_enter Tryd.func26, Tryd.ntmps26
    go_wp2
    go_ret
    exact ⟨rfl, HN0⟩
  have he1 : S.openE c n = S.e1 c := by unfold Nt.openE; rw [if_neg hn]
  rw [he1]
  by_cases he : S.e1 c = 0
  · rw [show S.open_ c n = S.upd c ((S.get c).open_ n) by unfold Nt.open_; rw [he1, if_pos he], he]
    obtain ⟨i, s, rfl, hs, hi, hg, hb, ho⟩ := Nt.e1_zero he
    rw [hg]
    obtain ⟨vc, X, rfl, h⟩ := h
    obtain ⟨x, hx⟩ := h.cs.at1 hs
    have hc := h.cs.at_ i x s hx hs
    have HT := Lib.hid (theirs_at w g m i vc X S x s h hx hs hb ho)
    have hf := h.ok.at_ hs
    have HN := Lib.hid (fun (w' : World) (hq : CnTo KP w w' x (s.open_ n)) => h.toC hx hs hq (h.ok.upd (n := m + 1) (by omega) hm (by simp only [Cn.open_]; split <;> omega) fun hq => h.ok.op i s hs hq) rfl)
    have c6 := hc.row.cell 6
    have c10 := hc.row.cell 10
    simp only [KP] at c6 c10
    have f0 := hc.row.free
    have HH := Lib.hid hc
    have hmw : s.mw ≤ 900000000 := by omega
    have hw1 : 0 ≤ s.win := by omega
    have hw2 : s.win ≤ 1099511627776 := by omega
    obtain ⟨u, hu⟩ : ∃ u, u = s.win + min n (1099511627776 - s.win) := ⟨_, rfl⟩
    have HU := Lib.hid hu
    have hmn : s.win + (if 1099511627776 - s.win < n then 1099511627776 - s.win else n) = u := by subst hu; split <;> omega
    clear h hx hs hg hb ho hc hf he hi he1 hu
    by_cases h0 : 0 < n
    · have HE := Lib.hid (show s.open_ n = { s with win := u, mw := s.mw + 1 } by simp [Cn.open_, h0, HU.out])
      rw [HE.out] at HN
      go_enter Tryd.func26, Tryd.ntmps26
      go_wp2_with fail
      refine HT.out.mono ?_
      rintro e w' ⟨rfl, rfl⟩
      go_wp2
      go_region
      all_goals go_wp2
      all_goals
        go_ret
        rw [HE.out]
        refine ⟨rfl, Lib.hid (HN.out _ ?_)⟩
        exact open_tail (s1 := { s with mw := s.mw + 1 }) ((CnTo.put (s' := { s with mw := s.mw + 1 }) (CnTo.refl HH.out) 10 (.int .i64 ((s.mw : Int) + 1)) (fun _ => rfl) (cbs_all rfl rfl rfl)).quiet ((Mods.refl _ _).drew)) rfl
    · have HE := Lib.hid (show s.open_ n = { s with win := u } by simp [Cn.open_, h0, HU.out])
      rw [HE.out] at HN
      have hnn : n = 0 := by omega
      subst hnn
      clear h0
      go_enter Tryd.func26, Tryd.ntmps26
      go_wp2_with fail
      refine HT.out.mono ?_
      rintro e w' ⟨rfl, rfl⟩
      go_wp2
      go_region
      all_goals go_wp2
      all_goals
        go_ret
        rw [HE.out]
        refine ⟨rfl, Lib.hid (HN.out _ ?_)⟩
        exact open_tail (s1 := s) ((CnTo.refl HH.out).quiet ((Mods.refl _ _).drew)) (by rw [show u = s.win by have := HU.out; omega])
  · rw [show S.open_ c n = S by unfold Nt.open_; rw [he1, if_neg he]]
    have HT := Lib.hid (theirs_no w g m F S c h he)
    obtain ⟨e0, he0⟩ : ∃ e0, e0 = S.e1 c := ⟨_, rfl⟩
    rw [← he0] at HT he ⊢
    have hne : (e0 != 0) = true := by simpa using he
    clear h he he0 he1
    go_enter Tryd.func26, Tryd.ntmps26
    go_wp2_with fail
    refine HT.out.mono ?_
    rintro e w' ⟨rfl, rfl⟩
    go_wp2
    go_ret
    exact ⟨rfl, HN0⟩
theorem conn_nil (w : World) (p : Int) : Calls Tryd.prog 19 #[.pointer none, .int .i64 p] w fun e w' => e = .returned (.tuple #[.int .i64 0, .int .i64 1]) ∧ w = w' := by
  have hn := eql_nnil
  go_enter Tryd.func19, Tryd.ntmps19
  go_wp2
  go_ret2
  exact ⟨rfl, rfl⟩
theorem wrap_len {n k : Nat} (h : n = k) (hk : k ≤ 65536) : wrap64 ((n : Nat) : Int) = (k : Int) := by
  subst h
  exact IntWalk.wrap64_in _ (by omega)
theorem ptr_info3 : (Tryd.prog.info? 118).map (fun i => (i.zero, i.size, i.bytes)) = some (some (.pointer none), 1, 8) := by kernel_rfl
/-- A connection that is new. -/
theorem new_conn (w : World) (p : Int) : CnA KP (w.alloc (.cells #[.int .i64 p, .bool false, .bool false, .bool false, .bool false, .slice none 0 0, .int .i64 0, .slice none 0 0, .slice none 0 0, .int .i64 0, .int .i64 0] 122)) ⟨w.heap.size, fun _ => .slice none 0 0⟩ (Cn.new p) :=
  ⟨Row.new w _ _, cbs_all (Own.nil _ _) (Own.nil _ _) (Own.nil _ _), fun i j _ k hk => by simp [Value.ownBlock] at hk, cbs_all (by simp [KP, cbs, Cn.new]) (by simp [KP, cbs, Cn.new]) (by simp [KP, cbs, Cn.new])⟩
/-- A connection is new, its pointer appended, and the slice stored. -/
theorem conn_of {w w1 w2 w8 : World} {g m : Nat} {vc v8 : Value} {X : List Cb} {S : Nt} {p : Int} (h : NetF w g vc X S m) (hw : Mods [] w w1) (hs : w1.heap.size = w.heap.size)
    (h2 : w2 = (w1.alloc (.cells #[.int .i64 p, .bool false, .bool false, .bool false, .bool false, .slice none 0 0, .int .i64 0, .slice none 0 0, .slice none 0 0, .int .i64 0, .int .i64 0] 122)).alloc (.cells #[.pointer (some ⟨w1.heap.size, 0, none⟩)] 118))
    (ho : Own w8 118 v8 (pv X ++ [.pointer (some ⟨w1.heap.size, 0, none⟩)])) (hm : Mods vc.ownBlock.toList w2 w8 ∧ (v8.ownBlock = vc.ownBlock ∨ v8.ownBlock = some w2.heap.size))
    (hp1 : 0 ≤ p) (hp2 : p ≤ 255) (hl : S.L.length < 65536) :
    Row w8 g 86 #[.int .i64 S.back, .bool S.stop, .int .i64 S.fail, vc, .int .i64 S.first, .int .i64 (opens S.L : Nat)] ∧ NetTo w (w8.setCell ⟨g, 3, none⟩ v8) g (nfoot g vc X) { S with L := S.L ++ [Cn.new p] } m := by
  have hsz : w2.heap.size = w.heap.size + 2 := by rw [h2]; simp; omega
  have hq2 : Mods [] w w2 := by rw [h2]; exact (hw.alloc _).alloc _
  have hF2 := h.keep (w' := w2) fun k hk => hq2.block k (h.lt k hk) (by simp)
  have hvc : ∀ k ∈ vc.ownBlock.toList, k ≠ g := h.ptr.ne_row h.row (by decide)
  have hr8 : Row w8 g _ _ := hF2.row.mods hm.1 fun hk => hvc _ hk rfl
  have hcn : CnA KP w2 ⟨w1.heap.size, fun _ => .slice none 0 0⟩ (Cn.new p) := by
    rw [h2]; exact (new_conn w1 p).mods ((Mods.refl [] _).alloc _) (by simp)
  have hft : (⟨w1.heap.size, fun _ => .slice none 0 0⟩ : Cb).ft = [w1.heap.size] := rfl
  have hcs8 : Cs KP w8 X S.L := hF2.cs.mods hm.1 fun k hk hk2 => h.cs.slice h.ptr (by decide) (by decide) k hk2 hk
  have hcn8 : CnA KP w8 ⟨w1.heap.size, fun _ => .slice none 0 0⟩ (Cn.new p) := hcn.mods hm.1 fun k hk hk2 => by
    rw [hft] at hk
    simp at hk
    have := h.ptr.lt k hk2
    omega
  have hgf : g ∉ fts X := h.cs.row h.row (by decide) (by decide)
  have hgl := h.row.lt
  have hcs8' : Cs KP w8 (X ++ [⟨w1.heap.size, fun _ => .slice none 0 0⟩]) (S.L ++ [Cn.new p]) := h.cs.snoc hcn8 hcs8 (by rw [hft]; simp; omega)
  have hM : Mods (nfoot g vc X) w (w8.setCell ⟨g, 3, none⟩ v8) := by
    refine (((hq2.more (by simp)).trans hm.1 (F1 := nfoot g vc X) fun k hk => .inl ?_)).setCell (.inl ?_) _
    · simp only [nfoot, List.mem_cons, List.mem_append]; exact .inr (.inl hk)
    · simp [nfoot]
  refine ⟨hr8, _, ⟨v8, X ++ [⟨w1.heap.size, fun _ => .slice none 0 0⟩], rfl, ?_, ?_, ?_, ?_⟩, hM, fun k hk => ?_⟩
  · have := hr8.set 3 v8
    rw [opens_snoc]
    simpa using this
  · rw [pv_snoc]
    exact ho.keep fun k hk => heap_setCell_other w8 ⟨g, 3, none⟩ k v8 (ho.ne_row hr8 (by decide) k hk)
  · refine hcs8'.keep fun k hk => heap_setCell_other w8 ⟨g, 3, none⟩ k v8 fun e => ?_
    have e : k = g := e
    subst e
    rw [fts_snoc, hft] at hk
    rcases List.mem_append.1 hk with hk | hk
    · exact hgf hk
    · simp at hk; omega
  · refine ⟨h.ok.b1, h.ok.b2, h.ok.f1, h.ok.f2, by have := h.ok.n1; simp; omega, by simp; omega, fun s hs => ?_, fun i s hi hop => ?_, h.ok.mm⟩
    · rcases List.mem_append.1 hs with hs | hs
      · exact h.ok.cn s hs
      · simp at hs; subst hs; simp [Cn.new]; omega
    · by_cases hi2 : i < S.L.length
      · rw [List.getElem?_append_left hi2] at hi
        exact h.ok.op i s hi hop
      · rw [List.getElem?_append_right (by omega)] at hi
        have := List.mem_of_getElem? hi
        simp at this; subst this
        simp [Cn.new] at hop
  · simp only [nfoot, List.mem_cons, List.mem_append] at hk ⊢
    rcases hk with hk | hk | hk
    · exact .inl (.inl hk)
    · rcases hm.2 with e | e
      · rw [e] at hk; exact .inl (.inr (.inl hk))
      · rw [e] at hk; simp at hk; right; omega
    · rw [fts_snoc, hft] at hk
      rcases List.mem_append.1 hk with hk | hk
      · exact .inl (.inr (.inr hk))
      · simp at hk; right; omega
theorem conn_any (w : World) (g m : Nat) (F : List Nat) (S : Nt) (p : Int) (h : NetA w g F S m) :
    Calls Tryd.prog 19 #[.pointer (some ⟨g, 0, none⟩), .int .i64 p] w fun e w' => e = .returned (.tuple #[.int .i64 (S.connN p), .int .i64 (S.connE p)]) ∧ Hid (NetTo w w' g F (S.conn p) m) := by
  have hn := eql_nnil
  have HN0 := Lib.hid (NetTo.same h (Mods.refl [] w))
  have bad : ∀ e0 : Int, S.connE p = e0 → e0 ≠ 0 → S.connN p = 0 ∧ S.conn p = S := fun e0 h1 h2 => by
    have : ¬ S.connE p = 0 := by rw [h1]; exact h2
    exact ⟨by unfold Nt.connN; rw [if_neg this], by unfold Nt.conn; rw [if_neg this]⟩
  by_cases h1 : p < 0
  · have he : S.connE p = 1 := by unfold Nt.connE; rw [if_pos (.inl h1)]
    rw [(bad 1 he (by decide)).1, (bad 1 he (by decide)).2, he]
    clear h bad he
    go_enter Tryd.func19, Tryd.ntmps19
    go_wp2
    go_ret2
    exact ⟨rfl, HN0⟩
  by_cases h2 : 255 < p
  · have he : S.connE p = 1 := by unfold Nt.connE; rw [if_pos (.inr h2)]
    rw [(bad 1 he (by decide)).1, (bad 1 he (by decide)).2, he]
    clear h bad he
    go_enter Tryd.func19, Tryd.ntmps19
    go_wp2
    go_ret2
    exact ⟨rfl, HN0⟩
  have hE : S.connE p = if S.stop then 6 else if S.back ≤ S.wait ∨ 65536 ≤ (S.L.length : Int) then 3 else 0 := by unfold Nt.connE; rw [if_neg (by omega)]
  have HW := Lib.hid (fun (w' : World) (hq : ∀ k ∈ F, w'.heap[k]? = w.heap[k]?) => waiting_any w' g m F S (h.keep hq))
  obtain ⟨vc, X, rfl, h⟩ := h
  obtain ⟨A, cc, rfl, hcc, -⟩ := h.slice
  have c0 := h.row.cell 0
  have c1 := h.row.cell 1
  have c3 := h.row.cell 3
  have f0 := h.row.free
  cases hst : S.stop with
  | true =>
    rw [hst] at c1 hE
    have he : S.connE p = 6 := hE
    rw [(bad 6 he (by decide)).1, (bad 6 he (by decide)).2, he]
    clear h bad he hE hst hcc
    go_enter Tryd.func19, Tryd.ntmps19
    go_wp2
    go_ret2
    exact ⟨rfl, HN0⟩
  | false =>
    rw [hst] at c1 hE
    obtain ⟨k, hk⟩ : ∃ k, k = S.wait := ⟨_, rfl⟩
    rw [← hk] at HW hE
    have HK := Lib.hid hk
    by_cases hb : S.back ≤ k
    · have he : S.connE p = 3 := by rw [hE]; simp [hb]
      have hd : decide (S.back ≤ k) = true := by simpa using hb
      rw [(bad 3 he (by decide)).1, (bad 3 he (by decide)).2, he]
      have HS := Lib.hid (fun (w' : World) (hq : Mods [] w w') => NetTo.same ⟨_, X, rfl, h⟩ hq)
      clear h bad he hE hst hcc hk
      go_enter Tryd.func19, Tryd.ntmps19
      go_wp2_with fail
      go_quiet ((go_at_call 56; exact Calls.quiet_of (HW.out _ (fun _ _ => rfl))))
      go_wp2
      go_ret2
      exact ⟨rfl, Lib.hid (HS.out _ ((Mods.refl _ _).drewN _))⟩
    · have hd : decide (S.back ≤ k) = false := by simpa using hb
      by_cases hl : 65536 ≤ S.L.length
      · have he : S.connE p = 3 := by rw [hE]; simp; omega
        have hd2 : decide ((65536 : Int) ≤ (S.L.length : Int)) = true := by simp; omega
        rw [(bad 3 he (by decide)).1, (bad 3 he (by decide)).2, he]
        have HS := Lib.hid (fun (w' : World) (hq : Mods [] w w') => NetTo.same ⟨_, X, rfl, h⟩ hq)
        clear h bad he hE hst hcc hk hb
        go_enter Tryd.func19, Tryd.ntmps19
        go_wp2_with fail
        go_quiet ((go_at_call 56; exact Calls.quiet_of (HW.out _ (fun _ _ => rfl))))
        go_wp2
        go_ret2
        exact ⟨rfl, Lib.hid (HS.out _ ((Mods.refl _ _).drewN _))⟩
      · have he : S.connE p = 0 := by rw [hE]; simp; omega
        have hd2 : decide ((65536 : Int) ≤ (S.L.length : Int)) = false := by simp; omega
        obtain ⟨i0, hi0, hz, hs, hby⟩ := info_parts ptr_info3
        have HI := Lib.hid (And.intro hi0 (And.intro hz (And.intro hs (show i0.bytes ≤ 8 by omega))))
        rw [show S.connN p = S.L.length by unfold Nt.connN; rw [if_pos he], show S.conn p = { S with L := S.L ++ [Cn.new p] } by unfold Nt.conn; rw [if_pos he], he]
        have HH := Lib.hid h
        have hlen := h.cs.len
        have HLL := Lib.hid hlen
        have HB := Lib.hid (show (pv X).length + 1 ≤ 1000000000 by rw [pv_length]; have := h.ok.n2; omega)
        have HL := Lib.hid (show S.L.length < 65536 by omega)
        have HP := Lib.hid (And.intro (show 0 ≤ p by omega) (show p ≤ 255 by omega))
        have hpl := wrap_len (n := S.L.length) rfl h.ok.n2
        clear h bad he hE hst hcc hk hb hi0 hz hs hby hlen
        go_enter Tryd.func19, Tryd.ntmps19
        go_wp2_with fail
        go_quiet ((go_at_call 56; exact Calls.quiet_of (HW.out _ (fun _ _ => rfl))))
        go_wp2_with (at_builtin; refine wpList_append_own2 _ rfl (.tmp 42) (.tmp 46) 84 rfl 118 i0 (.pointer none) Tryd.underlying84 HI.out.1 HI.out.2.1 HI.out.2.2.1 HI.out.2.2.2 rfl (.slice A S.L.length cc) (pv X) rfl (HH.out.ptr.mods ((((Mods.refl [] w).drewN nq).alloc _).alloc _) (by simp)) (some ⟨w.heap.size + 1, 0, none⟩) 1 1 [.pointer (some ⟨w.heap.size, 0, none⟩)] rfl rfl (Src.at_one _ _ _ _ (by simp)) (by simp [Value.oneCell']) HB.out ?_; intro v8 w8 HO8 HM8; obtain ⟨A8, n8, p8, rfl, hn8, -, -⟩ := HO8.out.slice'; have hn9 : n8 = S.L.length + 1 := (by rw [hn8, List.length_append, pv_length, HLL.out]; rfl); clear hn8; subst hn9; obtain ⟨hr8, hq8⟩ := conn_of HH.out ((Mods.refl [] w).drewN nq) rfl rfl HO8.out HM8.out HP.out.1 HP.out.2 HL.out; have HQ8 := Lib.hid hq8; have c8 := hr8.cell 3; have f8 := hr8.free; clear hq8 hr8)
        go_ret2
        exact ⟨rfl, Lib.hid HQ8.out⟩
end Go.Proofs.YthaapkafamdhcaaDoor
