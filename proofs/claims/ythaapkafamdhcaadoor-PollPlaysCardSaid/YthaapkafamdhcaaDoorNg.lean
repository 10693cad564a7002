/- What Read of the program's net does. -/
import Derived.Test.YthaapkafamdhcaaDoorNf
import Derived.Deep.RegionHeld3
import Derived.BigRegion
namespace Go.Proofs.YthaapkafamdhcaaDoor
open Go.RowKit
set_option maxRecDepth 10000
set_option linter.unusedVariables false
set_option linter.unusedSimpArgs false

theorem concatB_row (w : World) (b : Nat) (A : Option Addr) (n c : Nat) (l : List Int) (hc : w.cell? ⟨b, 0, none⟩ = some (.slice A n c)) (hn : n = l.length) (hs : Src w A (bv l)) (hr : ∀ x ∈ l, 0 ≤ x ∧ x ≤ 255) (h1 : n ≤ c) (h2 : c ≤ maxLen) (ht : n ≤ 1000000000) :
    Calls Tryd.prog 64 #[.slice (some ⟨b, 0, none⟩) 1 1] w fun e w' => ∃ v, e = .returned v ∧ Hid (Fresh w w' v l) := by
  subst hn
  have hR : RowsAt w [] b [⟨A, l, c⟩] := ⟨World.block_lt_of_cell? w _ hc, by simp, fun i r hr => by
    match i, hr with
    | 0, hr => injection hr with hr; subst hr; exact hc, fun r hr => by
    simp only [List.mem_cons, List.mem_nil_iff, or_false] at hr
    subst hr
    refine ⟨fun i x hx => ?_, h1, h2⟩
    obtain ⟨b', o', e', h'⟩ := hs i (.int .u8 x) ((bv_at _ _ _).2 ⟨x, hx, rfl⟩)
    exact ⟨b', o', e', World.block_lt_of_cell? w _ h', by simp, h', by first | exact hr x (List.mem_of_getElem? hx) | exact ‹∀ x ∈ l, 0 ≤ x ∧ x ≤ 255› x (List.mem_of_getElem? hx)⟩⟩
  have hf : flatR [⟨A, l, c⟩] = l := by simp [flatR]
  have := concat_any w b [⟨A, l, c⟩] hR (by simp) (by rw [hf]; exact ht)
  rw [hf] at this
  exact this
theorem Src.mods {w w' : World} {F : List Nat} {A : Option Addr} {xs : List Value} (h : Src w A xs) (hm : Mods F w w') (hF : ∀ b o, A = some ⟨b, o, none⟩ → b ∉ F) : Src w' A xs := fun j u hu => by
  obtain ⟨b, o, e, hc⟩ := h j u hu
  exact ⟨b, o, e, cell_mods hc hm (hF b o e)⟩
theorem bv_take (l : List Int) (m : Nat) : (bv l).take m = bv (l.take m) := by simp [bv, List.map_take]
theorem bv_drop (l : List Int) (m : Nat) : (bv l).drop m = bv (l.drop m) := by simp [bv, List.map_drop]
theorem Own.cutTo {w : World} {e : TypeId} {A : Option Addr} {n c : Nat} {xs : List Value} (h : Own w e (.slice A n c) xs) (k : Nat) : Src w A (xs.take k) := fun j u hu => by
  rw [List.getElem?_take] at hu
  split at hu
  · exact h.src j u hu
  · cases hu
theorem Fresh.back {w X w' : World} {v : Value} {l : List Int} (h : Fresh X w' v l) (hm : Mods [] w X) : Fresh w w' v l := ⟨h.1, hm.trans h.2.1 (by simp), fun k hk => Nat.le_trans hm.size (h.2.2 k hk)⟩
theorem upd_same {S : Nt} {i : Nat} {s : Cn} (h : S.L[i]? = some s) : S.upd i s = S := by
  unfold Nt.upd
  have : S.L.set (i : Int).toNat s = S.L := by
    apply List.ext_getElem?
    intro j
    rw [List.getElem?_set, Int.toNat_natCast]
    split
    · subst j
      split
      · exact h.symm
      · rw [List.getElem?_eq_none (by omega)]
    · rfl
  rw [this]
/-- What a call leaves, and the new bytes that it answers. -/
def NetGet (w w' : World) (g : Nat) (F : List Nat) (S : Nt) (m : Nat) (v : Value) (l : List Int) : Prop :=
  ∃ F', NetA w' g F' S m ∧ Mods F w w' ∧ (∀ k ∈ F', k ∈ F ∨ w.heap.size ≤ k) ∧ Own w' 5 v (bv l) ∧ (∀ b ∈ v.ownBlock.toList, w.heap.size ≤ b ∧ b ∉ F') ∧ ∀ y ∈ l, 0 ≤ y ∧ y ≤ 255
theorem NetGet.none {w w' : World} {g m : Nat} {F : List Nat} {S : Nt} (h : NetTo w w' g F S m) : NetGet w w' g F S m (.slice none 0 0) [] := by
  obtain ⟨F', h1, h2, h3⟩ := h
  exact ⟨F', h1, h2, h3, Own.nil _ _, by simp [Value.ownBlock], by simp⟩
theorem read_nil (w : World) (c k : Int) : Calls Tryd.prog 23 #[.pointer none, .int .i64 c, .int .i64 k] w fun e w' => e = .returned (.tuple #[.slice none 0 0, .int .i64 1]) ∧ w = w' := by
  by_cases hk : k < 1
  · go_enter Tryd.func23, Tryd.ntmps23
    go_wp2
    go_ret2
    exact ⟨rfl, rfl⟩
  · go_enter Tryd.func23, Tryd.ntmps23
    go_wp2_with fail
    refine (ours_nil w c).mono ?_
    rintro e w' ⟨rfl, rfl⟩
    go_wp2
    go_ret2
    exact ⟨rfl, rfl⟩
/-- The cut of what is left: the row behind it. -/
theorem read_cut {w : World} {x : Cb} {s : Cn} {A : Option Addr} {n c k : Nat} (h : CnA KP w x s) (hv : x.v 0 = .slice A n c) (hk : k ≤ n) :
    ∃ B, B = (if c = k then A else Option.map (fun x => x.add k) A) ∧ CnA KP (w.setCell ⟨x.b, 5, none⟩ (.slice B (n - k) (c - k))) (x.set 0 (.slice B (n - k) (c - k))) (s.setI (s.inn.drop k)) ∧ (∀ b ∈ (x.set 0 (.slice B (n - k) (c - k))).ft, b ∈ x.ft) := by
  have ho : Own w 5 (.slice A n c) (bv s.inn) := by rw [← hv]; exact h.own 0
  have hc := ho.cut k hk
  have hb := cut_block (A := A) (n := n) (c := c) (k := k) (n - k) (c - k)
  rw [bv_drop] at hc
  refine ⟨_, rfl, h.swap 0 5 _ (Mods.refl _ _) hc (fun b hb2 => .inl (by rw [hb] at hb2; rw [hv]; exact hb2)) rfl ?_ (fun y hy => h.rng 0 y (List.mem_of_mem_drop hy)), fun b hb2 => ?_⟩
  · intro j hj
    match j, hj with
    | 1, _ => rfl
    | 2, _ => rfl
  · rcases Cb.set_ft x 0 _ (n := b + 1) (fun k2 hk2 => .inl (by rw [hb] at hk2; rw [hv]; exact hk2)) b hb2 with h | h
    · exact h
    · omega
theorem read_done {w w4 w5 w6 : World} {g m n i : Nat} {vc v : Value} {X : List Cb} {S : Nt} {x x5 : Cb} {s s' : Cn} {l : List Int} (h : NetF w g vc X S m) (hx : X[i]? = some x) (hs : S.L[i]? = some s)
    (hf : Fresh w w4 v l) (hr : ∀ y ∈ l, 0 ≤ y ∧ y ≤ 255) (hb : x5.b = x.b) (h5 : ∀ b ∈ x5.ft, b ∈ x.ft) (hm5 : Mods [x.b] w4 w5) (hc : CnTo KP w5 w6 x5 s') (hk : (S.upd i s').Ok n) (ho : s'.opn = s.opn) : NetGet w w6 g (nfoot g vc X) (S.upd i s') n v l := by
  obtain ⟨x', h1, h2, h3, h4⟩ := hc
  have hlt := (h.cs.at_ i x s hx hs).lt
  have hxb : x.b ∈ x.ft := (x.mem_ft _).2 (.inl rfl)
  have hm45 : Mods x.ft w w5 := ((hf.2.1.more (F2 := x.ft) (by simp)).trans hm5 fun k hk => .inl (by simp at hk; rw [hk]; exact hxb))
  have hm : Mods x.ft w w6 := hm45.trans h3 fun k hk => .inl (h5 k hk)
  have hsz : w4.heap.size ≤ w5.heap.size := hm5.size
  have hft : ∀ k ∈ x'.ft, k ∈ x.ft ∨ w5.heap.size ≤ k := fun k hk => (h4 k hk).imp (h5 k) id
  have hft2 : ∀ k ∈ x'.ft, k ∈ x.ft ∨ w.heap.size ≤ k := fun k hk => (hft k hk).imp id fun h => Nat.le_trans hm45.size h
  have hov : Own w4 5 v (bv l) := Own.of_row hf.1
  have hvl := hov.lt
  refine ⟨nfoot g vc (X.set i x'), ⟨vc, _, rfl, h.turn hx hs h1 (h2.trans hb) hm hft2 hk ho⟩, hm.more fun k hk => .inl (ft_sub hx k hk), fun k hk => ?_, ?_, fun b hb2 => ⟨hf.2.2 b hb2, fun hk => ?_⟩, hr⟩
  · simp only [nfoot, List.mem_cons, List.mem_append] at hk ⊢
    rcases hk with hk | hk | hk
    · exact .inl (.inl hk)
    · exact .inl (.inr (.inl hk))
    · rcases fts_set hx hft2 k hk with h | h
      · exact .inl (.inr (.inr h))
      · exact .inr h
  · refine (hov.mods hm5 fun b hb2 hk => ?_).mods h3 fun b hb2 hk => ?_
    · have := hf.2.2 b hb2
      simp at hk
      have := hlt b (by rw [hk]; exact hxb)
      omega
    · have := hf.2.2 b hb2
      have := hlt b (h5 b hk)
      omega
  · have h6 := hf.2.2 b hb2
    have h7 := hvl b hb2
    simp only [nfoot, List.mem_cons, List.mem_append] at hk
    rcases hk with hk | hk | hk
    · have := h.row.lt; omega
    · have := h.ptr.lt b hk; omega
    · rcases fts_set hx hft b hk with h8 | h8
      · have := h.cs.lt b h8; omega
      · omega
theorem Cn.read_nil (s : Cn) (k : Int) (h : s.inn = []) : s.read k = s := by
  cases s
  simp only at h
  subst h
  simp [Cn.read]
set_option maxHeartbeats 1000000 in
theorem read_any (w : World) (g m : Nat) (F : List Nat) (S : Nt) (c k0 : Int) (h : NetA w g F S m) (hm : m + 1024 ≤ 900000000) :
    Calls Tryd.prog 23 #[.pointer (some ⟨g, 0, none⟩), .int .i64 c, .int .i64 k0] w fun e w' =>
      ∃ v, e = .returned (.tuple #[v, .int .i64 (S.readE c k0)]) ∧ Hid (NetGet w w' g F (S.read c k0) (m + 1024) v (S.readB c k0)) := by
  have hN := NetTo.same (h.more (n := m + 1024) (by omega) hm) (Mods.refl [] w)
  have HN0 := Lib.hid (NetGet.none hN)
  have bad : S.readE c k0 ≠ 0 → S.readB c k0 = [] ∧ S.read c k0 = S := fun this => ⟨by unfold Nt.readB; rw [if_neg this], by unfold Nt.read; rw [if_neg this]⟩
  clear hN
  by_cases h1 : k0 < 1
  · have he : S.readE c k0 = 1 := by unfold Nt.readE; rw [if_pos h1]
    rw [(bad (by rw [he]; decide)).1, (bad (by rw [he]; decide)).2, he]
    clear h bad he
    go_enter Tryd.func23, Tryd.ntmps23
    go_wp2
    go_ret2
    exact ⟨_, rfl, HN0⟩
  by_cases he : S.e2 c = 0
  · have hE : S.readE c k0 = if (S.get c).inn.length = 0 then (if (S.get c).hlv then 0 else 4) else 0 := by unfold Nt.readE; rw [if_neg h1, if_pos he]
    obtain ⟨i, s, rfl, hs, hi, hg, hb, ho, hfi⟩ := Nt.e2_zero he
    rw [hg] at hE
    obtain ⟨vc, X, rfl, h⟩ := h
    obtain ⟨x, hx⟩ := h.cs.at1 hs
    have hc := h.cs.at_ i x s hx hs
    have HT := Lib.hid (ours_at w g m i vc X S x s h hx hs hb ho hfi)
    have c3 := hc.row.cell 3
    have c5 := hc.row.cell 5
    simp only [KP] at c3 c5
    obtain ⟨Av, cv, hv, hv1, hv2⟩ := (hc.own 0).slice
    rw [bv_length] at hv hv1
    change x.v 0 = .slice Av s.inn.length cv at hv
    change s.inn.length ≤ cv at hv1
    by_cases h0 : s.inn.length = 0
    · replace c5 : w.cell? ⟨x.b, 5, none⟩ = some (.slice Av 0 cv) := by rw [← h0, ← hv]; exact c5
      rw [if_pos h0] at hE
      cases hh : s.hlv with
      | false =>
        rw [hh] at hE c3
        have he4 : S.readE i k0 = 4 := hE
        rw [(bad (by rw [he4]; decide)).1, (bad (by rw [he4]; decide)).2, he4]
        clear h bad hE he4 hs hg hb ho hc hx he hh hv hv1 hv2 h0
        go_enter Tryd.func23, Tryd.ntmps23
        go_wp2_with fail
        refine HT.out.mono ?_
        rintro e w' ⟨rfl, rfl⟩
        go_wp2
        go_ret2
        exact ⟨_, rfl, HN0⟩
      | true =>
        rw [hh] at hE c3
        have he0 : S.readE i k0 = 0 := hE
        have hnil : s.inn = [] := List.eq_nil_of_length_eq_zero h0
        rw [show S.readB i k0 = [] by unfold Nt.readB; rw [if_pos he0, hg, hnil]; simp, show S.read i k0 = S by
          unfold Nt.read; rw [if_pos he0, hg, Cn.read_nil s k0 hnil]; exact upd_same hs, he0]
        clear h bad hE he0 hs hg hb ho hc hx he hh hv hv1 hv2 h0 hnil
        go_enter Tryd.func23, Tryd.ntmps23
        go_wp2_with fail
        refine HT.out.mono ?_
        rintro e w' ⟨rfl, rfl⟩
        go_wp2
        go_ret2
        exact ⟨_, rfl, HN0⟩
    · rw [if_neg h0] at hE
      have he0 : S.readE i k0 = 0 := hE
      have hf := h.ok.at_ hs
      obtain ⟨k, hk⟩ : ∃ k, k = min k0.toNat s.inn.length := ⟨_, rfl⟩
      have htk : s.inn.take k0.toNat = s.inn.take k := by
        rw [hk]
        by_cases h2 : k0.toNat ≤ s.inn.length
        · rw [Nat.min_eq_left h2]
        · rw [Nat.min_eq_right (by omega), List.take_of_length_le (by omega), List.take_of_length_le (Nat.le_refl _)]
      have hdr : s.inn.drop k0.toNat = s.inn.drop k := by
        rw [hk]
        by_cases h2 : k0.toNat ≤ s.inn.length
        · rw [Nat.min_eq_left h2]
        · rw [Nat.min_eq_right (by omega), List.drop_of_length_le (by omega), List.drop_of_length_le (Nat.le_refl _)]
      have hrd : s.read k0 = { s.setI (s.inn.drop k) with tak := s.tak ++ s.inn.take k } := by unfold Cn.read Cn.setI; rw [htk, hdr]
      rw [show S.readB i k0 = s.inn.take k by unfold Nt.readB; rw [if_pos he0, hg, htk], show S.read i k0 = S.upd i { s.setI (s.inn.drop k) with tak := s.tak ++ s.inn.take k } by unfold Nt.read; rw [if_pos he0, hg, hrd], he0]
      have htl : (s.inn.take k).length = k := by rw [List.length_take]; omega
      have HTL := Lib.hid htl
      have hdl : (s.inn.drop k).length ≤ 1024 := by rw [List.length_drop]; omega
      have HOK := Lib.hid (h.ok.upd (i := i) (s' := { s.setI (s.inn.drop k) with tak := s.tak ++ s.inn.take k }) (n := m + 1024) (by omega) hm (by simp only [Cn.setI, List.length_append, htl]; omega) fun hq => h.ok.op i s hs hq)
      obtain ⟨At, ct, hvt, hvt1, hvt2⟩ := (hc.own 1).slice
      rw [bv_length] at hvt hvt1
      change x.v 1 = .slice At s.tak.length ct at hvt
      have c7 := hc.row.cell 7
      simp only [KP] at c7
      replace c7 : w.cell? ⟨x.b, 7, none⟩ = some (.slice At s.tak.length ct) := by rw [← hvt]; exact c7
      replace c5 : w.cell? ⟨x.b, 5, none⟩ = some (.slice Av s.inn.length cv) := by rw [← hv]; exact c5
      have f0 := hc.row.free
      have HH := Lib.hid h
      have HX := Lib.hid hx
      have HS := Lib.hid hs
      have HC := Lib.hid hc
      have HV := Lib.hid hv
      have HVT := Lib.hid hvt
      have HSR := Lib.hid (show Src w Av (bv (s.inn.take k)) by rw [← bv_take]; exact (show Own w 5 (.slice Av s.inn.length cv) (bv s.inn) by rw [← hv]; exact hc.own 0).cutTo k)
      have HR := Lib.hid (fun y hy => hc.rng 0 y (List.mem_of_mem_take hy) : ∀ y ∈ s.inn.take k, 0 ≤ y ∧ y ≤ 255)
      unfold maxLen at hv2
      have k1 : k ≤ s.inn.length := by omega
      have k2 : (k : Int) ≤ (cv : Int) := by omega
      have k3 : (0 : Int) ≤ (k : Int) := by omega
      have hmn : ∀ p q : Int, p = k0 → q = (s.inn.length : Int) → (if q < p then q else p) = (k : Int) := by
        intro p q h2 h3; subst h2 h3; split <;> omega
      have hmn := hmn _ _ rfl rfl
      obtain ⟨i0, hi0, hz, hsz, hby⟩ := info_parts u8_info3
      have HI := Lib.hid (And.intro hi0 (And.intro hz (And.intro hsz (show i0.bytes ≤ 8 by omega))))
      have hil : s.inn.length ≤ 1024 := by omega
      have HTB := Lib.hid (show s.tak.length ≤ 900000000 by omega)
      have h0d : decide ((s.inn.length : Int) = 0) = false := decide_eq_false (by omega)
      clear h bad hE he0 hs hg hb ho hc hx he hv hv1 hvt hvt1 hvt2 htk hdr hrd htl hdl hk hf hi0 hz hsz hby HN0 hfi hi
      go_enter Tryd.func23, Tryd.ntmps23
      go_wp2_with fail
      refine HT.out.mono ?_
      rintro e w' ⟨rfl, rfl⟩
      go_wp2_with fail
      go_region_held3 (fun w' => w'.cell? ⟨x.b, 5, none⟩ = some (.slice Av s.inn.length cv)) (go_keep)
        (first
          | (go_at_call 64; refine Calls.mono (concatB_row _ w.heap.size Av k cv (s.inn.take k) ?_ HTL.out.symm ?_ HR.out (by omega) (by unfold maxLen; omega) (by omega)) ?_; exact (Row.new _ _ #[_]).cell 0; exact HSR.out.mods (F := []) (((Mods.refl [] w).alloc (.cells #[.slice Av k cv] 72)).same rfl rfl rfl rfl) (by simp); rintro e w4 ⟨v, rfl, hd⟩; have HD := Lib.hid (hd.out.back (((Mods.refl [] w).alloc (.cells #[.slice Av k cv] 72)).same rfl rfl rfl rfl)); have c5' := cell_mods c5 HD.out.2.1 (by simp); clear hd))
      all_goals
        obtain ⟨A4, p4, hv4, hp1, hp2⟩ := own_slice HD.out.1
        rw [HTL.out] at hv4
        subst hv4
        have f4 : ∀ j, w4.frozen? ⟨x.b, j, none⟩ = false := fun j => (HD.out.2.1.frozen (p := ⟨x.b, j, none⟩) (HC.out.row.lt) (by simp)).trans (f0 j)
        have c7' := cell_mods c7 HD.out.2.1 (by simp)
        obtain ⟨B, hB, hC5, hF5⟩ := read_cut (w := w4) (HC.out.mods HD.out.2.1 (by simp)) HV.out k1
        have HC5 := Lib.hid hC5
        have HF5 := Lib.hid hF5
        have hoff := hB.symm
        have HO4 := Lib.hid (Own.of_row HD.out.1)
        have HN4 := Lib.hid (HO4.out.ne_row (HC.out.mods HD.out.2.1 (by simp)).row KP.ne)
        clear hB hC5 hF5 hp1 hp2 hmn c5 c7 f0
        have HM5 := Lib.hid (show Mods [x.b] w4 (w4.setCell ⟨x.b, 5, none⟩ (.slice B (s.inn.length - k) (cv - k))) from (Mods.refl _ _).setCell (.inl (by simp)) _)
        have HV5 := Lib.hid (show (x.set 0 (.slice B (s.inn.length - k) (cv - k))).v 1 = .slice At s.tak.length ct from HVT.out)
        have HO5 := Lib.hid (show Own (w4.setCell ⟨x.b, 5, none⟩ (.slice B (s.inn.length - k) (cv - k))) 5 (.slice At s.tak.length ct) (bv s.tak) by rw [← HV5.out]; exact HC5.out.own 1)
        have HSR5 := Lib.hid (HO4.out.keep (w' := w4.setCell ⟨x.b, 5, none⟩ (.slice B (s.inn.length - k) (cv - k))) fun b hb => heap_setCell_other w4 ⟨x.b, 5, none⟩ b _ (HN4.out b hb)).src
        have HBD := Lib.hid (show (bv s.tak).length + k ≤ 1000000000 by rw [bv_length]; have := HTB.out; omega)
        go_wp2_with (at_builtin; refine wpList_append_own2 _ rfl (.tmp 71) (.tmp 72) 72 rfl 5 i0 (.int .u8 0) Tryd.underlying72 HI.out.1 HI.out.2.1 HI.out.2.2.1 HI.out.2.2.2 rfl (.slice At s.tak.length ct) (bv s.tak) rfl HO5.out A4 k p4 (bv (s.inn.take k)) rfl (by rw [bv_length]; exact HTL.out.symm) HSR5.out (bv_one _) HBD.out ?_; intro v8 w8 HO8 HM8; obtain ⟨hr8, hq8⟩ := HC5.out.app (s' := { s.setI (s.inn.drop k) with tak := s.tak ++ s.inn.take k }) 1 7 HO8.out HM8.out HV5.out (Mods.refl [] _) rfl (by intro j hj; match j, hj with | 0, _ => rfl | 2, _ => rfl) rfl HR.out; obtain ⟨A8, n8, c8, rfl, -, -, -⟩ := HO8.out.slice'; have HQ8 := Lib.hid hq8; have c8 : w8.cell? ⟨x.b, 7, none⟩ = some ((x.set 0 (.slice B (s.inn.length - k) (cv - k))).v 1) := hr8.cell 7; have f8 : ∀ j, w8.frozen? ⟨x.b, j, none⟩ = false := hr8.free; clear hq8 hr8)
        go_ret2
        exact ⟨_, rfl, Lib.hid (read_done (x5 := x.set 0 (.slice B (s.inn.length - k) (cv - k))) HH.out HX.out HS.out HD.out HR.out rfl HF5.out (HM5.out) (HQ8.out _ rfl) HOK.out rfl)⟩
  · have he1 : S.readE c k0 = S.e2 c := by unfold Nt.readE; rw [if_neg h1, if_neg he]
    rw [(bad (by rw [he1]; exact he)).1, (bad (by rw [he1]; exact he)).2, he1]
    have HT := Lib.hid (ours_no w g m F S c h he)
    obtain ⟨e0, he0⟩ : ∃ e0, e0 = S.e2 c := ⟨_, rfl⟩
    rw [← he0] at HT he ⊢
    have hne : (e0 != 0) = true := by simpa using he
    clear h he he0 he1 bad
    go_enter Tryd.func23, Tryd.ntmps23
    go_wp2_with fail
    refine HT.out.mono ?_
    rintro e w' ⟨rfl, rfl⟩
    go_wp2
    go_ret2
    exact ⟨_, rfl, HN0⟩
end Go.Proofs.YthaapkafamdhcaaDoor
