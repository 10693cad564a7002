/- What theirs and ours of the program's net answer; breakOff, take. -/
import Derived.Test.YthaapkafamdhcaaDoorNa
namespace Go.Proofs.YthaapkafamdhcaaDoor
open Go.RowKit
set_option maxRecDepth 10000
set_option linter.unusedVariables false
set_option linter.unusedSimpArgs false

theorem theirs_nil (w : World) (c : Int) : Calls Tryd.prog 61 #[.pointer none, .int .i64 c] w fun e w' => e = .returned (.tuple #[.pointer none, .int .i64 1]) ∧ w = w' := by
  have hn := eql_nnil
  go_enter Tryd.func61, Tryd.ntmps61
  go_wp2
  go_ret2
  exact ⟨rfl, rfl⟩
theorem ours_nil (w : World) (c : Int) : Calls Tryd.prog 63 #[.pointer none, .int .i64 c] w fun e w' => e = .returned (.tuple #[.pointer none, .int .i64 1]) ∧ w = w' := by
  have hn := eql_nnil
  go_enter Tryd.func63, Tryd.ntmps63
  go_wp2
  go_ret2
  exact ⟨rfl, rfl⟩
theorem theirs_no (w : World) (g m : Nat) (F : List Nat) (S : Nt) (c : Int) (h : NetA w g F S m) (he : S.e1 c ≠ 0) :
    Calls Tryd.prog 61 #[.pointer (some ⟨g, 0, none⟩), .int .i64 c] w fun e w' => e = .returned (.tuple #[.pointer none, .int .i64 (S.e1 c)]) ∧ w = w' := by
  have hn := eql_nnil
  have hn2 := eql_cnil
  cases hs : S.at? c with
  | none =>
    have h2 : S.e1 c = 2 := by unfold Nt.e1; rw [hs]
    have HF := Lib.hid (find_no w g m F S c h (Nt.at_none hs))
    rw [h2]
    clear h he hs h2
    go_enter Tryd.func61, Tryd.ntmps61
    go_wp2_with fail
    refine HF.out.mono ?_
    rintro e w' ⟨rfl, rfl⟩
    go_wp2
    go_ret2
    exact ⟨rfl, rfl⟩
  | some s =>
    obtain ⟨i, rfl, h1, h2⟩ := Nt.at_some hs
    obtain ⟨vc, X, rfl, h⟩ := h
    obtain ⟨x, hx⟩ := h.cs.at1 h1
    have HF := Lib.hid (find_at w g m i vc X S x h hx)
    have HO := Lib.hid (over_any w g m i vc X S x s h hx h1)
    have cb := (h.cs.at_ i x s hx h1).row.cell 2
    simp only [KP] at cb
    have he2 : S.e1 i = if s.brk then 5 else if decide ((i : Int) < S.first) && !s.opn then 6 else 0 := by unfold Nt.e1; rw [hs]
    clear h hx h1 hs
    cases hb : s.brk with
    | true =>
      rw [hb] at cb he2
      rw [he2]
      clear he he2 hb
      simp only [if_true]
      go_enter Tryd.func61, Tryd.ntmps61
      go_wp2_with fail
      refine HF.out.mono ?_
      rintro e w' ⟨rfl, rfl⟩
      go_wp2
      go_ret2
      exact ⟨rfl, rfl⟩
    | false =>
      rw [hb] at cb he2
      cases ho : (decide ((i : Int) < S.first) && !s.opn) with
      | false => rw [ho] at he2; exact absurd he2 he
      | true =>
        rw [ho] at he2 HO
        rw [he2]
        clear he he2 hb ho
        simp only [if_true, Bool.false_eq_true, if_false]
        go_enter Tryd.func61, Tryd.ntmps61
        go_wp2_with fail
        refine HF.out.mono ?_
        rintro e w' ⟨rfl, rfl⟩
        go_wp2_with fail
        refine HO.out.mono ?_
        rintro e w' ⟨rfl, rfl⟩
        go_wp2
        go_ret2
        exact ⟨rfl, rfl⟩
theorem theirs_at (w : World) (g m i : Nat) (vc : Value) (X : List Cb) (S : Nt) (x : Cb) (s : Cn) (h : NetF w g vc X S m) (hx : X[i]? = some x) (hs : S.L[i]? = some s) (hb : s.brk = false) (ho : (decide ((i : Int) < S.first) && !s.opn) = false) :
    Calls Tryd.prog 61 #[.pointer (some ⟨g, 0, none⟩), .int .i64 i] w fun e w' => e = .returned (.tuple #[.pointer (some ⟨x.b, 0, none⟩), .int .i64 0]) ∧ w = w' := by
  have hn := eql_nnil
  have hn2 := eql_cnil
  have HF := Lib.hid (find_at w g m i vc X S x h hx)
  have HO := Lib.hid (over_any w g m i vc X S x s h hx hs)
  have cb := (h.cs.at_ i x s hx hs).row.cell 2
  simp only [KP] at cb
  rw [hb] at cb
  rw [ho] at HO
  clear h hx hs hb ho
  go_enter Tryd.func61, Tryd.ntmps61
  go_wp2_with fail
  refine HF.out.mono ?_
  rintro e w' ⟨rfl, rfl⟩
  go_wp2_with fail
  refine HO.out.mono ?_
  rintro e w' ⟨rfl, rfl⟩
  go_wp2
  go_ret2
  exact ⟨rfl, rfl⟩
theorem ours_no (w : World) (g m : Nat) (F : List Nat) (S : Nt) (c : Int) (h : NetA w g F S m) (he : S.e2 c ≠ 0) :
    Calls Tryd.prog 63 #[.pointer (some ⟨g, 0, none⟩), .int .i64 c] w fun e w' => e = .returned (.tuple #[.pointer none, .int .i64 (S.e2 c)]) ∧ w = w' := by
  have hn := eql_nnil
  have hn2 := eql_cnil
  cases hs : S.at? c with
  | none =>
    have h2 : S.e2 c = 2 := by unfold Nt.e2; rw [hs]
    have HF := Lib.hid (find_no w g m F S c h (Nt.at_none hs))
    rw [h2]
    clear h he hs h2
    go_enter Tryd.func63, Tryd.ntmps63
    go_wp2_with fail
    refine HF.out.mono ?_
    rintro e w' ⟨rfl, rfl⟩
    go_wp2
    go_ret2
    exact ⟨rfl, rfl⟩
  | some s =>
    obtain ⟨i, rfl, h1, h2⟩ := Nt.at_some hs
    obtain ⟨vc, X, rfl, h⟩ := h
    obtain ⟨x, hx⟩ := h.cs.at1 h1
    have HF := Lib.hid (find_at w g m i vc X S x h hx)
    have HW := Lib.hid (waits_any w g m _ S (i : Int) ⟨vc, X, rfl, h⟩)
    have co := (h.cs.at_ i x s hx h1).row.cell 1
    have cb := (h.cs.at_ i x s hx h1).row.cell 2
    simp only [KP] at cb co
    have he2 : S.e2 i = if (S.first : Int) ≤ (i : Int) then 2 else if s.opn then (if s.brk then 5 else 0) else 6 := by unfold Nt.e2; rw [hs]
    clear h hx h1 hs
    by_cases hw : S.first ≤ i
    · have hd : decide ((S.first : Int) ≤ (i : Int)) = true := by simpa using hw
      rw [hd] at HW
      rw [if_pos (by omega)] at he2
      rw [he2]
      clear he he2 hd cb co
      go_enter Tryd.func63, Tryd.ntmps63
      go_wp2_with fail
      refine HF.out.mono ?_
      rintro e w' ⟨rfl, rfl⟩
      go_wp2_with fail
      refine HW.out.mono ?_
      rintro e w' ⟨rfl, rfl⟩
      go_wp2
      go_ret2
      exact ⟨rfl, rfl⟩
    · have hd : decide ((S.first : Int) ≤ (i : Int)) = false := by simp; omega
      rw [hd] at HW
      rw [if_neg (by omega)] at he2
      clear hd
      cases ho : s.opn with
      | false =>
        rw [ho] at he2 co
        rw [he2]
        clear he he2 ho
        simp only [Bool.false_eq_true, if_false]
        go_enter Tryd.func63, Tryd.ntmps63
        go_wp2_with fail
        refine HF.out.mono ?_
        rintro e w' ⟨rfl, rfl⟩
        go_wp2_with fail
        refine HW.out.mono ?_
        rintro e w' ⟨rfl, rfl⟩
        go_wp2
        go_ret2
        exact ⟨rfl, rfl⟩
      | true =>
        rw [ho] at he2 co
        cases hb : s.brk with
        | false => rw [hb] at he2; exact absurd he2 he
        | true =>
          rw [hb] at he2 cb
          rw [he2]
          clear he he2 hb ho
          simp only [if_true]
          go_enter Tryd.func63, Tryd.ntmps63
          go_wp2_with fail
          refine HF.out.mono ?_
          rintro e w' ⟨rfl, rfl⟩
          go_wp2_with fail
          refine HW.out.mono ?_
          rintro e w' ⟨rfl, rfl⟩
          go_wp2
          go_ret2
          exact ⟨rfl, rfl⟩
theorem ours_at (w : World) (g m i : Nat) (vc : Value) (X : List Cb) (S : Nt) (x : Cb) (s : Cn) (h : NetF w g vc X S m) (hx : X[i]? = some x) (hs : S.L[i]? = some s) (hb : s.brk = false) (ho : s.opn = true) (hi : i < S.first) :
    Calls Tryd.prog 63 #[.pointer (some ⟨g, 0, none⟩), .int .i64 i] w fun e w' => e = .returned (.tuple #[.pointer (some ⟨x.b, 0, none⟩), .int .i64 0]) ∧ w = w' := by
  have hn := eql_nnil
  have hn2 := eql_cnil
  have HF := Lib.hid (find_at w g m i vc X S x h hx)
  have HW := Lib.hid (waits_any w g m _ S (i : Int) ⟨vc, X, rfl, h⟩)
  have co := (h.cs.at_ i x s hx hs).row.cell 1
  have cb := (h.cs.at_ i x s hx hs).row.cell 2
  simp only [KP] at cb co
  rw [hb] at cb
  rw [ho] at co
  have hd : decide ((S.first : Int) ≤ (i : Int)) = false := by simp; omega
  rw [hd] at HW
  clear h hx hs hb ho hd hi
  go_enter Tryd.func63, Tryd.ntmps63
  go_wp2_with fail
  refine HF.out.mono ?_
  rintro e w' ⟨rfl, rfl⟩
  go_wp2_with fail
  refine HW.out.mono ?_
  rintro e w' ⟨rfl, rfl⟩
  go_wp2
  go_ret2
  exact ⟨rfl, rfl⟩
/-- What stays when one connection has turned. -/
theorem NetF.turn {w w' : World} {g m n i : Nat} {vc : Value} {X : List Cb} {S : Nt} {x x' : Cb} {s s' : Cn} (h : NetF w g vc X S m) (hx : X[i]? = some x) (hs : S.L[i]? = some s)
    (hc : CnA KP w' x' s') (hb : x'.b = x.b) (hm : Mods x.ft w w') (hf : ∀ k ∈ x'.ft, k ∈ x.ft ∨ w.heap.size ≤ k) (hk : (S.upd i s').Ok n) (ho : s'.opn = s.opn) : NetF w' g vc (X.set i x') (S.upd i s') n := by
  have hrow : Row w' g _ _ := h.row.mods hm fun hk => h.cs.row h.row (by decide) (by decide) (mem_fts.2 ⟨i, x, hx, hk⟩)
  refine ⟨?_, ?_, ?_, hk⟩
  · simp only [Nt.upd, Int.toNat_natCast]
    rw [opens_set hs ho]
    exact hrow
  · rw [pv_set hx hb]
    exact h.ptr.mods hm fun k hk hk2 => h.cs.slice h.ptr (by decide) (by decide) k hk (mem_fts.2 ⟨i, x, hx, hk2⟩)
  · simp only [Nt.upd, Int.toNat_natCast]
    exact h.cs.turn hx hc hm hf
/-- The net's own row has turned, too. -/
theorem NetF.turn2 {w w' : World} {g m n i : Nat} {vc : Value} {X : List Cb} {S S' : Nt} {x x' : Cb} {s s' : Cn} (h : NetF w g vc X S m) (hx : X[i]? = some x) (hs : S.L[i]? = some s)
    (hc : CnA KP w' x' s') (hb : x'.b = x.b) (hm : Mods (g :: x.ft) w w') (hf : ∀ k ∈ x'.ft, k ∈ x.ft ∨ w.heap.size ≤ k)
    (hr : Row w' g 86 #[.int .i64 S'.back, .bool S'.stop, .int .i64 S'.fail, vc, .int .i64 S'.first, .int .i64 (opens S'.L : Nat)]) (hL : S'.L = S.L.set i s') (hk : S'.Ok n) : NetF w' g vc (X.set i x') S' n := by
  refine ⟨hr, ?_, ?_, hk⟩
  · rw [pv_set hx hb]
    refine h.ptr.mods hm fun k hk hk2 => ?_
    rcases List.mem_cons.1 hk2 with rfl | hk2
    · exact h.ptr.ne_row h.row (by decide) _ hk rfl
    · exact h.cs.slice h.ptr (by decide) (by decide) k hk (mem_fts.2 ⟨i, x, hx, hk2⟩)
  · rw [hL]
    refine h.cs.turn2 hx hc hm (fun j y hy hij k hk hk2 => ?_) hf
    rcases List.mem_cons.1 hk2 with rfl | hk2
    · exact h.cs.row h.row (by decide) (by decide) (mem_fts.2 ⟨j, y, hy, hk⟩)
    · exact h.cs.apart i j x y hx hy hij k hk2 hk
theorem NetF.put {w : World} {g m n : Nat} {vc : Value} {X : List Cb} {S S' : Nt} (h : NetF w g vc X S m) (i : Nat) (u : Value)
    (hr : Row (w.setCell ⟨g, i, none⟩ u) g 86 #[.int .i64 S'.back, .bool S'.stop, .int .i64 S'.fail, vc, .int .i64 S'.first, .int .i64 (opens S'.L : Nat)]) (hL : S'.L = S.L) (hk : S'.Ok n) : NetF (w.setCell ⟨g, i, none⟩ u) g vc X S' n := by
  have hg : g ∉ fts X := h.cs.row h.row (by decide) (by decide)
  refine ⟨hr, h.ptr.keep fun k hk => heap_setCell_other w ⟨g, i, none⟩ k u (h.ptr.ne_row h.row (by decide) k hk), ?_, hk⟩
  rw [hL]
  exact h.cs.keep fun k hk => heap_setCell_other w ⟨g, i, none⟩ k u (fun e => hg (by have : k = g := e; subst this; exact hk))
/-- What a call leaves. -/
def NetTo (w w' : World) (g : Nat) (F : List Nat) (S : Nt) (m : Nat) : Prop := ∃ F', NetA w' g F' S m ∧ Mods F w w' ∧ ∀ k ∈ F', k ∈ F ∨ w.heap.size ≤ k
theorem ft_sub {X : List Cb} {i g : Nat} {x : Cb} {vc : Value} (hx : X[i]? = some x) : ∀ k ∈ x.ft, k ∈ nfoot g vc X := fun k hk => by
  simp only [nfoot, List.mem_cons, List.mem_append]
  exact .inr (.inr (mem_fts.2 ⟨i, x, hx, hk⟩))
theorem NetF.to {w w' : World} {g m n i : Nat} {vc : Value} {X : List Cb} {S : Nt} {x x' : Cb} {s s' : Cn} (h : NetF w g vc X S m) (hx : X[i]? = some x) (hs : S.L[i]? = some s)
    (hc : CnA KP w' x' s') (hb : x'.b = x.b) (hm : Mods x.ft w w') (hf : ∀ k ∈ x'.ft, k ∈ x.ft ∨ w.heap.size ≤ k) (hk : (S.upd i s').Ok n) (ho : s'.opn = s.opn) : NetTo w w' g (nfoot g vc X) (S.upd i s') n := by
  refine ⟨_, ⟨vc, _, rfl, h.turn hx hs hc hb hm hf hk ho⟩, hm.more fun k hk => .inl (ft_sub hx k hk), fun k hk => ?_⟩
  simp only [nfoot, List.mem_cons, List.mem_append] at hk ⊢
  rcases hk with hk | hk | hk
  · exact .inl (.inl hk)
  · exact .inl (.inr (.inl hk))
  · rcases fts_set hx hf k hk with h | h
    · exact .inl (.inr (.inr h))
    · exact .inr h
theorem NetF.toC {w w' : World} {g m n i : Nat} {vc : Value} {X : List Cb} {S : Nt} {x : Cb} {s s' : Cn} (h : NetF w g vc X S m) (hx : X[i]? = some x) (hs : S.L[i]? = some s)
    (hc : CnTo KP w w' x s') (hk : (S.upd i s').Ok n) (ho : s'.opn = s.opn) : NetTo w w' g (nfoot g vc X) (S.upd i s') n := by
  obtain ⟨x', h1, h2, h3, h4⟩ := hc
  exact h.to hx hs h1 h2 h3 h4 hk ho
theorem NetTo.same {w w' : World} {g m : Nat} {F : List Nat} {S : Nt} (h : NetA w g F S m) (hm : Mods [] w w') : NetTo w w' g F S m := ⟨F, h.quiet hm, hm.more (by simp), fun k hk => .inl hk⟩
end Go.Proofs.YthaapkafamdhcaaDoor
