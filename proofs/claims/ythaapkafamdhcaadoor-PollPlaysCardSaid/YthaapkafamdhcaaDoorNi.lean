/- What Len, Marks, Ready, State, Taken, Got of the program's net answer. -/
import Derived.Test.YthaapkafamdhcaaDoorNh
namespace Go.Proofs.YthaapkafamdhcaaDoor
open Go.RowKit
set_option maxRecDepth 10000
set_option linter.unusedVariables false
set_option linter.unusedSimpArgs false

theorem marks_nil (w : World) (c : Int) : Calls Tryd.prog 77 #[.pointer none, .int .i64 c] w fun e w' => e = .returned (.tuple #[.int .i64 0, .int .i64 0]) ∧ w = w' := by
  have hn := neq_nnil
  have hn2 := eql_cnil
  go_enter Tryd.func77, Tryd.ntmps77
  go_wp2_with fail
  refine (find_nil w c).mono ?_
  rintro e w' ⟨rfl, rfl⟩
  go_wp2
  go_ret2
  exact ⟨rfl, rfl⟩
theorem marks_any (w : World) (g m : Nat) (F : List Nat) (S : Nt) (c : Int) (h : NetA w g F S m) :
    Calls Tryd.prog 77 #[.pointer (some ⟨g, 0, none⟩), .int .i64 c] w fun e w' => e = .returned (.tuple #[.int .i64 (S.markR c), .int .i64 (S.markW c)]) ∧ ∃ q, w' = w.drewN q := by
  have hn := neq_nnil
  have hn2 := eql_cnil
  by_cases hl : c = -1
  · subst hl
    rw [show S.markR (-1) = S.L.length from rfl, show S.markW (-1) = 0 from rfl]
    obtain ⟨vc, X, rfl, h⟩ := h
    obtain ⟨A, cc, rfl, -, -⟩ := h.slice
    have c3 := h.row.cell 3
    clear h
    go_enter Tryd.func77, Tryd.ntmps77
    go_wp2
    go_ret2
    exact ⟨rfl, 0, rfl⟩
  · have hm1 : S.markR c = (S.get c).mr := by unfold Nt.markR; rw [if_neg hl]
    have hm2 : S.markW c = (S.get c).mw := by unfold Nt.markW; rw [if_neg hl]
    rw [hm1, hm2]
    cases hs : S.at? c with
    | none =>
      have HF := Lib.hid (find_no w g m F S c h (Nt.at_none hs))
      rw [Nt.get_none hs, show none_.mr = 0 from rfl, show none_.mw = 0 from rfl]
      clear h hs hm1 hm2
      go_enter Tryd.func77, Tryd.ntmps77
      go_wp2_with fail
      refine HF.out.mono ?_
      rintro e w' ⟨rfl, rfl⟩
      go_wp2
      go_ret2
      exact ⟨rfl, 0, rfl⟩
    | some s =>
      rw [Nt.get_some hs]
      obtain ⟨i, rfl, h1, h2⟩ := Nt.at_some hs
      obtain ⟨vc, X, rfl, h⟩ := h
      obtain ⟨x, hx⟩ := h.cs.at1 h1
      have HF := Lib.hid (find_at w g m i vc X S x h hx)
      have c9 := (h.cs.at_ i x s hx h1).row.cell 9
      have c10 := (h.cs.at_ i x s hx h1).row.cell 10
      simp only [KP] at c9 c10
      have hi1 : ((i : Int) == -1) = false := by simp
      clear h hx h1 hs hm1 hm2 hl
      go_enter Tryd.func77, Tryd.ntmps77
      go_wp2_with fail
      refine HF.out.mono ?_
      rintro e w' ⟨rfl, rfl⟩
      go_wp2_with fail
      go_quiet (fail)
      go_wp2
      go_ret2
      exact ⟨rfl, _, rfl⟩
theorem Fresh.nil (w : World) : Fresh w w (.slice none 0 0) [] := ⟨World.ownsRow_nil _ _ _ _, Mods.refl _ _, by simp [Value.ownBlock]⟩
end Go.Proofs.YthaapkafamdhcaaDoor
