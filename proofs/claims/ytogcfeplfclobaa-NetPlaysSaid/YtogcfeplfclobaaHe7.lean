/- What heavy of stage 7's law answers. -/
import Derived.Test.YtogcfeplfclobaaOpenA
import Derived.Test.YtogcfeplfclobaaHl7
namespace Go.Proofs.Ytogcfeplfclobaa
open Go.RowKit
set_option maxRecDepth 100000
set_option linter.unusedVariables false
set_option linter.unusedSimpArgs false

/-- The acts that came in. -/
def ActsAt (W : World) (A : Option Addr) (len : Nat) (f : Nat → ActAt) : Prop := ∀ j, j < len → ∃ b off, A = some ⟨b, off, none⟩ ∧ b < W.heap.size ∧ ActIs W b (off + j * 5) (f j)
/-- The first k of them are no more than is looked at. -/
def Small (f : Nat → ActAt) (k : Nat) : Prop := ∀ j, j < k → (f j).B.l.length ≤ 8000 ∧ (f j).C.l.length ≤ 8000
theorem Small.snoc {f : Nat → ActAt} {k : Nat} (h : Small f k) (hb : (f k).B.l.length ≤ 8000) (hc : (f k).C.l.length ≤ 8000) : Small f (k + 1) := fun j hj => by
  by_cases e : j = k
  · subst e; exact ⟨hb, hc⟩
  · exact h j (by omega)
theorem Small.less {f : Nat → ActAt} {k m : Nat} (h : Small f k) (hm : m ≤ k) : Small f m := fun j hj => h j (by omega)
def Heavy (f : Nat → ActAt) (len : Nat) (w : World) (e : Ending) (w' : World) : Prop := ∃ t : Bool, e = .returned (.bool t) ∧ w = w' ∧ (t = false → Small f (min len 150))
set_option maxHeartbeats 2000000 in
theorem heavy_any (w : World) (A : Option Addr) (len cap : Nat) (f : Nat → ActAt) (hf : ActsAt w A len f) (hlm : len ≤ maxLen) :
    Calls Try.prog 9 #[.slice A len cap] w (Heavy f len w) := by
  have HF := Lib.hid hf
  unfold maxLen at hlm
  clear hf
  go_enter Try.func9, Try.ntmps9
  go_wp2
  go_loop [3, 4] (fun n i => ∃ k m : Nat, k ≤ len ∧ k ≤ 150 ∧ m ≤ 8000 ∧ i = .int .i64 k ∧ n = .int .i64 m ∧ Hid (Small f k)) (fun _ i => len - (intOf i).toNat)
  case atStart => exact ⟨0, 0, by omega, by omega, by omega, rfl, rfl, Lib.hid fun j hj => by omega⟩
  case round =>
    obtain ⟨k, m, hk, hk2, hm, rfl, rfl, hs⟩ := hrel
    by_cases hc : k < len ∧ k < 150
    · obtain ⟨hlt, hlt2⟩ := hc
      obtain ⟨b, off, rfl, hb, _, _, _, c2, c3, _, _, _, h1, h2⟩ := HF.out k hlt
      have hB := h1.2
      have hC := h2.2
      obtain ⟨q, hq⟩ : ∃ q, q = f k := ⟨_, rfl⟩
      rw [← hq] at c2 c3 hB hC
      have HQ := Lib.hid hq
      clear h1 h2 hq
      by_cases b1 : 8000 < m + 5 + q.B.l.length
      · have e1 : (8000 : Int) < (m : Int) + 5 + (q.B.l.length : Int) := by omega
        go_wp2
        go_ret
        exact ⟨true, rfl, rfl, fun h => by cases h⟩
      · by_cases b2 : 8000 < q.C.l.length
        · have e1 : ¬ (8000 : Int) < (m : Int) + 5 + (q.B.l.length : Int) := by omega
          have e2 : (8000 : Int) < (q.C.l.length : Int) := by omega
          go_wp2
          go_ret
          exact ⟨true, rfl, rfl, fun h => by cases h⟩
        · have e1 : ¬ (8000 : Int) < (m : Int) + 5 + (q.B.l.length : Int) := by omega
          have e2 : ¬ (8000 : Int) < (q.C.l.length : Int) := by omega
          have HSn := Lib.hid (hs.out.snoc (by rw [← HQ.out]; omega) (by rw [← HQ.out]; omega))
          by_cases b3 : 8000 < m + 5 + q.B.l.length + q.C.l.length
          · have e3 : (8000 : Int) < (m : Int) + 5 + (q.B.l.length : Int) + (q.C.l.length : Int) := by omega
            go_wp2
            go_ret
            exact ⟨true, rfl, rfl, fun h => by cases h⟩
          · have e3 : ¬ (8000 : Int) < (m : Int) + 5 + (q.B.l.length : Int) + (q.C.l.length : Int) := by omega
            go_wp2
            go_round
            case rel => exact ⟨k + 1, m + 5 + q.B.l.length + q.C.l.length, by omega, by omega, by omega, by go_num, by go_num, HSn⟩
            case measure => simp [intOf]; omega
    · have HD := Lib.hid (hs.out.less (show min len 150 ≤ k by omega))
      have hcase : (k < len ∧ k = 150) ∨ ¬ k < len := by omega
      rcases hcase with ⟨h1, h2⟩ | h1
      all_goals
        clear hc
        go_wp2
        go_ret
        exact ⟨false, rfl, rfl, fun _ => HD.out⟩
end Go.Proofs.Ytogcfeplfclobaa
