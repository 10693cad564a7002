/- The code's Same answers whether two texts are one in small letters. Conditions: texts that can be read. -/
import Derived.Test.YtgkhelbpccehcaaGreatDoorLower
import Derived.Deep.QuietTactic
import Derived.BigQuiet
namespace Go.Proofs.YtgkhelbpccehcaaGreatDoor
open Go.RowKit
set_option linter.unusedVariables false

theorem quiet_left {P : Program} {f : FuncId} {args : Array Value} {w : World} {n : Nat} {v : Value}
    (h : Calls P f args (w.drewN n) fun e w' => e = .returned v ∧ w.drewN n = w') : Calls P f args (w.drewN n) fun e w'' => e = .returned v ∧ ∃ m, w'' = w.drewN m :=
  h.mono fun _ _ ⟨he, hm⟩ => ⟨he, n, hm.symm⟩

/-- The texts are one, but for letters' size. -/
def sameL (a b : ByteArray) : Bool := decide (lowL a.data.toList = lowL b.data.toList)
theorem sameL_size {a b : ByteArray} (h : a.size ≠ b.size) : sameL a b = false := by
  unfold sameL; rw [decide_eq_false_iff_not]; intro e
  have := congrArg List.length e
  rw [lowL_length, lowL_length] at this; exact h this
theorem sameL_at {a b : ByteArray} (k : Nat) (ha : k < a.size) (hb : k < b.size) (h : lowB a[k] ≠ lowB b[k]) : sameL a b = false := by
  unfold sameL; rw [decide_eq_false_iff_not]; intro e
  have h1 := congrArg (fun l : List UInt8 => l[k]?) e
  simp only [lowL, List.getElem?_map] at h1
  rw [List.getElem?_eq_getElem (by exact ha), List.getElem?_eq_getElem (by exact hb)] at h1
  simp only [Option.map_some, Option.some.injEq] at h1
  exact h h1
theorem sameL_all {a b : ByteArray} (hs : a.size = b.size) (h : ∀ j (ha : j < a.size) (hb : j < b.size), lowB a[j] = lowB b[j]) : sameL a b = true := by
  unfold sameL; rw [decide_eq_true_iff]
  apply List.ext_getElem
  · rw [lowL_length, lowL_length]; exact hs
  · intro j h1 h2
    have ha : j < a.size := by rw [lowL_length] at h1; exact h1
    have hb : j < b.size := by rw [lowL_length] at h2; exact h2
    simp only [lowL, List.getElem_map]
    exact h j ha hb
theorem ne_int {x y : UInt8} (h : x ≠ y) : ((x.toNat : Int) == (y.toNat : Int)) = false ∧ ((x.toNat : Int) != (y.toNat : Int)) = true := by
  have : (x.toNat : Int) ≠ (y.toNat : Int) := fun e => h (UInt8.toNat_inj.1 (by omega))
  simpa using this
theorem ret_bool {a b : Bool} (h : a = b) : Ending.returned (.bool a) = .returned (.bool b) := by rw [h]
/-- Draws alone. -/
def Drawn (w w' : World) : Prop := ∃ n, w' = w.drewN n
theorem Drawn.refl (w : World) : Drawn w w := ⟨0, rfl⟩
theorem Drawn.more {w w' : World} (h : Drawn w w') (n : Nat) : Drawn w (w'.drewN n) := by
  obtain ⟨m, rfl⟩ := h; exact ⟨m + n, by rw [World.drewN_drewN]⟩
theorem Drawn.below {w w' : World} (h : Drawn w w') : Below w.heap.size w w' := by
  obtain ⟨n, rfl⟩ := h
  exact ⟨rfl, rfl, rfl, Nat.le_refl _, fun _ _ => rfl⟩

set_option maxRecDepth 10000 in
theorem same_a (a b : ByteArray) (w : World) (ha : a.size ≤ maxLen) (hb : b.size ≤ maxLen) :
    Calls Tryz.prog 154 #[.string a, .string b] w fun e w' => e = .returned (.bool (sameL a b)) ∧ Drawn w w' := by
  unfold maxLen at ha hb
  by_cases hsz : a.size = b.size
  · have hB : ((a.size : Int) != (b.size : Int)) = false := by simp [hsz]
    have hz : a.size ≤ b.size := by omega
    have HZ := Lib.hid hsz
    clear hsz
    go_enter Tryz.func154, Tryz.ntmps154
    go_wp2
    go_loopw [13] (fun i wr => ∃ (k : Nat), k ≤ a.size ∧ i = .int .i64 k ∧ Drawn w wr ∧ ∀ j (ha : j < a.size) (hb : j < b.size), j < k → lowB a[j] = lowB b[j]) (fun i _ => a.size - (intOf i).toNat)
    case atStart => exact ⟨0, Nat.zero_le _, rfl, Drawn.refl _, fun j _ _ h => absurd h (by omega)⟩
    case round =>
      obtain ⟨k, hk, rfl, hm, hall⟩ := hrel
      have HA := Lib.hid hall
      clear hall
      by_cases hlt : k < a.size
      · have hltb : k < b.size := by omega
        by_cases he : lowB a[k] = lowB b[k]
        · have HE := Lib.hid he
          have h1 : (((lowB a[k]).toNat : Int) != ((lowB b[k]).toNat : Int)) = false := by rw [he]; simp
          clear he
          go_wp2
          go_quiet ((go_at_call 145; exact quiet_left (low_a _ _)))
          go_wp2
          go_roundw
          case rel =>
            refine ⟨k + 1, by omega, by go_num, hm.more _, fun j hja hjb hj => ?_⟩
            by_cases e : j = k
            · subst e; exact HE.out
            · exact HA.out j hja hjb (by omega)
          case measure => simp [intOf]; omega
        · have HE := Lib.hid he
          have h1 := (ne_int he).2
          clear he
          go_wp2
          go_quiet ((go_at_call 145; exact quiet_left (low_a _ _)))
          go_wp2
          go_ret
          exact ⟨ret_bool (sameL_at k hlt hltb HE.out).symm, hm.more _⟩
      · go_wp2
        go_ret
        exact ⟨ret_bool (sameL_all HZ.out (fun j hja hjb => HA.out j hja hjb (by omega))).symm, hm⟩
  · have hB : ((a.size : Int) != (b.size : Int)) = true := by simp; omega
    have HZ := Lib.hid hsz
    clear hsz
    go_enter Tryz.func154, Tryz.ntmps154
    go_wp2
    go_ret
    exact ⟨ret_bool (sameL_size HZ.out).symm, Drawn.refl _⟩
end Go.Proofs.YtgkhelbpccehcaaGreatDoor
