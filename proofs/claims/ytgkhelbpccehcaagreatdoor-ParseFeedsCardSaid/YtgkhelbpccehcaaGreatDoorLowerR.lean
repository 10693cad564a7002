/- The document's Lower answers the text in small letters and changes nothing that was there. Conditions: a text within the reach. -/
import Derived.Test.YtgkhelbpccehcaaGreatDoorLower
import Derived.Laws.MakeOwn
namespace Go.Proofs.YtgkhelbpccehcaaGreatDoor
open Go.RowKit
set_option linter.unusedVariables false

/-- The cells of the new bytes while they are filled. -/
def Filled (B : Nat) (s : ByteArray) (k : Nat) (w wr : World) : Prop :=
  Below B w wr ∧ B < wr.heap.size ∧ (∀ j, j < s.size → ∃ v, wr.cell? ⟨B, j, none⟩ = some v) ∧ (∀ j (hj : j < s.size), j < k → wr.cell? ⟨B, j, none⟩ = some (.int .u8 ((lowB s[j]).toNat : Int))) ∧ ∀ j, j < s.size → wr.frozen? ⟨B, j, none⟩ = false
theorem filled_start (w : World) (s : ByteArray) (C : Array Value) (h : C.size = s.size) (T : TypeId) : Filled w.heap.size s 0 w (w.alloc (.cells C T)) := by
  refine ⟨(Below.refl _ _).alloc (Nat.le_refl _) _, by simp, fun j hj => ?_, fun j _ h => absurd h (by omega), fun j hj => ?_⟩
  · rw [World.cell?_alloc_at _ _ _ _ rfl]
    exact ⟨C[j]'(by omega), by rw [Array.getElem?_eq_getElem]⟩
  · rw [World.frozen?_alloc_at _ _ _ _ rfl]
theorem filled_next {B : Nat} {s : ByteArray} {k : Nat} {w wr : World} (h : Filled B s k w wr) (hk : k < s.size) :
    Filled B s (k + 1) w (wr.setCell ⟨B, k, none⟩ (.int .u8 ((lowB s[k]).toNat : Int))) := by
  obtain ⟨hb, hz, hv, hc, hf⟩ := h
  have other : ∀ j, j ≠ k → (wr.setCell ⟨B, k, none⟩ (.int .u8 ((lowB s[k]).toNat : Int))).cell? ⟨B, j, none⟩ = wr.cell? ⟨B, j, none⟩ := fun j e =>
    World.cell?_setCell_other (h := fun x => e (by injection x with _ x2; exact x2.symm)) ..
  have same : (wr.setCell ⟨B, k, none⟩ (.int .u8 ((lowB s[k]).toNat : Int))).cell? ⟨B, k, none⟩ = some (.int .u8 ((lowB s[k]).toNat : Int)) := by
    obtain ⟨v, h⟩ := hv k hk
    exact World.cell?_setCell_same (h := h) ..
  refine ⟨hb.setCell (Nat.le_refl _) _, by simpa using hz, fun j hj => ?_, fun j hj hjk => ?_, fun j hj => ?_⟩
  · by_cases e : j = k
    · subst e; exact ⟨_, same⟩
    · rw [other j e]; exact hv j hj
  · by_cases e : j = k
    · subst e; exact same
    · rw [other j e]; exact hc j hj (by omega)
  · rw [World.frozen?_setCell]; exact hf j hj
theorem filled_back {P : Program} {src dst e : TypeId} {B : Nat} {s : ByteArray} {w wr : World} (cap : Nat) (h : Filled B s s.size w wr) (hs : P.underlying src = some (.slice e)) (he : P.underlying e = some (.int .u8)) (hd : P.underlying dst = some .string) :
    (convert src dst (.slice (some ⟨B, 0, none⟩) s.size cap)).run P wr = .ok (.string ⟨(lowL s.data.toList).toArray⟩) wr := by
  have := run_convert_bytes_back (P := P) wr src dst e ⟨B, 0, none⟩ cap (lowL s.data.toList) hs he hd (fun j hj => by
    have hj' : j < s.size := by rw [lowL_length] at hj; exact hj
    have h2 := h.2.2.2.1 j hj' hj'
    rw [show (⟨B, 0, none⟩ : Addr).add j = ⟨B, j, none⟩ by unfold Addr.add; split <;> simp_all, h2]
    simp only [lowL, List.getElem_map]; rfl)
  rw [lowL_length] at this; exact this

theorem infoB : (Tryz.prog.info? 5).map (fun i => (i.zero, i.size, i.bytes)) = some (some (.int .u8 0), 1, 1) := by kernel_rfl
theorem made (s : ByteArray) (w : World) (hs : s.size ≤ 140737488351232) :
    (Instr.makeSlice 22 (.int .i64 (s.size : Int)) (.int .i64 (s.size : Int))).run Tryz.prog w = .ok (.slice (some ⟨w.heap.size, 0, none⟩) s.size s.size) (w.alloc (.cells (madeCells (Value.int .u8 0).cells s.size) 5)) := by
  obtain ⟨i0, hi, hz0, hz1, hz2⟩ := info_parts infoB
  have h := run_make (P := Tryz.prog) (w := w) 22 5 i0 (.int .u8 0) Tryz.underlying22 hi hz0 .i64 .i64 (s.size : Int) (s.size : Int) (by omega) (by omega) (by rw [hz2]; omega) (by omega)
  rw [h, hz1, Int.toNat_natCast, Nat.mul_one]
theorem made_size (n : Nat) : (madeCells (Value.int .u8 0).cells n).size = n := by simp [madeCells]

set_option maxRecDepth 10000 in
theorem lower_r (s : ByteArray) (w : World) (hs : s.size ≤ 140737488351232) :
    Calls Tryz.prog 99 #[.string s] w fun e w' => e = .returned (.string ⟨(lowL s.data.toList).toArray⟩) ∧ Below w.heap.size w w' := by
  have hmk := made s w hs
  have HM := Lib.hid (filled_start w s _ (made_size s.size) 5)
  go_enter Tryz.func99, Tryz.ntmps99
  go_wp2
  go_loopw [4] (fun i wr => ∃ (k : Nat), k ≤ s.size ∧ i = .int .i64 k ∧ Filled w.heap.size s k w wr) (fun i _ => s.size - (intOf i).toNat)
  case atStart => exact ⟨0, Nat.zero_le _, rfl, HM.out⟩
  case round =>
    obtain ⟨k, hk, rfl, hm⟩ := hrel
    by_cases hlt : k < s.size
    · obtain ⟨v, hc⟩ := hm.2.2.1 k hlt
      have hf := hm.2.2.2.2 k hlt
      have HN := Lib.hid (filled_next hm hlt)
      clear hm
      go_wp2_with (go_at_call 113; refine (low_r _ _).mono ?_; rintro e w' ⟨rfl, rfl⟩)
      go_roundw
      case rel => exact ⟨k + 1, by omega, by go_num, HN.out⟩
      case measure => simp [intOf]; omega
    · obtain rfl : k = s.size := by omega
      have hback := filled_back (P := Tryz.prog) s.size hm Tryz.underlying22 Tryz.underlying5 Tryz.underlying9
      have HB := Lib.hid hm.1
      clear hm
      go_wp2
      go_ret
      exact ⟨rfl, HB.out⟩
end Go.Proofs.YtgkhelbpccehcaaGreatDoor
