/- A row of bytes that a text was made into, and append onto it. No text of the program. -/
import Derived.Test.YtgkhelbpccehcaaGreatDoorMQG
import Derived.Test.YtgkhelbpccehcaaGreatDoorLower
import Derived.Deep.AppendSrc
import Derived.Deep.MidRow
namespace Go.Proofs.YtgkhelbpccehcaaGreatDoor
open Go.RowKit
set_option linter.unusedVariables false
set_option linter.unusedSimpArgs false

theorem Mods.setCells {F : List Nat} {w : World} {b : Nat} (h : b ∈ F ∨ w.heap.size ≤ b) : ∀ (vs : List Value) (o : Nat) {w' : World}, Mods F w w' → Mods F w (w'.setCells b o vs)
  | [], _, _, hm => hm
  | v :: r, o, _, hm => Mods.setCells h r (o + 1) (hm.setCell h v)
/-- Bytes of a row that the call made, with room behind them that may be written. -/
structure GM (w0 : World) (l : List UInt8) (b cap : Nat) (w : World) : Prop where
  pos : 0 < l.length
  new : w0.heap.size ≤ b
  lt : b < w.heap.size
  le : l.length ≤ cap
  max : cap ≤ maxLen
  cells : ∀ j (h : j < l.length), w.cell? ⟨b, j, none⟩ = some (.int .u8 (l[j].toNat : Int))
  room : ∀ j, j < cap → (w.cell? ⟨b, j, none⟩).isSome = true ∧ w.frozen? ⟨b, j, none⟩ = false
  low : Mods [] w0 w
theorem GM.at {w0 w : World} {l : List UInt8} {b cap : Nat} (h : GM w0 l b cap w) : BsAt w (.slice (some ⟨b, 0, none⟩) l.length cap) l :=
  .inr ⟨b, 0, cap, rfl, h.pos, h.lt, h.le, by have := h.max; unfold maxLen at this; omega, fun j hj => by rw [Nat.zero_add]; exact h.cells j hj⟩
theorem size_setCells15 (b : Nat) : ∀ (vs : List Value) (o : Nat) (w : World), (w.setCells b o vs).heap.size = w.heap.size
  | [], _, _ => rfl
  | v :: r, o, w => by rw [World.setCells, size_setCells15 b r]; simp
theorem conv_gm (w : World) (s : ByteArray) (h0 : 0 < s.size) (hs : s.size ≤ 1000000) :
    ∃ (cap : Nat) (W : World), (convert 9 22 (.string s)).run Tryz.prog w = .ok (.slice (some ⟨w.heap.size, 0, none⟩) s.size cap) W ∧ GM w s.data.toList w.heap.size cap W := by
  have hcv := run_bytes_of_string (P := Tryz.prog) w 9 22 5 s Tryz.underlying9 Tryz.underlying22 Tryz.underlying5
  have hg := grownCap_ge w s.size 0 5
  have hx : grownCap w s.size 0 5 ≤ maxLen := grownCap_le_maxLen w s.size 0 5 (by unfold maxLen; omega)
  have hbz : (bytesRow s (grownCap w s.size 0 5)).size = grownCap w s.size 0 5 := by unfold bytesRow; rw [Array.size_append, Array.size_map, Array.size_replicate]; show s.size + (_ - s.size) = _; omega
  refine ⟨_, _, hcv, ⟨h0, Nat.le_refl _, by simp, hg, hx, fun j hj => ?_, fun j hj => ⟨?_, ?_⟩, ((Mods.refl [] w).drew).alloc _⟩⟩
  · show (w.drew.alloc _).cell? ⟨w.drew.heap.size, j, none⟩ = _
    rw [World.cell?_alloc_mark, bytesRow_at s _ j hj]
    simp
  · show ((w.drew.alloc _).cell? ⟨w.drew.heap.size, j, none⟩).isSome = true
    rw [World.cell?_alloc_mark]
    simp [hbz, hj]
  · show (w.drew.alloc _).frozen? ⟨w.drew.heap.size, j, none⟩ = false
    rw [World.frozen?_alloc_mark, hbz]
    simp; omega
theorem GM.app {w0 w : World} {l m : List UInt8} {b cap : Nat} (h : GM w0 l b cap w) {tx : TypeId} {x : Value} (hs : Src Tryz.prog 1 tx x m.length (bys m) w) (hroom : l.length + m.length ≤ 1000000) :
    ∃ (b' cap' : Nat) (w' : World), (Builtin.append_ #[22, tx] 22 #[.slice (some ⟨b, 0, none⟩) l.length cap, x]).run Tryz.prog w = .ok (.slice (some ⟨b', 0, none⟩) (l.length + m.length) cap') w' ∧ GM w0 (l ++ m) b' cap' w' := by
  obtain ⟨i0, hi, hz0, hz1, hz2⟩ := info_parts infoU8
  have hml : (bys m).length = m.length := bys_len m
  have hpos := h.pos
  have hs1 : Src Tryz.prog i0.size tx x m.length (bys m) w := by rw [hz1]; exact hs
  by_cases hr : l.length + m.length ≤ cap
  · have hrun := run_append_room_src (P := Tryz.prog) w 22 tx 22 5 i0 Tryz.underlying22 hi b 0 l.length cap x m.length (bys m) hs1 hr (fun j hj => by
      rw [hz1, Nat.zero_add, Nat.mul_one]; rw [hml] at hj; exact (h.room _ (by omega)).1) (fun j hj => by
      rw [hz1, Nat.zero_add, Nat.mul_one]; rw [hml] at hj; exact (h.room _ (by omega)).2)
    rw [hz1, Nat.zero_add, Nat.mul_one] at hrun
    refine ⟨b, cap, _, hrun, ⟨by rw [List.length_append]; omega, h.new, by rw [size_setCells15]; exact h.lt, by rw [List.length_append]; exact hr, h.max, fun j hj => ?_, fun j hj => ⟨?_, ?_⟩, Mods.setCells (.inr h.new) _ _ h.low⟩⟩
    · rw [List.length_append] at hj
      by_cases hj2 : j < l.length
      · rw [World.cell?_setCells_out b (bys m) l.length w ⟨b, j, none⟩ (fun _ _ => .inl hj2), h.cells j hj2, List.getElem_append_left hj2]
      · have h9 := World.cell?_setCells_in b (bys m) l.length w (fun k hk => by rw [hml] at hk; exact (h.room _ (by omega)).1)
        have hj3 : j - l.length < (bys m).length := by omega
        have h10 := h9 (j - l.length) hj3
        rw [show l.length + (j - l.length) = j by omega] at h10
        rw [h10, List.getElem_append_right (by omega)]
        simp [bys]
    · exact World.isSome_setCells b (bys m) l.length w _ (h.room j hj).1
    · rw [World.frozen?_setCells]; exact (h.room j hj).2
  · have hk : Src Tryz.prog i0.size 22 (.slice (some ⟨b, 0, none⟩) l.length cap) l.length (bys l) w := Src.ofSlice w Tryz.underlying22 ⟨b, 0, none⟩ l.length cap (bys l) (by rw [bys_len, hz1, Nat.mul_one]) (fun j u hj => by
      rw [add_none, Nat.zero_add]
      have hj2 : j < l.length := by have := (List.getElem?_eq_some_iff.1 hj).1; rw [bys_len] at this; exact this
      rw [bys_at l j hj2] at hj
      rw [h.cells j hj2]; exact hj) (bys_one l)
    have hrun := run_append_grow_src (P := Tryz.prog) w 22 tx 22 5 i0 (.int .u8 0) Tryz.underlying22 hi hz0 (some ⟨b, 0, none⟩) l.length cap (bys l) hk.cellsD x m.length (bys m) hs1 (by omega) (by omega) (growslice_fits (by omega) (by rw [hz2]; omega))
    have hge := grownCap_ge w (l.length + m.length) cap 5
    have hcm : grownCap w (l.length + m.length) cap 5 ≤ maxLen := grownCap_le_maxLen w (l.length + m.length) cap 5 (by unfold maxLen; omega)
    have hsz : ((bys l ++ bys m).toArray ++ Builtin.zeroCells (Value.int .u8 0).cells (grownCap w (l.length + m.length) cap 5 - (l.length + m.length))).size = grownCap w (l.length + m.length) cap 5 := by
      simp only [Array.size_append, List.size_toArray, size_zeroCells, List.length_append, bys_len]
      rw [show (Value.int .u8 0).cells.size = 1 from rfl]
      omega
    have hrow := Row.new w.drew 5 ((bys l ++ bys m).toArray ++ Builtin.zeroCells (Value.int .u8 0).cells (grownCap w (l.length + m.length) cap 5 - (l.length + m.length)))
    refine ⟨_, _, _, hrun, ⟨by rw [List.length_append]; omega, h.low.size, by simp, by rw [List.length_append]; exact hge, hcm, fun j hj => ?_, fun j hj => ⟨?_, hrow.free j⟩, (h.low.drew).alloc _⟩⟩
    · have h10 := hrow.cell j
      have h11 : ((bys l ++ bys m).toArray ++ Builtin.zeroCells (Value.int .u8 0).cells (grownCap w (l.length + m.length) cap 5 - (l.length + m.length)))[j]? = some (.int .u8 ((l ++ m)[j].toNat : Int)) := by
        rw [Array.getElem?_append_left (by rw [List.size_toArray, List.length_append, bys_len, bys_len]; rw [List.length_append] at hj; exact hj), ← bys_append, List.getElem?_toArray]
        exact bys_at (l ++ m) j hj
      exact h10.trans h11
    · have h10 := hrow.cell j
      rw [Array.getElem?_eq_getElem (by rw [hsz]; exact hj)] at h10
      show (World.cell? _ ⟨w.drew.heap.size, j, none⟩).isSome = true
      rw [h10]; rfl
end Go.Proofs.YtgkhelbpccehcaaGreatDoor
