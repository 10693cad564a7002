/- What New of the program's slab answers. -/
import Derived.Test.YthaapkafamdhcaaDoorSlabO
namespace Go.Proofs.YthaapkafamdhcaaDoor
open Go.RowKit
set_option maxRecDepth 10000
set_option linter.unusedVariables false

def Slb.new (n : Nat) : Slb := ⟨n, [], [], []⟩
theorem Slb.new_ok {n : Nat} (h : 1 ≤ n) (h2 : n ≤ 4096) : (Slb.new n).Ok 0 := ⟨h, h2, by simp [Slb.new], rfl, rfl, by simp [Slb.new]⟩
theorem new_no (n : Int) (w : World) (h : n < 1 ∨ 4096 < n) : Calls Tryd.prog 27 #[.int .i64 n] w fun e w' => e = .returned (.tuple #[.pointer none, .int .i64 1]) ∧ w = w' := by
  rcases h with h | h
  · go_enter Tryd.func27, Tryd.ntmps27
    go_wp2
    go_ret2
    exact ⟨rfl, rfl⟩
  · have h' : ¬ n < 1 := by omega
    go_enter Tryd.func27, Tryd.ntmps27
    go_wp2
    go_ret2
    exact ⟨rfl, rfl⟩
def zSlab : Array Value := #[.int .i64 0, .int .i64 0, .slice none 0 0] ++ Array.replicate 64 (.int .u64 0)
theorem zero_slab (w : World) : (zeroValue 144).run Tryd.prog w = .ok (.agg zSlab) w := by kernel_rfl
theorem zSlab_size : zSlab.size = 67 := by simp [zSlab]
theorem zSlab_ne : (zSlab = #[]) = False := by
  rw [eq_iff_iff, iff_false]
  intro h
  have := zSlab_size
  rw [h] at this
  cases this
theorem zSlab_word (j : Nat) (h : j < 64) : zSlab[3 + j]? = some (.int .u64 0) := by
  unfold zSlab
  rw [Array.getElem?_append_right (by simp), show (3 + j) - (#[Value.int .i64 0, Value.int .i64 0, Value.slice none 0 0] : Array Value).size = j by simp]
  rw [Array.getElem?_replicate, if_pos h]
theorem new_any (n : Nat) (w : World) (h : 1 ≤ n) (h2 : n ≤ 4096) : Calls Tryd.prog 27 #[.int .i64 n] w fun e w' =>
    e = .returned (.tuple #[.pointer (some ⟨w.heap.size, 0, none⟩), .int .i64 0]) ∧ SlabA w' w.heap.size [w.heap.size] (Slb.new n) 0 ∧ Mods [] w w' := by
  have hz := zero_slab
  have hne := zSlab_ne
  go_enter Tryd.func27, Tryd.ntmps27
  go_wp2
  go_ret2
  refine ⟨rfl, ⟨.slice none 0 0, _, [], fun _ => 0, by simp [Value.ownBlock], Row.new _ _ _, by simp [zSlab_size], ?_, ?_, ?_, ?_, ⟨by simp [Slb.new], .inl ⟨rfl, rfl⟩⟩, ?_, ?_, Slb.new_ok h h2⟩, (Mods.refl _ _).alloc _⟩
  · simp [Slb.new, zSlab_size]
  · rw [Array.getElem?_setIfInBounds_ne (by decide)]; rfl
  · rw [Array.getElem?_setIfInBounds_ne (by decide)]; rfl
  · intro j hj
    refine ⟨?_, by simp⟩
    rw [Array.getElem?_setIfInBounds_ne (by omega), zSlab_word j hj]; rfl
  · intro i hi; simp [Slb.new] at hi
  · intro i hi; simp [Slb.new]
end Go.Proofs.YthaapkafamdhcaaDoor
