/- The document's example of slots that are used again. -/
import Derived.Test.YtdkcdljhpopakaaDoorSlab
namespace Go.Proofs.YtdkcdljhpopakaaDoor
open Go.RowKit
set_option maxRecDepth 10000
set_option linter.unusedVariables false
set_option linter.unusedSimpArgs false

def kS1 : Slb := ⟨2, [true], [1], [7]⟩
def kS2 : Slb := ⟨2, [true, true], [1, 1], [7, 8]⟩
def kS3 : Slb := ⟨2, [false, true], [1, 1], [7, 8]⟩
def kS4 : Slb := ⟨2, [true, true], [2, 1], [9, 8]⟩
theorem k01 : (Slb.new 2).put 7 = kS1 := by rfl
theorem k12 : kS1.put 8 = kS2 := by rfl
theorem k23 : kS2.takes [(0, 1), (0, 1)] = kS3 := by rfl
theorem k23t : kS2.taken [(0, 1), (0, 1)] = 1 := by rfl
theorem k34 : kS3.put 9 = kS4 := by rfl
set_option maxHeartbeats 1000000 in
theorem known_any (w : World) (hT : TzTab w) : Calls Tryd.prog 9 #[] w fun e w' => e = .returned (.bool true) ∧ Mods [] w w' := by
  have HT := Lib.hid hT
  clear hT
  go_enter Tryd.func9, Tryd.ntmps9
  go_wp2_with fail
  refine (new_any 2 w (by decide) (by decide)).mono ?_
  rintro e w1 ⟨rfl, hs, hm⟩
  have S1 := Lib.hid hs
  have M1 := Lib.hid hm
  clear hs hm
  have T1 := Lib.hid (HT.out.mods M1.out (by simp))
  go_wp2_with fail
  refine (put_at w1 _ 7 _ _ _ 0 1 kS1 S1.out T1.out (by decide) (by decide) (by decide) (by decide) k01).mono ?_
  rintro e w2 ⟨rfl, hd⟩
  obtain ⟨F2, hs, hm, hf⟩ := hd.out
  have hf2 : ∀ k ∈ F2, w.heap.size ≤ k := fun k hk => by
    rcases hf k hk with h | h
    · simp at h; omega
    · have := M1.out.size; omega
  have S2 := Lib.hid hs
  have M2 := Lib.hid (M1.out.trans hm (by simp))
  have HF2 := Lib.hid hf2
  clear hs hm hf hd hf2
  have T2 := Lib.hid (HT.out.mods M2.out (by simp))
  go_wp2_with fail
  refine (put_at (w2.alloc _) _ 8 _ _ _ 1 1 kS2 (slabA_keep S2.out fun k hk => Below.heap_alloc w2 _ k (slabA_lt S2.out k hk)) (T2.out.keep (Below.heap_alloc w2 _ _ T2.out.lt)) (by decide) (by decide) (by decide) (by decide) k12).mono ?_
  rintro e w3 ⟨rfl, hd⟩
  obtain ⟨F3, hs, hm, hf⟩ := hd.out
  have hf3 : ∀ k ∈ F3, w.heap.size ≤ k := fun k hk => by
    rcases hf k hk with h | h
    · exact HF2.out k h
    · have := M2.out.size; simp at h; omega
  have S3 := Lib.hid hs
  have M3 := Lib.hid ((M2.out.alloc _).trans hm (fun k hk => .inr (HF2.out k hk)))
  have HF3 := Lib.hid hf3
  have N2 := Lib.hid (fun h => Nat.lt_irrefl _ (slabA_lt S2.out w2.heap.size h))
  have c0 := cell_new hm N2.out 0
  have c1 := cell_new hm N2.out 1
  have HN3 := Lib.hid (show w2.heap.size ∉ F3 ∧ w2.heap.size < w3.heap.size from ⟨fun h => by
    rcases hf _ h with h | h
    · exact N2.out h
    · simp at h; omega, by have := hm.size; simp at this; omega⟩)
  clear hs hm hf hd hf3
  have T3 := Lib.hid (HT.out.mods M3.out (by simp))
  go_wp2_with fail
  have N3 := Lib.hid (fun h => Nat.lt_irrefl _ (slabA_lt S3.out w3.heap.size h))
  refine (take_any (w3.alloc _) _ w3.heap.size 2 [(0, 1), (0, 1)] F3 kS2 _ (slabA_keep S3.out fun k hk => Below.heap_alloc w3 _ k (slabA_lt S3.out k hk)) (by decide) (pairs_row (Row.new w3 _ _) rfl (by decide)) N3.out).mono ?_
  rw [k23, k23t]
  rintro e w4 ⟨rfl, hs, hm⟩
  have S4 := Lib.hid hs
  have M4 := Lib.hid ((M3.out.alloc _).trans hm (fun k hk => .inr (HF3.out k hk)))
  have d0 := cell_mods (cell_alloc c0 (.cells #[.int .i64 0, .int .i64 1, .int .i64 0, .int .i64 1] 32)) hm HN3.out.1
  have d1 := cell_mods (cell_alloc c1 (.cells #[.int .i64 0, .int .i64 1, .int .i64 0, .int .i64 1] 32)) hm HN3.out.1
  clear hs hm c0 c1
  have T4 := Lib.hid (HT.out.mods M4.out (by simp))
  go_wp2_with fail
  refine (put_at w4 _ 9 _ _ _ 0 2 kS4 S4.out T4.out (by decide) (by decide) (by decide) (by decide) k34).mono ?_
  rintro e w5 ⟨rfl, hd⟩
  obtain ⟨F5, hs, hm, hf⟩ := hd.out
  have S5 := Lib.hid hs
  have M5 := Lib.hid (M4.out.trans hm (fun k hk => .inr (HF3.out k hk)))
  have d0 := cell_mods d0 hm HN3.out.1
  have d1 := cell_mods d1 hm HN3.out.1
  have a0 := fun o => cell_alloc d0 o
  have a1 := fun o => cell_alloc d1 o
  clear hs hm hf hd
  go_wp2_with fail
  refine (get_no (w5.alloc _) _ 0 1 _ _ _ (by decide) (by decide) (slabA_keep S5.out fun k hk => Below.heap_alloc w5 _ k (slabA_lt S5.out k hk)) (by rfl)).mono ?_
  rintro e w6 ⟨rfl, hm⟩
  have M6 := Lib.hid ((M5.out.alloc _).trans hm (by simp))
  have e0 := cell_new hm (by simp) 0
  have e1 := cell_new hm (by simp) 1
  clear hm
  go_wp2
  go_ret
  exact ⟨rfl, M6.out⟩
end Go.Proofs.YtdkcdljhpopakaaDoor
