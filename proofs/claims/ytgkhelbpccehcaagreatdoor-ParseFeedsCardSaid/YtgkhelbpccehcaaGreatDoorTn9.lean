/- The code's Tokens of no value, and of any slice of texts; Has over it. Conditions: values of at most a million bytes in all. -/
import Derived.Test.YtgkhelbpccehcaaGreatDoorTl9
namespace Go.Proofs.YtgkhelbpccehcaaGreatDoor
open Go.RowKit Go.Shelf
attribute [local go_sem] Oper.semAt_some
set_option linter.unusedVariables false

set_option maxRecDepth 100000 in
set_option maxHeartbeats 2000000 in
theorem tokens_none (a : Option Addr) (cap : Nat) (w : World) :
    Calls Tryz.prog 161 #[.slice a 0 cap] w (TokAns w []) := by
  refine (callsIn_wide (n := 6)).1 ?_
  refine callsIn_of_wp_marks Tryz.func161 rfl trivial ?_ rfl
  simp only [Tryz.ntmps161, List.size_toArray, List.length_cons, List.length_nil, Nat.reduceAdd, Nat.reduceSub, Array.replicate_succ, Array.replicate_zero, List.push_toArray, List.append_toArray, List.nil_append, List.cons_append]
  have e0 := Boxed.new w 112 (.slice none 0 0)
  have e1 := Boxed.new (w.alloc (.cells #[.slice none 0 0] 112)) 4 (.bool false)
  have e2 := Boxed.new ((w.alloc (.cells #[.slice none 0 0] 112)).alloc (.cells #[.bool false] 4)) 112 (.slice none 0 0)
  simp only [World.size_alloc] at e1 e2
  have HE0 := Lib.hid ((e0.alloc (.cells #[.bool false] 4)).alloc (.cells #[.slice none 0 0] 112))
  have HE1 := Lib.hid (e1.alloc (.cells #[.slice none 0 0] 112))
  have c0 := HE0.out.cell
  have f0 := HE0.out.frozen
  have c1 := HE1.out.cell
  have f1 := HE1.out.frozen
  have c2 := e2.cell
  clear e0 e1 e2
  gi_wp2
  refine wpIn_loop_rounds 1 ?_
  rw [roundsIn_succ]
  gi_wp2
  have d0 := Boxed.new w 112 (.slice none 0 0)
  have d1 := Boxed.new (w.alloc (.cells #[.slice none 0 0] 112)) 4 (.bool true)
  simp only [World.size_alloc] at d1
  refine leave_tokens rfl rfl ((d0.alloc _).alloc _) (d1.alloc _) trivial fun W' hb2 hc2 => ?_
  refine ⟨(((Below.refl w.heap.size w).alloc (Nat.le_refl _) _).alloc (by simp) _).alloc (by simp; omega) _ |>.trans hb2, ?_⟩
  rw [show toksO [] = some [] from rfl]
  exact ⟨_, rfl, World.ownsRow_nil _ _ _ _⟩
theorem tokens_a (ts : List ByteArray) (v : Value) (w : World) (h : StrsAt w v ts) (hs : sizes ts ≤ 1000000) : Calls Tryz.prog 161 #[v] w (TokAns w ts) := by
  rcases h with ⟨rfl, a, cap, rfl⟩ | ⟨b, off, cap, rfl, h0, hb, hc⟩
  · exact tokens_none a cap w
  · exact tokens_some b off cap ts w hb hc hs
end Go.Proofs.YtgkhelbpccehcaaGreatDoor
