/- What New, Len, Now, Where of the program's wheel answer. -/
import Derived.Test.YtgfmjkbelciaaaaDoorWhG
namespace Go.Proofs.YtgfmjkbelciaaaaDoor
open Go.RowKit
set_option maxRecDepth 100000
set_option linter.unusedVariables false
set_option linter.unusedSimpArgs false
set_option linter.unnecessarySimpa false

/-- The wheel behind pointer g, its blocks F. -/
def WheelA (w : World) (g : Nat) (F : List Nat) (S : Slb) (K now : Nat) (M : List Tm) : Prop :=
  ∃ hg tv hF ps, F = blks g tv hF M ∧ WheelM w g hg tv hF ps (ql now M) S K now M
section
variable {w w' : World} {g : Nat} {F G : List Nat} {S : Slb} {K now : Nat} {M : List Tm}
theorem WheelA.lt (h : WheelA w g F S K now M) : ∀ k ∈ F, k < w.heap.size := by
  obtain ⟨hg, tv, hF, ps, rfl, h⟩ := h
  exact h.lt
theorem WheelA.keep (h : WheelA w g F S K now M) (e : ∀ k ∈ F, w'.heap[k]? = w.heap[k]?) : WheelA w' g F S K now M := by
  obtain ⟨hg, tv, hF, ps, rfl, h⟩ := h
  exact ⟨hg, tv, hF, ps, rfl, h.keep e⟩
theorem WheelA.mods (h : WheelA w g F S K now M) (hm : Mods G w w') (hd : ∀ k ∈ F, k ∉ G) : WheelA w' g F S K now M :=
  h.keep fun k hk => hm.block k (h.lt k hk) (hd k hk)
theorem WheelA.mods0 (h : WheelA w g F S K now M) (hm : Mods [] w w') : WheelA w' g F S K now M := h.mods hm (by simp)
theorem WheelA.ok (h : WheelA w g F S K now M) : WOk S now M := by
  obtain ⟨hg, tv, hF, ps, rfl, h⟩ := h
  exact h.ok
theorem WheelA.slabOk (h : WheelA w g F S K now M) : S.Ok K := by
  obtain ⟨hg, tv, hF, ps, rfl, h⟩ := h
  obtain ⟨sv, cs, xs, U, hF, hrow, hsz, h0, h1, h2, hU, hown, hx, hbit, hok⟩ := h.slab
  exact hok
end
def wheel0 (now hg : Nat) : Array Value := #[.int .i64 (now : Int), .pointer (some ⟨hg, 0, none⟩), .slice none 0 0] ++ Array.replicate 514 (.pointer none)
theorem wheel0_size (now hg : Nat) : (wheel0 now hg).size = 517 := by simp [wheel0]
theorem wheel0_at (now hg j : Nat) (h : 3 ≤ j) (h2 : j < 517) : (wheel0 now hg)[j]? = some (.pointer none) := by
  unfold wheel0
  rw [Array.getElem?_append_right (by simpa using h), Array.getElem?_replicate, if_pos (by simp; omega)]
theorem wheel0_low (now hg j : Nat) (h : j < 3) : (wheel0 now hg)[j]? = (#[.int .i64 (now : Int), .pointer (some ⟨hg, 0, none⟩), .slice none 0 0] : Array Value)[j]? := by
  unfold wheel0
  rw [Array.getElem?_append_left (by simpa using h)]
theorem build_wheel (now hg : Nat) : (Tryd.zeroCells74.setIfInBounds 0 (.int .i64 (now : Int))).setIfInBounds 1 (.pointer (some ⟨hg, 0, none⟩)) = wheel0 now hg := by kernel_rfl
theorem wnew_no (n : Int) (w : World) (h : n < 0 ∨ 1099511627776 < n) : Calls Tryd.prog 10 #[.int .i64 n] w fun e w' => e = .returned (.tuple #[.pointer none, .int .i64 1]) ∧ w = w' := by
  have hd : (decide (0 ≤ n) && decide (n ≤ 1099511627776)) = false := by
    rw [Bool.and_eq_false_iff]
    rcases h with h | h
    · exact .inl (decide_eq_false (by omega))
    · exact .inr (decide_eq_false (by omega))
  have HT := Lib.hid (isTime_any n w)
  rw [hd] at HT
  clear hd h
  go_enter Tryd.func10, Tryd.ntmps10
  go_wp2_with fail
  refine HT.out.mono ?_
  rintro e w' ⟨rfl, rfl⟩
  go_wp2
  go_ret2
  exact ⟨rfl, rfl⟩
theorem wnew_any (now : Nat) (w : World) (h : now ≤ 1099511627776) : Calls Tryd.prog 10 #[.int .i64 (now : Int)] w fun e w' =>
    ∃ g, e = .returned (.tuple #[.pointer (some ⟨g, 0, none⟩), .int .i64 0]) ∧ Hid (∃ F, WheelA w' g F (Slb.new 4096) 0 now [] ∧ (∀ k ∈ F, w.heap.size ≤ k) ∧ Mods [] w w') := by
  have hd : (decide (0 ≤ (now : Int)) && decide ((now : Int) ≤ 1099511627776)) = true := by
    rw [Bool.and_eq_true]
    exact ⟨decide_eq_true (by omega), decide_eq_true (by omega)⟩
  have HT := Lib.hid (isTime_any (now : Int) w)
  rw [hd] at HT
  have HS0 := new_any 4096 w (by omega) (by omega)
  rw [show ((4096 : Nat) : Int) = 4096 from rfl] at HS0
  have HS := Lib.hid HS0
  clear HS0
  have HH := Lib.hid h
  clear hd h
  go_enter Tryd.func10, Tryd.ntmps10
  go_wp2_with fail
  refine HT.out.mono ?_
  rintro e w' ⟨rfl, rfl⟩
  go_wp2_with fail
  refine HS.out.mono ?_
  rintro e w1 ⟨rfl, hs, hm⟩
  have H1 := Lib.hid (And.intro hs hm)
  clear hs hm
  go_wp2
  rw [build_wheel]
  go_ret2
  refine ⟨w1.heap.size, rfl, Lib.hid ⟨[w1.heap.size, w.heap.size], ⟨w.heap.size, .slice none 0 0, [w.heap.size], [], ?_, ?_⟩, ?_, ?_⟩⟩
  · simp [blks, Value.ownBlock]
  · have hs := H1.out.1
    have hl := slabA_lt hs w.heap.size (by simp)
    have ro := Row.new w1 74 (wheel0 now w.heap.size)
    refine ⟨⟨_, ro, wheel0_size _ _, wheel0_low _ _ 0 (by omega), wheel0_low _ _ 1 (by omega), wheel0_low _ _ 2 (by omega)⟩, slabA_keep hs fun k hk => Below.heap_alloc w1 _ k (slabA_lt hs k hk), Own.nil _ _, rfl, fun i hi => by simp at hi, ⟨fun p hp => ?_, fun p hp => ?_, fun p hp => trivial, fun p hp => List.nodup_nil, fun p q _ _ _ b hb => (by cases hb), fun p hp hb => (by cases hb)⟩, fun p hp b hb => (by cases hb), fun m hm => (by cases hm), ⟨List.nodup_nil, List.nodup_nil, fun m hm => (by cases hm), fun i hi => ?_, rfl, HH.out, fun m hm => (by cases hm), rfl⟩⟩
    · rw [ro.cell]; exact wheel0_at _ _ _ (by omega) (by omega)
    · rw [ro.cell]; exact wheel0_at _ _ _ (by omega) (by omega)
    · simp [Slb.new] at hi
  · intro k hk
    have := H1.out.2.size
    simp only [List.mem_cons, List.mem_nil_iff, or_false] at hk
    rcases hk with rfl | rfl <;> omega
  · exact H1.out.2.alloc _
end Go.Proofs.YtgfmjkbelciaaaaDoor
