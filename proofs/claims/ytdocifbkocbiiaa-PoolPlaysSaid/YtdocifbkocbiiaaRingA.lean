/- The program's ring in memory, and what place, span, Room, Len, atMost answer. -/
import Derived.Test.YtdocifbkocbiiaaProg
import Derived.WalkKit
import Derived.ProofKit
import Derived.RegionTactic
import Derived.Deep.QuietTactic
import Derived.BigQuiet
import Derived.Outline
import Derived.LoopTactic
import Derived.WalkLawsBesides
import Derived.WalkSpells
import Derived.Test.YtdocifbkocbiiaaBy
namespace Go.Proofs.Ytdocifbkocbiiaa
open Go.RowKit
set_option maxRecDepth 10000
set_option linter.unusedVariables false
set_option linter.unusedSimpArgs false

/-- The ring behind pointer g, its bytes in block m, of size N; it holds L from place f on. -/
structure RingF (w : World) (g m N : Nat) (L : List Int) (f : Nat) (cs : Array Value) : Prop where
  row : Row w g 60 #[.slice (some ⟨m, 0, none⟩) N N, .int .i64 f, .int .i64 L.length]
  mem : Row w m 5 cs
  size : cs.size = N
  at_ : ∀ i x, L[i]? = some x → cs[pl N f i]? = some (.int .u8 x) ∧ 0 ≤ x ∧ x ≤ 255
  lo : 1 ≤ N
  hi : N ≤ 65536
  first : f < N
  count : L.length ≤ N
def RingA (w : World) (g m N : Nat) (L : List Int) : Prop := ∃ f cs, RingF w g m N L f cs
section
variable {w w' : World} {g m N f : Nat} {L : List Int} {cs : Array Value}
theorem RingF.ne (h : RingF w g m N L f cs) : g ≠ m := Row.type_ne h.row h.mem (by decide)
theorem RingF.keep (h : RingF w g m N L f cs) (e : ∀ k ∈ [g, m], w'.heap[k]? = w.heap[k]?) : RingF w' g m N L f cs :=
  ⟨h.row.keep (e _ (by simp)), h.mem.keep (e _ (by simp)), h.size, h.at_, h.lo, h.hi, h.first, h.count⟩
theorem RingA.keep (h : RingA w g m N L) (e : ∀ k ∈ [g, m], w'.heap[k]? = w.heap[k]?) : RingA w' g m N L := by
  obtain ⟨f, cs, h⟩ := h
  exact ⟨f, cs, h.keep e⟩
theorem RingA.lt (h : RingA w g m N L) : ∀ k ∈ [g, m], k < w.heap.size := by
  obtain ⟨f, cs, h⟩ := h
  intro k hk
  simp only [List.mem_cons, List.mem_nil_iff, or_false] at hk
  rcases hk with rfl | rfl
  · exact h.row.lt
  · exact h.mem.lt
theorem RingA.mods {G : List Nat} (h : RingA w g m N L) (hm : Mods G w w') (hd : ∀ k ∈ [g, m], k ∉ G) : RingA w' g m N L :=
  h.keep fun k hk => hm.block k (h.lt k hk) (hd k hk)
theorem RingA.drewN (h : RingA w g m N L) (n : Nat) : RingA (w.drewN n) g m N L := h.keep fun _ _ => rfl
theorem RingA.range (h : RingA w g m N L) : ∀ x ∈ L, 0 ≤ x ∧ x ≤ 255 := fun x hx => by
  obtain ⟨f, cs, h⟩ := h
  obtain ⟨i, hi, e⟩ := List.mem_iff_getElem.1 hx
  exact (h.at_ i x (by rw [List.getElem?_eq_getElem hi, e])).2
theorem RingA.len (h : RingA w g m N L) : L.length ≤ N ∧ 1 ≤ N ∧ N ≤ 65536 := by
  obtain ⟨f, cs, h⟩ := h
  exact ⟨h.count, h.lo, h.hi⟩
end
theorem ret_i64 {a b : Int} (h : a = b) : Ending.returned (.int .i64 a) = .returned (.int .i64 b) := by rw [h]
theorem ret_bool {a b : Bool} (h : a = b) : Ending.returned (.bool a) = .returned (.bool b) := by rw [h]
theorem eql_nil (p : Option Addr) (w : World) : (binOp .eql 31 (.pointer p) (.pointer none)).run Try.prog w = .ok (.bool p.isNone) w :=
  run_eql_pointer_nil _ _ _ (by kernel_rfl)

theorem place_any (w : World) (g m N f i : Nat) (L : List Int) (cs : Array Value) (h : RingF w g m N L f cs) (hi : i ≤ N) :
    Calls Try.prog 28 #[.pointer (some ⟨g, 0, none⟩), .int .i64 i] w fun e w' => e = .returned (.int .i64 (pl N f i)) ∧ w = w' := by
  have c0 := h.row.cell 0
  have c1 := h.row.cell 1
  have b1 := h.hi
  have b2 := h.first
  by_cases hc : N ≤ f + i
  · have hd : decide ((N : Int) ≤ (f : Int) + (i : Int)) = true := by simp; omega
    have HP := Lib.hid (show pl N f i = f + i - N by unfold pl; rw [if_pos hc])
    clear h
    go_enter Try.func28, Try.ntmps28
    go_wp2
    go_ret
    exact ⟨ret_i64 (by rw [HP.out]; omega), rfl⟩
  · have hd : decide ((N : Int) ≤ (f : Int) + (i : Int)) = false := by simp; omega
    have HP := Lib.hid (show pl N f i = f + i by unfold pl; rw [if_neg hc])
    clear h
    go_enter Try.func28, Try.ntmps28
    go_wp2
    go_ret
    exact ⟨ret_i64 (by rw [HP.out]; omega), rfl⟩
theorem span_any (w : World) (g m N f i n : Nat) (L : List Int) (cs : Array Value) (h : RingF w g m N L f cs) (hi : i ≤ N) (hn : n ≤ N) :
    Calls Try.prog 24 #[.pointer (some ⟨g, 0, none⟩), .int .i64 i, .int .i64 n] w fun e w' =>
      e = .returned (.tuple #[.slice (some ⟨m, pl N f i, none⟩) (min n (N - pl N f i)) (N - pl N f i), .slice (some ⟨m, 0, none⟩) (n - min n (N - pl N f i)) N]) ∧ ∃ q, w' = w.drewN q := by
  have c0 := h.row.cell 0
  have b1 := h.hi
  have b2 := pl_lt h.first hi
  have HP := Lib.hid (place_any w g m N f i L cs h hi)
  clear h
  obtain ⟨p, hp⟩ : ∃ p, p = pl N f i := ⟨_, rfl⟩
  rw [← hp] at HP b2 ⊢
  by_cases hc : n ≤ N - p
  · have HK := Lib.hid (show min n (N - p) = n by omega)
    have h1 : (n : Int) ≤ (N : Int) - (p : Int) := by omega
    clear hp hc
    go_enter Try.func24, Try.ntmps24
    go_wp2_with fail
    refine HP.out.mono ?_
    rintro e w' ⟨rfl, rfl⟩
    go_wp2_with fail
    go_quiet (fail)
    go_wp2
    go_ret2
    rw [HK.out]
    exact ⟨by simp, _, rfl⟩
  · have HK := Lib.hid (show min n (N - p) = N - p by omega)
    have h1 : ¬ (n : Int) ≤ (N : Int) - (p : Int) := by omega
    clear hp hc
    go_enter Try.func24, Try.ntmps24
    go_wp2_with fail
    refine HP.out.mono ?_
    rintro e w' ⟨rfl, rfl⟩
    go_wp2_with fail
    go_quiet (fail)
    go_wp2
    go_ret2
    rw [HK.out]
    exact ⟨by simp, _, rfl⟩
theorem room_any (w : World) (g m N : Nat) (L : List Int) (h : RingA w g m N L) :
    Calls Try.prog 13 #[.pointer (some ⟨g, 0, none⟩)] w fun e w' => e = .returned (.int .i64 ((N - L.length : Nat) : Int)) ∧ ∃ q, w' = w.drewN q := by
  obtain ⟨f, cs, h⟩ := h
  have c0 := h.row.cell 0
  have c2 := h.row.cell 2
  have b1 := h.hi
  have b2 := h.count
  have HS := Lib.hid (show ((N - L.length : Nat) : Int) = (N : Int) - (L.length : Int) by omega)
  have hn := eql_nil
  clear h
  go_enter Try.func13, Try.ntmps13
  go_wp2
  go_quiet (fail)
  go_wp2
  go_ret
  exact ⟨ret_i64 (by rw [HS.out]), _, rfl⟩
theorem room_nil (w : World) : Calls Try.prog 13 #[.pointer none] w fun e w' => e = .returned (.int .i64 0) ∧ w = w' := by
  have hn := eql_nil
  go_enter Try.func13, Try.ntmps13
  go_wp2
  go_ret
  exact ⟨rfl, rfl⟩
theorem len_any (w : World) (g m N : Nat) (L : List Int) (h : RingA w g m N L) :
    Calls Try.prog 12 #[.pointer (some ⟨g, 0, none⟩)] w fun e w' => e = .returned (.int .i64 L.length) ∧ w = w' := by
  obtain ⟨f, cs, h⟩ := h
  have c2 := h.row.cell 2
  have hn := eql_nil
  clear h
  go_enter Try.func12, Try.ntmps12
  go_wp2
  go_ret
  exact ⟨rfl, rfl⟩
theorem len_nil (w : World) : Calls Try.prog 12 #[.pointer none] w fun e w' => e = .returned (.int .i64 0) ∧ w = w' := by
  have hn := eql_nil
  go_enter Try.func12, Try.ntmps12
  go_wp2
  go_ret
  exact ⟨rfl, rfl⟩
/-- n, not below 0 and not above c. -/
def clamp (n : Int) (c : Nat) : Nat := min n.toNat c
theorem clamp_le (n : Int) (c : Nat) : clamp n c ≤ c := by unfold clamp; omega
theorem atMost_any (w : World) (g m N f : Nat) (n : Int) (L : List Int) (cs : Array Value) (h : RingF w g m N L f cs) :
    Calls Try.prog 25 #[.pointer (some ⟨g, 0, none⟩), .int .i64 n] w fun e w' => e = .returned (.int .i64 (clamp n L.length)) ∧ w = w' := by
  have c2 := h.row.cell 2
  have HE := Lib.hid (show min (max n 0) (L.length : Int) = (clamp n L.length : Int) by unfold clamp; omega)
  clear h
  go_enter Try.func25, Try.ntmps25
  go_wp2
  all_goals
    go_ret
    exact ⟨ret_i64 (by rw [← HE.out]; omega), rfl⟩
end Go.Proofs.Ytdocifbkocbiiaa
