/- The program's pool in memory, and what New, isLent, Lent, Get answer. -/
import Derived.Test.YtdocifbkocbiiaaPoolMath
import Derived.OwnWalk
namespace Go.Proofs.Ytdocifbkocbiiaa
open Go.RowKit
set_option maxRecDepth 10000
set_option linter.unusedVariables false
set_option linter.unusedSimpArgs false

/-- The pool behind pointer g, its marks in block m, its rings of size z; O: which are lent; t: how many ever were at once. -/
structure PoolA (w : World) (g m z : Nat) (O : List Bool) (t : Nat) : Prop where
  row : Row w g 53 #[.int .i64 z, .slice (some ⟨m, 0, none⟩) O.length O.length, .int .i64 (cnt O), .int .i64 t]
  mem : Row w m 5 (bv (marks O)).toArray
  hi : O.length ≤ 4096
  z1 : 1 ≤ z
  z2 : z ≤ 65536
  most : t ≤ O.length
section
variable {w w' : World} {g m z t : Nat} {O : List Bool}
theorem PoolA.ne (h : PoolA w g m z O t) : g ≠ m := Row.type_ne h.row h.mem (by decide)
theorem PoolA.keep (h : PoolA w g m z O t) (e : ∀ k ∈ [g, m], w'.heap[k]? = w.heap[k]?) : PoolA w' g m z O t :=
  ⟨h.row.keep (e _ (by simp)), h.mem.keep (e _ (by simp)), h.hi, h.z1, h.z2, h.most⟩
theorem PoolA.lt (h : PoolA w g m z O t) : ∀ k ∈ [g, m], k < w.heap.size := by
  intro k hk
  simp only [List.mem_cons, List.mem_nil_iff, or_false] at hk
  rcases hk with rfl | rfl
  · exact h.row.lt
  · exact h.mem.lt
theorem PoolA.mods {G : List Nat} (h : PoolA w g m z O t) (hm : Mods G w w') (hd : ∀ k ∈ [g, m], k ∉ G) : PoolA w' g m z O t :=
  h.keep fun k hk => hm.block k (h.lt k hk) (hd k hk)
end
theorem eql_pnil (p : Option Addr) (w : World) : (binOp .eql 23 (.pointer p) (.pointer none)).run Try.prog w = .ok (.bool p.isNone) w :=
  run_eql_pointer_nil _ _ _ (by kernel_rfl)
theorem neq_pnil (p : Option Addr) (w : World) : (binOp .neq 23 (.pointer p) (.pointer none)).run Try.prog w = .ok (.bool !p.isNone) w :=
  run_neq_pointer_nil _ _ _ (by kernel_rfl)
theorem pnew_no (n s : Int) (w : World) (h : n < 0 ∨ 4096 < n ∨ s < 1 ∨ 65536 < s) : Calls Try.prog 7 #[.int .i64 n, .int .i64 s] w fun e w' => e = .returned (.tuple #[.pointer none, .int .i64 1]) ∧ w = w' := by
  by_cases h1 : n < 0
  · go_enter Try.func7, Try.ntmps7
    go_wp2
    go_ret2
    exact ⟨rfl, rfl⟩
  · by_cases h2 : 4096 < n
    · go_enter Try.func7, Try.ntmps7
      go_wp2
      go_ret2
      exact ⟨rfl, rfl⟩
    · by_cases h3 : s < 1
      · go_enter Try.func7, Try.ntmps7
        go_wp2
        go_ret2
        exact ⟨rfl, rfl⟩
      · have h4 : 65536 < s := by omega
        clear h
        go_enter Try.func7, Try.ntmps7
        go_wp2
        go_ret2
        exact ⟨rfl, rfl⟩
theorem pnew_any (n z : Nat) (w : World) (h : n ≤ 4096) (h1 : 1 ≤ z) (h2 : z ≤ 65536) : Calls Try.prog 7 #[.int .i64 n, .int .i64 z] w fun e w' =>
    e = .returned (.tuple #[.pointer (some ⟨w.heap.size + 1, 0, none⟩), .int .i64 0]) ∧ PoolA w' (w.heap.size + 1) w.heap.size z (List.replicate n false) 0 ∧ Mods [] w w' := by
  have hmk := make_u8 n (by omega)
  have HC := Lib.hid (bv_marks_new n)
  obtain ⟨cs, hcs⟩ : ∃ cs, cs = madeCells #[.int .u8 0] n := ⟨_, rfl⟩
  rw [← hcs] at hmk HC
  clear hcs
  go_enter Try.func7, Try.ntmps7
  go_wp2
  go_ret2
  refine ⟨rfl, ⟨?_, ?_, by simpa using h, h1, h2, Nat.zero_le _⟩, ((Mods.refl _ _).alloc _).alloc _⟩
  · have := Row.new (w.alloc (.cells cs 5)) 53 #[.int .i64 z, .slice (some ⟨w.heap.size, 0, none⟩) n n, .int .i64 0, .int .i64 0]
    have e : cnt (List.replicate n false) = 0 := by simp [cnt, List.count_replicate]
    rw [e, List.length_replicate]
    simpa using this
  · rw [HC.out]; exact (Row.new w _ _).alloc _
theorem lent_any (w : World) (g m z t : Nat) (O : List Bool) (h : PoolA w g m z O t) :
    Calls Try.prog 17 #[.pointer (some ⟨g, 0, none⟩)] w fun e w' => e = .returned (.tuple #[.int .i64 (cnt O), .int .i64 t]) ∧ ∃ q, w' = w.drewN q := by
  have c2 := h.row.cell 2
  have c3 := h.row.cell 3
  have hn := eql_pnil
  clear h
  go_enter Try.func17, Try.ntmps17
  go_wp2
  go_quiet (fail)
  go_wp2
  go_ret2
  exact ⟨rfl, _, rfl⟩
theorem lent_nil (w : World) : Calls Try.prog 17 #[.pointer none] w fun e w' => e = .returned (.tuple #[.int .i64 0, .int .i64 0]) ∧ w = w' := by
  have hn := eql_pnil
  go_enter Try.func17, Try.ntmps17
  go_wp2
  go_ret2
  exact ⟨rfl, rfl⟩
theorem isLent_any (w : World) (g m z t : Nat) (O : List Bool) (i : Int) (h : PoolA w g m z O t) :
    Calls Try.prog 23 #[.pointer (some ⟨g, 0, none⟩), .int .i64 i] w fun e w' => e = .returned (.bool (lentAt O i)) ∧ w = w' := by
  have c1 := h.row.cell 1
  have hn := neq_pnil
  by_cases h0 : i < 0
  · have hr : lentAt O i = false := by unfold lentAt; simp; intro h; omega
    have h1 : decide (0 ≤ i) = false := by simp; omega
    rw [hr]
    clear h
    go_enter Try.func23, Try.ntmps23
    go_wp2
    go_ret
    exact ⟨rfl, rfl⟩
  · obtain ⟨k, rfl⟩ : ∃ k : Nat, i = (k : Int) := ⟨i.toNat, by omega⟩
    clear h0
    by_cases hk : k < O.length
    · have hr : lentAt O k = O[k] := by unfold lentAt; simp [List.getElem?_eq_getElem hk]
      have cc := h.mem.cell k
      rw [bv_marks_at O k O[k] (List.getElem?_eq_getElem hk)] at cc
      rw [hr]
      clear h
      have hk2 : decide ((k : Int) < (O.length : Int)) = true := by simpa using hk
      cases hb : O[k] with
      | false =>
        rw [hb] at cc
        have cc : w.cell? ⟨m, k, none⟩ = some (.int .u8 0) := cc
        go_enter Try.func23, Try.ntmps23
        go_wp2
        go_ret
        exact ⟨rfl, rfl⟩
      | true =>
        rw [hb] at cc
        have cc : w.cell? ⟨m, k, none⟩ = some (.int .u8 1) := cc
        go_enter Try.func23, Try.ntmps23
        go_wp2
        go_ret
        exact ⟨rfl, rfl⟩
    · have hr : lentAt O k = false := by unfold lentAt; simp [List.getElem?_eq_none (Nat.le_of_not_lt hk)]
      have h1 : decide ((k : Int) < (O.length : Int)) = false := by simp; omega
      rw [hr]
      clear h
      go_enter Try.func23, Try.ntmps23
      go_wp2
      go_ret
      exact ⟨rfl, rfl⟩
theorem isLent_nil (w : World) (i : Int) :
    Calls Try.prog 23 #[.pointer none, .int .i64 i] w fun e w' => e = .returned (.bool false) ∧ w = w' := by
  have hn := neq_pnil
  go_enter Try.func23, Try.ntmps23
  go_wp2
  go_ret
  exact ⟨rfl, rfl⟩
theorem get_nil (w : World) : Calls Try.prog 10 #[.pointer none] w fun e w' => e = .returned (.tuple #[.int .i64 0, .pointer none, .int .i64 1]) ∧ w = w' := by
  have hn := eql_pnil
  go_enter Try.func10, Try.ntmps10
  go_wp2
  go_ret3
  exact ⟨rfl, rfl⟩
theorem marks_at_mem {w : World} {g m z t : Nat} {O : List Bool} (h : PoolA w g m z O t) : At w [] (some ⟨m, 0, none⟩) (marks O) := fun i x hx => by
  refine ⟨m, 0, rfl, h.mem.lt, by simp, ?_, ?_⟩
  · rw [Nat.zero_add, h.mem.cell, List.getElem?_toArray]
    exact (bv_at _ _ _).2 ⟨x, hx, rfl⟩
  · obtain ⟨b, _, rfl⟩ := List.mem_map.1 (List.mem_of_getElem? hx)
    exact mk_range b
theorem get_full (w : World) (g m z t : Nat) (O : List Bool) (h : PoolA w g m z O t) (hl : O.length ≤ lo O) :
    Calls Try.prog 10 #[.pointer (some ⟨g, 0, none⟩)] w fun e w' => e = .returned (.tuple #[.int .i64 0, .pointer none, .int .i64 3]) ∧ w = w' := by
  have hn := eql_pnil
  have c1 := h.row.cell 1
  have HI := Lib.hid (ibyte_any m 0 O.length O.length (marks O) 0 w (marks_length O) (marks_at_mem h) (by decide) (by decide))
  rw [lo_idx, if_neg (by omega)] at HI
  clear h hl
  go_enter Try.func10, Try.ntmps10
  go_wp2_with fail
  refine HI.out.mono ?_
  rintro e w' ⟨rfl, rfl⟩
  go_wp2
  go_ret3
  exact ⟨rfl, rfl⟩
end Go.Proofs.Ytdocifbkocbiiaa
