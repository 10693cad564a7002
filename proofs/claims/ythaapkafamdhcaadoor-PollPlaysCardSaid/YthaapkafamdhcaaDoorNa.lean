/- The program's net in memory, and what New, waiting, find, waits, over, theirs, ours answer. -/
import Derived.Test.YthaapkafamdhcaaDoorNp
import Derived.Test.YthaapkafamdhcaaDoorRows2
namespace Go.Proofs.YthaapkafamdhcaaDoor
open Go.RowKit
set_option maxRecDepth 10000
set_option linter.unusedVariables false
set_option linter.unusedSimpArgs false

/-- The program's connection. -/
def cbs (s : Cn) (i : Fin 3) : List Int := match i with | 0 => s.inn | 1 => s.tak | 2 => s.out
def KP : Kd Cn := ⟨122, fun x s => #[.int .i64 s.peer, .bool s.opn, .bool s.brk, .bool s.hlv, .bool s.sht, x.v 0, .int .i64 s.win, x.v 1, x.v 2, .int .i64 s.mr, .int .i64 s.mw], cbs, by decide⟩
/-- The net behind pointer g. -/
structure NetF (w : World) (g : Nat) (vc : Value) (X : List Cb) (S : Nt) (m : Nat) : Prop where
  row : Row w g 86 #[.int .i64 S.back, .bool S.stop, .int .i64 S.fail, vc, .int .i64 S.first, .int .i64 (opens S.L : Nat)]
  ptr : Own w 118 vc (pv X)
  cs : Cs KP w X S.L
  ok : S.Ok m
def nfoot (g : Nat) (vc : Value) (X : List Cb) : List Nat := g :: (vc.ownBlock.toList ++ fts X)
def NetA (w : World) (g : Nat) (F : List Nat) (S : Nt) (m : Nat) : Prop := ∃ vc X, F = nfoot g vc X ∧ NetF w g vc X S m
section
variable {w w' : World} {g m : Nat} {vc : Value} {X : List Cb} {S : Nt} {F : List Nat}
theorem NetF.keep (h : NetF w g vc X S m) (e : ∀ k ∈ nfoot g vc X, w'.heap[k]? = w.heap[k]?) : NetF w' g vc X S m :=
  ⟨h.row.keep (e _ (by simp [nfoot])), h.ptr.keep (fun k hk => e k (by simp only [nfoot, List.mem_cons, List.mem_append]; exact .inr (.inl hk))), h.cs.keep (fun k hk => e k (by simp only [nfoot, List.mem_cons, List.mem_append]; exact .inr (.inr hk))), h.ok⟩
theorem NetF.lt (h : NetF w g vc X S m) : ∀ k ∈ nfoot g vc X, k < w.heap.size := by
  intro k hk
  simp only [nfoot, List.mem_cons, List.mem_append] at hk
  rcases hk with rfl | hk | hk
  · exact h.row.lt
  · exact h.ptr.lt k hk
  · exact h.cs.lt k hk
theorem NetA.keep (h : NetA w g F S m) (e : ∀ k ∈ F, w'.heap[k]? = w.heap[k]?) : NetA w' g F S m := by
  obtain ⟨vc, X, rfl, h⟩ := h
  exact ⟨vc, X, rfl, h.keep e⟩
theorem NetA.lt (h : NetA w g F S m) : ∀ k ∈ F, k < w.heap.size := by
  obtain ⟨vc, X, rfl, h⟩ := h
  exact h.lt
theorem NetA.mods {G : List Nat} (h : NetA w g F S m) (hm : Mods G w w') (hd : ∀ k ∈ F, k ∉ G) : NetA w' g F S m :=
  h.keep fun k hk => hm.block k (h.lt k hk) (hd k hk)
theorem NetA.quiet (h : NetA w g F S m) (hm : Mods [] w w') : NetA w' g F S m := h.mods hm (by simp)
theorem NetA.ok (h : NetA w g F S m) : S.Ok m := by obtain ⟨vc, X, rfl, h⟩ := h; exact h.ok
theorem NetA.self (h : NetA w g F S m) : g ∈ F := by obtain ⟨vc, X, rfl, h⟩ := h; simp [nfoot]
theorem NetA.more {n : Nat} (h : NetA w g F S m) (hmn : m ≤ n) (hn : n ≤ 900000000) : NetA w g F S n := by
  obtain ⟨vc, X, rfl, h⟩ := h
  exact ⟨vc, X, rfl, h.row, h.ptr, h.cs, h.ok.more hmn hn⟩
/-- The slice of pointers. -/
theorem NetF.slice (h : NetF w g vc X S m) : ∃ A c, vc = .slice A S.L.length c ∧ S.L.length ≤ c ∧ c ≤ maxLen := by
  obtain ⟨A, c, rfl, h1, h2⟩ := h.ptr.slice
  rw [pv_length, h.cs.len] at *
  exact ⟨A, c, rfl, h1, h2⟩
/-- Connection i's pointer. -/
theorem NetF.cell {A : Option Addr} {n c i : Nat} {x : Cb} (h : NetF w g (.slice A n c) X S m) (hx : X[i]? = some x) : ∃ b o, A = some ⟨b, o, none⟩ ∧ w.cell? ⟨b, o + i, none⟩ = some (.pointer (some ⟨x.b, 0, none⟩)) :=
  h.ptr.src i _ (pv_at hx)
end
theorem eql_nnil (p : Option Addr) (w : World) : (binOp .eql 27 (.pointer p) (.pointer none)).run Tryd.prog w = .ok (.bool p.isNone) w :=
  run_eql_pointer_nil _ _ _ (by kernel_rfl)
theorem neq_nnil (p : Option Addr) (w : World) : (binOp .neq 27 (.pointer p) (.pointer none)).run Tryd.prog w = .ok (.bool !p.isNone) w :=
  run_neq_pointer_nil _ _ _ (by kernel_rfl)
theorem eql_cnil (p : Option Addr) (w : World) : (binOp .eql 118 (.pointer p) (.pointer none)).run Tryd.prog w = .ok (.bool p.isNone) w :=
  run_eql_pointer_nil _ _ _ (by kernel_rfl)
theorem neq_cnil (p : Option Addr) (w : World) : (binOp .neq 118 (.pointer p) (.pointer none)).run Tryd.prog w = .ok (.bool !p.isNone) w :=
  run_neq_pointer_nil _ _ _ (by kernel_rfl)
def Nt.new (b : Int) : Nt := ⟨b, false, 0, [], 0⟩
theorem nnew_no (b : Int) (w : World) (h : b < 1 ∨ 64 < b) : Calls Tryd.prog 9 #[.int .i64 b] w fun e w' => e = .returned (.tuple #[.pointer none, .int .i64 1]) ∧ w = w' := by
  by_cases h1 : b < 1
  · go_enter Tryd.func9, Tryd.ntmps9
    go_wp2
    go_ret2
    exact ⟨rfl, rfl⟩
  · have h2 : 64 < b := by omega
    clear h
    go_enter Tryd.func9, Tryd.ntmps9
    go_wp2
    go_ret2
    exact ⟨rfl, rfl⟩
theorem nnew_any (b : Int) (w : World) (h1 : 1 ≤ b) (h2 : b ≤ 64) : Calls Tryd.prog 9 #[.int .i64 b] w fun e w' =>
    e = .returned (.tuple #[.pointer (some ⟨w.heap.size, 0, none⟩), .int .i64 0]) ∧ NetA w' w.heap.size [w.heap.size] (Nt.new b) 0 ∧ Mods [] w w' := by
  go_enter Tryd.func9, Tryd.ntmps9
  go_wp2
  go_ret2
  refine ⟨rfl, ⟨.slice none 0 0, [], rfl, ?_, Own.nil _ _, Cs.nil _, ⟨h1, h2, by simp [Nt.new], by simp [Nt.new], by simp [Nt.new], by simp [Nt.new], by simp [Nt.new], by simp [Nt.new], by simp⟩⟩, (Mods.refl _ _).alloc _⟩
  exact Row.new w _ _
theorem waiting_any (w : World) (g m : Nat) (F : List Nat) (S : Nt) (h : NetA w g F S m) :
    Calls Tryd.prog 56 #[.pointer (some ⟨g, 0, none⟩)] w fun e w' => e = .returned (.int .i64 S.wait) ∧ ∃ q, w' = w.drewN q := by
  obtain ⟨vc, X, rfl, h⟩ := h
  obtain ⟨A, c, rfl, -, -⟩ := h.slice
  have c3 := h.row.cell 3
  have c4 := h.row.cell 4
  have h1 := h.ok.n1
  have h2 := h.ok.n2
  have HW := Lib.hid (show S.wait = (S.L.length : Int) - S.first from rfl)
  clear h
  go_enter Tryd.func56, Tryd.ntmps56
  go_wp2
  go_quiet (fail)
  go_wp2
  go_ret
  exact ⟨ret_i64 (by rw [HW.out]), _, rfl⟩
theorem waits_any (w : World) (g m : Nat) (F : List Nat) (S : Nt) (i : Int) (h : NetA w g F S m) :
    Calls Tryd.prog 80 #[.pointer (some ⟨g, 0, none⟩), .int .i64 i] w fun e w' => e = .returned (.bool (decide ((S.first : Int) ≤ i))) ∧ w = w' := by
  obtain ⟨vc, X, rfl, h⟩ := h
  have c4 := h.row.cell 4
  clear h
  go_enter Tryd.func80, Tryd.ntmps80
  go_wp2
  go_ret
  exact ⟨rfl, rfl⟩
theorem find_no (w : World) (g m : Nat) (F : List Nat) (S : Nt) (c : Int) (h : NetA w g F S m) (hc : c < 0 ∨ (S.L.length : Int) ≤ c) :
    Calls Tryd.prog 73 #[.pointer (some ⟨g, 0, none⟩), .int .i64 c] w fun e w' => e = .returned (.pointer none) ∧ w = w' := by
  obtain ⟨vc, X, rfl, h⟩ := h
  obtain ⟨A, cc, rfl, -, -⟩ := h.slice
  have c3 := h.row.cell 3
  have hn := eql_nnil
  clear h
  by_cases h0 : c < 0
  · clear hc
    go_enter Tryd.func73, Tryd.ntmps73
    go_wp2
    go_ret
    exact ⟨rfl, rfl⟩
  · have h1 : (S.L.length : Int) ≤ c := by omega
    have h2 : decide ((S.L.length : Int) ≤ c) = true := by simpa using h1
    clear hc
    go_enter Tryd.func73, Tryd.ntmps73
    go_wp2
    go_ret
    exact ⟨rfl, rfl⟩
theorem find_nil (w : World) (c : Int) : Calls Tryd.prog 73 #[.pointer none, .int .i64 c] w fun e w' => e = .returned (.pointer none) ∧ w = w' := by
  have hn := eql_nnil
  go_enter Tryd.func73, Tryd.ntmps73
  go_wp2
  go_ret
  exact ⟨rfl, rfl⟩
theorem find_at (w : World) (g m i : Nat) (vc : Value) (X : List Cb) (S : Nt) (x : Cb) (h : NetF w g vc X S m) (hx : X[i]? = some x) :
    Calls Tryd.prog 73 #[.pointer (some ⟨g, 0, none⟩), .int .i64 i] w fun e w' => e = .returned (.pointer (some ⟨x.b, 0, none⟩)) ∧ w = w' := by
  obtain ⟨A, cc, rfl, -, -⟩ := h.slice
  obtain ⟨b, o, rfl, ci⟩ := h.cell hx
  have c3 := h.row.cell 3
  have hi : i < S.L.length := by rw [← h.cs.len]; exact (List.getElem?_eq_some_iff.1 hx).1
  have hi2 : decide ((S.L.length : Int) ≤ (i : Int)) = false := by simp; omega
  have hi3 : decide ((i : Int) < 0) = false := by simp
  have hl := h.ok.n2
  have hn := eql_nnil
  clear h hx
  go_enter Tryd.func73, Tryd.ntmps73
  go_wp2
  go_ret
  exact ⟨rfl, rfl⟩
theorem over_any (w : World) (g m i : Nat) (vc : Value) (X : List Cb) (S : Nt) (x : Cb) (s : Cn) (h : NetF w g vc X S m) (hx : X[i]? = some x) (hs : S.L[i]? = some s) :
    Calls Tryd.prog 83 #[.pointer (some ⟨g, 0, none⟩), .int .i64 i] w fun e w' => e = .returned (.bool (decide ((i : Int) < S.first) && !s.opn)) ∧ w = w' := by
  have HW := Lib.hid (waits_any w g m _ S (i : Int) ⟨vc, X, rfl, h⟩)
  obtain ⟨A, cc, rfl, -, -⟩ := h.slice
  obtain ⟨b, o, rfl, ci⟩ := h.cell hx
  have c3 := h.row.cell 3
  have hi : i < S.L.length := by rw [← h.cs.len]; exact (List.getElem?_eq_some_iff.1 hx).1
  have hl := h.ok.n2
  have co := (h.cs.at_ i x s hx hs).row.cell 1
  simp only [KP] at co
  clear h hx hs
  by_cases hw : i < S.first
  · have h1 : decide ((S.first : Int) ≤ (i : Int)) = false := by simp; omega
    have h2 : decide ((i : Int) < S.first) = true := by simp; omega
    rw [h1] at HW
    rw [h2]
    clear h1 h2
    go_enter Tryd.func83, Tryd.ntmps83
    go_wp2_with fail
    refine HW.out.mono ?_
    rintro e w' ⟨rfl, rfl⟩
    go_wp2
    go_ret
    exact ⟨ret_bool (by simp), rfl⟩
  · have h1 : decide ((S.first : Int) ≤ (i : Int)) = true := by simp; omega
    have h2 : decide ((i : Int) < S.first) = false := by simp; omega
    rw [h1] at HW
    rw [h2]
    clear h1 h2
    go_enter Tryd.func83, Tryd.ntmps83
    go_wp2_with fail
    refine HW.out.mono ?_
    rintro e w' ⟨rfl, rfl⟩
    go_wp2
    go_ret
    exact ⟨ret_bool (by simp), rfl⟩
end Go.Proofs.YthaapkafamdhcaaDoor
