/- Rows of numbers that came in, and the fields that chapter 12's laws make of them. Conditions: none. -/
import Derived.Test.YtcliapfoimnkiaaDoorOpenN
import Derived.Test.YtcliapfoimnkiaaDoorFn12
import Derived.Test.YtcliapfoimnkiaaDoorKn12
namespace Go.Proofs.YtcliapfoimnkiaaDoor
open Go.RowKit
set_option linter.unusedVariables false
set_option linter.unusedSimpArgs false

theorem and_maskK (a : Int) (m : Nat) (hm : m ≤ 65535) : ∃ k : Nat, bits BinOp.and IntKind.i64 a m = (k : Int) ∧ k ≤ m := by
  have e : bits BinOp.and IntKind.i64 a m = IntKind.i64.wrap ((BitVec.ofInt 64 a &&& BitVec.ofInt 64 m).toNat : Int) := rfl
  have h : (BitVec.ofInt 64 a &&& BitVec.ofInt 64 m).toNat ≤ m := by
    rw [BitVec.toNat_and]
    refine Nat.le_trans Nat.and_le_right ?_
    rw [BitVec.toNat_ofInt]
    omega
  refine ⟨(BitVec.ofInt 64 a &&& BitVec.ofInt 64 m).toNat, ?_, h⟩
  rw [e, IntKind.wrap_i64]
  omega
/-- Which of six a number picks. -/
def kOf (x : Int) : Nat := (bits BinOp.and IntKind.i64 x 1023).toNat % 6
theorem kOf_lt (x : Int) : kOf x < 6 := Nat.mod_lt _ (by decide)
theorem kOf_mem {xs : List Int} : ∀ k ∈ xs.map kOf, k < 6 := fun k hk => by
  obtain ⟨x, _, rfl⟩ := List.mem_map.1 hk
  exact kOf_lt x
theorem ints_gen {W : World} {v : Value} (h : IsInts W v) : ∃ (A : Option Addr) (C : Nat) (xs : List Int), v = .slice A xs.length C ∧ ∀ j (h : j < xs.length), ∃ b o, A = some ⟨b, o, none⟩ ∧ W.cell? ⟨b, o + j, none⟩ = some (.int .i64 xs[j]) := by
  rcases h with ⟨a, cap, rfl⟩ | ⟨b, off, len, cap, f, rfl, h0, _, _, hb, hc⟩
  · exact ⟨a, cap, [], rfl, fun j h => absurd h (Nat.not_lt_zero _)⟩
  · refine ⟨some ⟨b, off, none⟩, cap, (List.range len).map f, by simp, fun j hj => ⟨b, off, rfl, ?_⟩⟩
    have hj2 : j < len := by simpa using hj
    rw [(hc j hj2).1]; simp
theorem addF_all {l : List FV} (h : ∀ p ∈ l, okF p = true) (hl : l.length ≤ 24) : addF [] l = l := by
  unfold addF
  rw [show ([] : List FV).length = 0 from rfl, addR_end (fun j hj _ => h _ (List.getElem_mem hj)) (by omega), List.nil_append, List.take_length]
theorem host_ok : ∀ k : Fin 6, okF (kHOST, allH k.1) = true := by decide +kernel
theorem word_ok : ∀ k : Fin 6, okF (nCon, allW k.1) = true := by decide +kernel
theorem hosts_of (ks : List Nat) (hk : ∀ k ∈ ks, k < 6) (hl : ks.length ≤ 10) : addF [] (oneN kHOST (ks.map allH)) = oneN kHOST (ks.map allH) := by
  refine addF_all (fun p hp => ?_) (by unfold oneN; simp; omega)
  unfold oneN at hp
  obtain ⟨v, hv, rfl⟩ := List.mem_map.1 hp
  obtain ⟨k, hk2, rfl⟩ := List.mem_map.1 hv
  exact host_ok ⟨k, hk k hk2⟩
theorem sizes_small {l : List ByteArray} (h : ∀ x ∈ l, x.size ≤ 10) : sizes l ≤ l.length * 11 := by
  induction l with
  | nil => simp [sizes]
  | cons a r ih =>
    have h1 := h a (by simp)
    have h2 := ih fun x hx => h x (by simp [hx])
    simp only [sizes, List.length_cons]; omega
theorem one_small {n : ByteArray} (hn : n.size ≤ 1000000) {vs : List ByteArray} (h : ∀ x ∈ vs, x.size ≤ 10) : Small (oneN n vs) := fun p hp => by
  unfold oneN at hp
  obtain ⟨v, hv, rfl⟩ := List.mem_map.1 hp
  exact ⟨hn, Nat.le_trans (h v hv) (by decide)⟩
theorem one_vals (n : ByteArray) (vs : List ByteArray) : (oneN n vs).map (·.2) = vs := by unfold oneN; rw [List.map_map]; exact (List.map_congr_left (fun v _ => rfl)).trans (List.map_id _)
theorem allH_size : ∀ k : Fin 6, (allH k.1).size ≤ 10 := by decide +kernel
theorem allW_size : ∀ k : Fin 6, (allW k.1).size ≤ 10 := by decide +kernel
theorem mem_allH {ks : List Nat} (hk : ∀ k ∈ ks, k < 6) : ∀ x ∈ ks.map allH, x.size ≤ 10 := fun x hx => by
  obtain ⟨k, hk2, rfl⟩ := List.mem_map.1 hx
  exact allH_size ⟨k, hk k hk2⟩
theorem mem_allW {ks : List Nat} (hk : ∀ k ∈ ks, k < 6) : ∀ x ∈ ks.map allW, x.size ≤ 10 := fun x hx => by
  obtain ⟨k, hk2, rfl⟩ := List.mem_map.1 hx
  exact allW_size ⟨k, hk k hk2⟩
theorem min_lt {m : Int} (h : m < 1) : minN m = 0 := by unfold minN; rw [if_neg (by omega)]
theorem min_ge {m : Int} (h : 1 ≤ m) : minN m = 1 := by unfold minN; rw [if_pos h]
/-- What the code's Of answers to hosts. -/
theorem hosts_frm (m : Int) (ks : List Nat) (hk : ∀ k ∈ ks, k < 6) : frm m (oneN kHOST (ks.map allH)) = if 1 < ks.length ∨ ks.any (fun k => decide (3 ≤ k)) = true ∨ (ks = [] ∧ 1 ≤ m) then (noH, 400) else (⟨0, 0, decide (m < 1), false⟩, 0) := by
  unfold frm
  rw [hosts_law _ ks hk]
  by_cases h : m < 1
  · have e0 : minN m = 0 := min_lt h
    rw [e0, decide_eq_true h]
    by_cases h2 : 1 < ks.length ∨ ks.any (fun k => decide (3 ≤ k)) = true ∨ (ks = [] ∧ 1 ≤ m)
    · rw [if_pos h2, if_pos]
      rcases h2 with h2 | h2 | h2
      · exact .inl h2
      · exact .inr (.inl h2)
      · omega
    · rw [if_neg h2, if_neg]
      · rfl
      · rintro (h3 | h3 | h3)
        · exact h2 (.inl h3)
        · exact h2 (.inr (.inl h3))
        · cases h3.2
  · have e0 : minN m = 1 := min_ge (by omega)
    rw [e0, decide_eq_false h]
    by_cases h2 : 1 < ks.length ∨ ks.any (fun k => decide (3 ≤ k)) = true ∨ (ks = [] ∧ 1 ≤ m)
    · rw [if_pos h2, if_pos]
      rcases h2 with h2 | h2 | h2
      · exact .inl h2
      · exact .inr (.inl h2)
      · exact .inr (.inr ⟨h2.1, rfl⟩)
    · rw [if_neg h2, if_neg]
      · rfl
      · rintro (h3 | h3 | h3)
        · exact h2 (.inl h3)
        · exact h2 (.inr (.inl h3))
        · exact h2 (.inr (.inr ⟨h3.1, by omega⟩))
theorem Gt.lit (w : World) (t : TypeId) (size n : Nat) (cs : Array Value) (hs : cs.size = n * size) (hn : n ≤ 1000) : Gt w t size n cs.toList (.slice (some ⟨w.heap.size, 0, none⟩) n n) (w.alloc (.cells cs t)) :=
  ⟨World.ownsRow_lit w cs n (Nat.le_refl _) (by unfold maxLen; omega) hs, (Mods.refl [] w).alloc _⟩
/-- A host, and words of Connection. -/
def closeF (vs : List ByteArray) : List FV := oneN nHost [⟨#[97]⟩] ++ oneN nCon vs
theorem closeF_len (vs : List ByteArray) : (closeF vs).length = vs.length + 1 := by unfold closeF oneN; simp [Nat.add_comm]
theorem closeF_snoc (vs : List ByteArray) (v : ByteArray) : closeF (vs ++ [v]) = closeF vs ++ [(nCon, v)] := by unfold closeF oneN; simp
theorem closes_of (ks : List Nat) (hk : ∀ k ∈ ks, k < 6) (hl : ks.length ≤ 10) : addF [] (closeF (ks.map allW)) = closeF (ks.map allW) := by
  refine addF_all (fun p hp => ?_) (by rw [closeF_len, List.length_map]; omega)
  rcases List.mem_append.1 hp with hp | hp
  · have : p = (nHost, ⟨#[97]⟩) := by simpa [oneN] using hp
    subst this
    decide +kernel
  · unfold oneN at hp
    obtain ⟨v, hv, rfl⟩ := List.mem_map.1 hp
    obtain ⟨k, hk2, rfl⟩ := List.mem_map.1 hv
    exact word_ok ⟨k, hk k hk2⟩
theorem closes_small {ks : List Nat} (hk : ∀ k ∈ ks, k < 6) : Small (closeF (ks.map allW)) := fun p hp => by
  rcases List.mem_append.1 hp with hp | hp
  · have : p = (nHost, ⟨#[97]⟩) := by simpa [oneN] using hp
    subst this
    exact ⟨by decide, by decide⟩
  · exact one_small (by decide) (mem_allW hk) p hp
theorem closes_lite {ks : List Nat} (hk : ∀ k ∈ ks, k < 6) (hl : ks.length ≤ 10) : Lite (closeF (ks.map allW)) := by
  unfold Lite closeF
  rw [List.map_append, one_vals, one_vals, sizes_append]
  have h1 := sizes_small (mem_allW hk)
  rw [List.length_map] at h1
  have h2 : sizes [⟨#[97]⟩] = 2 := rfl
  omega
theorem closes_frm (m : Int) (ks : List Nat) (hk : ∀ k ∈ ks, k < 6) : frm m (closeF (ks.map allW)) = (⟨0, 0, ks.any (fun k => decide (k < 2)) || (decide (m < 1) && !ks.any (fun k => decide (k = 2 ∨ k = 3))), false⟩, 0) := by
  unfold frm closeF
  rw [closes_law _ ks hk]
  by_cases h : m < 1
  · rw [min_lt h, decide_eq_true h]; rfl
  · rw [min_ge (by omega), decide_eq_false h]; rfl
end Go.Proofs.YtcliapfoimnkiaaDoor
