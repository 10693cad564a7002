/- The code's fields, or none, and the code's tokens, as chapter 12 asks them. Conditions: names of at most a million bytes, values of at most 900000 bytes in all. -/
import Derived.Test.YtcliapfoimnkiaaDoorFd10
import Derived.Test.YtcliapfoimnkiaaDoorHs9
import Derived.Test.YtcliapfoimnkiaaDoorTb11
import Derived.Test.YtcliapfoimnkiaaDoorFm12
namespace Go.Proofs.YtcliapfoimnkiaaDoor
open Go.RowKit
set_option linter.unusedVariables false
set_option linter.unusedSimpArgs false

/-- Fields in memory, or none; their blocks lie below B. -/
def FP (t : TypeId) (B : Nat) (w : World) (fp : Value) (S : List FV) : Prop :=
  (fp = .pointer none ∧ S = []) ∨ ∃ g v, fp = ptr g ∧ Fld t w g v S ∧ g < B ∧ ∀ k ∈ v.ownBlock.toList, k < B
section
variable {t : TypeId} {B : Nat} {w w' : World} {fp : Value} {S : List FV} {F : List Nat}
theorem FP.mods (h : FP t B w fp S) (hm : Mods F w w') (hF : ∀ k ∈ F, B ≤ k) : FP t B w' fp S := by
  rcases h with h | ⟨g, v, e, hf, hg, hv⟩
  · exact .inl h
  · exact .inr ⟨g, v, e, hf.mods hm (fun h => by have := hF _ h; omega) (fun k hk h => by have := hF _ h; have := hv k hk; omega), hg, hv⟩
theorem FP.low (h : FP t B w fp S) (hm : Mods [] w w') : FP t B w' fp S := h.mods hm (by simp)
theorem FP.of_fld {g : Nat} {v : Value} (h : Fld t w g v S) : FP t w.heap.size w (ptr g) S := .inr ⟨g, v, rfl, h, h.row.lt, h.lt⟩
theorem FP.more {B' : Nat} (h : FP t B w fp S) (hB : B ≤ B') : FP t B' w fp S := by
  rcases h with h | ⟨g, v, e, hf, hg, hv⟩
  · exact .inl h
  · exact .inr ⟨g, v, e, hf, by omega, fun k hk => by have := hv k hk; omega⟩
theorem FP.form (h : FP t B w fp S) : ∃ A, fp = .pointer A := by
  rcases h with ⟨h, _⟩ | ⟨g, v, h, _⟩
  · exact ⟨_, h⟩
  · exact ⟨_, h⟩
end
/-- The values' bytes in all. -/
def Lite (S : List FV) : Prop := sizes (S.map (·.2)) ≤ 900000
theorem sizes_sub {l m : List ByteArray} (h : l.Sublist m) : sizes l ≤ sizes m := by
  induction h with
  | slnil => exact Nat.le_refl _
  | cons a _ ih => simp only [sizes]; omega
  | cons_cons a _ ih => simp only [sizes]; omega
theorem Lite.vals {S : List FV} (h : Lite S) (n : ByteArray) : sizes (valsF S n) ≤ 900000 := by
  refine Nat.le_trans (sizes_sub ?_) h
  unfold valsF namedF
  exact List.Sublist.map _ List.filter_sublist
theorem has_vals (S : List FV) (n : ByteArray) : hasF S n = decide (valsF S n ≠ []) := by
  rw [hasF_vals, decide_eq_decide]; exact List.length_pos_iff

theorem StrsAt.of_ss {W : World} {v : Value} {ts : List ByteArray} (h : SsAt W v ts) : StrsAt W v ts := by
  rcases h with h | ⟨b, off, cap, hv, h0, _, hb, hc⟩
  · exact .inl h
  · exact .inr ⟨b, off, cap, hv, h0, hb, hc⟩
theorem strs_nil {W : World} {v : Value} (h : StrsAt W v []) : ∃ a cap, v = .slice a 0 cap := h.len
theorem strs_one {W : World} {v : Value} {x : ByteArray} (h : StrsAt W v [x]) : ∃ (b off cap : Nat), v = .slice (some ⟨b, off, none⟩) 1 cap ∧ W.cell? ⟨b, off, none⟩ = some (.string x) := by
  rcases h with ⟨h, _⟩ | ⟨b, off, cap, hv, h0, hb, hc⟩
  · cases h
  · exact ⟨b, off, cap, hv, hc 0 (by simp)⟩
theorem strs_two {W : World} {v : Value} {x y : ByteArray} {r : List ByteArray} (h : StrsAt W v (x :: y :: r)) : ∃ a n cap, v = .slice a n cap ∧ 2 ≤ n := by
  obtain ⟨a, cap, hv⟩ := h.len
  exact ⟨a, _, cap, hv, by simp⟩
theorem StrsAt.low {W W' : World} {v : Value} {ts : List ByteArray} (h : StrsAt W v ts) (hm : Mods [] W W') : StrsAt W' v ts := h.below hm.below

set_option maxRecDepth 10000 in
theorem vals_nil (n : ByteArray) (w : World) : Calls Tryd.prog 15 #[.pointer none, .string n] w fun e w' => e = .returned (.slice none 0 0) ∧ w = w' := by
  go_enter Tryd.func15, Tryd.ntmps15
  go_wp2_with (go_at_call 28; refine (kept_nil _).mono ?_; rintro e w' ⟨rfl, rfl⟩)
  refine wp_loop_rounds 1 ?_
  rw [rounds_succ]
  go_wp2
  go_ret
  exact ⟨rfl, rfl⟩
theorem vals_p {B : Nat} {fp : Value} {S : List FV} (n : ByteArray) (w : World) (h : FP 36 B w fp S) (hn : n.size ≤ 1000000) :
    Calls Tryd.prog 15 #[fp, .string n] w fun e w' => ∃ u, e = .returned u ∧ StrsAt w' u (valsF S n) ∧ Mods [] w w' := by
  rcases h with ⟨rfl, rfl⟩ | ⟨g, v, rfl, hf, _, _⟩
  · exact (vals_nil n w).mono fun e w' ⟨h1, h2⟩ => ⟨_, h1, .inl ⟨rfl, _, _, rfl⟩, h2 ▸ Mods.refl _ _⟩
  · exact (vals_a n w hf hn).mono fun e w' ⟨u, h1, hG⟩ => ⟨u, h1, .of_ss (SsAt.of_row hG.row), hG.low⟩
theorem has_p {B : Nat} {fp : Value} {S : List FV} (n : ByteArray) (w : World) (h : FP 36 B w fp S) (hn : n.size ≤ 1000000) :
    Calls Tryd.prog 17 #[fp, .string n] w fun e w' => e = .returned (.bool (decide (valsF S n ≠ []))) ∧ Mods [] w w' := by
  rw [← has_vals]
  rcases h with ⟨rfl, rfl⟩ | ⟨g, v, rfl, hf, _, _⟩
  · exact has_nil n w hn
  · exact fhas_a n w hf hn
theorem get_p {B : Nat} {fp : Value} {S : List FV} (n : ByteArray) (w : World) (h : FP 36 B w fp S) (hn : n.size ≤ 1000000) (h0 : valsF S n ≠ []) :
    Calls Tryd.prog 23 #[fp, .string n] w fun e w' => e = .returned (.string (getF S n)) ∧ Mods [] w w' := by
  rcases h with ⟨rfl, rfl⟩ | ⟨g, v, rfl, hf, _, _⟩
  · exact absurd rfl h0
  · exact get_a n w hf hn
theorem tok_y {ts : List ByteArray} {L : List (List UInt8)} (hL : toksO ts = some L) (v : Value) (w : World) (h : StrsAt w v ts) (hs : sizes ts ≤ 900000) :
    Calls Tryd.prog 20 #[v] w fun e w' => ∃ u, e = .returned (.tuple #[u, .bool true]) ∧ StrsAt w' u (L.map ba) ∧ Mods [] w w' := by
  refine (tokens_a ts v w h (by omega)).mono fun e w' ⟨hb, ha⟩ => ?_
  rw [hL] at ha
  obtain ⟨u, h1, h2⟩ := ha
  exact ⟨u, h1, row_strs h2, .of_below hb⟩
theorem tok_n {ts : List ByteArray} (hL : toksO ts = none) (v : Value) (w : World) (h : StrsAt w v ts) (hs : sizes ts ≤ 900000) :
    Calls Tryd.prog 20 #[v] w fun e w' => e = .returned (.tuple #[.slice none 0 0, .bool false]) ∧ Mods [] w w' := by
  refine (tokens_a ts v w h (by omega)).mono fun e w' ⟨hb, ha⟩ => ?_
  rw [hL] at ha
  exact ⟨ha, .of_below hb⟩
theorem index_s (ts : List ByteArray) (v : Value) (x : ByteArray) (w : World) (h : StrsAt w v ts) (hs : ts.length ≤ 1000000) :
    Calls Tryd.prog 32 #[v, .string x] w fun e w' => e = .returned (.int .i64 (Lib.idxOfS ts x)) ∧ w' = w := by
  rcases h with ⟨rfl, a, cap, rfl⟩ | ⟨b, off, cap, rfl, h0, hb, hc⟩
  · exact Go.Proofs.Any.slices_Index_string_empty { l110 with } a cap x w
  · have := Go.Proofs.Any.slices_Index_string (ρ := l110_ren) { l110 with } b off ts.length cap ts x w (Nat.le_refl _) (by omega) (fun j hj => by rw [hc j hj, List.getD_eq_getElem?_getD, List.getElem?_eq_getElem hj]; rfl)
    rw [List.take_length] at this
    exact this

theorem least_of (p : Nat → Prop) (h : ∃ k, p k) : ∃ k, p k ∧ ∀ j, j < k → ¬ p j := by
  obtain ⟨k, hk⟩ := h
  induction k using Nat.strongRecOn with
  | ind k ih =>
    by_cases h : ∃ j, j < k ∧ p j
    · obtain ⟨j, hj, hp⟩ := h; exact ih j hj hp
    · exact ⟨k, hk, fun j hj hp => h ⟨j, hj, hp⟩⟩
/-! Where the last of some texts is the first that is x. -/
theorem idx_last {l : List ByteArray} {x : ByteArray} (h0 : l ≠ []) : Lib.idxOfS l x = (l.length : Int) - 1 ↔ l.getLast h0 = x ∧ x ∉ l.dropLast := by
  have hlen : 0 < l.length := List.length_pos_iff.2 h0
  have hD : ∀ j (hj : j < l.length), l.getD j ByteArray.empty = l[j] := fun j hj => by rw [List.getD_eq_getElem?_getD, List.getElem?_eq_getElem hj]; rfl
  have hl : l.getLast h0 = l[l.length - 1] := List.getLast_eq_getElem h0
  by_cases hx : ∃ k, ∃ h : k < l.length, l[k] = x
  · have hex := hx
    obtain ⟨k, ⟨hk, hkx⟩, hmin⟩ : ∃ k, (∃ h : k < l.length, l[k] = x) ∧ ∀ j, j < k → ¬ ∃ h : j < l.length, l[j] = x := by
      exact least_of _ hex
    have hi : Lib.idxOfS l x = k := by
      have := Lib.idxOfS_hit l l.length k x hk (Nat.le_refl _) (by rw [hD k hk, hkx]) (fun j hj e => hmin j hj ⟨by omega, by rw [← hD j (by omega)]; exact e⟩)
      rwa [List.take_length] at this
    rw [hi]
    constructor
    · intro h
      obtain rfl : k = l.length - 1 := by omega
      refine ⟨by rw [hl]; exact hkx, fun hm => ?_⟩
      obtain ⟨j, hj, he⟩ := List.mem_iff_getElem.1 hm
      rw [List.length_dropLast] at hj
      rw [List.getElem_dropLast] at he
      exact hmin j (by omega) ⟨by omega, he⟩
    · rintro ⟨h1, h2⟩
      by_cases hk2 : k = l.length - 1
      · omega
      · exfalso
        refine h2 (List.mem_iff_getElem.2 ⟨k, by rw [List.length_dropLast]; omega, ?_⟩)
        rw [List.getElem_dropLast]; exact hkx
  · have hi : Lib.idxOfS l x = -1 := by
      have := Lib.idxOfS_miss l l.length x (fun j hj e => hx ⟨j, hj, by rw [← hD j hj]; exact e⟩)
      rwa [List.take_length] at this
    rw [hi]
    constructor
    · intro h; omega
    · rintro ⟨h1, _⟩
      exact absurd ⟨l.length - 1, by omega, by rw [← hl]; exact h1⟩ hx
end Go.Proofs.YtcliapfoimnkiaaDoor
