/- The code's fields, or none, and the code's tokens, as chapter 12 asks them. Conditions: names of at most a million bytes, values of at most 900000 bytes in all. -/
import Derived.Test.YtcliapfoimnkiaaGreatDoorFd10
import Derived.Test.YtcliapfoimnkiaaGreatDoorHs9
import Derived.Test.YtcliapfoimnkiaaGreatDoorTb11
import Derived.Test.YtcliapfoimnkiaaGreatDoorMhM
import Derived.Deep.RegionWith
import Derived.Deep.RegionHeld3
import Derived.BigRegion
import Derived.Test.YtcliapfoimnkiaaGreatDoorLz9
import Derived.Test.YtcliapfoimnkiaaGreatDoorMem
import Derived.OwnWalk
import Derived.Laws.EntriesVeiled
namespace Go.Proofs.YtcliapfoimnkiaaGreatDoor
open Go.RowKit
set_option linter.unusedVariables false
set_option linter.unusedSimpArgs false

/-- Fields in memory, or none; their blocks lie below B. -/
def FP (t : TypeId) (B : Nat) (w : World) (fp : Value) (S : List FV) : Prop :=
  (fp = .pointer none ∧ S = []) ∨ ∃ g v, fp = ptr g ∧ Fld t w g v S ∧ g < B ∧ ∀ k ∈ v.ownBlock.toList, k < B
section
variable {t : TypeId} {B : Nat} {w w' : World} {fp : Value} {S : List FV} {F : List Nat}
theorem FP.mods (h : FP t B w fp S) (hm : Mods F w w') (hF : ∀ k ∈ F, B ≤ k) : FP t B w' fp S := by
  rcases h with h | ⟨g, v, e, hf, hg, hv⟩
  · exact .inl h
  · exact .inr ⟨g, v, e, hf.mods hm (fun h => by have := hF _ h; omega) (fun k hk h => by have := hF _ h; have := hv k hk; omega), hg, hv⟩
theorem FP.low (h : FP t B w fp S) (hm : Mods [] w w') : FP t B w' fp S := h.mods hm (by simp)
theorem FP.of_fld {g : Nat} {v : Value} (h : Fld t w g v S) : FP t w.heap.size w (ptr g) S := .inr ⟨g, v, rfl, h, h.row.lt, h.lt⟩
theorem FP.more {B' : Nat} (h : FP t B w fp S) (hB : B ≤ B') : FP t B' w fp S := by
  rcases h with h | ⟨g, v, e, hf, hg, hv⟩
  · exact .inl h
  · exact .inr ⟨g, v, e, hf, by omega, fun k hk => by have := hv k hk; omega⟩
theorem FP.form (h : FP t B w fp S) : ∃ A, fp = .pointer A := by
  rcases h with ⟨h, _⟩ | ⟨g, v, h, _⟩
  · exact ⟨_, h⟩
  · exact ⟨_, h⟩
end
/-- The values' bytes in all. -/
def Lite (S : List FV) : Prop := sizes (S.map (·.2)) ≤ 900000
theorem sizes_sub {l m : List ByteArray} (h : l.Sublist m) : sizes l ≤ sizes m := by
  induction h with
  | slnil => exact Nat.le_refl _
  | cons a _ ih => simp only [sizes]; omega
  | cons_cons a _ ih => simp only [sizes]; omega
theorem Lite.vals {S : List FV} (h : Lite S) (n : ByteArray) : sizes (valsF S n) ≤ 900000 := by
  refine Nat.le_trans (sizes_sub ?_) h
  unfold valsF namedF
  exact List.Sublist.map _ List.filter_sublist
theorem has_vals (S : List FV) (n : ByteArray) : hasF S n = decide (valsF S n ≠ []) := by
  rw [hasF_vals, decide_eq_decide]; exact List.length_pos_iff

theorem StrsAt.of_ss {W : World} {v : Value} {ts : List ByteArray} (h : SsAt W v ts) : StrsAt W v ts := by
  rcases h with h | ⟨b, off, cap, hv, h0, _, hb, hc⟩
  · exact .inl h
  · exact .inr ⟨b, off, cap, hv, h0, hb, hc⟩
theorem strs_nil {W : World} {v : Value} (h : StrsAt W v []) : ∃ a cap, v = .slice a 0 cap := h.len
theorem strs_one {W : World} {v : Value} {x : ByteArray} (h : StrsAt W v [x]) : ∃ (b off cap : Nat), v = .slice (some ⟨b, off, none⟩) 1 cap ∧ W.cell? ⟨b, off, none⟩ = some (.string x) := by
  rcases h with ⟨h, _⟩ | ⟨b, off, cap, hv, h0, hb, hc⟩
  · cases h
  · exact ⟨b, off, cap, hv, hc 0 (by simp)⟩
theorem strs_two {W : World} {v : Value} {x y : ByteArray} {r : List ByteArray} (h : StrsAt W v (x :: y :: r)) : ∃ a n cap, v = .slice a n cap ∧ 2 ≤ n := by
  obtain ⟨a, cap, hv⟩ := h.len
  exact ⟨a, _, cap, hv, by simp⟩
theorem StrsAt.low {W W' : World} {v : Value} {ts : List ByteArray} (h : StrsAt W v ts) (hm : Mods [] W W') : StrsAt W' v ts := h.below hm.below

set_option maxRecDepth 10000 in
theorem vals_nil (n : ByteArray) (w : World) : Calls Tryz.prog 28 #[.pointer none, .string n] w fun e w' => e = .returned (.slice none 0 0) ∧ w = w' := by
  go_enter Tryz.func28, Tryz.ntmps28
  go_wp2_with (go_at_call 43; refine (kept_nil _).mono ?_; rintro e w' ⟨rfl, rfl⟩)
  refine wp_loop_rounds 1 ?_
  rw [rounds_succ]
  go_wp2
  go_ret
  exact ⟨rfl, rfl⟩
theorem vals_p {B : Nat} {fp : Value} {S : List FV} (n : ByteArray) (w : World) (h : FP 63 B w fp S) (hn : n.size ≤ 1000000) :
    Calls Tryz.prog 28 #[fp, .string n] w fun e w' => ∃ u, e = .returned u ∧ StrsAt w' u (valsF S n) ∧ Mods [] w w' := by
  rcases h with ⟨rfl, rfl⟩ | ⟨g, v, rfl, hf, _, _⟩
  · exact (vals_nil n w).mono fun e w' ⟨h1, h2⟩ => ⟨_, h1, .inl ⟨rfl, _, _, rfl⟩, h2 ▸ Mods.refl _ _⟩
  · exact (vals_a n w hf hn).mono fun e w' ⟨u, h1, hG⟩ => ⟨u, h1, .of_ss (SsAt.of_row hG.row), hG.low⟩
theorem has_p {B : Nat} {fp : Value} {S : List FV} (n : ByteArray) (w : World) (h : FP 63 B w fp S) (hn : n.size ≤ 1000000) :
    Calls Tryz.prog 30 #[fp, .string n] w fun e w' => e = .returned (.bool (decide (valsF S n ≠ []))) ∧ Mods [] w w' := by
  rw [← has_vals]
  rcases h with ⟨rfl, rfl⟩ | ⟨g, v, rfl, hf, _, _⟩
  · exact has_nil n w hn
  · exact fhas_a n w hf hn
theorem get_p {B : Nat} {fp : Value} {S : List FV} (n : ByteArray) (w : World) (h : FP 63 B w fp S) (hn : n.size ≤ 1000000) (h0 : valsF S n ≠ []) :
    Calls Tryz.prog 36 #[fp, .string n] w fun e w' => e = .returned (.string (getF S n)) ∧ Mods [] w w' := by
  rcases h with ⟨rfl, rfl⟩ | ⟨g, v, rfl, hf, _, _⟩
  · exact absurd rfl h0
  · exact get_a n w hf hn
theorem tok_y {ts : List ByteArray} {L : List (List UInt8)} (hL : toksO ts = some L) (v : Value) (w : World) (h : StrsAt w v ts) (hs : sizes ts ≤ 900000) :
    Calls Tryz.prog 33 #[v] w fun e w' => ∃ u, e = .returned (.tuple #[u, .bool true]) ∧ StrsAt w' u (L.map ba) ∧ Mods [] w w' := by
  refine (tokens_a ts v w h (by omega)).mono fun e w' ⟨hb, ha⟩ => ?_
  rw [hL] at ha
  obtain ⟨u, h1, h2⟩ := ha
  exact ⟨u, h1, row_strs h2, .of_below hb⟩
theorem tok_n {ts : List ByteArray} (hL : toksO ts = none) (v : Value) (w : World) (h : StrsAt w v ts) (hs : sizes ts ≤ 900000) :
    Calls Tryz.prog 33 #[v] w fun e w' => e = .returned (.tuple #[.slice none 0 0, .bool false]) ∧ Mods [] w w' := by
  refine (tokens_a ts v w h (by omega)).mono fun e w' ⟨hb, ha⟩ => ?_
  rw [hL] at ha
  exact ⟨ha, .of_below hb⟩
theorem index_s (ts : List ByteArray) (v : Value) (x : ByteArray) (w : World) (h : StrsAt w v ts) (hs : ts.length ≤ 1000000) :
    Calls Tryz.prog 50 #[v, .string x] w fun e w' => e = .returned (.int .i64 (Lib.idxOfS ts x)) ∧ w' = w := by
  rcases h with ⟨rfl, a, cap, rfl⟩ | ⟨b, off, cap, rfl, h0, hb, hc⟩
  · exact Go.Proofs.Any.slices_Index_string_empty { l110 with } a cap x w
  · have := Go.Proofs.Any.slices_Index_string (ρ := l110_ren) { l110 with } b off ts.length cap ts x w (Nat.le_refl _) (by omega) (fun j hj => by rw [hc j hj, List.getD_eq_getElem?_getD, List.getElem?_eq_getElem hj]; rfl)
    rw [List.take_length] at this
    exact this

theorem least_of (p : Nat → Prop) (h : ∃ k, p k) : ∃ k, p k ∧ ∀ j, j < k → ¬ p j := by
  obtain ⟨k, hk⟩ := h
  induction k using Nat.strongRecOn with
  | ind k ih =>
    by_cases h : ∃ j, j < k ∧ p j
    · obtain ⟨j, hj, hp⟩ := h; exact ih j hj hp
    · exact ⟨k, hk, fun j hj hp => h ⟨j, hj, hp⟩⟩
/-! Where the last of some texts is the first that is x. -/
theorem idx_last {l : List ByteArray} {x : ByteArray} (h0 : l ≠ []) : Lib.idxOfS l x = (l.length : Int) - 1 ↔ l.getLast h0 = x ∧ x ∉ l.dropLast := by
  have hlen : 0 < l.length := List.length_pos_iff.2 h0
  have hD : ∀ j (hj : j < l.length), l.getD j ByteArray.empty = l[j] := fun j hj => by rw [List.getD_eq_getElem?_getD, List.getElem?_eq_getElem hj]; rfl
  have hl : l.getLast h0 = l[l.length - 1] := List.getLast_eq_getElem h0
  by_cases hx : ∃ k, ∃ h : k < l.length, l[k] = x
  · have hex := hx
    obtain ⟨k, ⟨hk, hkx⟩, hmin⟩ : ∃ k, (∃ h : k < l.length, l[k] = x) ∧ ∀ j, j < k → ¬ ∃ h : j < l.length, l[j] = x := by
      exact least_of _ hex
    have hi : Lib.idxOfS l x = k := by
      have := Lib.idxOfS_hit l l.length k x hk (Nat.le_refl _) (by rw [hD k hk, hkx]) (fun j hj e => hmin j hj ⟨by omega, by rw [← hD j (by omega)]; exact e⟩)
      rwa [List.take_length] at this
    rw [hi]
    constructor
    · intro h
      obtain rfl : k = l.length - 1 := by omega
      refine ⟨by rw [hl]; exact hkx, fun hm => ?_⟩
      obtain ⟨j, hj, he⟩ := List.mem_iff_getElem.1 hm
      rw [List.length_dropLast] at hj
      rw [List.getElem_dropLast] at he
      exact hmin j (by omega) ⟨by omega, he⟩
    · rintro ⟨h1, h2⟩
      by_cases hk2 : k = l.length - 1
      · omega
      · exfalso
        refine h2 (List.mem_iff_getElem.2 ⟨k, by rw [List.length_dropLast]; omega, ?_⟩)
        rw [List.getElem_dropLast]; exact hkx
  · have hi : Lib.idxOfS l x = -1 := by
      have := Lib.idxOfS_miss l l.length x (fun j hj e => hx ⟨j, hj, by rw [← hD j hj]; exact e⟩)
      rwa [List.take_length] at this
    rw [hi]
    constructor
    · intro h; omega
    · rintro ⟨h1, _⟩
      exact absurd ⟨l.length - 1, by omega, by rw [← hl]; exact h1⟩ hx
end Go.Proofs.YtcliapfoimnkiaaGreatDoor

/- The steps of the code's walk through a head: host, coding, length, body, connection, expect, each by its plain answer. Conditions: names of at most a million bytes, values of at most 900000 bytes in all. -/
namespace Go.Proofs.YtcliapfoimnkiaaGreatDoor
open Go.RowKit
set_option linter.unusedVariables false
set_option linter.unusedSimpArgs false

/-- The walk in memory. -/
def WkA (w : World) (p : Nat) (el : Bool) (fp : Value) (k l : Int) (c x : Bool) : Prop := Row w p 41 #[.bool el, fp, .int .i64 k, .int .i64 l, .bool c, .bool x]
def minOf (el : Bool) : Int := if el = true then 0 else 1

set_option maxRecDepth 10000 in
theorem ishost_a (v : ByteArray) (w : World) (hs : v.size ≤ 1000000) : Calls Tryz.prog 29 #[.string v] w fun e w' => e = .returned (.bool (decide (v.data.toList = []) || hostL v.data.toList)) ∧ w = w' := by
  have HH := Lib.hid (fun w => host_a v w hs)
  by_cases h : v.data.toList = []
  · have he := text_eq h
    have HE := Lib.hid (decide_eq_true h)
    clear h
    go_enter Tryz.func29, Tryz.ntmps29
    go_wp2
    go_ret
    exact ⟨by rw [HE.out]; rfl, rfl⟩
  · have he := text_ne h
    have HE := Lib.hid (decide_eq_false h)
    clear h
    go_enter Tryz.func29, Tryz.ntmps29
    go_wp2_with (go_at_call 47; refine (HH.out _).mono ?_; rintro e w1 ⟨rfl, rfl⟩)
    go_ret
    exact ⟨by rw [HE.out]; rfl, rfl⟩

/-- The status of the host. -/
def hostS (m : Int) (vs : List ByteArray) : Int := if hostOk m vs = true then 0 else 400
set_option maxRecDepth 10000 in
theorem host_w {w : World} {p : Nat} {el : Bool} {fp : Value} {k l : Int} {c x : Bool} {S : List FV} {B : Nat} (hr : WkA w p el fp k l c x) (hf : FP 63 B w fp S) (hs : Lite S) :
    Calls Tryz.prog 12 #[ptr p] w fun e w' => e = .returned (.int .i64 (hostS (minOf el) (valsF S nHost))) ∧ Mods [] w w' := by
  have c0 : w.cell? ⟨p, 0, none⟩ = some (.bool el) := hr.cell 0
  have c1 : w.cell? ⟨p, 1, none⟩ = some fp := hr.cell 1
  have HV := Lib.hid (vals_p nHost w hf (by decide))
  have HS := Lib.hid (hs.vals nHost)
  obtain ⟨A, rfl⟩ := hf.form
  clear hr hf hs
  unfold ptr
  generalize valsF S nHost = vs at *
  match vs with
  | [] =>
    cases el
    · go_enter Tryz.func12, Tryz.ntmps12
      go_wp2_with (go_at_call 28; refine HV.out.mono ?_; rintro e w1 ⟨u, rfl, hA, hm⟩; obtain ⟨a, cap, rfl⟩ := strs_nil hA; have d0 := cell_mods c0 hm (by simp); have HM := Lib.hid hm; clear hA hm)
      go_ret
      exact ⟨rfl, HM.out⟩
    · go_enter Tryz.func12, Tryz.ntmps12
      go_wp2_with (go_at_call 28; refine HV.out.mono ?_; rintro e w1 ⟨u, rfl, hA, hm⟩; obtain ⟨a, cap, rfl⟩ := strs_nil hA; have d0 := cell_mods c0 hm (by simp); have HM := Lib.hid hm; clear hA hm)
      go_ret
      exact ⟨rfl, HM.out⟩
  | [v] =>
    have HI := Lib.hid (fun w => ishost_a v w (by have := HS.out; simp only [sizes] at this; omega))
    cases hh : (decide (v.data.toList = []) || hostL v.data.toList) with
    | true =>
      rw [hh] at HI
      have HA := Lib.hid (show hostS (minOf el) [v] = 0 by unfold hostS; rw [show hostOk (minOf el) [v] = true from hh]; rfl)
      clear hh
      go_enter Tryz.func12, Tryz.ntmps12
      go_wp2_with (first
        | (go_at_call 28; refine HV.out.mono ?_; rintro e w1 ⟨u, rfl, hA, hm⟩; obtain ⟨b, off, cap, rfl, d1⟩ := strs_one hA; have HM := Lib.hid hm; clear hA hm)
        | (go_at_call 29; refine (HI.out _).mono ?_; rintro e w2 ⟨rfl, rfl⟩))
      go_ret
      exact ⟨by rw [HA.out]; rfl, HM.out⟩
    | false =>
      rw [hh] at HI
      have HA := Lib.hid (show hostS (minOf el) [v] = 400 by unfold hostS; rw [show hostOk (minOf el) [v] = false from hh]; rfl)
      clear hh
      go_enter Tryz.func12, Tryz.ntmps12
      go_wp2_with (first
        | (go_at_call 28; refine HV.out.mono ?_; rintro e w1 ⟨u, rfl, hA, hm⟩; obtain ⟨b, off, cap, rfl, d1⟩ := strs_one hA; have HM := Lib.hid hm; clear hA hm)
        | (go_at_call 29; refine (HI.out _).mono ?_; rintro e w2 ⟨rfl, rfl⟩))
      go_ret
      exact ⟨by rw [HA.out]; rfl, HM.out⟩
  | v :: v2 :: r =>
    go_enter Tryz.func12, Tryz.ntmps12
    go_wp2_with (go_at_call 28; refine HV.out.mono ?_; rintro e w1 ⟨u, rfl, hA, hm⟩; obtain ⟨a, n, cap, rfl, hn⟩ := strs_two hA; have hd : decide (1 < n) = true := decide_eq_true (by omega); have HM := Lib.hid hm; clear hA hm)
    go_ret
    exact ⟨rfl, HM.out⟩

/-! Codings. -/
def chB : ByteArray := ⟨#[99, 104, 117, 110, 107, 101, 100]⟩
theorem cod_elder (cl te : List ByteArray) : codS (minOf true) cl te = 400 := by unfold codS minOf; simp
theorem cod_len {cl te : List ByteArray} (h : cl ≠ []) (m : Int) : codS m cl te = 400 := by unfold codS; rw [if_pos (.inr h)]
theorem cod_none {te : List ByteArray} (h : toksO te = none) : codS 1 [] te = 400 := by unfold codS; rw [h]; simp
theorem cod_nil {te : List ByteArray} (h : toksO te = some []) : codS 1 [] te = 400 := by unfold codS; rw [h]; decide
theorem cod_idx {L : List (List UInt8)} (h0 : L ≠ []) : Lib.idxOfS (L.map ba) chB = (L.length : Int) - 1 ↔ L.getLastD [] = chunkedL ∧ chunkedL ∉ L.dropLast := by
  have h := idx_last (l := L.map ba) (x := chB) (by simpa using h0)
  rw [List.length_map] at h
  rw [h, List.getLast_map, ← List.map_dropLast]
  have hb : chB = ba chunkedL := rfl
  have hg : L.getLastD [] = L.getLast h0 := by
    cases L with
    | nil => exact absurd rfl h0
    | cons a r => rw [List.getLastD_cons]; rw [List.getLast_eq_getLastD]
  rw [hb, hg]
  constructor
  · rintro ⟨h1, h2⟩
    exact ⟨ba_inj h1, fun h => h2 (List.mem_map.2 ⟨_, h, rfl⟩)⟩
  · rintro ⟨h1, h2⟩
    refine ⟨by rw [h1], fun h => ?_⟩
    obtain ⟨y, hy, he⟩ := List.mem_map.1 h
    exact h2 (ba_inj he ▸ hy)
theorem cod_bad {te : List ByteArray} {L : List (List UInt8)} (h : toksO te = some L) (h0 : L ≠ []) (hi : Lib.idxOfS (L.map ba) chB ≠ (L.length : Int) - 1) : codS 1 [] te = 400 := by
  have hn : ¬ (L.getLastD [] = chunkedL ∧ chunkedL ∉ L.dropLast) := fun h => hi ((cod_idx h0).2 h)
  unfold codS
  rw [if_neg (by simp), h]
  simp only
  by_cases h1 : L.getLastD [] ≠ chunkedL
  · rw [if_pos h1]
  · have h1 : L.getLastD [] = chunkedL := Classical.not_not.1 h1
    have h2 : chunkedL ∈ L.dropLast := Classical.byContradiction fun h => hn ⟨h1, h⟩
    rw [if_neg (by simpa using h1), if_neg (fun e => by
      have := List.length_pos_of_mem h2
      rw [List.length_dropLast] at this; omega), if_pos h2]
theorem cod_one {te : List ByteArray} {L : List (List UInt8)} (h : toksO te = some L) (h0 : L ≠ []) (hi : Lib.idxOfS (L.map ba) chB = (L.length : Int) - 1) (h1 : L.length = 1) : codS 1 [] te = 0 := by
  obtain ⟨a, b⟩ := (cod_idx h0).1 hi
  unfold codS
  rw [if_neg (by simp), h]
  simp only
  rw [if_neg (by simpa using a), if_pos h1]
theorem cod_more {te : List ByteArray} {L : List (List UInt8)} (h : toksO te = some L) (h0 : L ≠ []) (hi : Lib.idxOfS (L.map ba) chB = (L.length : Int) - 1) (h1 : L.length ≠ 1) : codS 1 [] te = 501 := by
  obtain ⟨a, b⟩ := (cod_idx h0).1 hi
  unfold codS
  rw [if_neg (by simp), h]
  simp only
  rw [if_neg (by simpa using a), if_neg h1, if_neg b]
theorem strs_map {W : World} {v : Value} {L : List (List UInt8)} (h : StrsAt W v (L.map ba)) : ∃ a cap, v = .slice a L.length cap := by
  obtain ⟨a, cap, h⟩ := h.len; rw [List.length_map] at h; exact ⟨a, cap, h⟩

/-- What a step answers that has found kind and length. -/
def Step (w : World) (p : Nat) (s : Int) (el : Bool) (fp : Value) (k l : Int) (c x : Bool) (e : Ending) (w' : World) : Prop :=
  e = .returned (.int .i64 s) ∧ (s = 0 → WkA w' p el fp k l c x) ∧ Mods [p] w w'
set_option maxRecDepth 10000 in
theorem coding_w {w : World} {p : Nat} {el : Bool} {fp : Value} {k l : Int} {c x : Bool} {S : List FV} {B : Nat} (hr : WkA w p el fp k l c x) (hf : FP 63 B w fp S) (hs : Lite S) :
    Calls Tryz.prog 31 #[ptr p] w (Step w p (codS (minOf el) (valsF S nCL) (valsF S nTE)) el fp 2 l c x) := by
  have c0 : w.cell? ⟨p, 0, none⟩ = some (.bool el) := hr.cell 0
  have c1 : w.cell? ⟨p, 1, none⟩ = some fp := hr.cell 1
  have HS := Lib.hid (hs.vals nTE)
  have HR := Lib.hid hr
  have HH := Lib.hid (has_p nCL w hf (by decide))
  have HV := Lib.hid (fun w' (hm : Mods [] w w') => vals_p nTE w' (hf.low hm) (by decide))
  obtain ⟨A, rfl⟩ := hf.form
  clear hr hf hs
  unfold ptr
  generalize valsF S nTE = te at *
  generalize valsF S nCL = cl at *
  cases el with
  | true =>
    have HC := Lib.hid (cod_elder cl te)
    go_enter Tryz.func31, Tryz.ntmps31
    go_wp2
    go_ret
    exact ⟨by rw [HC.out]; rfl, fun h => absurd (HC.out.symm.trans h) (by decide), Mods.refl _ _⟩
  | false =>
    by_cases hcl : cl = []
    · subst hcl
      rw [show decide (([] : List ByteArray) ≠ []) = false from rfl] at HH
      cases hT : toksO te with
      | none =>
        have HC := Lib.hid (cod_none hT)
        have HT := Lib.hid (fun v w h => tok_n hT v w h HS.out)
        clear hT
        go_enter Tryz.func31, Tryz.ntmps31
        go_wp2_with (first
          | (go_at_call 30; refine HH.out.mono ?_; rintro e w1 ⟨rfl, hm⟩; have d1 := cell_mods c1 hm (by simp); have HM1 := Lib.hid hm; clear hm)
          | (go_at_call 28; refine (HV.out _ HM1.out).mono ?_; rintro e w2 ⟨u, rfl, hA, hm⟩; have HA := Lib.hid hA; have HM2 := Lib.hid (HM1.out.trans hm (fun _ h => nomatch h)); clear hA hm)
          | (go_at_call 33; refine (HT.out _ _ HA.out).mono ?_; rintro e w3 ⟨rfl, hm⟩; have HM3 := Lib.hid (HM2.out.trans hm (fun _ h => nomatch h)); clear hm))
        go_ret
        exact ⟨by rw [show minOf false = 1 from rfl, HC.out]; rfl, fun h => absurd (HC.out.symm.trans h) (by decide), HM3.out.more (by simp)⟩
      | some L =>
        have hlen := Nat.le_trans (toksO_len hT) HS.out
        have HT := Lib.hid (fun v w h => tok_y hT v w h HS.out)
        by_cases h0 : L = []
        · subst h0
          have HC := Lib.hid (cod_nil hT)
          clear hT hlen
          go_enter Tryz.func31, Tryz.ntmps31
          go_wp2_with (first
            | (go_at_call 30; refine HH.out.mono ?_; rintro e w1 ⟨rfl, hm⟩; have d1 := cell_mods c1 hm (by simp); have HM1 := Lib.hid hm; clear hm)
            | (go_at_call 28; refine (HV.out _ HM1.out).mono ?_; rintro e w2 ⟨u, rfl, hA, hm⟩; have HA := Lib.hid hA; have HM2 := Lib.hid (HM1.out.trans hm (fun _ h => nomatch h)); clear hA hm)
            | (go_at_call 33; refine (HT.out _ _ HA.out).mono ?_; rintro e w3 ⟨u2, rfl, hA2, hm⟩; obtain ⟨a, cap, rfl⟩ := strs_nil hA2; have HM3 := Lib.hid (HM2.out.trans hm (fun _ h => nomatch h)); clear hm hA2))
          go_ret
          exact ⟨by rw [show minOf false = 1 from rfl, HC.out]; rfl, fun h => absurd (HC.out.symm.trans h) (by decide), HM3.out.more (by simp)⟩
        · have hpos : 0 < L.length := List.length_pos_iff.2 h0
          have HN := Lib.hid (fun W v (h : StrsAt W v (L.map ba)) => strs_map h)
          have HX := Lib.hid (fun v w h => index_s (L.map ba) v chB w h (by rw [List.length_map]; omega))
          by_cases hi : Lib.idxOfS (L.map ba) chB = (L.length : Int) - 1
          · have H1 := Lib.hid (cod_one hT h0 hi)
            have H2 := Lib.hid (cod_more hT h0 hi)
            rw [hi] at HX
            clear hT h0 hi
            generalize L.length = n at *
            have hne : (((n : Int) - 1) != ((n : Int) - 1)) = false := by simp
            have hlt : decide ((n : Int) - 1 < 0) = false := decide_eq_false (by omega)
            by_cases h1 : n = 1
            · have HC := Lib.hid (H1.out h1)
              subst h1
              rw [show ((1 : Nat) : Int) - 1 = 0 from rfl] at HX
              clear hne hlt hlen hpos
              clear H1 H2
              go_enter Tryz.func31, Tryz.ntmps31
              go_wp2_with (first
                | (go_at_call 30; refine HH.out.mono ?_; rintro e w1 ⟨rfl, hm⟩; have d1 := cell_mods c1 hm (by simp); have HM1 := Lib.hid hm; clear hm)
                | (go_at_call 28; refine (HV.out _ HM1.out).mono ?_; rintro e w2 ⟨u, rfl, hA, hm⟩; have HA := Lib.hid hA; have HM2 := Lib.hid (HM1.out.trans hm (fun _ h => nomatch h)); clear hA hm)
                | (go_at_call 33; refine (HT.out _ _ HA.out).mono ?_; rintro e w3 ⟨u2, rfl, hA2, hm⟩; have HA2 := Lib.hid hA2; obtain ⟨a, cap, rfl⟩ := HN.out _ _ hA2; have HM3 := Lib.hid (HM2.out.trans hm (fun _ h => nomatch h)); have e2 : w3.cell? ⟨p, 2, none⟩ = some (.int .i64 k) := (HR.out.mods HM3.out (by simp)).cell 2; have g2 : w3.frozen? ⟨p, 2, none⟩ = false := (HR.out.mods HM3.out (by simp)).free 2; clear hm hA2)
                | (go_at_call 50; refine (HX.out _ _ HA2.out).mono ?_; rintro e w4 ⟨rfl, rfl⟩))
              go_ret
              exact ⟨by rw [show minOf false = 1 from rfl, HC.out]; rfl, fun _ => (HR.out.mods HM3.out (by simp)).set 2 _, (HM3.out.more (by simp)).setCell (.inl (by simp)) _⟩
            · have HC := Lib.hid (H2.out h1)
              have hgt : decide ((n : Int) - 1 > 0) = true := decide_eq_true (by omega)
              clear H1 H2
              go_enter Tryz.func31, Tryz.ntmps31
              go_wp2_with (first
                | (go_at_call 30; refine HH.out.mono ?_; rintro e w1 ⟨rfl, hm⟩; have d1 := cell_mods c1 hm (by simp); have HM1 := Lib.hid hm; clear hm)
                | (go_at_call 28; refine (HV.out _ HM1.out).mono ?_; rintro e w2 ⟨u, rfl, hA, hm⟩; have HA := Lib.hid hA; have HM2 := Lib.hid (HM1.out.trans hm (fun _ h => nomatch h)); clear hA hm)
                | (go_at_call 33; refine (HT.out _ _ HA.out).mono ?_; rintro e w3 ⟨u2, rfl, hA2, hm⟩; have HA2 := Lib.hid hA2; obtain ⟨a, cap, rfl⟩ := HN.out _ _ hA2; have HM3 := Lib.hid (HM2.out.trans hm (fun _ h => nomatch h)); clear hm hA2)
                | (go_at_call 50; refine (HX.out _ _ HA2.out).mono ?_; rintro e w4 ⟨rfl, rfl⟩))
              go_ret
              exact ⟨by rw [show minOf false = 1 from rfl, HC.out]; rfl, fun h => absurd (HC.out.symm.trans h) (by decide), HM3.out.more (by simp)⟩
          · have HC := Lib.hid (cod_bad hT h0 hi)
            generalize Lib.idxOfS (L.map ba) chB = i at *
            clear hT h0
            generalize L.length = n at *
            have hne : (i != ((n : Int) - 1)) = true := by simpa using hi
            have hlt : decide ((n : Int) - 1 < 0) = false := decide_eq_false (by omega)
            clear hi
            go_enter Tryz.func31, Tryz.ntmps31
            go_wp2_with (first
              | (go_at_call 30; refine HH.out.mono ?_; rintro e w1 ⟨rfl, hm⟩; have d1 := cell_mods c1 hm (by simp); have HM1 := Lib.hid hm; clear hm)
              | (go_at_call 28; refine (HV.out _ HM1.out).mono ?_; rintro e w2 ⟨u, rfl, hA, hm⟩; have HA := Lib.hid hA; have HM2 := Lib.hid (HM1.out.trans hm (fun _ h => nomatch h)); clear hA hm)
              | (go_at_call 33; refine (HT.out _ _ HA.out).mono ?_; rintro e w3 ⟨u2, rfl, hA2, hm⟩; have HA2 := Lib.hid hA2; obtain ⟨a, cap, rfl⟩ := HN.out _ _ hA2; have HM3 := Lib.hid (HM2.out.trans hm (fun _ h => nomatch h)); clear hm hA2)
              | (go_at_call 50; refine (HX.out _ _ HA2.out).mono ?_; rintro e w4 ⟨rfl, rfl⟩))
            go_ret
            exact ⟨by rw [show minOf false = 1 from rfl, HC.out]; rfl, fun h => absurd (HC.out.symm.trans h) (by decide), HM3.out.more (by simp)⟩
    · rw [show decide (cl ≠ []) = true from decide_eq_true hcl] at HH
      have HC := Lib.hid (cod_len (te := te) hcl (minOf false))
      clear hcl
      go_enter Tryz.func31, Tryz.ntmps31
      go_wp2_with (go_at_call 30; refine HH.out.mono ?_; rintro e w1 ⟨rfl, hm⟩; have HM1 := Lib.hid hm; clear hm)
      go_ret
      exact ⟨by rw [HC.out]; rfl, fun h => absurd (HC.out.symm.trans h) (by decide), HM1.out.more (by simp)⟩
end Go.Proofs.YtcliapfoimnkiaaGreatDoor

/- The steps of the code's walk through a head: length, body, connection, expect. Conditions: names of at most a million bytes, values of at most 900000 bytes in all. -/
namespace Go.Proofs.YtcliapfoimnkiaaGreatDoor
open Go.RowKit
set_option linter.unusedVariables false
set_option linter.unusedSimpArgs false

/-! Lengths. -/
def numF (y : List UInt8) : Int := (numB 10 15 y).1
def goodF (f : Int) (y : List UInt8) : Bool := (numB 10 15 y).2 && numF y == f
theorem lenN_cons (x : List UInt8) (r : List (List UInt8)) : lenN (x :: r) = if (numB 10 15 x).2 = true ∧ r.all (fun y => (numB 10 15 y).2 && (numB 10 15 y).1 == (numB 10 15 x).1) = true then some (numB 10 15 x).1 else none := rfl
theorem lenN_all {x : List UInt8} {r : List (List UInt8)} (h : ∀ j (hj : j < (x :: r).length), goodF (numF x) (x :: r)[j] = true) : lenN (x :: r) = some (numF x) := by
  have h0 := h 0 (by simp)
  unfold goodF at h0
  simp only [List.getElem_cons_zero, Bool.and_eq_true] at h0
  rw [lenN_cons, if_pos ⟨h0.1, List.all_eq_true.2 fun y hy => by
    obtain ⟨j, hj, rfl⟩ := List.mem_iff_getElem.1 hy
    have := h (j + 1) (by simp; omega)
    rw [List.getElem_cons_succ] at this
    exact this⟩]
  rfl
theorem lenN_bad {x : List UInt8} {r : List (List UInt8)} {j : Nat} (hj : j < (x :: r).length) (h : goodF (numF x) (x :: r)[j] = false) : lenN (x :: r) = none := by
  rw [lenN_cons, if_neg]
  rintro ⟨h1, h2⟩
  cases j with
  | zero =>
    rw [List.getElem_cons_zero] at h
    unfold goodF at h
    rw [h1] at h
    simp at h
  | succ j =>
    rw [List.getElem_cons_succ] at h
    have := List.all_eq_true.1 h2 _ (List.getElem_mem (h := by simp at hj; omega))
    unfold goodF at h
    exact absurd (this.symm.trans h) (by simp)
theorem len_toks {cl : List ByteArray} (h : toksO cl = none) : lenS cl = (0, 400) := by unfold lenS; rw [h]
theorem lenv_nil {cl : List ByteArray} (h : toksO cl = some []) : lenS cl = (0, 400) := by unfold lenS; rw [h]; rfl
theorem len_bad {cl : List ByteArray} {L : List (List UInt8)} (h : toksO cl = some L) (h2 : lenN L = none) : lenS cl = (0, 400) := by unfold lenS; rw [h]; simp only; rw [h2]
theorem len_big {cl : List ByteArray} {L : List (List UInt8)} {n : Int} (h : toksO cl = some L) (h2 : lenN L = some n) (h3 : 2048 < n) : lenS cl = (0, 413) := by unfold lenS; rw [h]; simp only; rw [h2]; simp only; rw [if_pos h3]
theorem len_ok {cl : List ByteArray} {L : List (List UInt8)} {n : Int} (h : toksO cl = some L) (h2 : lenN L = some n) (h3 : ¬ 2048 < n) : lenS cl = (n, 0) := by unfold lenS; rw [h]; simp only; rw [h2]; simp only; rw [if_neg h3]
theorem len_facts {cl : List ByteArray} {L : List (List UInt8)} (h : toksO cl = some L) (h0 : 0 < L.length) :
    (∀ j (hj : j < L.length), goodF (numF L[0]) L[j] = false → lenS cl = (0, 400)) ∧
    ((∀ j (hj : j < L.length), goodF (numF L[0]) L[j] = true) → 2048 < numF L[0] → lenS cl = (0, 413)) ∧
    ((∀ j (hj : j < L.length), goodF (numF L[0]) L[j] = true) → ¬ 2048 < numF L[0] → lenS cl = (numF L[0], 0)) := by
  match L, h0 with
  | y :: r, h0 => exact ⟨fun j hj hb => len_bad h (lenN_bad hj hb), fun ha h3 => len_big h (lenN_all ha) h3, fun ha h3 => len_ok h (lenN_all ha) h3⟩
theorem strs_at {W : World} {v : Value} {L : List (List UInt8)} (h : StrsAt W v (L.map ba)) (h0 : 0 < L.length) : ∃ (b off cap : Nat), v = .slice (some ⟨b, off, none⟩) L.length cap ∧ ∀ j (h : j < L.length), W.cell? ⟨b, off + j, none⟩ = some (.string (ba L[j])) := by
  rcases h with ⟨h, _⟩ | ⟨b, off, cap, hv, h0, hb, hc⟩
  · have := congrArg List.length h
    rw [List.length_map] at this
    rw [List.length_nil] at this; omega
  · refine ⟨b, off, cap, by rw [hv, List.length_map], fun j hj => ?_⟩
    have := hc j (by rw [List.length_map]; exact hj)
    rw [List.getElem_map] at this; exact this
theorem tok_size {ts : List ByteArray} {L : List (List UInt8)} (h : toksO ts = some L) (hs : sizes ts ≤ 900000) : ∀ j (hj : j < L.length), (ba L[j]).size ≤ 1000000 := fun j hj => by
  obtain ⟨p, hp, hle⟩ := tokO_size h (List.getElem_mem hj)
  have := partsO_size hp
  have e : (ba L[j]).size = L[j].length := rfl
  omega

set_option maxRecDepth 10000 in
set_option maxHeartbeats 1000000 in
theorem length_w {w : World} {p : Nat} {el : Bool} {fp : Value} {k l : Int} {c x : Bool} {S : List FV} {B : Nat} (hr : WkA w p el fp k l c x) (hf : FP 63 B w fp S) (hs : Lite S) :
    Calls Tryz.prog 32 #[ptr p] w (Step w p (lenS (valsF S nCL)).2 el fp 1 (lenS (valsF S nCL)).1 c x) := by
  have c1 : w.cell? ⟨p, 1, none⟩ = some fp := hr.cell 1
  have HS := Lib.hid (hs.vals nCL)
  have HR := Lib.hid hr
  have HV := Lib.hid (vals_p nCL w hf (by decide))
  obtain ⟨A, rfl⟩ := hf.form
  clear hr hf hs
  unfold ptr
  generalize valsF S nCL = cl at *
  cases hT : toksO cl with
  | none =>
    have HC := Lib.hid (len_toks hT)
    have HT := Lib.hid (fun v w h => tok_n hT v w h HS.out)
    clear hT
    go_enter Tryz.func32, Tryz.ntmps32
    go_wp2_with (first
      | (go_at_call 28; refine HV.out.mono ?_; rintro e w2 ⟨u, rfl, hA, hm⟩; have HA := Lib.hid hA; have HM2 := Lib.hid hm; clear hA hm)
      | (go_at_call 33; refine (HT.out _ _ HA.out).mono ?_; rintro e w3 ⟨rfl, hm⟩; have HM3 := Lib.hid (HM2.out.trans hm (fun _ h => nomatch h)); clear hm))
    go_ret
    exact ⟨by rw [HC.out]; rfl, fun h => absurd ((congrArg Prod.snd HC.out).symm.trans h) (by decide), HM3.out.more (by simp)⟩
  | some L =>
    have hlen := Nat.le_trans (toksO_len hT) HS.out
    have HT := Lib.hid (fun v w h => tok_y hT v w h HS.out)
    by_cases hn : L = []
    · subst hn
      have HC := Lib.hid (lenv_nil hT)
      clear hT hlen
      go_enter Tryz.func32, Tryz.ntmps32
      go_wp2_with (first
        | (go_at_call 28; refine HV.out.mono ?_; rintro e w2 ⟨u, rfl, hA, hm⟩; have HA := Lib.hid hA; have HM2 := Lib.hid hm; clear hA hm)
        | (go_at_call 33; refine (HT.out _ _ HA.out).mono ?_; rintro e w3 ⟨u2, rfl, hA2, hm⟩; obtain ⟨a, cap, rfl⟩ := strs_nil hA2; have HM3 := Lib.hid (HM2.out.trans hm (fun _ h => nomatch h)); clear hm hA2))
      go_ret
      exact ⟨by rw [HC.out]; rfl, fun h => absurd ((congrArg Prod.snd HC.out).symm.trans h) (by decide), HM3.out.more (by simp)⟩
    · have h0 : 0 < L.length := List.length_pos_iff.2 hn
      have HSZ := tok_size hT HS.out
      obtain ⟨hbad, hbig, hok⟩ := len_facts hT h0
      have HN := Lib.hid (fun W v (h : StrsAt W v (L.map ba)) => strs_at h h0)
      have HNU := Lib.hid (fun w j (hj : j < L.length) => num_A (ba L[j]) w (HSZ j hj))
      unfold NumIs at HNU
      have HBAD := Lib.hid hbad
      have HBIG := Lib.hid hbig
      have HOK := Lib.hid hok
      obtain ⟨f, hf⟩ : ∃ f, f = numF L[0] := ⟨_, rfl⟩
      have HF := Lib.hid (show (numB 10 15 L[0]).1 = f from hf.symm)
      rw [← hf] at HBAD HBIG HOK
      clear hT hn hbad hbig hok HSZ hf
      have hn0 := fun w => HNU.out w 0 h0
      rw [show (ba L[0]).data.toList = L[0] from rfl, HF.out] at hn0
      generalize (numB 10 15 L[0]).2 = ok0 at hn0
      have HN0 := Lib.hid hn0
      clear hn0
      have hne : decide ((L.length : Int) = 0) = false := decide_eq_false (by omega)
      go_enter Tryz.func32, Tryz.ntmps32
      go_wp2_with (first
        | (go_at_call 28; refine HV.out.mono ?_; rintro e w2 ⟨u, rfl, hA, hm⟩; have HA := Lib.hid hA; have HM2 := Lib.hid hm; clear hA hm)
        | (go_at_call 33; refine (HT.out _ _ HA.out).mono ?_; rintro e w3 ⟨u2, rfl, hA2, hm⟩; obtain ⟨b, off, cap, rfl, hc⟩ := HN.out _ _ hA2; have HM3 := Lib.hid (HM2.out.trans hm (fun _ h => nomatch h)); have d0 : w3.cell? ⟨b, off, none⟩ = some (.string (ba L[0])) := hc 0 h0; have HC := Lib.hid hc; clear hm hA2 hc)
        | (go_at_call 51; refine (HN0.out _).mono ?_; rintro e w4 ⟨rfl, rfl⟩))
      go_loopw [36] (fun i wr => ∃ k : Nat, k ≤ L.length ∧ i = .int .i64 k ∧ Mods [] w wr ∧ (∀ j (h : j < L.length), wr.cell? ⟨b, off + j, none⟩ = some (.string (ba L[j]))) ∧ ∀ j (hj : j < L.length), j < k → goodF f L[j] = true) (fun i _ => L.length - (intOf i).toNat)
      case atStart => exact ⟨0, Nat.zero_le _, rfl, HM3.out, HC.out, fun j _ h => absurd h (Nat.not_lt_zero _)⟩
      case round =>
        obtain ⟨k1, hk, rfl, hm, hc, hgood⟩ := hrel
        have HM := Lib.hid hm
        have HCW := Lib.hid hc
        have HG := Lib.hid hgood
        clear hm hc hgood
        by_cases hlt : k1 < L.length
        · have ck := HCW.out k1 hlt
          have hnu := fun w => HNU.out w k1 hlt
          have hgq : goodF f L[k1] = ((numB 10 15 L[k1]).2 && (numB 10 15 L[k1]).1 == f) := rfl
          have HBK := Lib.hid (HBAD.out k1 hlt)
          have HGK := Lib.hid (fun (h : goodF f L[k1] = true) => show ∀ j (hj : j < L.length), j < k1 + 1 → goodF f L[j] = true from fun j hj hjk => by
            by_cases e : j = k1
            · subst e; exact h
            · exact HG.out j hj (by omega))
          rw [show (ba L[k1]).data.toList = L[k1] from rfl] at hnu
          obtain ⟨xs, hxs⟩ : ∃ xs, xs = ba L[k1] := ⟨_, rfl⟩
          obtain ⟨q, hq⟩ : ∃ q, q = numB 10 15 L[k1] := ⟨_, rfl⟩
          rw [← hxs] at ck hnu
          rw [← hq] at hnu hgq
          have HNK := Lib.hid hnu
          clear hxs hq hnu
          obtain ⟨n, ok⟩ := q
          simp only at hgq HNK
          cases ok with
          | false =>
            have HB := Lib.hid (HBK.out (by rw [hgq]; rfl))
            clear hgq
            go_wp2_with (go_at_call 51; refine (HNK.out _).mono ?_; rintro e w5 ⟨rfl, rfl⟩)
            go_ret
            exact ⟨by rw [HB.out]; rfl, fun h => absurd ((congrArg Prod.snd HB.out).symm.trans h) (by decide), HM.out.more (by simp)⟩
          | true =>
            by_cases hnf : n = f
            · have HGN := Lib.hid (HGK.out (by rw [hgq]; simp [hnf]))
              have hno : (n != f) = false := by simp [hnf]
              clear hgq hnf
              go_wp2_with (go_at_call 51; refine (HNK.out _).mono ?_; rintro e w5 ⟨rfl, rfl⟩)
              go_roundw
              case rel => exact ⟨k1 + 1, by omega, by go_num, HM.out, HCW.out, HGN.out⟩
              case measure => simp [intOf]; omega
            · have HB := Lib.hid (HBK.out (by rw [hgq]; simpa using hnf))
              have hno : (n != f) = true := by simpa using hnf
              clear hgq hnf
              go_wp2_with (go_at_call 51; refine (HNK.out _).mono ?_; rintro e w5 ⟨rfl, rfl⟩)
              go_ret
              exact ⟨by rw [HB.out]; rfl, fun h => absurd ((congrArg Prod.snd HB.out).symm.trans h) (by decide), HM.out.more (by simp)⟩
        · have hall := fun j (hj : j < L.length) => HG.out j hj (by omega)
          have e2 : wr.cell? ⟨p, 2, none⟩ = some (.int .i64 k) := (HR.out.mods HM.out (by simp)).cell 2
          have g2 : wr.frozen? ⟨p, 2, none⟩ = false := (HR.out.mods HM.out (by simp)).free 2
          have e3 : wr.cell? ⟨p, 3, none⟩ = some (.int .i64 l) := (HR.out.mods HM.out (by simp)).cell 3
          have g3 : wr.frozen? ⟨p, 3, none⟩ = false := (HR.out.mods HM.out (by simp)).free 3
          by_cases hb : 2048 < f
          · have HB := Lib.hid (HBIG.out hall hb)
            clear hall
            go_wp2
            go_ret
            exact ⟨by rw [HB.out]; rfl, fun h => absurd ((congrArg Prod.snd HB.out).symm.trans h) (by decide), HM.out.more (by simp)⟩
          · have HB := Lib.hid (HOK.out hall (by omega))
            clear hall
            go_wp2
            go_ret
            exact ⟨by rw [HB.out]; rfl, fun _ => by rw [HB.out]; exact ((HR.out.mods HM.out (by simp)).set 2 _).set 3 _, ((HM.out.more (by simp)).setCell (.inl (by simp)) _).setCell (.inl (by simp)) _⟩

/-! Body: by a coding, a length, none. -/
theorem body_te {m : Int} {S : List FV} (h : valsF S nTE ≠ []) : bodyS m S = (2, 0, codS m (valsF S nCL) (valsF S nTE)) := by unfold bodyS; rw [if_pos h]
theorem body_cl {m : Int} {S : List FV} (h : valsF S nTE = []) (h2 : valsF S nCL ≠ []) : bodyS m S = (1, (lenS (valsF S nCL)).1, (lenS (valsF S nCL)).2) := by unfold bodyS; rw [if_neg (by simpa using h), if_pos h2]
theorem body_no {m : Int} {S : List FV} (h : valsF S nTE = []) (h2 : valsF S nCL = []) : bodyS m S = (0, 0, 0) := by unfold bodyS; rw [if_neg (by simpa using h), if_neg (by simpa using h2)]
set_option maxRecDepth 10000 in
theorem body_w {w : World} {p : Nat} {el : Bool} {fp : Value} {k : Int} {c x : Bool} {S : List FV} {B : Nat} (hr : WkA w p el fp k 0 c x) (hf : FP 63 B w fp S) (hs : Lite S) :
    Calls Tryz.prog 13 #[ptr p] w (Step w p (bodyS (minOf el) S).2.2 el fp (bodyS (minOf el) S).1 (bodyS (minOf el) S).2.1 c x) := by
  have c1 : w.cell? ⟨p, 1, none⟩ = some fp := hr.cell 1
  have HR := Lib.hid hr
  have HT := Lib.hid (has_p nTE w hf (by decide))
  have HL := Lib.hid (fun w' (hm : Mods [] w w') => has_p nCL w' (hf.low hm) (by decide))
  have HCW := Lib.hid (fun w' (hm : Mods [] w w') => coding_w (hr.mods hm (by simp)) (hf.low hm) hs)
  have HLW := Lib.hid (fun w' (hm : Mods [] w w') => length_w (hr.mods hm (by simp)) (hf.low hm) hs)
  obtain ⟨A, rfl⟩ := hf.form
  clear hr hf hs
  unfold ptr at *
  by_cases hte : valsF S nTE = []
  · rw [show decide (valsF S nTE ≠ []) = false from decide_eq_false (by simpa using hte)] at HT
    by_cases hcl : valsF S nCL = []
    · rw [show decide (valsF S nCL ≠ []) = false from decide_eq_false (by simpa using hcl)] at HL
      have HB := Lib.hid (body_no (m := minOf el) hte hcl)
      clear hte hcl HCW HLW
      go_enter Tryz.func13, Tryz.ntmps13
      go_wp2_with (first
        | (go_at_call 30; (with_reducible show Calls _ _ #[_, .string ⟨#[84, 114, 97, 110, 115, 102, 101, 114, 45, 69, 110, 99, 111, 100, 105, 110, 103]⟩] _ _); refine HT.out.mono ?_; rintro e w1 ⟨rfl, hm⟩; have d1 := cell_mods c1 hm (by simp); have HM1 := Lib.hid hm; clear hm)
        | (go_at_call 30; refine (HL.out _ HM1.out).mono ?_; rintro e w2 ⟨rfl, hm⟩; have HM2 := Lib.hid (HM1.out.trans hm (fun _ h => nomatch h)); have e2 : w2.cell? ⟨p, 2, none⟩ = some (.int .i64 k) := (HR.out.mods HM2.out (by simp)).cell 2; have g2 : w2.frozen? ⟨p, 2, none⟩ = false := (HR.out.mods HM2.out (by simp)).free 2; clear hm))
      go_ret
      rw [HB.out]
      exact ⟨rfl, fun _ => (HR.out.mods HM2.out (by simp)).set 2 _, (HM2.out.more (by simp)).setCell (.inl (by simp)) _⟩
    · rw [show decide (valsF S nCL ≠ []) = true from decide_eq_true hcl] at HL
      have HB := Lib.hid (body_cl (m := minOf el) hte hcl)
      clear hte hcl HCW
      go_enter Tryz.func13, Tryz.ntmps13
      go_wp2_with (first
        | (go_at_call 30; (with_reducible show Calls _ _ #[_, .string ⟨#[84, 114, 97, 110, 115, 102, 101, 114, 45, 69, 110, 99, 111, 100, 105, 110, 103]⟩] _ _); refine HT.out.mono ?_; rintro e w1 ⟨rfl, hm⟩; have d1 := cell_mods c1 hm (by simp); have HM1 := Lib.hid hm; clear hm)
        | (go_at_call 30; refine (HL.out _ HM1.out).mono ?_; rintro e w2 ⟨rfl, hm⟩; have HM2 := Lib.hid (HM1.out.trans hm (fun _ h => nomatch h)); clear hm)
        | (go_at_call 32; refine (HLW.out _ HM2.out).mono ?_; rintro e w3 ⟨rfl, hs, hm⟩; have HS3 := Lib.hid hs; have HM3 := Lib.hid ((HM2.out.more (F2 := [p]) (by simp)).trans hm (fun _ h => .inl h)); clear hm hs))
      go_ret
      rw [HB.out]
      exact ⟨rfl, HS3.out, HM3.out⟩
  · rw [show decide (valsF S nTE ≠ []) = true from decide_eq_true hte] at HT
    have HB := Lib.hid (body_te (m := minOf el) hte)
    clear hte HL HLW
    go_enter Tryz.func13, Tryz.ntmps13
    go_wp2_with (first
      | (go_at_call 30; refine HT.out.mono ?_; rintro e w1 ⟨rfl, hm⟩; have HM1 := Lib.hid hm; clear hm)
      | (go_at_call 31; refine (HCW.out _ HM1.out).mono ?_; rintro e w3 ⟨rfl, hs, hm⟩; have HS3 := Lib.hid hs; have HM3 := Lib.hid ((HM1.out.more (F2 := [p]) (by simp)).trans hm (fun _ h => .inl h)); clear hm hs))
    go_ret
    rw [HB.out]
    exact ⟨rfl, HS3.out, HM3.out⟩
end Go.Proofs.YtcliapfoimnkiaaGreatDoor

/- The steps of the code's walk through a head: connection, expect; and Of: how a request goes on, or the status by which it is refused. Conditions: names of at most a million bytes, values of at most 900000 bytes in all. -/
namespace Go.Proofs.YtcliapfoimnkiaaGreatDoor
open Go.RowKit
set_option linter.unusedVariables false
set_option linter.unusedSimpArgs false

def clB : ByteArray := ⟨#[99, 108, 111, 115, 101]⟩
def kpB : ByteArray := ⟨#[107, 101, 101, 112, 45, 97, 108, 105, 118, 101]⟩
theorem has_close {con : List ByteArray} {L : List (List UInt8)} (h : toksO con = some L) : hasL closeL con = Lib.containsS (L.map ba) clB := by
  unfold hasL; rw [h, show clB = ba closeL from rfl, has_contains, show lowL closeL = closeL by decide +kernel]
theorem has_keep {con : List ByteArray} {L : List (List UInt8)} (h : toksO con = some L) : hasL keepL con = Lib.containsS (L.map ba) kpB := by
  unfold hasL; rw [h, show kpB = ba keepL from rfl, has_contains, show lowL keepL = keepL by decide +kernel]
/-- The status of Connection. -/
def conS (con : List ByteArray) : Int := if toksO con = none then 400 else 0
set_option maxRecDepth 10000 in
set_option maxHeartbeats 1000000 in
theorem connection_w {w : World} {p : Nat} {el : Bool} {fp : Value} {k l : Int} {c x : Bool} {S : List FV} {B : Nat} (hr : WkA w p el fp k l c x) (hf : FP 63 B w fp S) (hs : Lite S) :
    Calls Tryz.prog 14 #[ptr p] w (Step w p (conS (valsF S nCon)) el fp k l (closeS (minOf el) (valsF S nCon)) x) := by
  have c1 : w.cell? ⟨p, 1, none⟩ = some fp := hr.cell 1
  have HS := Lib.hid (hs.vals nCon)
  have HR := Lib.hid hr
  have HV := Lib.hid (vals_p nCon w hf (by decide))
  obtain ⟨A, rfl⟩ := hf.form
  clear hr hf hs
  unfold ptr
  generalize valsF S nCon = con at *
  cases hT : toksO con with
  | none =>
    have HC := Lib.hid (show conS con = 400 by unfold conS; rw [if_pos hT])
    have HT := Lib.hid (fun v w h => tok_n hT v w h HS.out)
    clear hT
    go_enter Tryz.func14, Tryz.ntmps14
    go_wp2_with (first
      | (go_at_call 28; refine HV.out.mono ?_; rintro e w2 ⟨u, rfl, hA, hm⟩; have HA := Lib.hid hA; have HM2 := Lib.hid hm; clear hA hm)
      | (go_at_call 33; refine (HT.out _ _ HA.out).mono ?_; rintro e w3 ⟨rfl, hm⟩; have HM3 := Lib.hid (HM2.out.trans hm (fun _ h => nomatch h)); clear hm))
    go_ret
    exact ⟨by rw [HC.out]; rfl, fun h => absurd (HC.out.symm.trans h) (by decide), HM3.out.more (by simp)⟩
  | some L =>
    have hlen := Nat.le_trans (toksO_len hT) HS.out
    have HT := Lib.hid (fun v w h => tok_y hT v w h HS.out)
    have HC := Lib.hid (show conS con = 0 by unfold conS; rw [if_neg (by rw [hT]; simp)])
    have hcc : closeS (minOf el) con = (Lib.containsS (L.map ba) clB || (decide (minOf el = 0) && !Lib.containsS (L.map ba) kpB)) := by unfold closeS; rw [has_close hT, has_keep hT]
    have H1 := Lib.hid (fun v w h => contains_any (L.map ba) v clB w h (by rw [List.length_map]; omega))
    have H2 := Lib.hid (fun v w h => contains_any (L.map ba) v kpB w h (by rw [List.length_map]; omega))
    generalize Lib.containsS (L.map ba) clB = bc at *
    generalize Lib.containsS (L.map ba) kpB = bk at *
    have HCC := Lib.hid hcc
    have HN := Lib.hid (fun W v (h : StrsAt W v (L.map ba)) => strs_map h)
    clear hT hcc hlen
    cases bc <;> cases el <;> cases bk
    all_goals
      go_enter Tryz.func14, Tryz.ntmps14
      go_wp2_with (first
        | (go_at_call 28; refine HV.out.mono ?_; rintro e w2 ⟨u, rfl, hA, hm⟩; have HA := Lib.hid hA; have HM2 := Lib.hid hm; clear hA hm)
        | (go_at_call 33; refine (HT.out _ _ HA.out).mono ?_; rintro e w3 ⟨u2, rfl, hA2, hm⟩; have HA2 := Lib.hid hA2; have HM3 := Lib.hid (HM2.out.trans hm (fun _ h => nomatch h)); obtain ⟨a, cap, rfl⟩ := HN.out _ _ hA2; have d0 := (HR.out.mods HM3.out (by simp)).cell 0; have d4 := (HR.out.mods HM3.out (by simp)).cell 4; have g4 := (HR.out.mods HM3.out (by simp)).free 4; simp only [List.getElem?_toArray, List.getElem?_cons_zero, List.getElem?_cons_succ] at d0 d4; clear hm hA2)
        | (go_at_call 34; (with_reducible show Calls _ _ #[_, .string ⟨#[99, 108, 111, 115, 101]⟩] _ _); refine (H1.out _ _ HA2.out).mono ?_; rintro e w4 ⟨rfl, rfl⟩)
        | (go_at_call 34; (with_reducible show Calls _ _ #[_, .string ⟨#[107, 101, 101, 112, 45, 97, 108, 105, 118, 101]⟩] _ _); refine (H2.out _ _ HA2.out).mono ?_; rintro e w5 ⟨rfl, rfl⟩))
      go_ret
      exact ⟨by rw [HC.out]; rfl, fun _ => by rw [HCC.out]; exact (HR.out.mods HM3.out (by simp)).set 4 _, (HM3.out.more (by simp)).setCell (.inl (by simp)) _⟩

/-- The status of Expect, and whether somebody waits. -/
def expS (m : Int) (S : List FV) : Int := if m = 1 ∧ valsF S nExp ≠ [] ∧ sameL (getF S nExp) contB = false then 417 else 0
def expX (m k l : Int) (S : List FV) : Bool := decide (m = 1 ∧ valsF S nExp ≠ []) && (k == 2 || decide (0 < l))
theorem getF_size {S : List FV} (hl : S.length ≤ 24) (hs : Small S) (n : ByteArray) : (getF S n).size ≤ 24000048 := by
  have h := join_bound _ (valsF_small hs n)
  have h2 := valsF_len S n
  have h3 : (getF S n).size = (getL S n).length := rfl
  have h4 := Nat.mul_le_mul_right 1000002 (show (valsF S n).length ≤ 24 by omega)
  unfold getL at h3
  omega
theorem FP.same {t : TypeId} {B : Nat} {w : World} {fp : Value} {S : List FV} (h : FP t B w fp S) : S.length ≤ 24 ∧ Small S := by
  rcases h with ⟨_, rfl⟩ | ⟨g, v, _, hf, _⟩
  · exact ⟨by simp, fun _ h => nomatch h⟩
  · exact ⟨hf.len, hf.small⟩
set_option maxRecDepth 10000 in
set_option maxHeartbeats 1000000 in
theorem expect_w {w : World} {p : Nat} {el : Bool} {fp : Value} {k l : Int} {c : Bool} {S : List FV} {B : Nat} (hr : WkA w p el fp k l c false) (hf : FP 63 B w fp S) (hs : Lite S) :
    Calls Tryz.prog 15 #[ptr p] w (Step w p (expS (minOf el) S) el fp k l c (expX (minOf el) k l S)) := by
  have c0 : w.cell? ⟨p, 0, none⟩ = some (.bool el) := hr.cell 0
  have c1 : w.cell? ⟨p, 1, none⟩ = some fp := hr.cell 1
  have HR := Lib.hid hr
  have HH := Lib.hid (has_p nExp w hf (by decide))
  cases el with
  | true =>
    have HC := Lib.hid (show expS (minOf true) S = 0 by unfold expS minOf; simp)
    have HX := Lib.hid (show expX (minOf true) k l S = false by unfold expX minOf; simp)
    obtain ⟨A, rfl⟩ := hf.form
    clear hr hf hs
    unfold ptr
    go_enter Tryz.func15, Tryz.ntmps15
    go_wp2
    go_ret
    exact ⟨by rw [HC.out]; rfl, fun _ => by rw [HX.out]; exact HR.out, Mods.refl _ _⟩
  | false =>
    by_cases hv : valsF S nExp = []
    · rw [show decide (valsF S nExp ≠ []) = false from decide_eq_false (by simpa using hv)] at HH
      have HC := Lib.hid (show expS (minOf false) S = 0 by unfold expS; rw [hv]; simp)
      have HX := Lib.hid (show expX (minOf false) k l S = false by unfold expX; rw [hv]; simp)
      obtain ⟨A, rfl⟩ := hf.form
      clear hr hf hs hv
      unfold ptr
      go_enter Tryz.func15, Tryz.ntmps15
      go_wp2_with (go_at_call 30; refine HH.out.mono ?_; rintro e w1 ⟨rfl, hm⟩; have HM1 := Lib.hid hm; clear hm)
      go_ret
      exact ⟨by rw [HC.out]; rfl, fun _ => by rw [HX.out]; exact HR.out.mods HM1.out (by simp), HM1.out.more (by simp)⟩
    · rw [show decide (valsF S nExp ≠ []) = true from decide_eq_true hv] at HH
      have hgs := getF_size hf.same.1 hf.same.2 nExp
      have HG := Lib.hid (fun w' (hm : Mods [] w w') => get_p nExp w' (hf.low hm) (by decide) hv)
      have HSM := Lib.hid (fun w => same_a (getF S nExp) contB w (by unfold maxLen; omega) (by decide))
      have HX := Lib.hid (show expX (minOf false) k l S = (k == 2 || decide (0 < l)) by unfold expX; rw [decide_eq_true ⟨rfl, hv⟩]; rfl)
      have hce : expS (minOf false) S = if sameL (getF S nExp) contB = false then 417 else 0 := by
        unfold expS
        by_cases h : sameL (getF S nExp) contB = false
        · rw [if_pos ⟨rfl, hv, h⟩, if_pos h]
        · rw [if_neg (fun h2 => h h2.2.2), if_neg h]
      obtain ⟨A, rfl⟩ := hf.form
      generalize getF S nExp = gx at *
      generalize sameL gx contB = bs at *
      clear hr hf hs hv
      unfold ptr
      cases bs with
      | false =>
        have HC := Lib.hid (show expS (minOf false) S = 417 by rw [hce]; rfl)
        clear hce
        go_enter Tryz.func15, Tryz.ntmps15
        go_wp2_with (first
          | (go_at_call 30; refine HH.out.mono ?_; rintro e w1 ⟨rfl, hm⟩; have HM1 := Lib.hid hm; have d1 := cell_mods c1 hm (by simp); clear hm)
          | (go_at_call 36; refine (HG.out _ HM1.out).mono ?_; rintro e w2 ⟨rfl, hm⟩; have HM2 := Lib.hid (HM1.out.trans hm (fun _ h => nomatch h)); clear hm)
          | (go_at_call 35; refine (HSM.out _).mono ?_; rintro e w3 ⟨rfl, nn, hd⟩; have HM3 := Lib.hid (show Mods [] w w3 by rw [hd]; exact HM2.out.drewN nn); clear hd))
        go_ret
        exact ⟨by rw [HC.out]; rfl, fun h => absurd (HC.out.symm.trans h) (by decide), HM3.out.more (by simp)⟩
      | true =>
        have HC := Lib.hid (show expS (minOf false) S = 0 by rw [hce]; rfl)
        clear hce
        by_cases hk : k = 2
        · subst hk
          go_enter Tryz.func15, Tryz.ntmps15
          go_wp2_with (first
            | (go_at_call 30; refine HH.out.mono ?_; rintro e w1 ⟨rfl, hm⟩; have HM1 := Lib.hid hm; have d1 := cell_mods c1 hm (by simp); clear hm)
            | (go_at_call 36; refine (HG.out _ HM1.out).mono ?_; rintro e w2 ⟨rfl, hm⟩; have HM2 := Lib.hid (HM1.out.trans hm (fun _ h => nomatch h)); clear hm)
            | (go_at_call 35; refine (HSM.out _).mono ?_; rintro e w3 ⟨rfl, nn, hd⟩; have HM3 := Lib.hid (show Mods [] w w3 by rw [hd]; exact HM2.out.drewN nn); have d2 : w3.cell? ⟨p, 2, none⟩ = some (.int .i64 2) := (HR.out.mods HM3.out (by simp)).cell 2; have d5 : w3.cell? ⟨p, 5, none⟩ = some (.bool false) := (HR.out.mods HM3.out (by simp)).cell 5; have g5 : w3.frozen? ⟨p, 5, none⟩ = false := (HR.out.mods HM3.out (by simp)).free 5; clear hd))
          go_ret
          exact ⟨by rw [HC.out]; rfl, fun _ => by rw [HX.out]; exact (HR.out.mods HM3.out (by simp)).set 5 _, (HM3.out.more (by simp)).setCell (.inl (by simp)) _⟩
        · have hk1 : (k == 2) = false := by simpa using hk
          clear hk
          rw [hk1, Bool.false_or] at HX
          go_enter Tryz.func15, Tryz.ntmps15
          go_wp2_with (first
            | (go_at_call 30; refine HH.out.mono ?_; rintro e w1 ⟨rfl, hm⟩; have HM1 := Lib.hid hm; have d1 := cell_mods c1 hm (by simp); clear hm)
            | (go_at_call 36; refine (HG.out _ HM1.out).mono ?_; rintro e w2 ⟨rfl, hm⟩; have HM2 := Lib.hid (HM1.out.trans hm (fun _ h => nomatch h)); clear hm)
            | (go_at_call 35; refine (HSM.out _).mono ?_; rintro e w3 ⟨rfl, nn, hd⟩; have HM3 := Lib.hid (show Mods [] w w3 by rw [hd]; exact HM2.out.drewN nn); have d2 : w3.cell? ⟨p, 2, none⟩ = some (.int .i64 k) := (HR.out.mods HM3.out (by simp)).cell 2; have d3 : w3.cell? ⟨p, 3, none⟩ = some (.int .i64 l) := (HR.out.mods HM3.out (by simp)).cell 3; have d5 : w3.cell? ⟨p, 5, none⟩ = some (.bool false) := (HR.out.mods HM3.out (by simp)).cell 5; have g5 : w3.frozen? ⟨p, 5, none⟩ = false := (HR.out.mods HM3.out (by simp)).free 5; clear hd))
          go_ret
          exact ⟨by rw [HC.out]; rfl, fun _ => by rw [HX.out]; exact (HR.out.mods HM3.out (by simp)).set 5 _, (HM3.out.more (by simp)).setCell (.inl (by simp)) _⟩
end Go.Proofs.YtcliapfoimnkiaaGreatDoor

/- The end of a function that answers how a request goes on. Conditions: none. -/
namespace Go.Proofs.YtcliapfoimnkiaaGreatDoor
open Go.RowKit
set_option linter.unusedVariables false
set_option linter.unusedSimpArgs false

def HowP.cells (h : HowP) : Array Value := #[.int .i64 h.kind, .int .i64 h.length, .bool h.close, .bool h.expect]
def howV (h : HowP) : Value := .agg #[.int .i64 h.kind, .int .i64 h.length, .bool h.close, .bool h.expect]
def HAns (w : World) (rr : HowP × Int) (e : Ending) (w' : World) : Prop := e = .returned (.tuple #[howV rr.1, .int .i64 rr.2]) ∧ Mods [] w w'
theorem ret_how {fn : Func} {a : Act} {W : World} {R : Ending → World → Prop} {r : Nat} {h : HowP} {t : TypeId} {q q2 : Tmp} {v : Value} (hres : fn.results = #[.cell q t, .tmp q2])
    (hrow : Row W r t h.cells) (ha : (isAgg t).run Tryz.prog W = .ok true W) (hs : (Go.sizeOf t).run Tryz.prog W = .ok 4 W)
    (h2 : a.tmps.getD q undef = .pointer (some ⟨r, 0, none⟩)) (h3 : a.tmps.getD q2 undef = v) (hd : a.defers = []) (hR : R (.returned (.tuple #[howV h, v])) W) : bodyPost Tryz.prog fn R .ret a W := by
  refine bodyPost_ret (v := .tuple #[howV h, v]) ?_ hd hR
  have c0 : W.cell? ⟨r, 0, none⟩ = some (.int .i64 h.kind) := hrow.cell 0
  have c1 : W.cell? ⟨r, 1, none⟩ = some (.int .i64 h.length) := hrow.cell 1
  have c2 : W.cell? ⟨r, 2, none⟩ = some (.bool h.close) := hrow.cell 2
  have c3 : W.cell? ⟨r, 3, none⟩ = some (.bool h.expect) := hrow.cell 3
  have g2 : a.tmps[q]?.getD undef = .pointer (some ⟨r, 0, none⟩) := by simpa using h2
  have g3 : a.tmps[q2]?.getD undef = v := by simpa using h3
  simp [results, hres, go_sem, g2, g3, c0, c1, c2, c3, ha, hs, howV]
def setH (w : World) (n : Nat) (h : HowP) : World := (((w.setCell ⟨n, 0, none⟩ (.int .i64 h.kind)).setCell ⟨n, 1, none⟩ (.int .i64 h.length)).setCell ⟨n, 2, none⟩ (.bool h.close)).setCell ⟨n, 3, none⟩ (.bool h.expect)
theorem Row.putH {w : World} {n : Nat} {t : TypeId} {h0 : HowP} (h : Row w n t h0.cells) (x : HowP) : Row (setH w n x) n t x.cells := (((h.set 0 _).set 1 _).set 2 _).set 3 _
theorem Mods.putH {F : List Nat} {a w : World} (h : Mods F a w) {n : Nat} (hn : n ∈ F ∨ a.heap.size ≤ n) (x : HowP) : Mods F a (setH w n x) :=
  (((h.setCell (p := ⟨n, 0, none⟩) hn _).setCell (p := ⟨n, 1, none⟩) hn _).setCell (p := ⟨n, 2, none⟩) hn _).setCell (p := ⟨n, 3, none⟩) hn _
/-- The end of a function that has stored its result. -/
theorem end_H {fn : Func} {a : Act} {w W : World} {rr : HowP × Int} {r : Nat} {t : TypeId} {h0 : HowP} {k l : Int} {c x : Bool} {q q2 : Tmp} {n : Int} (hres : fn.results = #[.cell q t, .tmp q2])
    (hrow : Row W r t h0.cells) (ha : ∀ W, (isAgg t).run Tryz.prog W = .ok true W) (hs : ∀ W, (Go.sizeOf t).run Tryz.prog W = .ok 4 W)
    (h2 : a.tmps.getD q undef = .pointer (some ⟨r, 0, none⟩)) (h3 : a.tmps.getD q2 undef = .int .i64 n) (hd : a.defers = [])
    (hX : rr = (⟨k, l, c, x⟩, n)) (hM : Mods [] w W) (hn : w.heap.size ≤ r) :
    bodyPost Tryz.prog fn (HAns w rr) .ret a ((((W.setCell ⟨r, 0, none⟩ (.int .i64 k)).setCell ⟨r, 1, none⟩ (.int .i64 l)).setCell ⟨r, 2, none⟩ (.bool c)).setCell ⟨r, 3, none⟩ (.bool x)) := by
  have hR := hrow.putH ⟨k, l, c, x⟩
  have hM2 := hM.putH (.inr hn) ⟨k, l, c, x⟩
  change bodyPost Tryz.prog fn (HAns w rr) .ret a (setH W r ⟨k, l, c, x⟩)
  generalize setH W r ⟨k, l, c, x⟩ = w6 at hR hM2 ⊢
  exact ret_how (h := ⟨k, l, c, x⟩) hres hR (ha _) (hs _) h2 h3 hd ⟨by rw [hX], hM2⟩
/-- What a walk asks of the block. -/
theorem Row.factsH {w : World} {n : Nat} {t : TypeId} {h : HowP} (hr : Row w n t h.cells) :
    w.cell? ⟨n, 0, none⟩ = some (.int .i64 h.kind) ∧ w.cell? ⟨n, 1, none⟩ = some (.int .i64 h.length) ∧ w.cell? ⟨n, 2, none⟩ = some (.bool h.close) ∧ w.cell? ⟨n, 3, none⟩ = some (.bool h.expect) ∧
    w.frozen? ⟨n, 0, none⟩ = false ∧ w.frozen? ⟨n, 1, none⟩ = false ∧ w.frozen? ⟨n, 2, none⟩ = false ∧ w.frozen? ⟨n, 3, none⟩ = false :=
  ⟨hr.cell 0, hr.cell 1, hr.cell 2, hr.cell 3, hr.free 0, hr.free 1, hr.free 2, hr.free 3⟩
end Go.Proofs.YtcliapfoimnkiaaGreatDoor

/- The code's Of: how a request goes on, or the status by which it is refused. Conditions: names of at most a million bytes, values of at most 900000 bytes in all. -/
namespace Go.Proofs.YtcliapfoimnkiaaGreatDoor
open Go.RowKit
set_option linter.unusedVariables false
set_option linter.unusedSimpArgs false

theorem frm_end {m : Int} {S : List FV} (h : hostOk m (valsF S nHost) = true) (h2 : (bodyS m S).2.2 = 0) (h3 : toksO (valsF S nCon) ≠ none) (h4 : expS m S = 0) :
    frmN m S = (⟨(bodyS m S).1, (bodyS m S).2.1, closeS m (valsF S nCon), expX m (bodyS m S).1 (bodyS m S).2.1 S⟩, 0) := by
  unfold expX
  by_cases hx : m = 1 ∧ valsF S nExp ≠ []
  · have hs : sameL (getF S nExp) contB = true := by
      cases hs : sameL (getF S nExp) contB with
      | true => rfl
      | false => unfold expS at h4; rw [if_pos ⟨hx.1, hx.2, hs⟩] at h4; cases h4
    rw [frm_exp h h2 h3 hx hs, decide_eq_true hx, Bool.true_and]
    congr 3
    rw [Bool.eq_iff_iff]; simp
  · rw [frm_plain h h2 h3 hx, decide_eq_false hx]; rfl
theorem frm_exp417 {m : Int} {S : List FV} (h : hostOk m (valsF S nHost) = true) (h2 : (bodyS m S).2.2 = 0) (h3 : toksO (valsF S nCon) ≠ none) (h4 : expS m S ≠ 0) : frmN m S = (noH, 417) ∧ expS m S = 417 := by
  by_cases hx : m = 1 ∧ valsF S nExp ≠ [] ∧ sameL (getF S nExp) contB = false
  · exact ⟨frm_417 h h2 h3 ⟨hx.1, hx.2.1⟩ hx.2.2, by unfold expS; rw [if_pos hx]⟩
  · exact absurd (by unfold expS; rw [if_neg hx]) h4

abbrev fnsA : Array Value := #[.func (.func 12) #[] #[], .func (.func 13) #[] #[], .func (.func 14) #[] #[], .func (.func 15) #[] #[]]
theorem index_0 (w : World) : (Instr.index 45 (.agg fnsA) (.int .i64 0)).run Tryz.prog w = .ok (.func (.func 12) #[] #[]) w := by kernel_rfl
theorem index_1 (w : World) : (Instr.index 45 (.agg fnsA) (.int .i64 1)).run Tryz.prog w = .ok (.func (.func 13) #[] #[]) w := by kernel_rfl
theorem index_2 (w : World) : (Instr.index 45 (.agg fnsA) (.int .i64 2)).run Tryz.prog w = .ok (.func (.func 14) #[] #[]) w := by kernel_rfl
theorem index_3 (w : World) : (Instr.index 45 (.agg fnsA) (.int .i64 3)).run Tryz.prog w = .ok (.func (.func 15) #[] #[]) w := by kernel_rfl
theorem start_of {w : World} {A : Option Addr} {S : List FV} {el : Bool} (hf : FP 63 w.heap.size w (.pointer A) S) :
    ∃ W, W = (((w.alloc (.cells #[.int .i64 0, .int .i64 0, .bool false, .bool false] 25)).alloc (.cells #[.bool el, .pointer A, .int .i64 0, .int .i64 0, .bool false, .bool false] 41)).alloc (.cells fnsA 45)) ∧
      WkA W (w.heap.size + 1) el (.pointer A) 0 0 false false ∧ Row W w.heap.size 25 noH.cells ∧ Mods [] w W ∧ FP 63 w.heap.size W (.pointer A) S := by
  have hm := (((Mods.refl [] w).alloc (.cells #[.int .i64 0, .int .i64 0, .bool false, .bool false] 25)).alloc (.cells #[.bool el, .pointer A, .int .i64 0, .int .i64 0, .bool false, .bool false] 41)).alloc (.cells fnsA 45)
  refine ⟨_, rfl, ?_, ((Row.new w _ _).alloc _).alloc _, hm, hf.low hm⟩
  have h := (Row.new (w.alloc (.cells #[.int .i64 0, .int .i64 0, .bool false, .bool false] 25)) 41 #[.bool el, .pointer A, .int .i64 0, .int .i64 0, .bool false, .bool false]).alloc (.cells fnsA 45)
  rw [World.size_alloc] at h
  exact h

set_option maxRecDepth 10000 in
set_option maxHeartbeats 2000000 in
theorem of_el {m : Int} {fp : Value} {S : List FV} {w : World} (el : Bool) (hel : decide (m < 1) = el) (hf : FP 63 w.heap.size w fp S) (hs : Lite S) :
    Calls Tryz.prog 6 #[.int .i64 m, fp] w (HAns w (frmN (minOf el) S)) := by
  obtain ⟨A, rfl⟩ := hf.form
  obtain ⟨W, hW, hk, hr, hm, hfW⟩ := start_of (el := el) hf
  have HRW := Lib.hid hr
  have HM := Lib.hid hm
  have H1' := host_w hk hfW hs
  have H2' := fun (w1 : World) (h : Mods [] W w1) => body_w (hk.mods h (by simp)) (hfW.low h) hs
  have H3' := fun (w1 : World) (k l : Int) (h : WkA w1 (w.heap.size + 1) el (.pointer A) k l false false) (hm : Mods [w.heap.size + 1] W w1) => connection_w h (hfW.mods hm (by simp)) hs
  have H4' := fun (w1 : World) (k l : Int) (c : Bool) (h : WkA w1 (w.heap.size + 1) el (.pointer A) k l c false) (hm : Mods [w.heap.size + 1] W w1) => expect_w h (hfW.mods hm (by simp)) hs
  unfold ptr at H1' H2' H3' H4'
  have i0 := index_0
  have i1 := index_1
  have i2 := index_2
  have i3 := index_3
  have HR := Lib.hid (fun (w1 : World) (hm : Mods [w.heap.size + 1] W w1) => hr.mods hm (by simp))
  have HMM := Lib.hid (fun (w1 : World) (hm1 : Mods [w.heap.size + 1] W w1) => hm.trans hm1 (fun k hk => .inr (by simp at hk; omega)))
  clear hk hr hm hfW hf hs
  cases h1 : hostOk (minOf el) (valsF S nHost) with
  | false =>
    have HE := Lib.hid (frm_host h1)
    rw [show hostS (minOf el) (valsF S nHost) = 400 by unfold hostS; rw [h1]; rfl] at H1'
    have H1 := Lib.hid H1'
    clear h1 H1' H2' H3' H4' i1 i2 i3
    go_enter Tryz.func6, Tryz.ntmps6
    go_wp2_with fail
    rw [← hW]
    clear hW
    refine wp_loop_rounds 5 ?_
    rw [rounds_succ]
    go_wp2_with (go_at_call 12; refine H1.out.mono ?_; rintro e w1 ⟨rfl, hm1⟩; have M0 := Lib.hid hm1; have M1 := Lib.hid (hm1.more (F2 := [w.heap.size + 1]) (by simp)); obtain ⟨k0, k1, k2, k3, f0, f1, f2, f3⟩ := (HR.out _ M1.out).factsH; clear hm1)
    exact end_H rfl (HR.out _ M1.out) Tryz.isAgg25 Tryz.sizeOf25 rfl rfl rfl HE.out (HMM.out _ M1.out) (Nat.le_refl _)
  | true =>
    rw [show hostS (minOf el) (valsF S nHost) = 0 by unfold hostS; rw [h1]; rfl] at H1'
    have H1 := Lib.hid H1'
    clear H1'
    by_cases h2 : (bodyS (minOf el) S).2.2 = 0
    · rw [h2] at H2'
      have H2 := Lib.hid H2'
      clear H2'
      by_cases h3 : toksO (valsF S nCon) = none
      · have HE := Lib.hid (frm_con h1 h2 h3)
        rw [show conS (valsF S nCon) = 400 by unfold conS; rw [if_pos h3]] at H3'
        have H3 := Lib.hid H3'
        clear h1 h2 h3 H3' H4' i3
        go_enter Tryz.func6, Tryz.ntmps6
        go_wp2_with fail
        rw [← hW]
        clear hW
        refine wp_loop_rounds 5 ?_
        rw [rounds_succ]
        go_wp2_with (go_at_call 12; refine H1.out.mono ?_; rintro e w1 ⟨rfl, hm1⟩; have M0 := Lib.hid hm1; have M1 := Lib.hid (hm1.more (F2 := [w.heap.size + 1]) (by simp)); clear hm1)
        rw [rounds_succ]
        go_wp2_with (go_at_call 13; refine (H2.out _ M0.out).mono ?_; rintro e w2 ⟨rfl, hk2, hm2⟩; have K2 := Lib.hid (hk2 rfl); have M2 := Lib.hid (M1.out.trans hm2 (fun _ h => .inl h)); clear hm2 hk2)
        rw [rounds_succ]
        go_wp2_with (go_at_call 14; refine (H3.out _ _ _ K2.out M2.out).mono ?_; rintro e w3 ⟨rfl, hk3, hm3⟩; have M3 := Lib.hid (M2.out.trans hm3 (fun _ h => .inl h)); obtain ⟨k0, k1, k2, k3, f0, f1, f2, f3⟩ := (HR.out _ M3.out).factsH; clear hm3 hk3)
        exact end_H rfl (HR.out _ M3.out) Tryz.isAgg25 Tryz.sizeOf25 rfl rfl rfl HE.out (HMM.out _ M3.out) (Nat.le_refl _)
      · rw [show conS (valsF S nCon) = 0 by unfold conS; rw [if_neg h3]] at H3'
        have H3 := Lib.hid H3'
        clear H3'
        by_cases h4 : expS (minOf el) S = 0
        · have HE := Lib.hid (frm_end h1 h2 h3 h4)
          rw [h4] at H4'
          have H4 := Lib.hid H4'
          clear h1 h2 h3 h4 H4'
          generalize (bodyS (minOf el) S).1 = bk at *
          generalize (bodyS (minOf el) S).2.1 = bl at *
          generalize closeS (minOf el) (valsF S nCon) = bc at *
          go_enter Tryz.func6, Tryz.ntmps6
          go_wp2_with fail
          rw [← hW]
          clear hW
          refine wp_loop_rounds 5 ?_
          rw [rounds_succ]
          go_wp2_with (go_at_call 12; refine H1.out.mono ?_; rintro e w1 ⟨rfl, hm1⟩; have M0 := Lib.hid hm1; have M1 := Lib.hid (hm1.more (F2 := [w.heap.size + 1]) (by simp)); clear hm1)
          rw [rounds_succ]
          go_wp2_with (go_at_call 13; refine (H2.out _ M0.out).mono ?_; rintro e w2 ⟨rfl, hk2, hm2⟩; have K2 := Lib.hid (hk2 rfl); have M2 := Lib.hid (M1.out.trans hm2 (fun _ h => .inl h)); clear hm2 hk2)
          rw [rounds_succ]
          go_wp2_with (go_at_call 14; refine (H3.out _ _ _ K2.out M2.out).mono ?_; rintro e w3 ⟨rfl, hk3, hm3⟩; have K3 := Lib.hid (hk3 rfl); have M3 := Lib.hid (M2.out.trans hm3 (fun _ h => .inl h)); clear hm3 hk3)
          rw [rounds_succ]
          go_wp2_with (go_at_call 15; refine (H4.out _ _ _ _ K3.out M3.out).mono ?_; rintro e w4 ⟨rfl, hk4, hm4⟩; have K4 := Lib.hid (hk4 rfl); have M4 := Lib.hid (M3.out.trans hm4 (fun _ h => .inl h)); have c2 : w4.cell? ⟨w.heap.size + 1, 2, none⟩ = some (.int .i64 bk) := K4.out.cell 2; have c3 : w4.cell? ⟨w.heap.size + 1, 3, none⟩ = some (.int .i64 bl) := K4.out.cell 3; have c4 : w4.cell? ⟨w.heap.size + 1, 4, none⟩ = some (.bool bc) := K4.out.cell 4; have c5 : w4.cell? ⟨w.heap.size + 1, 5, none⟩ = some (.bool (expX (minOf el) bk bl S)) := K4.out.cell 5; obtain ⟨k0, k1, k2, k3, f0, f1, f2, f3⟩ := (HR.out _ M4.out).factsH; clear hm4 hk4)
          rw [rounds_succ]
          go_wp2_with fail
          exact end_H rfl (HR.out _ M4.out) Tryz.isAgg25 Tryz.sizeOf25 rfl rfl rfl HE.out (HMM.out _ M4.out) (Nat.le_refl _)
        · obtain ⟨he, h5⟩ := frm_exp417 h1 h2 h3 h4
          have HE := Lib.hid he
          rw [h5] at H4'
          have H4 := Lib.hid H4'
          clear h1 h2 h3 h4 h5 he H4'
          go_enter Tryz.func6, Tryz.ntmps6
          go_wp2_with fail
          rw [← hW]
          clear hW
          refine wp_loop_rounds 5 ?_
          rw [rounds_succ]
          go_wp2_with (go_at_call 12; refine H1.out.mono ?_; rintro e w1 ⟨rfl, hm1⟩; have M0 := Lib.hid hm1; have M1 := Lib.hid (hm1.more (F2 := [w.heap.size + 1]) (by simp)); clear hm1)
          rw [rounds_succ]
          go_wp2_with (go_at_call 13; refine (H2.out _ M0.out).mono ?_; rintro e w2 ⟨rfl, hk2, hm2⟩; have K2 := Lib.hid (hk2 rfl); have M2 := Lib.hid (M1.out.trans hm2 (fun _ h => .inl h)); clear hm2 hk2)
          rw [rounds_succ]
          go_wp2_with (go_at_call 14; refine (H3.out _ _ _ K2.out M2.out).mono ?_; rintro e w3 ⟨rfl, hk3, hm3⟩; have K3 := Lib.hid (hk3 rfl); have M3 := Lib.hid (M2.out.trans hm3 (fun _ h => .inl h)); clear hm3 hk3)
          rw [rounds_succ]
          go_wp2_with (go_at_call 15; refine (H4.out _ _ _ _ K3.out M3.out).mono ?_; rintro e w4 ⟨rfl, hk4, hm4⟩; have M4 := Lib.hid (M3.out.trans hm4 (fun _ h => .inl h)); obtain ⟨k0, k1, k2, k3, f0, f1, f2, f3⟩ := (HR.out _ M4.out).factsH; clear hm4 hk4)
          exact end_H rfl (HR.out _ M4.out) Tryz.isAgg25 Tryz.sizeOf25 rfl rfl rfl HE.out (HMM.out _ M4.out) (Nat.le_refl _)
    · have HE := Lib.hid (frm_body h1 h2)
      have H2 := Lib.hid H2'
      have hne : ((bodyS (minOf el) S).2.2 != 0) = true := by simpa using h2
      generalize (bodyS (minOf el) S).2.2 = s2 at *
      clear h1 h2 H2' H3' H4' i2 i3
      go_enter Tryz.func6, Tryz.ntmps6
      go_wp2_with fail
      rw [← hW]
      clear hW
      refine wp_loop_rounds 5 ?_
      rw [rounds_succ]
      go_wp2_with (go_at_call 12; refine H1.out.mono ?_; rintro e w1 ⟨rfl, hm1⟩; have M0 := Lib.hid hm1; have M1 := Lib.hid (hm1.more (F2 := [w.heap.size + 1]) (by simp)); clear hm1)
      rw [rounds_succ]
      go_wp2_with (go_at_call 13; refine (H2.out _ M0.out).mono ?_; rintro e w2 ⟨rfl, hk2, hm2⟩; have M2 := Lib.hid (M1.out.trans hm2 (fun _ h => .inl h)); obtain ⟨k0, k1, k2, k3, f0, f1, f2, f3⟩ := (HR.out _ M2.out).factsH; clear hm2 hk2)
      exact end_H rfl (HR.out _ M2.out) Tryz.isAgg25 Tryz.sizeOf25 rfl rfl rfl HE.out (HMM.out _ M2.out) (Nat.le_refl _)
theorem of_f {m : Int} {fp : Value} {S : List FV} {w : World} (hf : FP 63 w.heap.size w fp S) (hs : Lite S) :
    Calls Tryz.prog 6 #[.int .i64 m, fp] w (HAns w (frm m S)) := by
  have h := of_el (m := m) _ rfl hf hs
  rw [show minOf (decide (m < 1)) = minN m by unfold minOf minN; simp only [decide_eq_true_eq]; split <;> split <;> omega] at h
  exact h
end Go.Proofs.YtcliapfoimnkiaaGreatDoor
