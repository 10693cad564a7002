/- The reference's ring in memory, and what New, Room, Find, Peek answer. -/
import Derived.Test.YtfgllfgcgihkoaaRingL
import Derived.Deep.RegionHeld3
import Derived.Deep.RegionWith
import Derived.Deep.RegionLaw
import Derived.BigRegion
namespace Go.Proofs.Ytfgllfgcgihkoaa
open Go.RowKit
set_option maxRecDepth 100000
set_option linter.unusedVariables false
set_option linter.unusedSimpArgs false

/-- The reference's ring behind x. -/
structure RefF (w : World) (x N : Nat) (L : List Int) (v : Value) : Prop where
  row : Row w x 44 #[.int .i64 N, v]
  own : w.ownsRow 0 5 1 v L.length (bv L)
  range : ∀ y ∈ L, 0 ≤ y ∧ y ≤ 255
  len : L.length ≤ N
  hi : N ≤ 65536
def RefB (w : World) (x : Nat) (F : List Nat) (N : Nat) (L : List Int) : Prop := ∃ v, F = x :: v.ownBlock.toList ∧ RefF w x N L v
section
variable {w w' : World} {x N : Nat} {F G : List Nat} {L : List Int} {v : Value}
theorem RefF.ne (h : RefF w x N L v) : x ∉ v.ownBlock.toList := fun hx => own_ne_row h.own h.row (by decide) x hx rfl
theorem RefF.keep (h : RefF w x N L v) (e : ∀ k ∈ x :: v.ownBlock.toList, w'.heap[k]? = w.heap[k]?) : RefF w' x N L v :=
  ⟨h.row.keep (e _ (by simp)), own_keep h.own (fun k hk => e k (List.mem_cons_of_mem _ hk)), h.range, h.len, h.hi⟩
theorem RefB.keep (h : RefB w x F N L) (e : ∀ k ∈ F, w'.heap[k]? = w.heap[k]?) : RefB w' x F N L := by
  obtain ⟨v, rfl, h⟩ := h
  exact ⟨v, rfl, h.keep e⟩
theorem RefB.lt (h : RefB w x F N L) : ∀ k ∈ F, k < w.heap.size := by
  obtain ⟨v, rfl, h⟩ := h
  intro k hk
  rcases List.mem_cons.1 hk with rfl | hk
  · exact h.row.lt
  · exact own_lt h.own k hk
theorem RefB.mods (h : RefB w x F N L) (hm : Mods G w w') (hd : ∀ k ∈ F, k ∉ G) : RefB w' x F N L := h.keep fun k hk => hm.block k (h.lt k hk) (hd k hk)
theorem RefB.at_ (h : RefB w x F N L) : ∃ A c, w.cell? ⟨x, 1, none⟩ = some (.slice A L.length c) ∧ w.cell? ⟨x, 0, none⟩ = some (.int .i64 N) ∧ (∀ j, w.frozen? ⟨x, j, none⟩ = false) ∧ L.length ≤ c ∧ c ≤ maxLen ∧ At w [] A L ∧ L.length ≤ N ∧ N ≤ 65536 ∧ F = x :: (Value.slice A L.length c).ownBlock.toList ∧ RefF w x N L (.slice A L.length c) := by
  obtain ⟨v, rfl, h⟩ := h
  obtain ⟨A, c, rfl, h1, h2⟩ := own_slice h.own
  exact ⟨A, c, h.row.cell 1, h.row.cell 0, h.row.free, h1, h2, At.of_own h.own (by simp) h.range, h.len, h.hi, rfl, h⟩
end
theorem rnew_no (n : Int) (w : World) (h : n < 1 ∨ 65536 < n) : Calls Try.prog 11 #[.int .i64 n] w fun e w' => e = .returned (.tuple #[.pointer none, .int .i64 1]) ∧ w = w' := by
  rcases h with h | h
  · go_enter Try.func11, Try.ntmps11
    go_wp2
    go_ret2
    exact ⟨rfl, rfl⟩
  · have h' : ¬ n < 1 := by omega
    go_enter Try.func11, Try.ntmps11
    go_wp2
    go_ret2
    exact ⟨rfl, rfl⟩
theorem rnew_any (n : Nat) (w : World) (h : 1 ≤ n) (h2 : n ≤ 65536) : Calls Try.prog 11 #[.int .i64 n] w fun e w' =>
    e = .returned (.tuple #[.pointer (some ⟨w.heap.size, 0, none⟩), .int .i64 0]) ∧ RefB w' w.heap.size [w.heap.size] n [] ∧ Mods [] w w' := by
  go_enter Try.func11, Try.ntmps11
  go_wp2
  go_ret2
  exact ⟨rfl, ⟨.slice none 0 0, by simp [Value.ownBlock], Row.new _ _ _, World.ownsRow_nil _ _ _ _, by simp, by simp, h2⟩, (Mods.refl _ _).alloc _⟩
theorem rroom_any (w : World) (x N : Nat) (F : List Nat) (L : List Int) (h : RefB w x F N L) :
    Calls Try.prog 26 #[.pointer (some ⟨x, 0, none⟩)] w fun e w' => e = .returned (.int .i64 ((N : Int) - (L.length : Int))) ∧ Mods [] w w' := by
  obtain ⟨A, c, c1, c0, _, h1, h2, _, h3, h4, _, _⟩ := h.at_
  unfold maxLen at h2
  clear h
  go_enter Try.func26, Try.ntmps26
  go_wp2
  go_quiet (fail)
  go_wp2
  go_ret
  exact ⟨rfl, (Mods.refl _ _).drewN _⟩
theorem idx_step (l : List Int) (c : Int) (k : Nat) (hk : k < l.length) : (idx (l.drop k) c = if l[k] = c then 0 else if idx (l.drop (k + 1)) c = -1 then -1 else idx (l.drop (k + 1)) c + 1) := by
  rw [List.drop_eq_getElem_cons hk]; rfl
/-- What idx of the whole is, told by what stands from k on. -/
def idxFrom (l : List Int) (c : Int) (k : Nat) : Int := if idx (l.drop k) c = -1 then -1 else (k : Int) + idx (l.drop k) c
theorem idxFrom_zero (l : List Int) (c : Int) : idxFrom l c 0 = idx l c := by
  unfold idxFrom
  rw [List.drop_zero]
  by_cases h : idx l c = -1
  · rw [if_pos h, h]
  · rw [if_neg h]; simp
theorem idxFrom_hit (l : List Int) (c : Int) (k : Nat) (hk : k < l.length) (h : l[k] = c) : idxFrom l c k = k := by unfold idxFrom; rw [idx_step l c k hk, if_pos h]; simp
theorem idxFrom_miss (l : List Int) (c : Int) (k : Nat) (hk : k < l.length) (h : l[k] ≠ c) : idxFrom l c k = idxFrom l c (k + 1) := by
  have hg := idx_ge (l.drop (k + 1)) c
  unfold idxFrom
  rw [idx_step l c k hk, if_neg h]
  by_cases e : idx (l.drop (k + 1)) c = -1
  · simp [e]
  · simp only [if_neg e]
    rw [if_neg (by omega)]
    omega
theorem idxFrom_end (l : List Int) (c : Int) : idxFrom l c l.length = -1 := by unfold idxFrom; simp [idx]
theorem rfind_any (w : World) (x N : Nat) (F : List Nat) (L : List Int) (c : Int) (h : RefB w x F N L) :
    Calls Try.prog 23 #[.pointer (some ⟨x, 0, none⟩), .int .u8 c] w fun e w' => e = .returned (.int .i64 (idx L c)) ∧ Mods [] w w' := by
  obtain ⟨A, cp, c1, c0, _, h1, h2, hat, h3, h4, _, _⟩ := h.at_
  have HA := Lib.hid hat
  have HZ := Lib.hid (idxFrom_zero L c)
  unfold maxLen at h2
  clear h hat
  go_enter Try.func23, Try.ntmps23
  go_wp2
  go_loop [5] (fun i => ∃ k : Nat, k ≤ L.length ∧ i = .int .i64 k ∧ Hid (idxFrom L c k = idx L c)) (fun i => L.length - (intOf i).toNat)
  case atStart => exact ⟨0, Nat.zero_le _, rfl, HZ⟩
  case round =>
    obtain ⟨k, hk, rfl, hd⟩ := hrel
    by_cases hlt : k < L.length
    · obtain ⟨b, o, rfl, _, _, cc, _⟩ := HA.out k L[k] (List.getElem?_eq_getElem hlt)
      by_cases he : L[k] = c
      · have HE := Lib.hid ((idxFrom_hit L c k hlt he).symm.trans hd.out)
        rw [he] at cc
        clear he hd
        go_wp2
        go_ret
        exact ⟨ret_i64 HE.out, Mods.refl _ _⟩
      · have HE := Lib.hid ((idxFrom_miss L c k hlt he).symm.trans hd.out)
        have h5 : ((L[k] : Int) == c) = false := by simpa using he
        obtain ⟨y, hy⟩ : ∃ y, y = L[k] := ⟨_, rfl⟩
        rw [← hy] at cc h5
        clear he hd hy
        go_wp2
        go_round
        case rel => exact ⟨k + 1, by omega, by go_num, HE⟩
        case measure => simp [intOf]; omega
    · have e : k = L.length := by omega
      have HE := Lib.hid (show -1 = idx L c by rw [← hd.out, e, idxFrom_end])
      clear hd
      go_wp2
      go_ret
      exact ⟨ret_i64 HE.out, Mods.refl _ _⟩
/-- The ways of max(0, min(n, c)). -/
theorem clamp_ways (n : Int) (c : Nat) : (n ≤ 0 ∧ clamp n c = 0) ∨ (0 < n ∧ n ≤ c ∧ 0 < clamp n c ∧ (clamp n c : Int) = n) ∨ (0 < c ∧ (c : Int) < n ∧ clamp n c = c) ∨ (c = 0 ∧ 0 < n ∧ clamp n c = 0) := by unfold clamp; omega
theorem cell_mods2 {F : List Nat} {w w' : World} {p : Addr} {u : Value} (hm : Mods F w w') (hn : p.block ∉ F) (h : w.cell? p = some u) : w'.cell? p = some u := cell_mods h hm hn
theorem Mods.same {F : List Nat} {w w1 w2 : World} (h : Mods F w w1) (h1 : w2.heap = w1.heap) (h2 : w2.os = w1.os) (h3 : w2.tape = w1.tape) (h4 : w2.output = w1.output) : Mods F w w2 :=
  ⟨h2.trans h.os, h3.trans h.tape, h4.trans h.output, by rw [h1]; exact h.size, fun k hk hn => by rw [h1]; exact h.block k hk hn⟩
/-- A block that is new needs no word. -/
theorem Mods.drop {w w' : World} (h : Mods [w.heap.size] w w') : Mods [] w w' := h.more fun k hk => .inr (by simp at hk; omega)
theorem New.of_app {w wx w' : World} {v : Value} {q : Nat} {P : List Int}
    (hm : Mods (Value.slice (some ⟨w.heap.size, 0, none⟩) 0 0).ownBlock.toList wx w' ∧ (v.ownBlock = (Value.slice (some ⟨w.heap.size, 0, none⟩) 0 0).ownBlock ∨ v.ownBlock = some wx.heap.size))
    (hx : Mods [w.heap.size] w wx) (ho : w'.ownsRow 0 5 1 v (0 + q) (bv ([] ++ P))) (hP : P.length = q) (hr : ∀ x ∈ P, 0 ≤ x ∧ x ≤ 255) :
    ∃ A c, v = .slice A q c ∧ New w w' A q c P := by
  obtain ⟨A, c, rfl, h1, h2⟩ := own_slice ho
  have h0 : 0 + q = q := Nat.zero_add q
  rw [h0] at ho h1 hm
  rw [h0]
  have hz := hx.size
  refine ⟨A, c, rfl, h1, h2, ho, (hx.trans hm.1 (fun k hk => .inl (by simpa [Value.ownBlock, eq_comm] using hk))).drop, hP, hr, fun b hb => ?_⟩
  rcases hm.2 with e | e
  · rw [e] at hb
    simp [Value.ownBlock] at hb
    omega
  · rw [e] at hb
    simp at hb
    omega
set_option maxHeartbeats 8000000 in
theorem rpeek_as (w : World) (x N : Nat) (n : Int) (F : List Nat) (L : List Int) (h : RefB w x F N L) :
    Calls Try.prog 21 #[.pointer (some ⟨x, 0, none⟩), .int .i64 n] w fun e w' => ∃ A c, e = .returned (.slice A (clamp n L.length) c) ∧ Hid (New w w' A (clamp n L.length) c (L.take (clamp n L.length))) := by
  obtain ⟨i0, hi, hz, hs, hby⟩ := info_parts u8_info3
  have HI := Lib.hid (And.intro hi (And.intro hz (And.intro hs hby)))
  obtain ⟨A, cp, c1, c0, _, h1, h2, hat, h3, h4, _, hrf⟩ := h.at_
  have HR := Lib.hid hrf.range
  have hw := clamp_ways n L.length
  have hq := clamp_le n L.length
  obtain ⟨q, hqq⟩ : ∃ q, q = clamp n L.length := ⟨_, rfl⟩
  rw [← hqq] at hw hq ⊢
  have HT := Lib.hid (show (L.take q).length = q by rw [List.length_take]; omega)
  have HRT := Lib.hid (show ∀ y ∈ L.take q, 0 ≤ y ∧ y ≤ 255 from fun y hy => HR.out y (List.mem_of_mem_take hy))
  have HA := Lib.hid ((hat.mods ((Mods.refl _ w).alloc (.cells #[] 5))).take q)
  have HO := Lib.hid (show (w.alloc (.cells #[] 5)).ownsRow 0 5 1 (.slice (some ⟨w.heap.size, 0, none⟩) 0 0) 0 (bv []) from World.ownsRow_lit w #[] 0 (Nat.zero_le _) (by unfold maxLen; omega) rfl)
  have HQL := Lib.hid (show 0 + (L.take q).length ≤ 1000000000 by rw [HT.out]; omega)
  have HMx := Lib.hid (show Mods [w.heap.size] w (w.alloc (.cells #[] 5)) from (Mods.refl _ w).alloc _)
  clear h hat hi hz hs hby hrf hqq h2
  have b2 : (q : Int) ≤ (cp : Int) := by omega
  have b1 : (0 : Int) ≤ (q : Int) := by omega
  have d1 := fun o => cell_alloc c1 o
  have HNE := Lib.hid (show x ∉ (Value.slice (some ⟨w.heap.size, 0, none⟩) 0 0).ownBlock.toList from fun hx => by
    have : x = w.heap.size := by simpa [Value.ownBlock, eq_comm] using hx
    have := World.block_lt_of_cell? w _ c1
    simp at this
    omega)
  rcases hw with ⟨w1, rfl⟩ | ⟨w1, w2, w3, rfl⟩ | ⟨w1, w2, rfl⟩ | ⟨w1, w2, rfl⟩
  · have w2 : ∀ a b : Int, (if (L.length : Int) < n then a else b) = b := fun a b => if_neg (by omega)
    have w3 : ∀ a b : Int, (if 0 < n then a else b) = b := fun a b => if_neg (by omega)
    clear b1 b2
    go_enter Try.func21, Try.ntmps21
    go_wp2_with fail
    go_region_held3 (fun w' => w'.cell? ⟨x, 1, none⟩ = some (.slice A L.length cp)) (go_keep)
      (first
        | (refine step_append_bytes rfl (.tmp 5) (.tmp 18) 32 rfl 5 i0 (.int .u8 0) Try.underlying32 HI.out.1 HI.out.2.1 HI.out.2.2.1 HI.out.2.2.2 rfl (.slice (some ⟨w.heap.size, 0, none⟩) 0 0) 0 [] rfl HO.out [] A (0) cp (L.take (0)) rfl HT.out.symm HA.out HQL.out ?_; intro v8 w8 HO8 HM8; have c8 := cell_mods2 HM8.out.1 HNE.out (d1 (.cells #[] 5)); obtain ⟨A8, c8', e8, hn8⟩ := New.of_app HM8.out (HMx.out.same rfl rfl rfl rfl) HO8.out HT.out HRT.out; subst e8; have HN8 := Lib.hid hn8; clear hn8))
    all_goals
      go_wp2
      go_ret
      exact ⟨_, _, rfl, HN8⟩
  · have w5 : ¬ L.length < q := by omega
    have w6 : q ≤ cp := by omega
    go_enter Try.func21, Try.ntmps21
    go_wp2_with fail
    go_region_held3 (fun w' => w'.cell? ⟨x, 1, none⟩ = some (.slice A L.length cp)) (go_keep)
      (first
        | (refine step_append_bytes rfl (.tmp 5) (.tmp 18) 32 rfl 5 i0 (.int .u8 0) Try.underlying32 HI.out.1 HI.out.2.1 HI.out.2.2.1 HI.out.2.2.2 rfl (.slice (some ⟨w.heap.size, 0, none⟩) 0 0) 0 [] rfl HO.out [] A (q) cp (L.take (q)) rfl HT.out.symm HA.out HQL.out ?_; intro v8 w8 HO8 HM8; have c8 := cell_mods2 HM8.out.1 HNE.out (d1 (.cells #[] 5)); obtain ⟨A8, c8', e8, hn8⟩ := New.of_app HM8.out (HMx.out.same rfl rfl rfl rfl) HO8.out HT.out HRT.out; subst e8; have HN8 := Lib.hid hn8; clear hn8))
    all_goals
      go_wp2
      go_ret
      exact ⟨_, _, rfl, HN8⟩
  · have w6 : ¬ n < (L.length : Int) := by omega
    go_enter Try.func21, Try.ntmps21
    go_wp2_with fail
    go_region_held3 (fun w' => w'.cell? ⟨x, 1, none⟩ = some (.slice A L.length cp)) (go_keep)
      (first
        | (refine step_append_bytes rfl (.tmp 5) (.tmp 18) 32 rfl 5 i0 (.int .u8 0) Try.underlying32 HI.out.1 HI.out.2.1 HI.out.2.2.1 HI.out.2.2.2 rfl (.slice (some ⟨w.heap.size, 0, none⟩) 0 0) 0 [] rfl HO.out [] A (L.length) cp (L.take (L.length)) rfl HT.out.symm HA.out HQL.out ?_; intro v8 w8 HO8 HM8; have c8 := cell_mods2 HM8.out.1 HNE.out (d1 (.cells #[] 5)); obtain ⟨A8, c8', e8, hn8⟩ := New.of_app HM8.out (HMx.out.same rfl rfl rfl rfl) HO8.out HT.out HRT.out; subst e8; have HN8 := Lib.hid hn8; clear hn8))
    all_goals
      go_wp2
      go_ret
      exact ⟨_, _, rfl, HN8⟩
  · obtain rfl : L = [] := List.eq_nil_of_length_eq_zero w1
    clear w1 b1 b2
    go_enter Try.func21, Try.ntmps21
    go_wp2_with fail
    go_region_held3 (fun w' => w'.cell? ⟨x, 1, none⟩ = some (.slice A 0 cp)) (go_keep)
      (first
        | (refine step_append_bytes rfl (.tmp 5) (.tmp 18) 32 rfl 5 i0 (.int .u8 0) Try.underlying32 HI.out.1 HI.out.2.1 HI.out.2.2.1 HI.out.2.2.2 rfl (.slice (some ⟨w.heap.size, 0, none⟩) 0 0) 0 [] rfl HO.out [] A (0) cp ([].take (0)) rfl HT.out.symm HA.out HQL.out ?_; intro v8 w8 HO8 HM8; have c8 := cell_mods2 HM8.out.1 HNE.out (d1 (.cells #[] 5)); obtain ⟨A8, c8', e8, hn8⟩ := New.of_app HM8.out (HMx.out.same rfl rfl rfl rfl) HO8.out HT.out HRT.out; subst e8; have HN8 := Lib.hid hn8; clear hn8))
    all_goals
      go_wp2
      go_ret
      exact ⟨_, _, rfl, HN8⟩
end Go.Proofs.Ytfgllfgcgihkoaa
