/- What Advance of the program's wheel does: what the walk hands on. -/
import Derived.Test.YtgfmjkbelciaaaaDoorWhI
namespace Go.Proofs.YtgfmjkbelciaaaaDoor
open Go.RowKit
set_option maxRecDepth 10000
set_option linter.unusedVariables false
set_option linter.unusedSimpArgs false
set_option linter.unnecessarySimpa false

/-- The time of a timer's block. -/
def keyT (M : List Tm) (b : Nat) : Int := ((((M.find? (fun m => m.b == b)).map (·.a)).getD 0 : Nat) : Int)
theorem keyT_of {M : List Tm} (h : (M.map (·.b)).Nodup) {m : Tm} (hm : m ∈ M) : keyT M m.b = (m.a : Int) := by
  unfold keyT
  cases hx : M.find? (fun x => x.b == m.b) with
  | none => exact absurd (List.find?_eq_none.1 hx m hm) (by simp)
  | some x =>
    have h1 := List.mem_of_find?_eq_some hx
    have h2 := List.find?_some hx
    rw [eq_of_b h h1 hm (by simpa using h2)]; rfl
/-- Of the first k that were met those that are due, and where the others lie. -/
def dueK (t : Nat) (L : List Tm) (k : Nat) : List Tm := (L.take k).filter (fun m => decide (m.a ≤ t))
def layK (Q : Nat → List Nat) (t : Nat) (L : List Tm) (k : Nat) : Nat → List Nat := fun p => Q p ++ ((L.take k).filter (fun m => decide (t < m.a) && (plc t m.a == p))).map (·.b)
theorem layK_zero (Q : Nat → List Nat) (t : Nat) (L : List Tm) : layK Q t L 0 = Q := by funext p; simp [layK]
theorem layK_due {Q : Nat → List Nat} {t k : Nat} {L : List Tm} {m : Tm} (hm : L[k]? = some m) (h : m.a ≤ t) : layK Q t L (k + 1) = layK Q t L k ∧ dueK t L (k + 1) = dueK t L k ++ [m] := by
  obtain ⟨hk, e⟩ := List.getElem?_eq_some_iff.1 hm
  have ht : L.take (k + 1) = L.take k ++ [m] := by rw [take_snocT hk, e]
  constructor
  · funext p
    unfold layK
    rw [ht, List.filter_append, List.filter_cons, if_neg (by simp; intro h2; omega)]
    simp
  · unfold dueK
    rw [ht, List.filter_append, List.filter_cons, if_pos (by simpa using h)]
    simp
theorem layK_lay {Q : Nat → List Nat} {t k : Nat} {L : List Tm} {m : Tm} (hm : L[k]? = some m) (h : ¬ m.a ≤ t) : layK Q t L (k + 1) = upd (layK Q t L k) (plc t m.a) (layK Q t L k (plc t m.a) ++ [m.b]) ∧ dueK t L (k + 1) = dueK t L k := by
  obtain ⟨hk, e⟩ := List.getElem?_eq_some_iff.1 hm
  have ht : L.take (k + 1) = L.take k ++ [m] := by rw [take_snocT hk, e]
  constructor
  · funext p
    unfold upd layK
    rw [ht, List.filter_append, List.filter_cons]
    by_cases hp : p = plc t m.a
    · subst hp
      rw [if_pos rfl, if_pos (by simp; omega)]
      simp [List.append_assoc]
    · rw [if_neg hp, if_neg (by simp; intro _ e2; exact hp e2.symm)]
      simp
  · unfold dueK
    rw [ht, List.filter_append, List.filter_cons, if_neg (by simpa using h)]
    simp
/-- The time is set. -/
theorem WheelM.tick {w : World} {g hg : Nat} {tv : Value} {hF : List Nat} {ps : List (Option Nat)} {Q : Nat → List Nat} {S : Slb} {K now t : Nat} {M : List Tm} (h : WheelM w g hg tv hF ps Q S K now M) (ht : t ≤ 1099511627776) :
    WheelM (w.setCell ⟨g, 0, none⟩ (.int .i64 (t : Int))) g hg tv hF ps Q S K t M := by
  obtain ⟨a1, a2, a3, a4, a5⟩ := h.apart
  have far : ∀ k, k ≠ g → (w.setCell ⟨g, 0, none⟩ (.int .i64 (t : Int))).heap[k]? = w.heap[k]? := fun k hk => heap_setCell_other _ _ _ _ (by exact hk)
  have cf : ∀ c i, c ≠ g ∨ i ≠ 0 → (w.setCell ⟨g, 0, none⟩ (.int .i64 (t : Int))).cell? ⟨c, i, none⟩ = w.cell? ⟨c, i, none⟩ := fun c i hci => cell_far (by simp; rcases hci with h | h <;> simp [h])
  refine ⟨?_, slabA_keep h.slab fun k hk => far k (fun e => a1 (e ▸ hk)), h.own.keep fun k hk => far k (fun e => a2 (e ▸ hk)), h.plen, h.pat, ⟨fun p hp => ?_, fun p hp => ?_, fun p hp => ?_, h.lnk.nd, h.lnk.dis, h.lnk.out⟩, h.qin, fun m hm => ?_, ⟨h.ok.bnd, h.ok.slots, h.ok.use, h.ok.all, h.ok.cnt, ht, h.ok.times, h.ok.lim⟩⟩
  · obtain ⟨cs, r, e0, e1, e2, e3⟩ := h.base
    refine ⟨_, r.set 0 _, by simpa using e0, ?_, ?_, ?_⟩
    · rw [Array.getElem?_setIfInBounds_self, if_pos (by omega)]
    · rw [Array.getElem?_setIfInBounds_ne (by omega)]; exact e2
    · rw [Array.getElem?_setIfInBounds_ne (by omega)]; exact e3
  · rw [cf _ _ (.inr (by omega))]; exact h.lnk.first p hp
  · rw [cf _ _ (.inr (by omega))]; exact h.lnk.last p hp
  · exact (h.lnk.seg p hp).keep fun b hb i hi => cf b i (.inr (by omega))
  · obtain ⟨x, y, r⟩ := h.node m hm
    exact ⟨x, y, r.keep (far m.b (fun e => a3 (e ▸ List.mem_map_of_mem hm)))⟩
/-- Where the loop of Advance stands: k of those that were met are dealt with. -/
structure Adv (w2 wr : World) (g hg : Nat) (tv : Value) (hF : List Nat) (ps : List (Option Nat)) (Q : Nat → List Nat) (S : Slb) (K t : Nat) (M L : List Tm) (v dv : Value) (k : Nat) : Prop where
  wh : WheelM wr g hg tv hF ps (layK Q t L k) S K t M
  met : Own wr 69 v (ptrs (L.map (·.b)))
  due : wr.ownsRow 0 69 1 dv (dueK t L k).length (ptrs ((dueK t L k).map (·.b)))
  fresh : ∀ b ∈ dv.ownBlock.toList, w2.heap.size ≤ b
  vold : ∀ b ∈ v.ownBlock.toList, b < w2.heap.size ∧ b ∉ blks g tv hF M
  old : ∀ j ∈ blks g tv hF M, j < w2.heap.size
  mods : Mods (blks g tv hF M) w2 wr
theorem Adv.laid {w2 wr w3 : World} {g hg : Nat} {tv : Value} {hF : List Nat} {ps : List (Option Nat)} {Q : Nat → List Nat} {S : Slb} {K t : Nat} {M L : List Tm} {v dv : Value} {k : Nat} {m : Tm} (h : Adv w2 wr g hg tv hF ps Q S K t M L v dv k)
    (hm : L[k]? = some m) (hmt : ¬ m.a ≤ t) (h1 : WheelM w3 g hg tv hF ps (upd (layK Q t L k) (plc t m.a) (layK Q t L k (plc t m.a) ++ [m.b])) S K t M) (h2 : Mods (blks g tv hF M) wr w3) : Adv w2 w3 g hg tv hF ps Q S K t M L v dv (k + 1) := by
  obtain ⟨e1, e2⟩ := layK_lay (Q := Q) hm hmt
  refine ⟨by rw [e1]; exact h1, h.met.mods h2 (fun b hb => (h.vold b hb).2), ?_, h.fresh, h.vold, h.old, h.mods.trans h2 (fun j hj => .inl hj)⟩
  rw [e2]
  exact own_mods h.due h2 (fun b hb hj => by have := h.fresh b hb; have := h.old b hj; omega)
theorem Adv.dued {w2 wr w3 : World} {g hg : Nat} {tv : Value} {hF : List Nat} {ps : List (Option Nat)} {Q : Nat → List Nat} {S : Slb} {K t : Nat} {M L : List Tm} {v dv : Value} {k g1 cap : Nat} {m : Tm} (h : Adv w2 wr g hg tv hF ps Q S K t M L v dv k)
    (hm : L[k]? = some m) (hmt : m.a ≤ t) (ho : w3.ownsRow 0 69 1 (.slice (some ⟨g1, 0, none⟩) ((dueK t L k).length + 1) cap) ((dueK t L k).length + 1) (ptrs ((dueK t L k).map (·.b)) ++ [.pointer (some ⟨m.b, 0, none⟩)]))
    (hgm : Mods dv.ownBlock.toList wr w3) (h1 : dv.ownBlock = some g1 ∨ wr.heap.size ≤ g1) : Adv w2 w3 g hg tv hF ps Q S K t M L v (.slice (some ⟨g1, 0, none⟩) ((dueK t L k).length + 1) cap) (k + 1) := by
  obtain ⟨e1, e2⟩ := layK_due (Q := Q) hm hmt
  refine ⟨by rw [e1]; exact h.wh.mods hgm (fun j hj hj2 => by have := h.fresh j hj2; have := h.old j hj; omega), h.met.mods hgm (fun b hb hj => by have := h.fresh b hj; have := (h.vold b hb).1; omega), ?_, fun b hb => ?_, h.vold, h.old, h.mods.trans hgm (fun j hj => .inr (h.fresh j hj))⟩
  · rw [e2, List.length_append, List.map_append, ptrs_append]
    exact ho
  · have e : b = g1 := by simpa [Value.ownBlock, eq_comm] using hb
    rw [e]
    rcases h1 with h1 | h1
    · exact h.fresh g1 (by rw [h1]; simp)
    · have := h.mods.size; omega
/-- The wheel behind Advance. -/
theorem adv_end {w4 : World} {g hg : Nat} {tv : Value} {hF : List Nat} {ps' : List (Option Nat)} {S : Slb} {K now t : Nat} {M : List Tm} {v : Value} (hw : WOk S now M) (h0 : now ≤ t)
    (h1 : WheelM w4 g hg tv hF ps' (layK (clr (ql now M) (plc now t + 1)) t (metT now M (plc now t + 1)) (metT now M (plc now t + 1)).length) (takeL S ((fireT t M).take (fireT t M).length)) K t (wosT M ((fireT t M).take (fireT t M).length)))
    (h2 : Own w4 3 v (iv (whatT S ((fireT t M).take (fireT t M).length)))) :
    WheelM w4 g hg tv hF ps' (ql t (leftT t M)) (takeL S (fireT t M)) K t (leftT t M) ∧ Own w4 3 v (iv (whatT S (fireT t M))) := by
  have hl : layK (clr (ql now M) (plc now t + 1)) t (metT now M (plc now t + 1)) (metT now M (plc now t + 1)).length = ql t (leftT t M) := by
    funext p
    unfold layK
    rw [List.take_length]
    exact left_lists M h0 p
  have hm : wosT M (fireT t M) = leftT t M := by
    unfold wosT leftT
    refine List.filter_congr fun m hm => ?_
    rw [Bool.eq_iff_iff]
    simp only [Bool.not_eq_true', decide_eq_true_eq]
    rw [← Bool.not_eq_true, List.contains_iff_mem]
    constructor
    · intro h1
      rcases Nat.lt_or_ge t m.a with h2 | h2
      · exact h2
      · exact absurd (List.mem_map_of_mem (sortT_mem.2 (List.mem_filter.2 ⟨hm, by simpa using h2⟩))) h1
    · intro h1 h2
      obtain ⟨x, hx, e⟩ := List.mem_map.1 h2
      have h3 := List.mem_filter.1 (sortT_mem.1 hx)
      have := eq_of_b hw.bnd h3.1 hm e
      subst this
      have h4 : x.a ≤ t := by simpa using h3.2
      omega
  rw [List.take_length, hm, hl] at h1
  rw [List.take_length] at h2
  exact ⟨h1, h2⟩
theorem due_mem {now t : Nat} {M : List Tm} (h0 : now ≤ t) {m : Tm} : m ∈ (metT now M (plc now t + 1)).filter (fun m => decide (m.a ≤ t)) ↔ m ∈ M ∧ m.a ≤ t := by
  rw [List.mem_filter, metT_mem]
  simp only [decide_eq_true_eq]
  constructor
  · rintro ⟨⟨h1, _⟩, h2⟩; exact ⟨h1, h2⟩
  · rintro ⟨h1, h2⟩
    refine ⟨⟨h1, ?_⟩, h2⟩
    rcases Nat.lt_or_ge (plc now t) (plc now m.a) with hl | hl
    · have := (plc_stay h0 hl).2; omega
    · omega
theorem fireT_mem {t : Nat} {M : List Tm} {m : Tm} : m ∈ fireT t M ↔ m ∈ M ∧ m.a ≤ t := by
  unfold fireT
  rw [sortT_mem, List.mem_filter]
  simp
theorem due_free {now t : Nat} {M : List Tm} {m : Tm} (hb : (M.map (·.b)).Nodup) (h0 : now ≤ t) (hm : m ∈ M) (ha : m.a ≤ t) (k q : Nat) : m.b ∉ layK (clr (ql now M) (plc now t + 1)) t (metT now M (plc now t + 1)) k q := fun h => by
  unfold layK at h
  rcases List.mem_append.1 h with h | h
  · unfold clr at h
    split at h
    · cases h
    · obtain ⟨x, hx, h1, h2⟩ := ql_mem.1 h
      have := eq_of_b hb hx hm h2
      subst this
      have := (plc_stay h0 (a := x.a) (by omega)).2
      omega
  · obtain ⟨x, hx, h1⟩ := List.mem_map.1 h
    have h2 := List.mem_filter.1 hx
    have h3 := metT_mem.1 (List.mem_of_mem_take h2.1)
    have := eq_of_b hb h3.1 hm h1
    subst this
    simp only [Bool.and_eq_true, decide_eq_true_eq] at h2
    omega
end Go.Proofs.YtgfmjkbelciaaaaDoor

/- What Advance of the program's wheel does: the walk. -/
namespace Go.Proofs.YtgfmjkbelciaaaaDoor
open Go.RowKit
set_option maxRecDepth 10000
set_option linter.unusedVariables false
set_option linter.unusedSimpArgs false
set_option linter.unnecessarySimpa false

/-- What Advance hands back, and the wheel behind it. -/
def Went (w w' : World) (g : Nat) (F : List Nat) (S : Slb) (K t : Nat) (M : List Tm) (v : Value) : Prop :=
  Own w' 3 v (iv (whatT S (fireT t M))) ∧ (∀ b ∈ v.ownBlock.toList, w.heap.size ≤ b) ∧ Mods F w w' ∧ ∃ F', (∀ b ∈ F', b ∈ F) ∧ WheelA w' g F' (takeL S (fireT t M)) K t (leftT t M)
theorem adv_nil (n : Int) (w : World) : Calls Tryd.prog 21 #[.pointer none, .int .i64 n] w fun e w' => e = .returned (.slice none 0 0) ∧ w = w' := by
  have he := eql_whl
  go_enter Tryd.func21, Tryd.ntmps21
  go_wp2
  go_ret
  exact ⟨rfl, rfl⟩
theorem cat_len (now : Nat) (M : List Tm) (n : Nat) : (cat (ql now M) n).length ≤ M.length := by
  rw [cat_met, List.length_map]
  induction M generalizing n with
  | nil => induction n with
    | zero => simp [metT]
    | succ n ih => simpa [metT] using ih
  | cons m M ih =>
    have : ∀ n, (metT now (m :: M) n).length ≤ (metT now M n).length + (if plc now m.a < n then 1 else 0) := by
      intro n
      induction n with
      | zero => simp [metT]
      | succ n ihn =>
        simp only [metT, List.length_append, List.filter_cons]
        by_cases e : plc now m.a = n
        · rw [if_pos (by simpa using e), if_pos (by omega), List.length_cons]
          rw [if_neg (by omega)] at ihn; omega
        · rw [if_neg (by simpa using e)]
          by_cases e2 : plc now m.a < n
          · rw [if_pos e2] at ihn; rw [if_pos (by omega)]; omega
          · rw [if_neg e2] at ihn; rw [if_neg (by omega)]; omega
    have h1 := this n
    have h2 := ih n
    rw [List.length_cons]
    split at h1 <;> omega
theorem ql_len (now : Nat) (M : List Tm) (p : Nat) : (ql now M p).length ≤ M.length := by
  unfold ql
  rw [List.length_map]
  exact List.length_filter_le _ _
theorem lay_free {now t k : Nat} {M : List Tm} {m : Tm} (hb : (M.map (·.b)).Nodup) (hm : (metT now M (plc now t + 1))[k]? = some m) (q : Nat) : m.b ∉ layK (clr (ql now M) (plc now t + 1)) t (metT now M (plc now t + 1)) k q := fun h => by
  obtain ⟨hk, e⟩ := List.getElem?_eq_some_iff.1 hm
  have hmm := metT_mem.1 (e ▸ List.getElem_mem hk : m ∈ metT now M (plc now t + 1))
  unfold layK at h
  rcases List.mem_append.1 h with h | h
  · unfold clr at h
    split at h
    · cases h
    · obtain ⟨x, hx, h1, h2⟩ := ql_mem.1 h
      have := eq_of_b hb hx hmm.1 h2
      subst this
      omega
  · obtain ⟨x, hx, h1⟩ := List.mem_map.1 h
    have h2 := (List.mem_filter.1 hx).1
    exact not_before (metT_nodup hb _) hk (by rw [e, ← h1]; exact List.mem_map_of_mem h2)
set_option maxHeartbeats 1000000 in
theorem adv_any (w : World) (g : Nat) (F : List Nat) (S : Slb) (K now t : Nat) (n : Int) (M : List Tm) (h : WheelA w g F S K now M) (hK : K ≤ 4000000000000) (ht : min (max n (now : Int)) 1099511627776 = (t : Int)) :
    Calls Tryd.prog 21 #[ptr g, .int .i64 n] w fun e w' => ∃ v, e = .returned v ∧ Hid (Went w w' g F S K t M v) := by
  have hsl : M.length ≤ 4096 := by
    have h1 := h.ok.cnt; have h2 := S.cnt_le; have h3 := h.slabOk.len; have h4 := h.slabOk.hi; omega
  obtain ⟨hg, tv, hF, ps, rfl, h⟩ := h
  have h0 : now ≤ t := by have := h.ok.time; omega
  have h9 : t ≤ 1099511627776 := by omega
  obtain ⟨k0, k1, k2, f1⟩ := h.base.cells
  have he := eql_whl
  have HP := Lib.hid (place_any w g now t k0 (by have := h.ok.time; omega) (by omega))
  have hp := plc_lt now t
  have HE := Lib.hid (empty_any w g hg tv hF ps (ql now M) S K now M (plc now t) h hp (fun p hp => by have := cat_len now M p; have := ql_len now M p; omega))
  have HW := Lib.hid h
  obtain ⟨i0, hi0, hz0, hz1, hz2⟩ := info_parts tim_info
  have HI := Lib.hid (And.intro hi0 (And.intro hz0 (And.intro hz1 hz2)))
  clear h
  go_enter Tryd.func21, Tryd.ntmps21
  go_wp2_with fail
  refine HP.out.mono ?_
  rintro e w' ⟨rfl, rfl⟩
  go_wp2_with fail
  refine HE.out.mono ?_
  rintro e w1 ⟨v, rfl, hv⟩
  have HV := Lib.hid hv.out
  rw [cat_met] at HV
  clear hv HE HP
  have k0' := HV.out.wh.base.cells.1
  have f0' := HV.out.wh.base.cells.2.2.2 0
  obtain ⟨L, hL⟩ : ∃ L, metT now M (plc now t + 1) = L := ⟨_, rfl⟩
  obtain ⟨A, nv, cv, rfl, hnv, hcv, -⟩ := HV.out.own.slice'
  have HNV := Lib.hid (show nv = L.length from by rw [hnv, ptrs_length, List.length_map, hL])
  have HLL := Lib.hid hL
  have hnv5 : nv ≤ 4096 := by
    have := cat_len now M (plc now t + 1)
    rw [cat_met, List.length_map, hL] at this
    rw [HNV.out]; omega
  clear hnv hL
  have H0 := Lib.hid (show Adv (w1.setCell ⟨g, 0, none⟩ (.int .i64 (t : Int))) (w1.setCell ⟨g, 0, none⟩ (.int .i64 (t : Int))) g hg tv hF ps (clr (ql now M) (plc now t + 1)) S K t M L (.slice A nv cv) (.slice none 0 0) 0 from by
    have hv := HV.out
    refine ⟨by rw [layK_zero]; exact hv.wh.tick h9, ?_, ⟨rfl, .inl ⟨rfl, rfl⟩⟩, by simp [Value.ownBlock], fun b hb => ⟨?_, hv.far b hb⟩, fun j hj => ?_, Mods.refl _ _⟩
    · rw [← HLL.out]
      exact hv.own.keep fun b hb => heap_setCell_other _ _ _ _ (by exact fun e => hv.far b hb (by rw [e]; simp [blks]))
    · have := hv.own.lt b hb; simpa [World.setCell] using this
    · have := hv.wh.lt j hj; simpa [World.setCell] using this)
  have M01 := Lib.hid (show Mods (blks g tv hF M) w (w1.setCell ⟨g, 0, none⟩ (.int .i64 (t : Int))) from HV.out.mods.setCell (by simp [blks]) _)
  clear HV
  go_wp2
  go_loopw [6, 29, 8] (fun dv u _ wr => ∃ k : Nat, u = .int .i64 (k : Int) ∧ k ≤ nv ∧ Hid (Adv (w1.setCell ⟨g, 0, none⟩ (.int .i64 (t : Int))) wr g hg tv hF ps (clr (ql now M) (plc now t + 1)) S K t M L (.slice A nv cv) dv k)) (fun _ u _ _ => nv - (intOf u).toNat)
  case atStart => exact ⟨0, rfl, by omega, H0⟩
  case round =>
    obtain ⟨k, rfl, hk, hr⟩ := hrel
    by_cases hkn : k < nv
    · obtain ⟨m, hmk⟩ : ∃ m, L[k]? = some m := ⟨_, List.getElem?_eq_getElem (by have := HNV.out; omega)⟩
      have hmM : m ∈ M ∧ plc now m.a < plc now t + 1 := by
        have := List.mem_of_getElem? hmk
        rw [← HLL.out] at this
        exact metT_mem.1 this
      obtain ⟨vb, vo, rfl, cA⟩ := hr.out.met.src k _ (ptrs_at (L.map (·.b)) k m.b (by rw [List.getElem?_map, hmk]; rfl))
      obtain ⟨x, y, r⟩ := hr.out.wh.node m hmM.1
      have c2 : wr.cell? ⟨m.b, 2, none⟩ = some (.int .i64 (m.a : Int)) := by rw [r.cell]; rfl
      have q1 : (k : Int) < (nv : Int) := by omega
      have HMK := Lib.hid hmk
      have HMM := Lib.hid hmM.1
      have HQ := Lib.hid (fun q => lay_free HW.out.ok.bnd (by rw [HLL.out]; exact hmk) q)
      have HDL := Lib.hid (show (dueK t L k).length ≤ 4096 from by
        unfold dueK
        refine Nat.le_trans (List.length_filter_le _ _) ?_
        rw [List.length_take]; omega)
      have HR := hr
      clear hr hmk hmM r
      by_cases hmt : m.a ≤ t
      · have q2 : (m.a : Int) ≤ (t : Int) := by omega
        have hdl := HDL.out
        go_wp2_with (at_builtin; refine wpList_append_lies _ rfl (.tmp 39) (.tmp 41) _ rfl 0 69 i0 _ 1 8 Tryd.underlying68 HI.out.1 HI.out.2.1 HI.out.2.2.1 HI.out.2.2.2 rfl (by omega) u6 (dueK t L k).length (ptrs ((dueK t L k).map (·.b))) rfl (own_mods HR.out.due ((Mods.refl [] wr).alloc _) (by simp)) ⟨wr.heap.size, 0, none⟩ 1 1 [.pointer (some ⟨m.b, 0, none⟩)] rfl rfl (World.news_of_block (new_at rfl)) (by simp [Value.oneCell']) (by omega) (by unfold maxLen; omega) (by omega) (Nat.zero_le _) (wr.heap.size + 1) (by simp) ?_; intro g1 cap1 w3 hown1 hg1 hat1 hlt1; have HA3 := Lib.hid (HR.out.dued HMK.out hmt hown1 (((Mods.refl _ wr).alloc _).grown hg1 (fun j hj => .inl (by rw [hj]; simp))) (by rcases hat1 with h | h; exact .inl h; exact .inr (by omega))); clear hown1 hg1 hat1)
        go_roundw
        case rel => exact ⟨k + 1, by go_num, by omega, HA3⟩
        case measure => simp [intOf]; omega
      · have q2 : ¬ (m.a : Int) ≤ (t : Int) := by omega
        go_wp2_with fail
        refine (lay_any wr g hg tv hF ps _ S K t M m HR.out.wh HMM.out (fun q _ => by have := HQ.out q; rw [HLL.out] at this; exact this)).mono ?_
        rintro e w3 ⟨rfl, hd⟩
        have HA3 := Lib.hid (HR.out.laid HMK.out hmt hd.out.1 hd.out.2)
        clear hd
        go_wp2
        go_roundw
        case rel => exact ⟨k + 1, by go_num, by omega, HA3⟩
        case measure => simp [intOf]; omega
    · have e : k = L.length := by have := HNV.out; omega
      obtain ⟨A6, c6, rfl, hc6, _⟩ := own_slice hr.out.due
      obtain ⟨D, hD⟩ : ∃ D, dueK t L k = D := ⟨_, rfl⟩
      have eD : D = (metT now M (plc now t + 1)).filter (fun m => decide (m.a ≤ t)) := by
        rw [← hD, e, HLL.out]; unfold dueK; rw [List.take_length]
      rw [hD]
      rw [hD] at hc6
      have q1 : ¬ (k : Int) < (nv : Int) := by omega
      have HR := Lib.hid hr.out
      have HE := Lib.hid e
      have HD := Lib.hid hD
      have HED := Lib.hid eD
      have HC6 := Lib.hid hc6
      have HWE : Hid (∀ w4 hv ps', Hid (WheelM w4 g hg tv hF ps' (layK (clr (ql now M) (plc now t + 1)) t (metT now M (plc now t + 1)) (metT now M (plc now t + 1)).length) (takeL S ((fireT t M).take (fireT t M).length)) K t (wosT M ((fireT t M).take (fireT t M).length))) →
          Own w4 3 hv (iv (whatT S ((fireT t M).take (fireT t M).length))) → (∀ b ∈ hv.ownBlock.toList, w.heap.size ≤ b) → Mods (blks g tv hF M) w w4 → Went w w4 g (blks g tv hF M) S K t M hv) := Lib.hid fun w4 hv ps' h1 h2 h3 h4 => by
        obtain ⟨h5, h6⟩ := adv_end HW.out.ok h0 h1.out h2
        exact ⟨h6, h3, h4, _, blks_sub (fun m hm => (List.mem_filter.1 hm).1), ⟨hg, tv, hF, ps', rfl, h5⟩⟩
      clear hr e hD eD hc6
      by_cases hz : D.length = 0
      · rw [hz]
        have HFT := Lib.hid (show fireT t M = [] from by
          cases hf : fireT t M with
          | nil => rfl
          | cons m R =>
            have h1 : m ∈ D := by rw [HED.out]; exact (due_mem h0).2 (fireT_mem.1 (by rw [hf]; simp))
            rw [List.eq_nil_of_length_eq_zero hz] at h1; cases h1)
        go_wp2_with fail
        refine (fire_none wr g A6 c6).mono ?_
        rintro e w4 ⟨rfl, rfl⟩
        have HX := Lib.hid (HWE.out wr (.slice none 0 0) ps (Lib.hid (by
          have h1 := HR.out.wh
          rw [HFT.out, HLL.out, ← HE.out]
          rw [List.take_nil, wosT_nil]
          exact h1)) (by rw [HFT.out]; exact Own.nil _ _) (by simp [Value.ownBlock]) (M01.out.trans HR.out.mods (fun j hj => .inl hj)))
        clear HWE
        go_wp2
        go_ret
        exact ⟨_, rfl, HX⟩
      · obtain ⟨B, c7, hB, hBl, _, _⟩ := own_some (show wr.ownsRow 0 69 1 (.slice A6 D.length c6) D.length (ptrs (D.map (·.b))) from by have := HR.out.due; rwa [HD.out] at this) (by omega)
        injection hB with hB1 _ hB3
        subst hB1
        subst hB3
        have hdue : wr.ownsRow 0 69 1 (.slice (some ⟨B, 0, none⟩) D.length c6) D.length (ptrs (D.map (·.b))) := by have := HR.out.due; rwa [HD.out] at this
        have hBf := HR.out.fresh B (by rw [HD.out]; simp [Value.ownBlock])
        have HBf := Lib.hid hBf
        have hAr : Arr wr B (D.map (·.b)) := ⟨fun i b hi => by
          rw [hdue.cellAt i (by have := (List.getElem?_eq_some_iff.1 hi).1; simpa using this)]
          exact ptrs_at _ _ _ hi, hdue.frozenAt⟩
        have hnb := HW.out.ok.bnd
        have hdl : D.length ≤ 4096 := by
          rw [HED.out]
          refine Nat.le_trans (List.length_filter_le _ _) ?_
          rw [HLL.out]; have := HNV.out; omega
        have HFI := Lib.hid (fire_row wr wr B D.length c6 g hg tv hF ps _ S K t M D (fireT t M) (keyT M) HR.out.wh hK hAr rfl (by omega) HC6.out (fun hj => by have := HR.out.old B hj; omega) hBl
          (fun m hm => by
            rw [HED.out] at hm
            have h1 := (due_mem h0).1 hm
            exact ⟨h1.1, keyT_of hnb h1.1⟩)
          (fun m hm => by
            have h1 := fireT_mem.1 hm
            exact ⟨h1.1, keyT_of hnb h1.1⟩)
          (sortT_srt _) (fun j => by rw [HED.out]; exact due_same M h0 j) (by rw [HED.out]; exact nodup_filter_map _ _ (metT_nodup hnb _))
          (fun m hm q _ => by
            rw [HED.out] at hm
            have h1 := (due_mem h0).1 hm
            have := due_free hnb h0 h1.1 h1.2 k q
            rw [HLL.out] at this
            exact this))
        clear hdue hAr hnb hBf
        go_wp2_with fail
        refine HFI.out.mono ?_
        rintro e w4 ⟨hv, rfl, hf⟩
        have HX := Lib.hid (show Went w w4 g (blks g tv hF M) S K t M hv from by
          obtain ⟨ps', hf⟩ := hf.out
          refine HWE.out w4 hv ps' (Lib.hid (by
            have h1 := hf.wh
            rw [HLL.out, ← HE.out]
            exact h1)) hf.own (fun b hb => ?_) ?_
          · have h1 := hf.fresh b hb
            have h2 := (M01.out.trans HR.out.mods (fun j hj => .inl hj)).size
            omega
          · exact (M01.out.trans HR.out.mods (fun j hj => .inl hj)).trans hf.mods (fun j hj => by
              rcases List.mem_cons.1 hj with e | e
              · right
                have := M01.out.size
                have := HBf.out
                omega
              · exact .inl e))
        clear HWE hf
        go_wp2
        go_ret
        exact ⟨_, rfl, HX⟩
end Go.Proofs.YtgfmjkbelciaaaaDoor
