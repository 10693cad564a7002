/- What Reset and Cancel of the program's wheel answer. -/
import Derived.Test.YtgfmjkbelciaaaaDoorWhAdd2
namespace Go.Proofs.YtgfmjkbelciaaaaDoor
open Go.RowKit
set_option maxRecDepth 10000
set_option linter.unusedVariables false
set_option linter.unusedSimpArgs false
set_option linter.unnecessarySimpa false

theorem split_at {M : List Tm} {m : Tm} (hm : m ∈ M) : ∃ L R, M = L ++ m :: R := List.append_of_mem hm
theorem woT_split {L R : List Tm} {m : Tm} (h : ((L ++ m :: R).map (·.b)).Nodup) : woT (L ++ m :: R) m.b = L ++ R := by
  rw [List.map_append, List.map_cons, List.nodup_append] at h
  unfold woT
  rw [List.filter_append, List.filter_cons, if_neg (by simp)]
  have h1 : L.filter (fun x => x.b != m.b) = L := List.filter_eq_self.2 fun x hx => by
    simp only [bne_iff_ne]
    exact h.2.2 x.b (List.mem_map_of_mem hx) m.b (by simp)
  have h2 : R.filter (fun x => x.b != m.b) = R := List.filter_eq_self.2 fun x hx => by
    simp only [bne_iff_ne]
    intro e
    exact (List.nodup_cons.1 h.2.1).1 (e ▸ List.mem_map_of_mem hx)
  rw [h1, h2]
theorem ql_split {now : Nat} {L R : List Tm} {m : Tm} : ql now (L ++ m :: R) (plc now m.a) = ql now L (plc now m.a) ++ m.b :: ql now R (plc now m.a) := by
  unfold ql
  rw [List.filter_append, List.filter_cons, if_pos (by simp), List.map_append, List.map_cons]
theorem ql_without {now : Nat} {L R : List Tm} {m : Tm} : upd (ql now (L ++ m :: R)) (plc now m.a) (ql now L (plc now m.a) ++ ql now R (plc now m.a)) = ql now (L ++ R) := by
  funext p
  unfold upd ql
  by_cases e : p = plc now m.a
  · subst e
    rw [if_pos rfl, List.filter_append, List.map_append]
  · rw [if_neg e, List.filter_append, List.filter_append, List.filter_cons, if_neg (by simp; intro h; exact e h.symm)]
theorem wo_lists {now : Nat} {M : List Tm} {m : Tm} (hb : (M.map (·.b)).Nodup) (hm : m ∈ M) : ∃ l1 l2, ql now M (plc now m.a) = l1 ++ m.b :: l2 ∧ upd (ql now M) (plc now m.a) (l1 ++ l2) = ql now (woT M m.b) := by
  obtain ⟨L, R, rfl⟩ := split_at hm
  exact ⟨_, _, ql_split, by rw [ql_without, woT_split hb]⟩
theorem not_wo {now : Nat} {M : List Tm} {m : Tm} (q : Nat) : m.b ∉ ql now (woT M m.b) q := fun h => by
  obtain ⟨x, hx, _, e⟩ := ql_mem.1 h
  exact (woT_sub M m.b x hx).2 e
/-- One timer set to another time, behind all others. -/
def resT (M : List Tm) (m : Tm) (a : Nat) : List Tm := woT M m.b ++ [⟨m.b, m.s, m.g, a⟩]
/-- The time of one timer is turned; it lies in no list. -/
theorem WheelM.timed {w : World} {g hg : Nat} {tv : Value} {hF : List Nat} {ps : List (Option Nat)} {Q : Nat → List Nat} {S : Slb} {K now a : Nat} {M : List Tm} {m : Tm} (h : WheelM w g hg tv hF ps Q S K now M) (hm : m ∈ M) (hQ : ∀ q, q < 257 → m.b ∉ Q q) (ha : a ≤ 1099511627776) :
    WheelM (w.setCell ⟨m.b, 2, none⟩ (.int .i64 (a : Int))) g hg tv hF ps Q S K now (resT M m a) ∧ Mods (blks g tv hF M) w (w.setCell ⟨m.b, 2, none⟩ (.int .i64 (a : Int))) ∧ (∀ k, k ∈ blks g tv hF (resT M m a) ↔ k ∈ blks g tv hF M) := by
  obtain ⟨a1, a2, a3, a4, a5⟩ := h.apart
  have hmb := List.mem_map_of_mem (f := fun x : Tm => x.b) hm
  have far : ∀ k, k ≠ m.b → (w.setCell ⟨m.b, 2, none⟩ (.int .i64 (a : Int))).heap[k]? = w.heap[k]? := fun k hk => heap_setCell_other _ _ _ _ (by exact hk)
  have bs : ∀ k, k ∈ (resT M m a).map (·.b) ↔ k ∈ M.map (·.b) := fun k => by
    unfold resT
    rw [List.map_append, List.mem_append]
    constructor
    · rintro (h1 | h1)
      · obtain ⟨x, hx, rfl⟩ := List.mem_map.1 h1
        exact List.mem_map_of_mem (woT_sub M m.b x hx).1
      · have : k = m.b := by simpa using h1
        rw [this]; exact hmb
    · intro h1
      obtain ⟨x, hx, rfl⟩ := List.mem_map.1 h1
      by_cases e : x.b = m.b
      · right; simp [e]
      · exact .inl (List.mem_map_of_mem (woT_mem hx e))
  have hwo := h.ok.end_ hm
  obtain ⟨u1, u2, u3⟩ := h.ok.use m hm
  have ss : ∀ x ∈ woT M m.b, x.s ≠ m.s := fun x hx e => by
    obtain ⟨h1, h2⟩ := woT_sub M m.b x hx
    exact h2 (congrArg (·.b) (eq_of_s h.ok.slots h1 hm e))
  refine ⟨⟨h.base.keep (far g (fun e => a3 (e ▸ hmb))), slabA_keep h.slab fun k hk => far k (fun e => (a4 k hk).2 (e ▸ hmb)), h.own.keep fun k hk => far k (fun e => a5 k hk (e ▸ hmb)), h.plen, fun i hi => ?_, h.lnk.keep (far g (fun e => a3 (e ▸ hmb))) (fun p hp b hb => far b (fun e => hQ p hp (e ▸ hb))), fun p hp b hb => (bs b).2 (h.qin p hp b hb), fun x hx => ?_, ?_⟩, (Mods.refl _ _).setCell (by
    left
    simp only [blks, List.mem_cons, List.mem_append]; exact .inr (.inr (.inr hmb))) _, fun k => ?_⟩
  · rw [h.pat i hi]
    unfold resT
    rw [bySlot_snoc (m := ⟨m.b, m.s, m.g, a⟩) (fun x hx => ss x hx), bySlot_wo h.ok hm]
    by_cases e : i = m.s
    · simp only [e, if_true]
      rw [bySlot_of h.ok.slots hm]
    · simp only [if_neg e]
  · rcases List.mem_append.1 hx with hx | hx
    · obtain ⟨h1, h2⟩ := woT_sub M m.b x hx
      obtain ⟨y, z, r⟩ := h.node x h1
      exact ⟨y, z, r.keep (far x.b h2)⟩
    · simp only [List.mem_cons, List.mem_nil_iff, or_false] at hx
      subst hx
      obtain ⟨y, z, r⟩ := h.node m hm
      exact ⟨y, z, r.set 2 _⟩
  · refine ⟨?_, ?_, fun x hx => ?_, fun i hi => ?_, ?_, h.ok.time, fun x hx => ?_, h.ok.lim⟩
    · unfold resT
      rw [List.map_append]
      refine List.nodup_append.2 ⟨hwo.bnd, by simp, fun x hx y hy e => ?_⟩
      obtain ⟨z, hz, rfl⟩ := List.mem_map.1 hx
      have : y = m.b := by simpa using hy
      exact (woT_sub M m.b z hz).2 (e.trans this)
    · unfold resT
      rw [List.map_append]
      refine List.nodup_append.2 ⟨hwo.slots, by simp, fun x hx y hy e => ?_⟩
      obtain ⟨z, hz, rfl⟩ := List.mem_map.1 hx
      have : y = m.s := by simpa using hy
      exact ss z hz (e.trans this)
    · rcases List.mem_append.1 hx with hx | hx
      · exact h.ok.use x (woT_sub M m.b x hx).1
      · simp only [List.mem_cons, List.mem_nil_iff, or_false] at hx
        subst hx
        exact ⟨u1, u2, u3⟩
    · obtain ⟨x, hx, e⟩ := h.ok.all i hi
      by_cases e2 : x.b = m.b
      · have := eq_of_b h.ok.bnd hx hm e2
        subst this
        exact ⟨_, List.mem_append_right _ (List.mem_singleton.2 rfl), e⟩
      · exact ⟨x, List.mem_append_left _ (woT_mem hx e2), e⟩
    · unfold resT
      rw [List.length_append, List.length_singleton, woT_length h.ok.bnd hm, h.ok.cnt]
    · rcases List.mem_append.1 hx with hx | hx
      · exact h.ok.times x (woT_sub M m.b x hx).1
      · simp only [List.mem_cons, List.mem_nil_iff, or_false] at hx
        subst hx; exact ha
  · simp only [blks, List.mem_cons, List.mem_append, bs k]
end Go.Proofs.YtgfmjkbelciaaaaDoor

/- What Reset and Cancel of the program's wheel answer: the walks. -/
namespace Go.Proofs.YtgfmjkbelciaaaaDoor
open Go.RowKit
set_option maxRecDepth 10000
set_option linter.unusedVariables false
set_option linter.unusedSimpArgs false
set_option linter.unnecessarySimpa false

theorem reset_nil (a b n : Int) (w : World) : Calls Tryd.prog 16 #[.pointer none, .agg #[.int .i64 a, .int .i64 b], .int .i64 n] w fun e w' => e = .returned (.int .i64 1) ∧ Mods [] w w' := by
  have he := eql_whl
  go_enter Tryd.func16, Tryd.ntmps16
  go_wp2
  go_ret
  exact ⟨rfl, (Mods.refl [] w).alloc _⟩
theorem reset_no (g : Nat) (a b n : Int) (w : World) (h : n < 0 ∨ 1099511627776 < n) : Calls Tryd.prog 16 #[ptr g, .agg #[.int .i64 a, .int .i64 b], .int .i64 n] w fun e w' => e = .returned (.int .i64 1) ∧ Mods [] w w' := by
  have he := eql_whl
  have HT := Lib.hid (isTime_any n (w.alloc (.cells #[.int .i64 a, .int .i64 b] 32)))
  rw [no_time h] at HT
  clear h
  go_enter Tryd.func16, Tryd.ntmps16
  go_wp2_with fail
  refine HT.out.mono ?_
  rintro e w1 ⟨rfl, rfl⟩
  go_wp2
  go_ret
  exact ⟨rfl, (Mods.refl [] w).alloc _⟩
theorem reset_stale (w : World) (g n : Nat) (F : List Nat) (S : Slb) (K now : Nat) (M : List Tm) (a b : Int) (h : WheelA w g F S K now M) (hn : n ≤ 1099511627776) (ha : -9223372036854775808 ≤ a) (ha' : a ≤ 9223372036854775807) (hs : S.is a b = false) :
    Calls Tryd.prog 16 #[ptr g, .agg #[.int .i64 a, .int .i64 b], .int .i64 (n : Int)] w fun e w' => e = .returned (.int .i64 10) ∧ Mods [] w w' := by
  obtain ⟨hg, tv, hF, ps, rfl, h⟩ := h
  have he := eql_whl
  have ht := eql_tim
  have HT := Lib.hid (isTime_any (n : Int) (w.alloc (.cells #[.int .i64 a, .int .i64 b] 32)))
  rw [is_time hn] at HT
  have HF := Lib.hid (find_no (w.alloc (.cells #[.int .i64 a, .int .i64 b] 32)) g hg tv hF ps _ S K now M a b (h.mods0 ((Mods.refl [] w).alloc _)) ha ha' hs)
  clear h hs
  go_enter Tryd.func16, Tryd.ntmps16
  go_wp2_with fail
  refine HT.out.mono ?_
  rintro e w1 ⟨rfl, rfl⟩
  go_wp2_with fail
  refine HF.out.mono ?_
  rintro e w2 ⟨rfl, hm⟩
  have H1 := Lib.hid (((Mods.refl [] w).alloc _).trans hm (by simp))
  clear hm
  go_wp2
  go_ret
  exact ⟨rfl, H1.out⟩
theorem reset_yes (w : World) (g n : Nat) (F : List Nat) (S : Slb) (K now : Nat) (M : List Tm) (m : Tm) (h : WheelA w g F S K now M) (hn : n ≤ 1099511627776) (hm : m ∈ M) :
    Calls Tryd.prog 16 #[ptr g, .agg #[.int .i64 (m.s : Int), .int .i64 (m.g : Int)], .int .i64 (n : Int)] w fun e w' => e = .returned (.int .i64 0) ∧ Hid (∃ F', WheelA w' g F' S K now (resT M m n) ∧ Mods F w w' ∧ ∀ k, k ∈ F' ↔ k ∈ F) := by
  obtain ⟨hg, tv, hF, ps, rfl, h⟩ := h
  have he := eql_whl
  have ht := eql_tim
  have HT := Lib.hid (isTime_any (n : Int) (w.alloc (.cells #[.int .i64 (m.s : Int), .int .i64 (m.g : Int)] 32)))
  rw [is_time hn] at HT
  have HF := Lib.hid (find_yes (w.alloc (.cells #[.int .i64 (m.s : Int), .int .i64 (m.g : Int)] 32)) g hg tv hF ps _ S K now M m (h.mods0 ((Mods.refl [] w).alloc _)) hm)
  obtain ⟨l1, l2, hl, hu⟩ := wo_lists (now := now) h.ok.bnd hm
  have HW := Lib.hid h
  have HL := Lib.hid (And.intro hl hu)
  have HMM := Lib.hid hm
  clear h hl hu hm
  go_enter Tryd.func16, Tryd.ntmps16
  go_wp2_with fail
  refine HT.out.mono ?_
  rintro e w1 ⟨rfl, rfl⟩
  go_wp2_with fail
  refine HF.out.mono ?_
  rintro e w2 ⟨rfl, hd⟩
  have H1 := Lib.hid (((Mods.refl [] w).alloc _).trans hd (by simp))
  clear hd
  go_wp2_with fail
  refine (lift_any w2 g hg tv hF ps (ql now M) S K now M m l1 l2 (HW.out.mods0 H1.out) HMM.out HL.out.1).mono ?_
  rintro e w3 ⟨rfl, hd⟩
  have H3 := Lib.hid (show WheelM w3 g hg tv hF ps (ql now (woT M m.b)) S K now M ∧ Mods (blks g tv hF M) w w3 from by
    rw [← HL.out.2]
    exact ⟨hd.out.1, (H1.out.more (by simp)).trans hd.out.2 (fun k hk => .inl hk)⟩)
  have HTM := Lib.hid (H3.out.1.timed HMM.out (fun q _ => not_wo q) hn)
  have c2 : ∃ u, w3.cell? ⟨m.b, 2, none⟩ = some u ∧ ∀ i, w3.frozen? ⟨m.b, i, none⟩ = false := by
    obtain ⟨x, y, r⟩ := H3.out.1.node m HMM.out
    exact ⟨_, by rw [r.cell]; rfl, r.free⟩
  obtain ⟨u2, c2, f2⟩ := c2
  clear hd
  go_wp2_with fail
  refine (lay_any _ g hg tv hF ps (ql now (woT M m.b)) S K now (resT M m n) ⟨m.b, m.s, m.g, n⟩ HTM.out.1 (by unfold resT; simp) (fun q _ => not_wo q)).mono ?_
  rintro e w4 ⟨rfl, hd⟩
  have H4 := Lib.hid (show ∃ F', WheelA w4 g F' S K now (resT M m n) ∧ Mods (blks g tv hF M) w w4 ∧ ∀ k, k ∈ F' ↔ k ∈ blks g tv hF M from by
    have hA : WheelA w4 g (blks g tv hF (resT M m n)) S K now (resT M m n) := ⟨hg, tv, hF, ps, rfl, by
      have := hd.out.1
      unfold resT at this ⊢
      rw [ql_snoc]; exact this⟩
    exact ⟨_, hA, (H3.out.2.trans HTM.out.2.1 (fun k hk => .inl hk)).trans hd.out.2 (fun k hk => .inl ((HTM.out.2.2 k).1 hk)), HTM.out.2.2⟩)
  clear hd
  go_wp2
  go_ret
  exact ⟨rfl, H4⟩
end Go.Proofs.YtgfmjkbelciaaaaDoor

/- What Cancel of the program's wheel answers: the walk. -/
namespace Go.Proofs.YtgfmjkbelciaaaaDoor
open Go.RowKit
set_option maxRecDepth 10000
set_option linter.unusedVariables false
set_option linter.unusedSimpArgs false
set_option linter.unnecessarySimpa false

/-- The timers whose slots are in use. -/
def liveT (S : Slb) (M : List Tm) : List Tm := M.filter (fun m => S.us.getD m.s false)
theorem live_self {S : Slb} {now : Nat} {M : List Tm} (h : WOk S now M) : liveT S M = M := List.filter_eq_self.2 fun m hm => (h.use m hm).2.1
theorem live_take {S : Slb} {now : Nat} {M M0 : List Tm} {m : Tm} (h : WOk S now M) (hm : m ∈ M) (hM : M = liveT S M0) : woT M m.b = liveT (S.take m.s) M0 := by
  obtain ⟨u1, u2, u3⟩ := h.use m hm
  have e1 : woT M m.b = M.filter (fun x => (S.take m.s).us.getD x.s false) := by
    unfold woT
    refine List.filter_congr fun x hx => ?_
    simp only [Slb.take]
    rw [getD_set_bool, Bool.eq_iff_iff]
    constructor
    · intro h1
      have h2 : x.b ≠ m.b := by simpa using h1
      rw [if_neg (fun h3 => h2 (congrArg (·.b) (eq_of_s h.slots hm hx h3.1)).symm)]
      exact (h.use x hx).2.1
    · intro h1
      simp only [bne_iff_ne]
      intro h2
      have := eq_of_b h.bnd hx hm h2
      subst this
      rw [if_pos ⟨rfl, u1⟩] at h1
      cases h1
  rw [e1, hM]
  unfold liveT
  rw [List.filter_filter]
  refine List.filter_congr fun x hx => ?_
  simp only [Slb.take]
  rw [getD_set_bool]
  split
  · simp
  · cases S.us.getD x.s false <;> rfl
theorem cancel_nil (w : World) (hb c : Nat) (l : List (Int × Int)) (hl : l.length ≤ 100000) (hp : Pairs w hb l) :
    Calls Tryd.prog 18 #[.pointer none, .slice (some ⟨hb, 0, none⟩) l.length c] w fun e w' => e = .returned (.int .i64 0) ∧ Mods [] w w' := by
  have HP := Lib.hid hp
  have hn := neq_tim
  clear hp
  go_enter Tryd.func18, Tryd.ntmps18
  go_wp2
  go_loopw [5, 7, 8, 11] (fun n _ _ i wr => ∃ k : Nat, k ≤ l.length ∧ i = .int .i64 k ∧ n = .int .i64 0 ∧ Hid (Mods [] w wr)) (fun _ _ _ i _ => l.length - (intOf i).toNat)
  case atStart => exact ⟨0, by omega, rfl, rfl, Lib.hid (Mods.refl _ _)⟩
  case round =>
    obtain ⟨k, hk, rfl, rfl, hr⟩ := hrel
    by_cases hlt : k < l.length
    · have hq := List.getElem?_eq_getElem hlt
      generalize l[k] = q at hq
      obtain ⟨a, b⟩ := q
      obtain ⟨p1, p2, ⟨p3, p4⟩, p5, p6⟩ := (HP.out.mods hr.out (by simp)) k (a, b) hq
      clear hq
      go_wp2_with fail
      refine (find_nil _ _ _).mono ?_
      rintro e w1 ⟨rfl, hd⟩
      have H3 := Lib.hid (((Mods.refl [] wr).alloc _).trans hd (by simp))
      clear hd
      go_wp2
      go_roundw
      case rel => exact ⟨k + 1, by omega, by go_num, rfl, Lib.hid (hr.out.trans H3.out (by simp))⟩
      case measure => simp [intOf]; omega
    · go_wp2
      go_ret
      exact ⟨rfl, hr.out⟩
/-- Where Cancel stands. -/
def Canc (w wr : World) (g : Nat) (F : List Nat) (S : Slb) (K now : Nat) (M : List Tm) : Prop :=
  ∃ F', (∀ k ∈ F', k ∈ F) ∧ WheelA wr g F' S K now (liveT S M) ∧ Mods F w wr
set_option maxHeartbeats 1000000 in
theorem cancel_any (w : World) (g hb c : Nat) (l : List (Int × Int)) (F : List Nat) (S : Slb) (K now : Nat) (M : List Tm) (h : WheelA w g F S K now M) (hK : K ≤ 4000000000000) (hl : l.length ≤ 100000) (hp : Pairs w hb l) (hbF : hb ∉ F) :
    Calls Tryd.prog 18 #[ptr g, .slice (some ⟨hb, 0, none⟩) l.length c] w fun e w' => e = .returned (.int .i64 (S.taken l)) ∧ Hid (Canc w w' g F (S.takes l) K now M) := by
  have H0 := Lib.hid (show Canc w w g F S K now M from ⟨F, fun k hk => hk, by rw [live_self h.ok]; exact h, Mods.refl _ _⟩)
  have HP := Lib.hid hp
  have HT := Lib.hid (fun k => S.taken_le (l.take k))
  have hn := neq_tim
  have HB := Lib.hid hbF
  clear h hp hbF
  go_enter Tryd.func18, Tryd.ntmps18
  go_wp2
  go_loopw [5, 7, 8, 11] (fun n _ _ i wr => ∃ k : Nat, k ≤ l.length ∧ i = .int .i64 k ∧ n = .int .i64 (S.taken (l.take k)) ∧ Hid (Canc w wr g F (S.takes (l.take k)) K now M)) (fun _ _ _ i _ => l.length - (intOf i).toNat)
  case atStart => exact ⟨0, by omega, rfl, by simp [Slb.taken], Lib.hid (by simpa [Slb.takes] using H0.out)⟩
  case round =>
    obtain ⟨k, hk, rfl, rfl, hr⟩ := hrel
    by_cases hlt : k < l.length
    · have ht := HT.out k
      have htl : (l.take k).length ≤ 100000 := by simp; omega
      have hq := List.getElem?_eq_getElem hlt
      have hnx := take_next l k hlt
      generalize l[k] = q at hq hnx
      obtain ⟨a, b⟩ := q
      obtain ⟨F', hF', hA, hm⟩ := hr.out
      obtain ⟨p1, p2, ⟨p3, p4⟩, p5, p6⟩ := (HP.out.mods hm HB.out) k (a, b) hq
      have hT1 : S.taken (l.take (k + 1)) = S.taken (l.take k) + ((S.takes (l.take k)).is a b).toNat := by rw [hnx, Slb.taken_snoc]
      have hS1 : S.takes (l.take (k + 1)) = (S.takes (l.take k)).take1 (a, b) := by rw [hnx, Slb.takes_snoc]
      generalize hS2 : S.takes (l.take k) = S2 at *
      generalize S.taken (l.take k) = t at *
      have hAok := hA.ok
      obtain ⟨hg, tv, hFF, ps, rfl, hW⟩ := hA
      cases hs : S2.is a b
      · have H1 := Lib.hid (show S.taken (l.take (k + 1)) = t by rw [hT1, hs]; rfl)
        have H2 := Lib.hid (show S.takes (l.take (k + 1)) = S2 by rw [hS1]; unfold Slb.take1; simp only [hs]; rfl)
        have HN := Lib.hid (find_no (wr.alloc (.cells #[.int .i64 a, .int .i64 b] 32)) g hg tv hFF ps _ S2 K now _ a b (hW.mods0 ((Mods.refl [] wr).alloc _)) p3 p4 hs)
        have HR := Lib.hid hr.out
        clear hs hT1 hS1 hS2 hnx hq hW hAok hF' hm hr
        go_wp2_with fail
        refine HN.out.mono ?_
        rintro e w1 ⟨rfl, hd⟩
        have H3 := Lib.hid (((Mods.refl [] wr).alloc _).trans hd (by simp))
        clear hd
        go_wp2
        go_roundw
        case rel => exact ⟨k + 1, by omega, by go_num, by rw [H1.out], Lib.hid (by
          rw [H2.out]
          obtain ⟨F', h1, h2, h3⟩ := HR.out
          exact ⟨F', h1, h2.mods0 H3.out, h3.trans H3.out (by simp)⟩)⟩
        case measure => simp [intOf]; omega
      · obtain ⟨m, hmM, rfl, rfl⟩ := hW.of_is hs
        have H1 := Lib.hid (show S.taken (l.take (k + 1)) = t + 1 by rw [hT1, hs]; rfl)
        have H2 := Lib.hid (show S.takes (l.take (k + 1)) = S2.take m.s by rw [hS1]; unfold Slb.take1; simp only [hs, Int.toNat_natCast]; rfl)
        have HN := Lib.hid (find_yes (wr.alloc (.cells #[.int .i64 (m.s : Int), .int .i64 (m.g : Int)] 32)) g hg tv hFF ps _ S2 K now _ m (hW.mods0 ((Mods.refl [] wr).alloc _)) hmM)
        obtain ⟨l1, l2, hl1, hl2⟩ := wo_lists (now := now) hW.ok.bnd hmM
        have HL := Lib.hid (And.intro hl1 hl2)
        have HWW := Lib.hid hW
        have HMM := Lib.hid hmM
        have HFS := Lib.hid (And.intro hF' hm)
        clear hs hT1 hS1 hS2 hnx hq hW hAok hF' hm hr hmM hl1 hl2
        go_wp2_with fail
        refine HN.out.mono ?_
        rintro e w1 ⟨rfl, hd⟩
        have H3 := Lib.hid (((Mods.refl [] wr).alloc _).trans hd (by simp))
        clear hd
        go_wp2_with fail
        refine (lift_any w1 g hg tv hFF ps (ql now (liveT S2 M)) S2 K now (liveT S2 M) m l1 l2 (HWW.out.mods0 H3.out) HMM.out HL.out.1).mono ?_
        rintro e w2 ⟨rfl, hd⟩
        have H4 := Lib.hid (show WheelM w2 g hg tv hFF ps (ql now (woT (liveT S2 M) m.b)) S2 K now (liveT S2 M) ∧ Mods (blks g tv hFF (liveT S2 M)) wr w2 from by
          rw [← HL.out.2]
          exact ⟨hd.out.1, (H3.out.more (by simp)).trans hd.out.2 (fun k hk => .inl hk)⟩)
        clear hd
        go_wp2_with fail
        refine (end_any w2 g hg tv hFF ps _ S2 K now (liveT S2 M) m H4.out.1 HMM.out (fun q _ => not_wo q) hK).mono ?_
        rintro e w3 ⟨rfl, hd⟩
        have H5 := Lib.hid (show Canc w w3 g F (S2.take m.s) K now M from by
          have e1 := live_take HWW.out.ok HMM.out rfl
          have h1 := hd.out.1
          rw [e1] at h1
          exact ⟨blks g tv hFF (liveT (S2.take m.s) M), fun j hj => HFS.out.1 j (blks_sub (fun x hx => by rw [← e1] at hx; exact (woT_sub _ _ x hx).1) j hj), ⟨hg, tv, hFF, _, rfl, h1⟩, HFS.out.2.trans (H4.out.2.trans hd.out.2 (fun j hj => .inl hj)) (fun j hj => .inl (HFS.out.1 j hj))⟩)
        clear hd
        go_wp2
        go_roundw
        case rel => exact ⟨k + 1, by omega, by go_num, by rw [H1.out]; go_num, Lib.hid (by rw [H2.out]; exact H5.out)⟩
        case measure => simp [intOf]; omega
    · have e : k = l.length := by omega
      subst e
      have HZ := Lib.hid hr.out
      rw [List.take_length] at HZ
      have e2 := Lib.hid (show S.taken (l.take l.length) = S.taken l by rw [List.take_length])
      go_wp2
      go_ret
      exact ⟨by rw [← e2.out]; rfl, HZ⟩
end Go.Proofs.YtgfmjkbelciaaaaDoor
