/- What fire of the program's wheel does. -/
import Derived.Test.YtgfmjkbelciaaaaDoorWhV
import Derived.Test.YtgfmjkbelciaaaaDoorSrtH
import Derived.Test.YtgfmjkbelciaaaaDoorNums
import Derived.Deep.AppendLies
namespace Go.Proofs.YtgfmjkbelciaaaaDoor
open Go.RowKit
set_option maxRecDepth 10000
set_option linter.unusedVariables false
set_option linter.unusedSimpArgs false
set_option linter.unnecessarySimpa false

theorem int_infoW : (Tryd.prog.info? 3).map (fun i => (i.zero, i.size, i.bytes)) = some (some (.int .i64 0), 1, 8) := by kernel_rfl
/-- Slots that are given back, one behind the other. -/
def takeL (S : Slb) (R : List Tm) : Slb := R.foldl (fun S m => S.take m.s) S
/-- All timers but these. -/
def wosT (M R : List Tm) : List Tm := M.filter (fun x => !(R.map (·.b)).contains x.b)
/-- What they were for. -/
def whatT (S : Slb) (R : List Tm) : List Int := R.map fun m => S.vs.getD m.s 0
theorem takeL_vs (S : Slb) (R : List Tm) : (takeL S R).vs = S.vs := by
  induction R generalizing S with
  | nil => rfl
  | cons m R ih => exact ih (S.take m.s)
theorem takeL_snoc (S : Slb) (R : List Tm) (m : Tm) : takeL S (R ++ [m]) = (takeL S R).take m.s := by simp [takeL, List.foldl_append]
theorem wosT_nil (M : List Tm) : wosT M [] = M := by simp [wosT]
theorem wosT_mem {M R : List Tm} {m : Tm} : m ∈ wosT M R ↔ m ∈ M ∧ m.b ∉ R.map (·.b) := by
  unfold wosT
  rw [List.mem_filter]
  simp
theorem wosT_snoc (M R : List Tm) (m : Tm) : wosT M (R ++ [m]) = woT (wosT M R) m.b := by
  unfold wosT woT
  rw [List.filter_filter]
  refine List.filter_congr fun x _ => ?_
  rw [Bool.eq_iff_iff]
  simp
  constructor
  · intro h
    exact ⟨h.2, h.1⟩
  · intro h
    exact ⟨h.2, h.1⟩
theorem take_snocT {R : List Tm} {k : Nat} (h : k < R.length) : R.take (k + 1) = R.take k ++ [R[k]] := List.take_succ_eq_append_getElem h
theorem not_before {R : List Tm} (h : (R.map (·.b)).Nodup) {k : Nat} (hk : k < R.length) : R[k].b ∉ (R.take k).map (·.b) := fun hm => by
  have e : R = R.take k ++ R[k] :: R.drop (k + 1) := by rw [← List.drop_eq_getElem_cons hk, List.take_append_drop]
  rw [e, List.map_append, List.map_cons, List.nodup_append] at h
  exact h.2.2 _ hm _ (by simp) rfl
/-- Where fire stands: k have fired. -/
structure Fire (w wr : World) (B g hg : Nat) (tv : Value) (hF : List Nat) (ps : List (Option Nat)) (Q : Nat → List Nat) (S : Slb) (K now : Nat) (M R : List Tm) (k : Nat) (v : Value) : Prop where
  wh : WheelM wr g hg tv hF ps Q (takeL S (R.take k)) K now (wosT M (R.take k))
  arr : Arr wr B (R.map (·.b))
  own : Own wr 3 v (iv (whatT S (R.take k)))
  fresh : ∀ b ∈ v.ownBlock.toList, w.heap.size ≤ b
  mods : Mods (B :: blks g tv hF M) w wr
theorem blks_sub {g : Nat} {tv : Value} {hF : List Nat} {M M' : List Tm} (h : ∀ m ∈ M', m ∈ M) : ∀ k ∈ blks g tv hF M', k ∈ blks g tv hF M := fun k hk => by
  simp only [blks, List.mem_cons, List.mem_append, List.mem_map] at hk ⊢
  rcases hk with h1 | h1 | h1 | ⟨m, hm, h1⟩
  · exact .inl h1
  · exact .inr (.inl h1)
  · exact .inr (.inr (.inl h1))
  · exact .inr (.inr (.inr ⟨m, h m hm, h1⟩))
end Go.Proofs.YtgfmjkbelciaaaaDoor

/- What fire of the program's wheel does: the walk. -/
namespace Go.Proofs.YtgfmjkbelciaaaaDoor
open Go.RowKit
set_option maxRecDepth 10000
set_option linter.unusedVariables false
set_option linter.unusedSimpArgs false
set_option linter.unnecessarySimpa false

theorem iv_snoc (l : List Int) (x : Int) : iv (l ++ [x]) = iv l ++ [.int .i64 x] := by simp [iv]
theorem iv_len (l : List Int) : (iv l).length = l.length := by simp [iv]
theorem take_vs (S : Slb) (R : List Tm) (i : Nat) : (takeL S R).vs.getD i 0 = S.vs.getD i 0 := by rw [takeL_vs]
/-- The row grows, the wheel stands. -/
theorem Fire.grown {w wr w2 : World} {B g hg : Nat} {tv : Value} {hF : List Nat} {ps : List (Option Nat)} {Q : Nat → List Nat} {S : Slb} {K now k : Nat} {M R : List Tm} {v v2 : Value} (h : Fire w wr B g hg tv hF ps Q S K now M R k v)
    (hM : ∀ j ∈ blks g tv hF M, j < w.heap.size) (hB : B < w.heap.size) (hm : Mods v.ownBlock.toList wr w2) (hv : v2.ownBlock = v.ownBlock ∨ ∃ j, v2.ownBlock = some j ∧ wr.heap.size ≤ j) :
    WheelM w2 g hg tv hF ps Q (takeL S (R.take k)) K now (wosT M (R.take k)) ∧ Arr w2 B (R.map (·.b)) ∧ (∀ b ∈ v2.ownBlock.toList, w.heap.size ≤ b) ∧ Mods (B :: blks g tv hF M) w w2 := by
  refine ⟨h.wh.mods hm (fun j hj hj2 => ?_), h.arr.same (hm.block B (Nat.lt_of_lt_of_le hB h.mods.size) (fun hj => by have := h.fresh B hj; omega)), fun b hb => ?_, h.mods.trans hm (fun j hj => .inr (h.fresh j hj))⟩
  · have := h.fresh j hj2
    have := hM j (blks_sub (fun m hm => (wosT_mem.1 hm).1) j hj)
    omega
  · rcases hv with e | ⟨j, e, hj⟩
    · exact h.fresh b (by rw [← e]; exact hb)
    · have : b = j := by rw [e] at hb; simpa [eq_comm] using hb
      have := h.mods.size
      omega
theorem Fire.ended {w w2 w3 : World} {B g hg : Nat} {tv v2 : Value} {hF : List Nat} {ps ps3 : List (Option Nat)} {Q : Nat → List Nat} {S : Slb} {K now k : Nat} {M R : List Tm} {m : Tm} (hk : k < R.length) (hm : R[k]? = some m)
    (h1 : WheelM w2 g hg tv hF ps Q (takeL S (R.take k)) K now (wosT M (R.take k))) (h2 : Arr w2 B (R.map (·.b))) (h3 : ∀ b ∈ v2.ownBlock.toList, w.heap.size ≤ b) (h4 : Mods (B :: blks g tv hF M) w w2) (ho : Own w2 3 v2 (iv (whatT S (R.take k) ++ [S.vs.getD m.s 0])))
    (hB : B ∉ blks g tv hF M) (hlt : B < w.heap.size) (hM : ∀ j ∈ blks g tv hF M, j < w.heap.size)
    (e1 : WheelM w3 g hg tv hF ps3 Q ((takeL S (R.take k)).take m.s) K now (woT (wosT M (R.take k)) m.b)) (e2 : Mods (blks g tv hF (wosT M (R.take k))) w2 w3) : Fire w w3 B g hg tv hF ps3 Q S K now M R (k + 1) v2 := by
  have em : R[k] = m := by rw [List.getElem?_eq_getElem hk] at hm; exact Option.some.inj hm
  have ht : R.take (k + 1) = R.take k ++ [m] := by rw [take_snocT hk, em]
  have sub : ∀ j ∈ blks g tv hF (wosT M (R.take k)), j ∈ blks g tv hF M := blks_sub fun m hm => (wosT_mem.1 hm).1
  refine ⟨by rw [ht, takeL_snoc, wosT_snoc]; exact e1, h2.same (e2.block B (Nat.lt_of_lt_of_le hlt h4.size) (fun hj => hB (sub B hj))), ?_, h3, h4.trans e2 (fun j hj => .inl (List.mem_cons_of_mem _ (sub j hj)))⟩
  have hw : whatT S (R.take (k + 1)) = whatT S (R.take k) ++ [S.vs.getD m.s 0] := by rw [ht]; simp [whatT]
  rw [hw]
  exact ho.mods e2 (fun j hj hj2 => by have := h3 j hj; have := hM j (sub j hj2); omega)
set_option maxHeartbeats 1000000 in
/-- The loop of fire, behind the sort. -/
theorem fire_row (w w0 : World) (B n c g hg : Nat) (tv : Value) (hF : List Nat) (ps : List (Option Nat)) (Q : Nat → List Nat) (S : Slb) (K now : Nat) (M D R : List Tm) (key : Nat → Int)
    (h : WheelM w g hg tv hF ps Q S K now M) (hK : K ≤ 4000000000000) (hA : Arr w B (D.map (·.b))) (hn : n = D.length) (hn0 : n ≤ 100000) (hc : n ≤ c) (hB : B ∉ blks g tv hF M) (hlt : B < w.heap.size)
    (hD : ∀ m ∈ D, m ∈ M ∧ key m.b = (m.a : Int)) (hR : ∀ m ∈ R, m ∈ M ∧ key m.b = (m.a : Int)) (hs : SrtT R) (hsame : ∀ k, D.filter (fun x => x.a == k) = R.filter (fun x => x.a == k)) (hnd : (D.map (·.b)).Nodup) (hQ : ∀ m ∈ D, ∀ q, q < 257 → m.b ∉ Q q) :
    Calls Tryd.prog 42 #[ptr g, .slice (some ⟨B, 0, none⟩) n c] w fun e w' => ∃ v, e = .returned v ∧ Hid (∃ ps', Fire w w' B g hg tv hF ps' Q S K now M R R.length v) := by
  obtain ⟨i0, hi0, hz0, hz1, hz2⟩ := info_parts int_infoW
  have HI := Lib.hid (And.intro hi0 (And.intro hz0 (And.intro hz1 hz2)))
  have hsb := same_blocks (key := key) (fun m hm => (hD m hm).2) (fun m hm => (hR m hm).2) hsame
  have hperm := hsb.perm
  have HL := Lib.hid (show n = R.length from by have := hsb.length; simpa [hn] using this)
  have hndR : (R.map (·.b)).Nodup := hperm.nodup_iff.1 hnd
  have hRD : ∀ m ∈ R, ∀ q, q < 257 → m.b ∉ Q q := fun m hm q hq => by
    have : m.b ∈ D.map (·.b) := hperm.mem_iff.2 (List.mem_map_of_mem hm)
    obtain ⟨x, hx, e⟩ := List.mem_map.1 this
    rw [← e]; exact hQ x hx q hq
  have HKY := Lib.hid (show Keyed w B key (D.map (·.b)) from fun b hb => by
    obtain ⟨m, hm, rfl⟩ := List.mem_map.1 hb
    obtain ⟨x, y, r⟩ := h.node m (hD m hm).1
    refine ⟨fun e => hB ?_, by rw [r.cell, (hD m hm).2]; rfl⟩
    rw [← e]
    simp only [blks, List.mem_cons, List.mem_append]
    exact .inr (.inr (.inr (List.mem_map_of_mem (hD m hm).1))))
  have HW := Lib.hid h
  have HBL := Lib.hid h.lt
  have HN := Lib.hid (And.intro hndR hRD)
  have HRM := Lib.hid (fun m hm => (hR m hm).1)
  have HSO := Lib.hid (show ∀ Z, Srt key Z → Same key (D.map (·.b)) Z → Z = R.map (·.b) from fun Z h1 h2 => srt_uniq h1 (srt_blocks (fun m hm => (hR m hm).2) hs) ((Same.symm h2).trans hsb))
  have HS := Lib.hid (sort_any w B n c (D.map (·.b)) key hA HKY.out (by simpa using hn) (by omega) hc)
  clear h hA hD hR hs hsame hnd hQ hsb hperm hndR hRD HKY hn
  go_enter Tryd.func42, Tryd.ntmps42
  go_wp2_with fail
  refine HS.out.mono ?_
  rintro e w1 ⟨rfl, hz⟩
  have H0 := Lib.hid (show Fire w w1 B g hg tv hF ps Q S K now M R 0 (.slice none 0 0) from by
    obtain ⟨Z, z1, z2, z3, z4⟩ := hz.out
    obtain rfl := HSO.out Z z2 z3
    refine ⟨?_, z1, Own.nil _ _, by simp [Value.ownBlock], z4.more (fun k hk => .inl (by simpa using Or.inl (by simpa using hk)))⟩
    rw [List.take_zero, wosT_nil]
    exact HW.out.mods z4 (fun k hk hk2 => hB (by
      simp only [List.mem_cons, List.mem_nil_iff, or_false] at hk2
      rw [← hk2]; exact hk)))
  clear hz HS HSO
  go_wp2
  go_loopw [5, 14, 7, 8, 9] (fun v u _ _ _ wr => ∃ k : Nat, u = .int .i64 (k : Int) ∧ k ≤ n ∧ Hid (∃ ps', Fire w wr B g hg tv hF ps' Q S K now M R k v)) (fun _ u _ _ _ _ => n - (intOf u).toNat)
  case atStart => exact ⟨0, rfl, by omega, Lib.hid ⟨ps, H0.out⟩⟩
  case round =>
    obtain ⟨k, rfl, hk, hr⟩ := hrel
    by_cases hkn : k < n
    · have hkR : k < R.length := by have := HL.out; omega
      obtain ⟨ps', hf⟩ := hr.out
      obtain ⟨m, hmk⟩ : ∃ m, R[k]? = some m := ⟨_, List.getElem?_eq_getElem hkR⟩
      have em : R[k] = m := by rw [List.getElem?_eq_getElem hkR] at hmk; exact Option.some.inj hmk
      have hmR : m ∈ R := em ▸ List.getElem_mem hkR
      have hmW : m ∈ wosT M (R.take k) := wosT_mem.2 ⟨HRM.out m hmR, by rw [← em]; exact not_before HN.out.1 hkR⟩
      have cB : wr.cell? ⟨B, k, none⟩ = some (.pointer (some ⟨m.b, 0, none⟩)) := hf.arr.at_ k m.b (by rw [List.getElem?_map, hmk]; rfl)
      obtain ⟨k0, k1, _, f1⟩ := hf.wh.base.cells
      obtain ⟨x, y, r⟩ := hf.wh.node m hmW
      have s0 : wr.cell? ⟨m.b, 0, none⟩ = some (.int .i64 (m.s : Int)) := by rw [r.cell]; rfl
      have s1 : wr.cell? ⟨m.b, 1, none⟩ = some (.int .i64 (m.g : Int)) := by rw [r.cell]; rfl
      obtain ⟨tb, tof, tn, cap, htv, q1, q2, q3, q4, q5, _⟩ := hf.wh.slot hmW
      have HG := get_yes wr.drew hg m.s (m.g : Int) hF _ K q5 (slabA_keep hf.wh.slab fun k hk => rfl) (hf.wh.is hmW)
      rw [take_vs] at HG
      have HGG := Lib.hid HG
      have HF := Lib.hid hf
      have HMW := Lib.hid hmW
      have HMK := Lib.hid hmk
      have HMR := Lib.hid hmR
      have HOW := Lib.hid (show (iv (whatT S (R.take k))).length + 1 ≤ 1000000000 from by
        rw [iv_len]; unfold whatT; rw [List.length_map, List.length_take]; omega)
      have p1 : (k : Int) < (n : Int) := by omega
      obtain ⟨A5, n5, cp5, rfl, -, -, -⟩ := hf.own.slice'
      obtain ⟨z, hz⟩ : ∃ z, S.vs.getD m.s 0 = z := ⟨_, rfl⟩
      rw [hz] at HGG
      have HZ := Lib.hid hz
      clear hr hf hmk em hmR hmW r htv q1 q2 q3 q4 q5 HG hz
      go_wp2
      go_region_held3 (fun w' => w'.cell? ⟨g, 1, none⟩ = some (.pointer (some ⟨hg, 0, none⟩)) ∧ w'.cell? ⟨m.b, 0, none⟩ = some (.int .i64 (m.s : Int)) ∧ w'.cell? ⟨m.b, 1, none⟩ = some (.int .i64 (m.g : Int))) (go_keep)
        ((go_at_call 49; refine Calls.mono HGG.out ?_; rintro e w2 ⟨rfl, hd⟩; have k1b := cell_mods k1 (of_drew hd) (by simp); have s0b := cell_mods s0 (of_drew hd) (by simp); have s1b := cell_mods s1 (of_drew hd) (by simp); have H1 := Lib.hid (of_drew hd); clear hd))
      all_goals
        go_wp2_with (at_builtin; refine wpList_append_own2 _ rfl (.tmp 30) (.tmp 32) 49 rfl 3 i0 (.int .i64 0) Tryd.underlying49 HI.out.1 HI.out.2.1 HI.out.2.2.1 (by rw [HI.out.2.2.2]; decide) rfl (.slice A5 n5 cp5) (iv (whatT S (R.take k))) rfl ((HF.out.own.mods H1.out (by simp)).alloc _) (some ⟨w2.heap.size, 0, none⟩) 1 1 [.int .i64 z] rfl rfl (Src.one _ _ _) (by simp [Value.oneCell']) HOW.out ?_; intro v2 w3 HO2 HM2; have HFG := Lib.hid (HF.out.grown HBL.out hlt ((H1.out.more (F2 := (Value.slice A5 n5 cp5).ownBlock.toList) (by simp)).trans ((((Mods.refl _ w2).alloc _)).trans HM2.out.1 (fun k hk => .inl hk)) (fun k hk => .inl hk)) (by rcases HM2.out.2 with h | h; exact .inl h; exact .inr ⟨_, h, by have := H1.out.size; simp; omega⟩)); have HO3 := Lib.hid (show Own w3 3 v2 (iv (whatT S (R.take k) ++ [S.vs.getD m.s 0])) from by rw [HZ.out, iv_snoc]; exact HO2.out); clear HO2 HM2)
      all_goals
        refine (end_any w3 g hg tv hF ps' Q _ K now _ m HFG.out.1 HMW.out (HN.out.2 m HMR.out) hK).mono ?_
        rintro e w4 ⟨rfl, hd⟩
        have HFE := Lib.hid (Fire.ended hkR HMK.out HFG.out.1 HFG.out.2.1 HFG.out.2.2.1 HFG.out.2.2.2 HO3.out hB hlt HBL.out hd.out.1 hd.out.2)
        clear hd
        go_wp2
        go_roundw
      case rel => exact ⟨k + 1, by go_num, by omega, Lib.hid ⟨_, HFE.out⟩⟩
      case measure => simp [intOf]; omega
    · have e : k = R.length := by have := HL.out; omega
      have HE := hr
      rw [e] at HE
      clear hr
      have q1 : ¬ (k : Int) < (n : Int) := by omega
      go_wp2
      go_ret
      exact ⟨_, rfl, HE⟩
theorem fire_none (w : World) (g : Nat) (A : Option Addr) (c : Nat) :
    Calls Tryd.prog 42 #[ptr g, .slice A 0 c] w fun e w' => e = .returned (.slice none 0 0) ∧ w = w' := by
  go_enter Tryd.func42, Tryd.ntmps42
  go_wp2_with fail
  refine (sort_none A c w).mono ?_
  rintro e w' ⟨rfl, rfl⟩
  go_wp2
  go_loopw [5, 14, 7, 8, 9] (fun v u _ _ _ wr => v = .slice none 0 0 ∧ u = .int .i64 0 ∧ wr = w) (fun _ _ _ _ _ _ => 0)
  case atStart => exact ⟨rfl, rfl, rfl⟩
  case round =>
    obtain ⟨rfl, rfl, rfl⟩ := hrel
    go_wp2
    go_ret
    exact ⟨rfl, rfl⟩
end Go.Proofs.YtgfmjkbelciaaaaDoor
