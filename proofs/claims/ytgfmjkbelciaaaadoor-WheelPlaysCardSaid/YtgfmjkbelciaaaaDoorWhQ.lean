/- What Len, Now, Where of the program's wheel answer. -/
import Derived.Test.YtgfmjkbelciaaaaDoorWhN
import Derived.Deep.LoopGhost
namespace Go.Proofs.YtgfmjkbelciaaaaDoor
open Go.RowKit
set_option maxRecDepth 10000
set_option linter.unusedVariables false
set_option linter.unusedSimpArgs false
set_option linter.unnecessarySimpa false

theorem wlen_nil (w : World) : Calls Tryd.prog 25 #[.pointer none] w fun e w' => e = .returned (.int .i64 0) ∧ w = w' := by
  have he := eql_whl
  go_enter Tryd.func25, Tryd.ntmps25
  go_wp2
  go_ret
  exact ⟨rfl, rfl⟩
theorem wlen_any (w : World) (g : Nat) (F : List Nat) (S : Slb) (K now : Nat) (M : List Tm) (h : WheelA w g F S K now M) :
    Calls Tryd.prog 25 #[ptr g] w fun e w' => e = .returned (.int .i64 (M.length : Nat)) ∧ w = w' := by
  rw [h.ok.cnt]
  obtain ⟨hg, tv, hF, ps, rfl, h⟩ := h
  obtain ⟨k0, k1, k2, f1⟩ := h.base.cells
  have HL := Lib.hid (len_any w hg hF S K h.slab)
  have he := eql_whl
  clear h
  go_enter Tryd.func25, Tryd.ntmps25
  go_wp2_with fail
  refine HL.out.mono ?_
  rintro e w' ⟨rfl, rfl⟩
  go_wp2
  go_ret
  exact ⟨rfl, rfl⟩
theorem wnow_nil (w : World) : Calls Tryd.prog 26 #[.pointer none] w fun e w' => e = .returned (.int .i64 0) ∧ w = w' := by
  have he := eql_whl
  go_enter Tryd.func26, Tryd.ntmps26
  go_wp2
  go_ret
  exact ⟨rfl, rfl⟩
theorem wnow_any (w : World) (g : Nat) (F : List Nat) (S : Slb) (K now : Nat) (M : List Tm) (h : WheelA w g F S K now M) :
    Calls Tryd.prog 26 #[ptr g] w fun e w' => e = .returned (.int .i64 (now : Int)) ∧ w = w' := by
  obtain ⟨hg, tv, hF, ps, rfl, h⟩ := h
  obtain ⟨k0, k1, k2, f1⟩ := h.base.cells
  have he := eql_whl
  clear h
  go_enter Tryd.func26, Tryd.ntmps26
  go_wp2
  go_ret
  exact ⟨rfl, rfl⟩
theorem where_nil (a b : Int) (w : World) : Calls Tryd.prog 27 #[.pointer none, .agg #[.int .i64 a, .int .i64 b]] w fun e w' => e = .returned (.tuple #[.int .i64 0, .int .i64 0, .int .i64 10]) ∧ Mods [] w w' := by
  have he := eql_tim
  have HF := Lib.hid (find_nil a b (w.alloc (.cells #[.int .i64 a, .int .i64 b] 32)))
  go_enter Tryd.func27, Tryd.ntmps27
  go_wp2_with fail
  refine HF.out.mono ?_
  rintro e w' ⟨rfl, hm⟩
  have H1 := Lib.hid (((Mods.refl [] w).alloc _).trans hm (by simp))
  clear hm
  go_wp2
  go_ret3
  exact ⟨rfl, H1.out⟩
theorem where_no (w : World) (g : Nat) (F : List Nat) (S : Slb) (K now : Nat) (M : List Tm) (a b : Int) (h : WheelA w g F S K now M) (ha : -9223372036854775808 ≤ a) (ha' : a ≤ 9223372036854775807) (hs : S.is a b = false) :
    Calls Tryd.prog 27 #[ptr g, .agg #[.int .i64 a, .int .i64 b]] w fun e w' => e = .returned (.tuple #[.int .i64 0, .int .i64 0, .int .i64 10]) ∧ Mods [] w w' := by
  obtain ⟨hg, tv, hF, ps, rfl, h⟩ := h
  have he := eql_tim
  have HF := Lib.hid (find_no (w.alloc (.cells #[.int .i64 a, .int .i64 b] 32)) g hg tv hF ps _ S K now M a b (h.mods0 ((Mods.refl [] w).alloc _)) ha ha' hs)
  clear h hs
  go_enter Tryd.func27, Tryd.ntmps27
  go_wp2_with fail
  refine HF.out.mono ?_
  rintro e w' ⟨rfl, hm⟩
  have H1 := Lib.hid (((Mods.refl [] w).alloc _).trans hm (by simp))
  clear hm
  go_wp2
  go_ret3
  exact ⟨rfl, H1.out⟩
theorem where_yes (w : World) (g : Nat) (F : List Nat) (S : Slb) (K now : Nat) (M : List Tm) (m : Tm) (h : WheelA w g F S K now M) (hm : m ∈ M) :
    Calls Tryd.prog 27 #[ptr g, .agg #[.int .i64 (m.s : Int), .int .i64 (m.g : Int)]] w fun e w' => e = .returned (.tuple #[.int .i64 (plc now m.a / 64 : Nat), .int .i64 (plc now m.a % 64 : Nat), .int .i64 0]) ∧ Mods [] w w' := by
  obtain ⟨hg, tv, hF, ps, rfl, h⟩ := h
  have he := eql_tim
  have HF := Lib.hid (find_yes (w.alloc (.cells #[.int .i64 (m.s : Int), .int .i64 (m.g : Int)] 32)) g hg tv hF ps _ S K now M m (h.mods0 ((Mods.refl [] w).alloc _)) hm)
  obtain ⟨k0, k1, k2, f1⟩ := h.base.cells
  obtain ⟨x, y, r⟩ := h.node m hm
  have c2 : w.cell? ⟨m.b, 2, none⟩ = some (.int .i64 (m.a : Int)) := by rw [r.cell]; rfl
  have HP := fun W (hc : W.cell? ⟨g, 0, none⟩ = some (.int .i64 (now : Int))) => place_any W g now m.a hc (by have := h.ok.time; omega) (by have := h.ok.times m hm; omega)
  have hp := plc_lt now m.a
  generalize plc now m.a = p at *
  have HH := Lib.hid HP
  clear h r HP hm
  go_enter Tryd.func27, Tryd.ntmps27
  go_wp2_with fail
  refine HF.out.mono ?_
  rintro e w' ⟨rfl, hm⟩
  have H1 := Lib.hid (((Mods.refl [] w).alloc _).trans hm (by simp))
  have k0a := cell_mods k0 H1.out (by simp)
  have c2a := cell_mods c2 H1.out (by simp)
  clear hm
  go_wp2_with fail
  refine (HH.out _ k0a).mono ?_
  rintro e w'' ⟨rfl, rfl⟩
  have e1 : IntKind.i64.wrap ((p : Int).tdiv 64) = ((p / 64 : Nat) : Int) := by rw [show (p : Int).tdiv 64 = ((p / 64 : Nat) : Int) from (Int.ofNat_tdiv p 64).symm, IntKind.wrap_i64]; omega
  go_wp2
  go_ret3
  exact ⟨rfl, H1.out⟩
end Go.Proofs.YtgfmjkbelciaaaaDoor

/- What Next of the program's wheel answers. -/
namespace Go.Proofs.YtgfmjkbelciaaaaDoor
open Go.RowKit
set_option maxRecDepth 10000
set_option linter.unusedVariables false
set_option linter.unusedSimpArgs false
set_option linter.unnecessarySimpa false

/-- The least time of all; 0 without one. -/
def minT : List Tm → Nat
  | [] => 0
  | m :: M => if M = [] then m.a else min m.a (minT M)
theorem minT_le {M : List Tm} : ∀ m ∈ M, minT M ≤ m.a := by
  induction M with
  | nil => intro m hm; cases hm
  | cons x M ih =>
    intro m hm
    unfold minT
    split
    · rename_i h; subst h
      simp only [List.mem_cons, List.mem_nil_iff, or_false] at hm
      rw [hm]; exact Nat.le_refl _
    · rcases List.mem_cons.1 hm with e | e
      · rw [e]; exact Nat.min_le_left _ _
      · exact Nat.le_trans (Nat.min_le_right _ _) (ih m e)
theorem minT_mem {M : List Tm} (h : M ≠ []) : ∃ m ∈ M, m.a = minT M := by
  induction M with
  | nil => exact absurd rfl h
  | cons x M ih =>
    unfold minT
    split
    · exact ⟨x, by simp, rfl⟩
    · rename_i h
      obtain ⟨m, hm, e⟩ := ih h
      rcases Nat.le_total x.a (minT M) with hl | hl
      · exact ⟨x, by simp, (Nat.min_eq_left hl).symm⟩
      · exact ⟨m, by simp [hm], by rw [e, Nat.min_eq_right hl]⟩
theorem minT_uniq {M : List Tm} {n : Nat} (h1 : ∀ m ∈ M, n ≤ m.a) (h2 : ∃ m ∈ M, m.a = n) : n = minT M := by
  obtain ⟨m, hm, e⟩ := h2
  have h3 := minT_le m hm
  obtain ⟨x, hx, e2⟩ := minT_mem (M := M) (by rintro rfl; cases hm)
  have := h1 x hx
  omega
/-- The least of x and these timers' times. -/
def lmin (key : Nat → Nat) (x : Nat) (l : List Nat) : Nat := l.foldl (fun n c => min n (key c)) x
theorem lmin_le (key : Nat → Nat) : ∀ (l : List Nat) (x : Nat), lmin key x l ≤ x ∧ (∀ c ∈ l, lmin key x l ≤ key c) ∧ (lmin key x l = x ∨ ∃ c ∈ l, lmin key x l = key c) := by
  intro l
  induction l with
  | nil => intro x; exact ⟨Nat.le_refl _, fun c hc => (by cases hc), .inl rfl⟩
  | cons d l ih =>
    intro x
    obtain ⟨h1, h2, h3⟩ := ih (min x (key d))
    have e : lmin key x (d :: l) = lmin key (min x (key d)) l := rfl
    rw [e]
    refine ⟨Nat.le_trans h1 (Nat.min_le_left _ _), fun c hc => ?_, ?_⟩
    · rcases List.mem_cons.1 hc with e | e
      · rw [e]; exact Nat.le_trans h1 (Nat.min_le_right _ _)
      · exact h2 c e
    · rcases h3 with h3 | ⟨c, hc, h3⟩
      · rcases Nat.le_total x (key d) with hl | hl
        · exact .inl (by rw [h3, Nat.min_eq_left hl])
        · exact .inr ⟨d, by simp, by rw [h3, Nat.min_eq_right hl]⟩
      · exact .inr ⟨c, by simp [hc], h3⟩
theorem least_tim (w : World) (b : Nat) (l : List Nat) (pr : Option Nat) (key : Nat → Nat) (h : Seg w pr (b :: l) none) (hk : ∀ c ∈ b :: l, w.cell? ⟨c, 2, none⟩ = some (.int .i64 (key c : Int)) ∧ key c ≤ 4000000000000) :
    Calls Tryd.prog 43 #[ptr b] w fun e w' => e = .returned (.int .i64 (lmin key (key b) (b :: l) : Nat)) ∧ w = w' := by
  have HK := Lib.hid hk
  obtain ⟨c2, hb⟩ := hk b (by simp)
  have HS := Lib.hid h
  have hn := neq_tim
  clear h hk
  go_enter Tryd.func43, Tryd.ntmps43
  go_wp2
  go_loopg [0, 3] (l.length + 1) (fun k u v wr => ∃ (rest : List Nat) (n : Nat), u = optr rest.head? ∧ v = .int .i64 (n : Int) ∧ n ≤ 4000000000000 ∧ rest.length ≤ k ∧ wr = w ∧ Hid ((∃ p, Seg w p rest none) ∧ (∀ c ∈ rest, c ∈ b :: l) ∧ lmin key n rest = lmin key (key b) (b :: l)))
  case atStart => exact ⟨b :: l, key b, rfl, rfl, hb, by simp, rfl, Lib.hid ⟨⟨pr, HS.out⟩, fun c hc => hc, rfl⟩⟩
  case round =>
    obtain ⟨rest, n, rfl, rfl, hn4, hk, rfl, hr⟩ := hrel
    cases rest with
    | nil =>
      have hf : lmin key n [] = n := rfl
      have HE := Lib.hid (hr.out.2.2.symm.trans hf)
      clear hr hf
      simp only [List.head?_nil, optr]
      go_wp2
      go_ret
      exact ⟨ret_i64 (by rw [HE.out]), rfl⟩
    | cons c rest =>
      obtain ⟨p, s3, s4, s5⟩ := hr.out.1
      obtain ⟨k2, kb⟩ := HK.out c (hr.out.2.1 c (by simp))
      have HE := Lib.hid (show (∃ p, Seg wr p rest none) ∧ (∀ d ∈ rest, d ∈ b :: l) ∧ lmin key (min n (key c)) rest = lmin key (key b) (b :: l) from ⟨⟨_, s5⟩, fun d hd => hr.out.2.1 d (by simp [hd]), hr.out.2.2⟩)
      have hl : rest.length + 1 ≤ gk := by simpa using hk
      clear hr s5 s3
      cases rest with
      | nil =>
        have s4' : wr.cell? ⟨c, 4, none⟩ = some (.pointer none) := s4
        clear s4
        simp only [List.head?_cons, optr]
        go_wp2
        go_roundg 0
        case measure => omega
        case rel => exact ⟨[], min n (key c), rfl, congrArg (Value.int .i64) (by omega), by omega, by simp, rfl, HE⟩
      | cons d rest =>
        have s4' : wr.cell? ⟨c, 4, none⟩ = some (.pointer (some ⟨d, 0, none⟩)) := s4
        clear s4
        simp only [List.head?_cons, optr]
        go_wp2
        go_roundg (rest.length + 1)
        case measure => simp at hl; omega
        case rel => exact ⟨d :: rest, min n (key c), rfl, congrArg (Value.int .i64) (by omega), by omega, by simp, rfl, HE⟩
theorem wnext_nil (w : World) : Calls Tryd.prog 23 #[.pointer none] w fun e w' => e = .returned (.tuple #[.int .i64 0, .bool false]) ∧ w = w' := by
  have he := eql_whl
  go_enter Tryd.func23, Tryd.ntmps23
  go_wp2
  go_ret2
  exact ⟨rfl, rfl⟩
theorem ql_mem {now : Nat} {M : List Tm} {p b : Nat} : b ∈ ql now M p ↔ ∃ m ∈ M, plc now m.a = p ∧ m.b = b := by
  unfold ql
  rw [List.mem_map]
  exact ⟨fun ⟨m, h, e⟩ => ⟨m, (List.mem_filter.1 h).1, by simpa using (List.mem_filter.1 h).2, e⟩, fun ⟨m, h, h1, e⟩ => ⟨m, List.mem_filter.2 ⟨h, by simpa using h1⟩, e⟩⟩
/-- What is read of a list that is the first one with a timer. -/
theorem next_facts {w : World} {g hg : Nat} {tv : Value} {hF : List Nat} {ps : List (Option Nat)} {S : Slb} {K now p b : Nat} {l : List Nat} {M : List Tm} (h : WheelM w g hg tv hF ps (ql now M) S K now M) (hp : p < 257) (hb : ql now M p = b :: l) (h0 : ∀ q, q < p → ql now M q = []) :
    ∃ key : Nat → Nat, Seg w none (b :: l) none ∧ (∀ c ∈ b :: l, w.cell? ⟨c, 2, none⟩ = some (.int .i64 (key c : Int)) ∧ key c ≤ 4000000000000) ∧ lmin key (key b) (b :: l) = minT M := by
  refine ⟨fun c => ((M.find? (fun m => m.b == c)).map (·.a)).getD 0, by have := h.lnk.seg p hp; rwa [hb] at this, ?_, ?_⟩
  all_goals
    have kf : ∀ m ∈ M, ((M.find? (fun x => x.b == m.b)).map (·.a)).getD 0 = m.a := fun m hm => by
      cases hx : M.find? (fun x => x.b == m.b) with
      | none => exact absurd (List.find?_eq_none.1 hx m hm) (by simp)
      | some x =>
        have h1 := List.mem_of_find?_eq_some hx
        have h2 := List.find?_some hx
        rw [eq_of_b h.ok.bnd h1 hm (by simpa using h2)]; rfl
  · intro c hc
    rw [← hb] at hc
    obtain ⟨m, hm, _, rfl⟩ := ql_mem.1 hc
    obtain ⟨x, y, r⟩ := h.node m hm
    simp only []
    rw [kf m hm]
    exact ⟨by rw [r.cell]; rfl, by have := h.ok.times m hm; omega⟩
  · obtain ⟨h1, h2, h3⟩ := lmin_le (fun c => ((M.find? (fun m => m.b == c)).map (·.a)).getD 0) (b :: l) (((M.find? (fun m => m.b == b)).map (·.a)).getD 0)
    have hbm : b ∈ ql now M p := by rw [hb]; simp
    obtain ⟨mb, hmb, epb, rfl⟩ := ql_mem.1 hbm
    have eb := kf mb hmb
    refine minT_uniq (fun m hm => ?_) ?_
    · rcases Nat.lt_trichotomy (plc now m.a) p with hlt | heq | hgt
      · have : m.b ∈ ql now M (plc now m.a) := ql_mem.2 ⟨m, hm, rfl, rfl⟩
        rw [h0 _ hlt] at this; cases this
      · have : m.b ∈ ql now M p := ql_mem.2 ⟨m, hm, heq, rfl⟩
        rw [hb] at this
        exact Nat.le_trans (h2 m.b this) (Nat.le_of_eq (kf m hm))
      · have h4 := h2 mb.b (by simp)
        have h5 := plc_up (now := now) (a := mb.a) (b := m.a) (by rw [epb]; exact hgt)
        exact Nat.le_trans h4 (by omega)
    · rcases h3 with h3 | ⟨c, hc, h3⟩
      · exact ⟨mb, hmb, eb.symm.trans h3.symm⟩
      · rw [← hb] at hc
        obtain ⟨m, hm, _, rfl⟩ := ql_mem.1 hc
        refine ⟨m, hm, ?_⟩
        exact (kf m hm).symm.trans h3.symm
theorem wnext_any (w : World) (g : Nat) (F : List Nat) (S : Slb) (K now : Nat) (M : List Tm) (h : WheelA w g F S K now M) :
    Calls Tryd.prog 23 #[ptr g] w fun e w' => e = .returned (.tuple #[.int .i64 (minT M : Nat), .bool (decide (M ≠ []))]) ∧ w = w' := by
  obtain ⟨hg, tv, hF, ps, rfl, h⟩ := h
  obtain ⟨k0, k1, k2, f1⟩ := h.base.cells
  have he := eql_whl
  have hn := neq_tim
  have HM := Lib.hid h
  clear h
  go_enter Tryd.func23, Tryd.ntmps23
  go_wp2
  go_loopw [8, 4, 5] (fun u v x wr => ∃ p : Nat, u = .int .i64 (p : Int) ∧ p ≤ 257 ∧ wr = w ∧ Hid (∀ q, q < p → ql now M q = [])) (fun u _ _ _ => 257 - (intOf u).toNat)
  case atStart => exact ⟨0, rfl, by omega, rfl, Lib.hid fun q hq => by omega⟩
  case round =>
    obtain ⟨p, rfl, hp, rfl, hr⟩ := hrel
    by_cases hlt : p < 257
    · have q1 : (p : Int) < 257 := by omega
      have cf := HM.out.lnk.first p hlt
      rw [show 3 + 2 * p = 3 + p * 2 by omega] at cf
      cases hq : ql now M p with
      | nil =>
        rw [hq] at cf
        have cf' : wr.cell? ⟨g, 3 + p * 2, none⟩ = some (.pointer none) := cf
        have HQ := Lib.hid hq
        clear cf hq
        go_wp2
        go_roundw
        case rel => exact ⟨p + 1, by go_num, by omega, by first | rfl | trivial, Lib.hid fun q hq => by
          rcases Nat.lt_or_ge q p with h | h
          · exact hr.out q h
          · rw [show q = p by omega]; exact HQ.out⟩
        case measure => simp [intOf]; omega
      | cons b l =>
        rw [hq] at cf
        have cf' : wr.cell? ⟨g, 3 + p * 2, none⟩ = some (.pointer (some ⟨b, 0, none⟩)) := cf
        obtain ⟨key, s1, s2, s3⟩ := next_facts HM.out hlt hq hr.out
        have hM : decide (M ≠ []) = true := decide_eq_true (fun e => by rw [e] at hq; cases hq)
        have HL := Lib.hid (least_tim wr b l none key s1 s2)
        rw [s3] at HL
        have HD := Lib.hid hM
        clear cf s1 s2 s3 hq hM
        go_wp2_with fail
        refine HL.out.mono ?_
        rintro e w' ⟨rfl, rfl⟩
        go_wp2
        go_ret2
        exact ⟨by rw [HD.out]; rfl, rfl⟩
    · have hM : M = [] := by
        cases hM : M with
        | nil => rfl
        | cons m M' =>
          have h1 := hr.out (plc now m.a) (by have := plc_lt now m.a; omega)
          have : m.b ∈ ql now M (plc now m.a) := ql_mem.2 ⟨m, by rw [hM]; simp, rfl, rfl⟩
          rw [h1] at this; cases this
      have HD := Lib.hid hM
      clear hM
      have q1 : ¬ (p : Int) < 257 := by omega
      go_wp2
      go_ret2
      exact ⟨by rw [HD.out]; rfl, rfl⟩
end Go.Proofs.YtgfmjkbelciaaaaDoor
