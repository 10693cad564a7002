/- What empty of the program's wheel does. -/
import Derived.Test.YtgfmjkbelciaaaaDoorWhQ
import Derived.Deep.AppendLies
import Derived.Deep.LoopGhost
namespace Go.Proofs.YtgfmjkbelciaaaaDoor
open Go.RowKit
set_option maxRecDepth 10000
set_option linter.unusedVariables false
set_option linter.unusedSimpArgs false
set_option linter.unnecessarySimpa false

/-- The lists ahead of a place, one behind the other. -/
def cat (Q : Nat → List Nat) : Nat → List Nat
  | 0 => []
  | p + 1 => cat Q p ++ Q p
/-- The lists ahead of a place emptied. -/
def clr (Q : Nat → List Nat) (p : Nat) : Nat → List Nat := fun q => if q < p then [] else Q q
theorem clr_zero (Q : Nat → List Nat) : clr Q 0 = Q := by funext q; unfold clr; rw [if_neg (by omega)]
theorem clr_next (Q : Nat → List Nat) (p : Nat) : upd (clr Q p) p [] = clr Q (p + 1) := by
  funext q
  unfold upd clr
  by_cases h : q = p
  · rw [if_pos h, if_pos (by omega)]
  · rw [if_neg h]
    by_cases h2 : q < p
    · rw [if_pos h2, if_pos (by omega)]
    · rw [if_neg h2, if_neg (by omega)]
theorem tim_info : (Tryd.prog.info? 69).map (fun i => (i.zero, i.size, i.bytes)) = some (some (.pointer none), 1, 8) := by kernel_rfl
def ptrs (l : List Nat) : List Value := l.map fun b => .pointer (some ⟨b, 0, none⟩)
theorem ptrs_length (l : List Nat) : (ptrs l).length = l.length := by simp [ptrs]
theorem ptrs_append (l m : List Nat) : ptrs (l ++ m) = ptrs l ++ ptrs m := by simp [ptrs]
theorem ptrs_at (l : List Nat) (i b : Nat) (h : l[i]? = some b) : (ptrs l)[i]? = some (.pointer (some ⟨b, 0, none⟩)) := by simp [ptrs, h]
section
variable {w w' w0 : World} {g hg : Nat} {tv : Value} {hF : List Nat} {ps : List (Option Nat)} {Q Q' : Nat → List Nat} {S : Slb} {K now : Nat} {M : List Tm}
/-- The wheel, and a row of pointers of the call's own. -/
structure Void (w0 w : World) (g hg : Nat) (tv : Value) (hF : List Nat) (ps : List (Option Nat)) (Q : Nat → List Nat) (S : Slb) (K now : Nat) (M : List Tm) (v : Value) (l : List Nat) : Prop where
  wh : WheelM w g hg tv hF ps Q S K now M
  own : Own w 69 v (ptrs l)
  fresh : ∀ b ∈ v.ownBlock.toList, w0.heap.size ≤ b
  mods : Mods (blks g tv hF M) w0 w
  old : ∀ k ∈ blks g tv hF M, k < w0.heap.size
theorem Void.far {v : Value} {l : List Nat} (h : Void w0 w g hg tv hF ps Q S K now M v l) : ∀ b ∈ v.ownBlock.toList, b ∉ blks g tv hF M := fun b hb hk => by
  have := h.fresh b hb; have := h.old b hk; omega
/-- A list's ends are struck. -/
theorem Void.strike {v : Value} {l : List Nat} {p : Nat} (h : Void w0 w g hg tv hF ps Q S K now M v l) (hp : p < 257) :
    Void w0 ((w.setCell ⟨g, 3 + p * 2, none⟩ (.pointer none)).setCell ⟨g, 3 + p * 2 + 1, none⟩ (.pointer none)) g hg tv hF ps (upd Q p []) S K now M v l := by
  obtain ⟨a1, a2, a3, a4, a5⟩ := h.wh.apart
  have k1 := h.wh.lnk.first p hp
  have k2 := h.wh.lnk.last p hp
  have hl : Lks g [] w ((w.setCell ⟨g, 3 + p * 2, none⟩ (.pointer none)).setCell ⟨g, 3 + p * 2 + 1, none⟩ (.pointer none)) := ((Lks.refl g [] w).end_ _ (by omega) _).end_ _ (by omega) _
  have e1 : 3 + 2 * p = 3 + p * 2 := by omega
  have e2 : 4 + 2 * p = 3 + p * 2 + 1 := by omega
  rw [e1] at k1
  rw [e2] at k2
  have hn : Lnk ((w.setCell ⟨g, 3 + p * 2, none⟩ (.pointer none)).setCell ⟨g, 3 + p * 2 + 1, none⟩ (.pointer none)) g (upd Q p []) := by
    refine h.wh.lnk.turn hp (fun j h3 hj1 hj2 => ?_) (fun c _ _ hc3 i => ?_) ?_ ?_ trivial List.nodup_nil (fun q _ _ c hc => by cases hc) (by simp)
    · rw [cell_far (by simp <;> omega), cell_far (by simp <;> omega)]
    · rw [cell_far (by simp [hc3]), cell_far (by simp [hc3])]
    · rw [e1, cell_far (by simp)]; exact cell_at k1
    · rw [e2]
      exact cell_at (v := optr (Q p).getLast?) (by rw [cell_far (by simp)]; exact k2)
  obtain ⟨h1, h2⟩ := h.wh.lks hl (fun b hb => by cases hb) hn (fun q hq b hb => by
    unfold upd at hb
    split at hb
    · cases hb
    · exact h.wh.qin q hq b hb)
  refine ⟨h1, h.own.keep fun k hk => ?_, h.fresh, h.mods.trans h2 (fun k hk => .inl hk), h.old⟩
  have hkg : k ≠ g := fun e => h.far k hk (by rw [e]; simp [blks])
  rw [heap_setCell_other _ _ _ _ (by exact hkg), heap_setCell_other _ _ _ _ (by exact hkg)]
/-- The row grows. -/
theorem Void.grown {v v' : Value} {l l' : List Nat} (h : Void w0 w g hg tv hF ps Q S K now M v l) (hm : Mods v.ownBlock.toList w w') (ho : Own w' 69 v' (ptrs l')) (hv : v'.ownBlock = v.ownBlock ∨ ∃ k, v'.ownBlock = some k ∧ w.heap.size ≤ k) :
    Void w0 w' g hg tv hF ps Q S K now M v' l' := by
  refine ⟨h.wh.mods hm (fun k hk hk2 => h.far k hk2 hk), ho, fun b hb => ?_, h.mods.trans hm (fun k hk => .inr (h.fresh k hk)), h.old⟩
  rcases hv with e | ⟨k, e, hk⟩
  · exact h.fresh b (by rw [← e]; exact hb)
  · have : b = k := by rw [e] at hb; simpa [eq_comm] using hb
    have := h.mods.size
    omega
end
end Go.Proofs.YtgfmjkbelciaaaaDoor

/- What empty of the program's wheel does: the walk. -/
namespace Go.Proofs.YtgfmjkbelciaaaaDoor
open Go.RowKit
set_option maxRecDepth 10000
set_option linter.unusedVariables false
set_option linter.unusedSimpArgs false
set_option linter.unnecessarySimpa false

/-- The pointer ahead of a timer of a list. -/
theorem Void.ahead {w w0 : World} {g hg : Nat} {tv : Value} {hF : List Nat} {ps : List (Option Nat)} {Q : Nat → List Nat} {S : Slb} {K now p c : Nat} {M : List Tm} {v : Value} {l done rest : List Nat}
    (h : Void w0 w g hg tv hF ps Q S K now M v l) (hp : p < 257) (hq : Q p = done ++ c :: rest) : w.cell? ⟨c, 4, none⟩ = some (optr rest.head?) ∧ c ∈ blks g tv hF M := by
  have h1 := h.wh.lnk.seg p hp
  rw [hq, seg_append] at h1
  obtain ⟨_, _, h2, _⟩ := h1
  refine ⟨by simpa using h2, ?_⟩
  simp only [blks, List.mem_cons, List.mem_append]
  exact .inr (.inr (.inr (h.wh.qin p hp c (by rw [hq]; simp))))
set_option maxHeartbeats 1000000 in
theorem empty_any (w : World) (g hg : Nat) (tv : Value) (hF : List Nat) (ps : List (Option Nat)) (Q : Nat → List Nat) (S : Slb) (K now : Nat) (M : List Tm) (last : Nat) (h : WheelM w g hg tv hF ps Q S K now M) (hl : last < 257) (hsz : ∀ p, p < 257 → (cat Q p).length + (Q p).length ≤ 100000) :
    Calls Tryd.prog 40 #[ptr g, .int .i64 (last : Int)] w fun e w' => ∃ v, e = .returned v ∧ Hid (Void w w' g hg tv hF ps (clr Q (last + 1)) S K now M v (cat Q (last + 1))) := by
  obtain ⟨i0, hi0, hz0, hz1, hz2⟩ := info_parts tim_info
  have HV := Lib.hid (show Void w w g hg tv hF ps (clr Q 0) S K now M (.slice none 0 0) (cat Q 0) from ⟨by rw [clr_zero]; exact h, Own.nil _ _, by simp [Value.ownBlock], Mods.refl _ _, h.lt⟩)
  have hn := neq_tim
  have HSZ := Lib.hid hsz
  have q0 : IntKind.i64.wrap ((last : Int) + 1) = ((last + 1 : Nat) : Int) := by rw [IntKind.wrap_i64]; omega
  obtain ⟨top, htop⟩ : ∃ t, t = last + 1 := ⟨_, rfl⟩
  rw [← htop] at q0 ⊢
  have ht : top ≤ 257 := by omega
  clear h hsz htop
  go_enter Tryd.func40, Tryd.ntmps40
  go_wp2
  go_loopw [5, 6, 7, 10] (fun v _ _ u wr => ∃ p : Nat, u = .int .i64 (p : Int) ∧ p ≤ top ∧ Hid (Void w wr g hg tv hF ps (clr Q p) S K now M v (cat Q p))) (fun _ _ _ u _ => top - (intOf u).toNat)
  case atStart => exact ⟨0, rfl, by omega, HV⟩
  case round =>
    obtain ⟨p, rfl, hp, hr⟩ := hrel
    by_cases hlt : p < top
    · have q1 : (p : Int) < (top : Int) := by omega
      have q2 : (p : Int) < 257 := by omega
      have k1 := hr.out.wh.lnk.first p (by omega)
      have e1 : 3 + 2 * p = 3 + p * 2 := by omega
      rw [e1, show clr Q p p = Q p by unfold clr; rw [if_neg (by omega)]] at k1
      have HI := Lib.hid (And.intro hi0 (And.intro hz0 (And.intro hz1 hz2)))
      have step : ∀ (rest : List Nat), Q p = rest → wr.cell? ⟨g, 3 + p * 2, none⟩ = some (optr rest.head?) := fun rest e => by rw [← e]; exact k1
      have HR := hr
      clear hr k1
      obtain ⟨r0, hr0⟩ : ∃ r, Q p = r := ⟨_, rfl⟩
      have k1 := step r0 hr0
      clear step
      have HQ := Lib.hid hr0
      clear hr0
      obtain ⟨z0, hz0⟩ : ∃ z, optr r0.head? = z := ⟨_, rfl⟩
      rw [hz0] at k1
      have HZ0 := Lib.hid hz0
      clear hz0
      go_wp2
      go_loopg [5, 7] r0.length (fun k v u wi => ∃ done rest, u = optr rest.head? ∧ rest.length ≤ k ∧ Hid (Q p = done ++ rest ∧ Void w wi g hg tv hF ps (clr Q p) S K now M v (cat Q p ++ done)))
      case atStart => exact ⟨[], r0, HZ0.out.symm, Nat.le_refl _, Lib.hid ⟨by rw [HQ.out]; rfl, by simpa using HR.out⟩⟩
      case round =>
        obtain ⟨done, rest, rfl, hk, hd⟩ := hrel
        have HR' := hd
        clear hd
        cases rest with
        | nil =>
          have HE := Lib.hid (show Void w ((wr.setCell ⟨g, 3 + p * 2, none⟩ (.pointer none)).setCell ⟨g, 3 + p * 2 + 1, none⟩ (.pointer none)) g hg tv hF ps (clr Q (p + 1)) S K now M u5 (cat Q (p + 1)) from by
            have := HR'.out.2.strike (p := p) (by omega)
            rw [clr_next] at this
            have e := HR'.out.1
            rw [List.append_nil] at e
            simpa [cat, e] using this)
          have k2 := HR'.out.2.wh.lnk.first p (by omega)
          have k3 := HR'.out.2.wh.lnk.last p (by omega)
          rw [e1] at k2
          rw [show 4 + 2 * p = 3 + p * 2 + 1 by omega] at k3
          have k3' : (wr.setCell ⟨g, 3 + p * 2, none⟩ (.pointer none)).cell? ⟨g, 3 + p * 2 + 1, none⟩ = some (optr (clr Q p p).getLast?) := by rw [cell_far (by simp)]; exact k3
          have f1 := HR'.out.2.wh.base.cells.2.2.2
          simp only [List.head?_nil, optr]
          go_wp2
          go_roundw
          case rel => exact ⟨p + 1, by go_num, by omega, HE⟩
          case measure => simp [intOf]; omega
        | cons c rest =>
          obtain ⟨c4, cb⟩ := HR'.out.2.ahead (p := p) (c := c) (done := done) (rest := rest) (by omega) (by rw [← HR'.out.1]; unfold clr; rw [if_neg (by omega)])
          have CB := Lib.hid cb
          have C4 := Lib.hid c4
          have hrl : rest.length + 1 ≤ gk := by simpa using hk
          have HB := Lib.hid (show (ptrs (cat Q p ++ done)).length + 1 ≤ 1000000000 from by
            have h1 := HSZ.out p (by omega)
            have h2 := congrArg List.length HR'.out.1
            rw [ptrs_length, List.length_append]
            rw [List.length_append, List.length_cons] at h2
            omega)
          obtain ⟨A5, n5, cp5, rfl, -, -, -⟩ := HR'.out.2.own.slice'
          clear c4 cb hk
          simp only [List.head?_cons, optr]
          go_wp2_with (at_builtin; refine wpList_append_own2 _ rfl (.tmp 26) (.tmp 28) 68 rfl 69 i0 (.pointer none) Tryd.underlying68 HI.out.1 HI.out.2.1 HI.out.2.2.1 (by rw [HI.out.2.2.2]; decide) rfl (.slice A5 n5 cp5) (ptrs (cat Q p ++ done)) rfl (HR'.out.2.own.alloc _) (some ⟨wr.heap.size, 0, none⟩) 1 1 [.pointer (some ⟨c, 0, none⟩)] rfl rfl (Src.one _ _ _) (by simp [Value.oneCell']) HB.out ?_; intro v2 w2 HO2 HM2; have HV2 := Lib.hid (HR'.out.2.grown (l' := cat Q p ++ (done ++ [c])) ((((Mods.refl _ wr).alloc _)).trans HM2.out.1 (fun k hk => .inl hk)) (by have := HO2.out; rw [← List.append_assoc, ptrs_append]; exact this) (by rcases HM2.out.2 with h | h; exact .inl h; exact .inr ⟨_, h, by simp⟩)); have c4b := (show w2.cell? ⟨c, 4, none⟩ = some (optr rest.head?) from ((cell_mods C4.out ((((Mods.refl _ wr).alloc _)).trans HM2.out.1 (fun k hk => .inl hk)) (fun hk => HR'.out.2.far c hk CB.out)))); clear HO2 HM2)
          go_roundg rest.length
          case measure => omega
          case rel => exact ⟨done ++ [c], rest, rfl, Nat.le_refl _, Lib.hid ⟨by rw [HR'.out.1]; simp, HV2.out⟩⟩
    · have e : p = top := by omega
      subst e
      go_wp2
      go_ret
      exact ⟨_, rfl, hr⟩
end Go.Proofs.YtgfmjkbelciaaaaDoor

/- Plain mathematics of time that goes by: which timers fire, in which order, and where the others lie. -/
namespace Go.Proofs.YtgfmjkbelciaaaaDoor
set_option linter.unusedVariables false
set_option linter.unusedSimpArgs false
set_option linter.unnecessarySimpa false

/-- The timers of the places ahead of one. -/
def metT (now : Nat) (M : List Tm) : Nat → List Tm
  | 0 => []
  | p + 1 => metT now M p ++ M.filter (fun m => plc now m.a == p)
theorem cat_met (now : Nat) (M : List Tm) (n : Nat) : cat (ql now M) n = (metT now M n).map (·.b) := by
  induction n with
  | zero => rfl
  | succ n ih => simp only [cat, metT, List.map_append, ih]; rfl
theorem metT_mem {now : Nat} {M : List Tm} {n : Nat} {m : Tm} : m ∈ metT now M n ↔ m ∈ M ∧ plc now m.a < n := by
  induction n with
  | zero => simp [metT]
  | succ n ih =>
    simp only [metT, List.mem_append, ih, List.mem_filter, beq_iff_eq]
    constructor
    · rintro (⟨h1, h2⟩ | ⟨h1, h2⟩)
      · exact ⟨h1, by omega⟩
      · exact ⟨h1, by omega⟩
    · rintro ⟨h1, h2⟩
      by_cases e : plc now m.a = n
      · exact .inr ⟨h1, e⟩
      · exact .inl ⟨h1, by omega⟩
theorem metT_nodup {now : Nat} {M : List Tm} (h : (M.map (·.b)).Nodup) (n : Nat) : ((metT now M n).map (·.b)).Nodup := by
  induction n with
  | zero => simp [metT]
  | succ n ih =>
    simp only [metT, List.map_append]
    refine List.nodup_append.2 ⟨ih, nodup_filter_map _ _ h, fun x hx y hy e => ?_⟩
    obtain ⟨m, hm, rfl⟩ := List.mem_map.1 hx
    obtain ⟨k, hk, rfl⟩ := List.mem_map.1 hy
    have h1 := metT_mem.1 hm
    have h2 := List.mem_filter.1 hk
    have h3 := eq_of_b h h1.1 h2.1 e
    subst h3
    have := h1.2
    have h4 : plc now m.a = n := by simpa using h2.2
    omega
theorem metT_filter {now : Nat} {M : List Tm} {P : Tm → Bool} {c n : Nat} (hP : ∀ m ∈ M, P m = true → plc now m.a = c) (hc : c < n) : (metT now M n).filter P = M.filter P := by
  induction n with
  | zero => omega
  | succ n ih =>
    simp only [metT, List.filter_append, List.filter_filter]
    by_cases e : c = n
    · subst e
      have h1 : (metT now M c).filter P = [] := List.filter_eq_nil_iff.2 fun m hm hp => by
        have := metT_mem.1 hm
        have := hP m this.1 hp
        omega
      rw [h1, List.nil_append]
      refine List.filter_congr fun m hm => ?_
      cases hp : P m
      · rfl
      · rw [hP m hm hp]; simp
    · rw [ih (by omega)]
      have h1 : M.filter (fun m => P m && (plc now m.a == n)) = [] := List.filter_eq_nil_iff.2 fun m hm hp => by
        simp only [Bool.and_eq_true, beq_iff_eq] at hp
        have := hP m hm hp.1
        omega
      rw [h1, List.append_nil]
/-- One timer laid ahead of all that are not due before it. -/
def insT (m : Tm) : List Tm → List Tm
  | [] => [m]
  | x :: l => if m.a ≤ x.a then m :: x :: l else x :: insT m l
/-- By their times, those of one time in their order. -/
def sortT : List Tm → List Tm
  | [] => []
  | m :: l => insT m (sortT l)
def SrtT (l : List Tm) : Prop := l.Pairwise (fun x y => x.a ≤ y.a)
theorem insT_mem {m x : Tm} : ∀ {l : List Tm}, x ∈ insT m l ↔ x = m ∨ x ∈ l := by
  intro l
  induction l with
  | nil => simp [insT]
  | cons y l ih =>
    unfold insT
    split
    · simp
    · simp only [List.mem_cons, ih]
      constructor
      · rintro (h | h | h)
        · exact .inr (.inl h)
        · exact .inl h
        · exact .inr (.inr h)
      · rintro (h | h | h)
        · exact .inr (.inl h)
        · exact .inl h
        · exact .inr (.inr h)
theorem insT_srt {m : Tm} : ∀ {l : List Tm}, SrtT l → SrtT (insT m l) := by
  intro l
  induction l with
  | nil => intro _; exact List.pairwise_singleton _ _
  | cons y l ih =>
    intro h
    have h' := List.pairwise_cons.1 h
    unfold insT
    split
    · rename_i hle
      refine List.pairwise_cons.2 ⟨fun x hx => ?_, h⟩
      rcases List.mem_cons.1 hx with e | e
      · rw [e]; exact hle
      · exact Nat.le_trans hle (h'.1 x e)
    · rename_i hle
      refine List.pairwise_cons.2 ⟨fun x hx => ?_, ih h'.2⟩
      rcases insT_mem.1 hx with e | e
      · rw [e]; omega
      · exact h'.1 x e
theorem insT_filter {m : Tm} {k : Nat} : ∀ {l : List Tm}, (insT m l).filter (fun x => x.a == k) = (m :: l).filter (fun x => x.a == k) := by
  intro l
  induction l with
  | nil => rfl
  | cons y l ih =>
    unfold insT
    split
    · rfl
    · rename_i hle
      rw [List.filter_cons, ih, List.filter_cons, List.filter_cons, List.filter_cons]
      by_cases h1 : y.a = k
      · have h2 : ¬ m.a = k := by omega
        simp [h1, h2]
      · simp [h1]
theorem sortT_srt (l : List Tm) : SrtT (sortT l) := by
  induction l with
  | nil => exact List.Pairwise.nil
  | cons m l ih => exact insT_srt ih
theorem sortT_filter (l : List Tm) (k : Nat) : (sortT l).filter (fun x => x.a == k) = l.filter (fun x => x.a == k) := by
  induction l with
  | nil => rfl
  | cons m l ih =>
    show (insT m (sortT l)).filter _ = _
    rw [insT_filter, List.filter_cons, List.filter_cons, ih]
theorem sortT_mem {l : List Tm} {m : Tm} : m ∈ sortT l ↔ m ∈ l := by
  have h := sortT_filter l m.a
  constructor
  · intro hm
    have : m ∈ (sortT l).filter (fun x => x.a == m.a) := List.mem_filter.2 ⟨hm, by simp⟩
    rw [h] at this
    exact (List.mem_filter.1 this).1
  · intro hm
    have : m ∈ l.filter (fun x => x.a == m.a) := List.mem_filter.2 ⟨hm, by simp⟩
    rw [← h] at this
    exact (List.mem_filter.1 this).1
/-- Timers' rows alike of each time give blocks' rows alike of each key. -/
theorem same_blocks {key : Nat → Int} {D E : List Tm} (hD : ∀ m ∈ D, key m.b = (m.a : Int)) (hE : ∀ m ∈ E, key m.b = (m.a : Int)) (h : ∀ k, D.filter (fun x => x.a == k) = E.filter (fun x => x.a == k)) : Same key (D.map (·.b)) (E.map (·.b)) := fun k => by
  have go : ∀ L : List Tm, (∀ m ∈ L, key m.b = (m.a : Int)) → (L.map (·.b)).filter (fun x => key x == k) = (L.filter (fun m => (m.a : Int) == k)).map (·.b) := fun L hL => by
    rw [List.filter_map]
    refine congrArg (List.map fun m : Tm => m.b) (List.filter_congr fun m hm => ?_)
    show (key m.b == k) = _
    rw [hL m hm]
  rw [go D hD, go E hE]
  by_cases hk : 0 ≤ k
  · obtain ⟨n, rfl⟩ := Int.eq_ofNat_of_zero_le hk
    have e : (fun m : Tm => (m.a : Int) == (n : Int)) = fun m => m.a == n := by
      funext m
      rw [Bool.eq_iff_iff, beq_iff_eq, beq_iff_eq]; omega
    rw [e, h n]
  · have e : ∀ L : List Tm, L.filter (fun m => (m.a : Int) == k) = [] := fun L => List.filter_eq_nil_iff.2 fun m _ hm => by
      have : (m.a : Int) = k := by simpa using hm
      omega
    rw [e, e]
theorem srt_blocks {key : Nat → Int} {D : List Tm} (hD : ∀ m ∈ D, key m.b = (m.a : Int)) (h : SrtT D) : Srt key (D.map (·.b)) := by
  unfold Srt
  rw [List.pairwise_map]
  refine h.imp_of_mem fun {x y} hx hy hxy => ?_
  rw [hD x hx, hD y hy]; omega
/-- What fires by a time. -/
def fireT (t : Nat) (M : List Tm) : List Tm := sortT (M.filter (fun m => decide (m.a ≤ t)))
/-- What is left. -/
def leftT (t : Nat) (M : List Tm) : List Tm := M.filter (fun m => decide (t < m.a))
theorem due_same {now t : Nat} (M : List Tm) (h : now ≤ t) (k : Nat) : ((metT now M (plc now t + 1)).filter (fun m => decide (m.a ≤ t))).filter (fun x => x.a == k) = (fireT t M).filter (fun x => x.a == k) := by
  unfold fireT
  rw [sortT_filter, List.filter_filter, List.filter_filter]
  by_cases hk : k ≤ t
  · refine metT_filter (c := plc now k) (fun m _ hm => ?_) ?_
    · simp only [Bool.and_eq_true, beq_iff_eq] at hm
      rw [hm.1]
    · rcases Nat.lt_or_ge (plc now t) (plc now k) with hl | hl
      · have := (plc_stay h hl).2; omega
      · omega
  · have e : ∀ L : List Tm, L.filter (fun m => (m.a == k) && decide (m.a ≤ t)) = [] := fun L => List.filter_eq_nil_iff.2 fun m _ hm => by
      simp only [Bool.and_eq_true, beq_iff_eq, decide_eq_true_eq] at hm
      omega
    rw [e, e]
/-- Where those lie that are left. -/
theorem left_lists {now t : Nat} (M : List Tm) (h : now ≤ t) (p : Nat) :
    clr (ql now M) (plc now t + 1) p ++ ((metT now M (plc now t + 1)).filter (fun m => decide (t < m.a) && (plc t m.a == p))).map (·.b) = ql t (leftT t M) p := by
  have low : ∀ m ∈ M, t < m.a → plc now m.a ≤ plc now t → plc now m.a = plc now t := fun m hm h1 h2 => by
    rcases Nat.lt_or_ge (plc now m.a) (plc now t) with hl | hl
    · have := plc_up hl; omega
    · omega
  have down : ∀ m ∈ M, t < m.a → (plc t m.a ≤ plc now t ↔ plc now m.a = plc now t) := fun m hm h1 => by
    constructor
    · intro h2
      rcases Nat.lt_or_ge (plc now t) (plc now m.a) with hl | hl
      · have := (plc_stay h hl).1; omega
      · exact low m hm h1 hl
    · intro h2
      exact plc_down h h2 h1
  unfold ql leftT
  rw [List.filter_filter]
  by_cases hp : p ≤ plc now t
  · have e0 : clr (fun p => (M.filter (fun m => plc now m.a == p)).map (·.b)) (plc now t + 1) p = [] := by unfold clr; rw [if_pos (by omega)]
    rw [e0, List.nil_append]
    refine congrArg (List.map fun m : Tm => m.b) ?_
    rw [metT_filter (c := plc now t) (fun m hm h2 => ?_) (by omega)]
    · exact List.filter_congr fun m hm => Bool.and_comm _ _
    · simp only [Bool.and_eq_true, beq_iff_eq, decide_eq_true_eq] at h2
      exact (down m hm h2.1).1 (by omega)
  · have e0 : clr (fun p => (M.filter (fun m => plc now m.a == p)).map (·.b)) (plc now t + 1) p = (M.filter (fun m => plc now m.a == p)).map (·.b) := by unfold clr; rw [if_neg (by omega)]
    have e1 : (metT now M (plc now t + 1)).filter (fun m => decide (t < m.a) && (plc t m.a == p)) = [] := List.filter_eq_nil_iff.2 fun m hm h2 => by
      simp only [Bool.and_eq_true, beq_iff_eq, decide_eq_true_eq] at h2
      have h3 := metT_mem.1 hm
      have := (down m h3.1 h2.1).2 (low m h3.1 h2.1 (by omega))
      omega
    rw [e0, e1, List.map_nil, List.append_nil]
    refine congrArg (List.map fun m : Tm => m.b) (List.filter_congr fun m hm => ?_)
    rw [Bool.eq_iff_iff]
    simp only [Bool.and_eq_true, beq_iff_eq, decide_eq_true_eq]
    constructor
    · intro h2
      have := plc_stay (now := now) (now' := t) (a := m.a) h (by omega)
      exact ⟨by omega, this.2⟩
    · rintro ⟨h2, h3⟩
      rcases Nat.lt_or_ge (plc now t) (plc now m.a) with hl | hl
      · have := (plc_stay h hl).1; omega
      · have := (down m hm h3).2 (low m hm h3 hl); omega
end Go.Proofs.YtgfmjkbelciaaaaDoor
