/- The program's wheel in memory. -/
import Derived.Test.YtgfmjkbelciaaaaDoorWhE
import Derived.Test.YtgfmjkbelciaaaaDoorOwn
import Derived.Test.YtgfmjkbelciaaaaDoorSlabT
import Derived.Test.YtgfmjkbelciaaaaDoorSlabG
namespace Go.Proofs.YtgfmjkbelciaaaaDoor
open Go.RowKit
set_option maxRecDepth 10000
set_option linter.unusedVariables false
set_option linter.unusedSimpArgs false
set_option linter.unnecessarySimpa false

/-- A timer: its block, its Handle, its time. -/
structure Tm where
  b : Nat
  s : Nat
  g : Nat
  a : Nat
/-- The blocks of the timers of a place, in the order in which they were set. -/
def ql (now : Nat) (M : List Tm) (p : Nat) : List Nat := (M.filter (fun m => plc now m.a == p)).map (·.b)
/-- Which timer has a slot. -/
def bySlot (M : List Tm) (i : Nat) : Option Nat := (M.find? (fun m => m.s == i)).map (·.b)
/-- Slots and timers agree. -/
structure WOk (S : Slb) (now : Nat) (M : List Tm) : Prop where
  bnd : (M.map (·.b)).Nodup
  slots : (M.map (·.s)).Nodup
  use : ∀ m ∈ M, m.s < S.us.length ∧ S.us.getD m.s false = true ∧ S.gs.getD m.s 0 = m.g
  all : ∀ i, S.us.getD i false = true → ∃ m ∈ M, m.s = i
  cnt : M.length = S.cnt
  time : now ≤ 1099511627776
  times : ∀ m ∈ M, m.a ≤ 1099511627776
  lim : S.lim = 4096
/-- The wheel's own row, but for its lists. -/
def Base (w : World) (g hg : Nat) (tv : Value) (now : Nat) : Prop :=
  ∃ cs, Row w g 74 cs ∧ cs.size = 517 ∧ cs[0]? = some (.int .i64 (now : Int)) ∧ cs[1]? = some (.pointer (some ⟨hg, 0, none⟩)) ∧ cs[2]? = some tv
/-- The wheel behind pointer g; Q: what lies in its lists. -/
structure WheelM (w : World) (g hg : Nat) (tv : Value) (hF : List Nat) (ps : List (Option Nat)) (Q : Nat → List Nat) (S : Slb) (K now : Nat) (M : List Tm) : Prop where
  base : Base w g hg tv now
  slab : SlabA w hg hF S K
  own : Own w 69 tv (ps.map optr)
  plen : ps.length = S.us.length
  pat : ∀ i, i < ps.length → ps[i]? = some (bySlot M i)
  lnk : Lnk w g Q
  qin : ∀ p, p < 257 → ∀ b ∈ Q p, b ∈ M.map (·.b)
  node : ∀ m ∈ M, ∃ x y, Row w m.b 79 #[.int .i64 (m.s : Int), .int .i64 (m.g : Int), .int .i64 (m.a : Int), x, y]
  ok : WOk S now M
/-- All blocks of the wheel. -/
def blks (g : Nat) (tv : Value) (hF : List Nat) (M : List Tm) : List Nat := g :: (hF ++ (tv.ownBlock.toList ++ M.map (·.b)))
section
variable {w w' : World} {g hg : Nat} {tv : Value} {hF : List Nat} {ps : List (Option Nat)} {Q : Nat → List Nat} {S : Slb} {K now : Nat} {M : List Tm}
theorem Base.row (h : Base w g hg tv now) : ∃ cs, Row w g 74 cs := ⟨_, h.choose_spec.1⟩
theorem Base.keep (h : Base w g hg tv now) (e : w'.heap[g]? = w.heap[g]?) : Base w' g hg tv now := by
  obtain ⟨cs, h1, h2⟩ := h
  exact ⟨cs, h1.keep e, h2⟩
theorem Base.cells (h : Base w g hg tv now) : w.cell? ⟨g, 0, none⟩ = some (.int .i64 (now : Int)) ∧ w.cell? ⟨g, 1, none⟩ = some (.pointer (some ⟨hg, 0, none⟩)) ∧ w.cell? ⟨g, 2, none⟩ = some tv ∧ ∀ i, w.frozen? ⟨g, i, none⟩ = false := by
  obtain ⟨cs, h1, h2, h3, h4, h5⟩ := h
  exact ⟨by rw [h1.cell]; exact h3, by rw [h1.cell]; exact h4, by rw [h1.cell]; exact h5, h1.free⟩
theorem Base.lks {Bs : List Nat} (h : Base w g hg tv now) (hl : Lks g Bs w w') : Base w' g hg tv now := by
  obtain ⟨cs, h1, h2, h3, h4, h5⟩ := h
  obtain ⟨cs', r, s, e⟩ := hl.base cs h1
  exact ⟨cs', r, s.trans h2, (e 0 (by omega)).trans h3, (e 1 (by omega)).trans h4, (e 2 (by omega)).trans h5⟩
theorem Lnk.keep (h : Lnk w g Q) (eg : w'.heap[g]? = w.heap[g]?) (e : ∀ p, p < 257 → ∀ b ∈ Q p, w'.heap[b]? = w.heap[b]?) : Lnk w' g Q :=
  ⟨fun p hp => (World.cell?_of_block (w := w) eg).trans (h.first p hp), fun p hp => (World.cell?_of_block (w := w) eg).trans (h.last p hp), fun p hp => (h.seg p hp).keep fun b hb i _ => World.cell?_of_block (w := w) (e p hp b hb), h.nd, h.dis, h.out⟩
theorem WheelM.keep (h : WheelM w g hg tv hF ps Q S K now M) (e : ∀ k ∈ blks g tv hF M, w'.heap[k]? = w.heap[k]?) : WheelM w' g hg tv hF ps Q S K now M :=
  ⟨h.base.keep (e g (by simp [blks])), slabA_keep h.slab fun k hk => e k (by simp [blks, hk]), h.own.keep fun k hk => e k (by simp only [blks, List.mem_cons, List.mem_append]; exact .inr (.inr (.inl hk))), h.plen, h.pat,
   h.lnk.keep (e g (by simp [blks])) (fun p hp b hb => e b (by simp only [blks, List.mem_cons, List.mem_append]; exact .inr (.inr (.inr (h.qin p hp b hb))))), h.qin, fun m hm => by
    obtain ⟨x, y, r⟩ := h.node m hm
    exact ⟨x, y, r.keep (e m.b (by simp only [blks, List.mem_cons, List.mem_append]; exact .inr (.inr (.inr (List.mem_map_of_mem hm)))))⟩, h.ok⟩
theorem WheelM.lt (h : WheelM w g hg tv hF ps Q S K now M) : ∀ k ∈ blks g tv hF M, k < w.heap.size := fun k hk => by
  simp only [blks, List.mem_cons, List.mem_append, List.mem_map] at hk
  rcases hk with rfl | hk | hk | ⟨m, hm, rfl⟩
  · obtain ⟨cs, r⟩ := h.base.row; exact r.lt
  · exact slabA_lt h.slab k hk
  · exact h.own.lt k hk
  · obtain ⟨x, y, r⟩ := h.node m hm; exact r.lt
theorem WheelM.mods {G : List Nat} (h : WheelM w g hg tv hF ps Q S K now M) (hm : Mods G w w') (hd : ∀ k ∈ blks g tv hF M, k ∉ G) : WheelM w' g hg tv hF ps Q S K now M :=
  h.keep fun k hk => hm.block k (h.lt k hk) (hd k hk)
theorem WheelM.mods0 (h : WheelM w g hg tv hF ps Q S K now M) (hm : Mods [] w w') : WheelM w' g hg tv hF ps Q S K now M := h.mods hm (by simp)
/-- The kinds of the blocks keep them apart. -/
theorem slabA_kinds {f : List Nat} {T : Slb} {L : Nat} (h : SlabA w hg f T L) : ∀ k ∈ f, ∃ t cs, Row w k t cs ∧ (t = 94 ∨ t = 99) := by
  obtain ⟨sv, cs, xs, U, rfl, hrow, _, _, _, _, _, hown, _⟩ := h
  intro k hk
  rcases List.mem_cons.1 hk with rfl | hk
  · exact ⟨_, cs, hrow, .inl rfl⟩
  · rcases hown.2 with ⟨rfl, _⟩ | ⟨g', cap, cur, rfl, _, hh, _⟩
    · simp [Value.ownBlock] at hk
    · have : k = g' := by simpa [Value.ownBlock, eq_comm] using hk
      subst this
      exact ⟨_, cur, hh, .inr rfl⟩
theorem WheelM.apart (h : WheelM w g hg tv hF ps Q S K now M) : g ∉ hF ∧ g ∉ tv.ownBlock.toList ∧ g ∉ M.map (·.b) ∧ (∀ k ∈ hF, k ∉ tv.ownBlock.toList ∧ k ∉ M.map (·.b)) ∧ (∀ k ∈ tv.ownBlock.toList, k ∉ M.map (·.b)) := by
  obtain ⟨cs, r⟩ := h.base.row
  have k1 := slabA_kinds h.slab
  have nd : ∀ k ∈ M.map (·.b), ∃ cs, Row w k 79 cs := fun k hk => by
    obtain ⟨m, hm, rfl⟩ := List.mem_map.1 hk
    obtain ⟨x, y, r⟩ := h.node m hm
    exact ⟨_, r⟩
  refine ⟨fun hk => ?_, fun hk => h.own.ne_row r (by decide) g hk rfl, fun hk => ?_, fun k hk => ⟨fun hk2 => ?_, fun hk2 => ?_⟩, fun k hk hk2 => ?_⟩
  · obtain ⟨t, c, r2, ht⟩ := k1 g hk
    exact Row.type_ne r r2 (by rcases ht with rfl | rfl <;> decide) rfl
  · obtain ⟨c, r2⟩ := nd g hk
    exact Row.type_ne r r2 (by decide) rfl
  · obtain ⟨t, c, r2, ht⟩ := k1 k hk
    exact h.own.ne_row r2 (by rcases ht with rfl | rfl <;> decide) k hk2 rfl
  · obtain ⟨t, c, r2, ht⟩ := k1 k hk
    obtain ⟨c3, r3⟩ := nd k hk2
    exact Row.type_ne r2 r3 (by rcases ht with rfl | rfl <;> decide) rfl
  · obtain ⟨c3, r3⟩ := nd k hk2
    exact h.own.ne_row r3 (by decide) k hk rfl
end
end Go.Proofs.YtgfmjkbelciaaaaDoor

/- What lay, lift, end, find of the program's wheel do. -/
namespace Go.Proofs.YtgfmjkbelciaaaaDoor
open Go.RowKit
set_option maxRecDepth 10000
set_option linter.unusedVariables false
set_option linter.unusedSimpArgs false
set_option linter.unnecessarySimpa false

section
variable {w w' : World} {g hg : Nat} {tv : Value} {hF : List Nat} {ps : List (Option Nat)} {Q Q' : Nat → List Nat} {S : Slb} {K now : Nat} {M : List Tm}
theorem WheelM.lks {Bs : List Nat} (h : WheelM w g hg tv hF ps Q S K now M) (hl : Lks g Bs w w') (hB : ∀ b ∈ Bs, b ∈ M.map (·.b)) (hn : Lnk w' g Q') (hq : ∀ p, p < 257 → ∀ b ∈ Q' p, b ∈ M.map (·.b)) :
    WheelM w' g hg tv hF ps Q' S K now M ∧ Mods (blks g tv hF M) w w' := by
  obtain ⟨a1, a2, a3, a4, a5⟩ := h.apart
  refine ⟨⟨h.base.lks hl, slabA_mods h.slab hl.mods (fun k hk hc => ?_), h.own.mods hl.mods (fun k hk hc => ?_), h.plen, h.pat, hn, hq, fun m hm => ?_, h.ok⟩, hl.mods.more fun k hk => .inl ?_⟩
  · rcases List.mem_cons.1 hc with e | e
    · exact a1 (e ▸ hk)
    · exact (a4 k hk).2 (hB k e)
  · rcases List.mem_cons.1 hc with e | e
    · exact a2 (e ▸ hk)
    · exact a5 k hk (hB k e)
  · obtain ⟨x, y, r⟩ := h.node m hm
    exact hl.node m.b (fun e => a3 (e ▸ List.mem_map_of_mem hm)) _ _ _ _ _ r
  · rcases List.mem_cons.1 hk with e | e
    · rw [e]; simp [blks]
    · simp only [blks, List.mem_cons, List.mem_append]; exact .inr (.inr (.inr (hB k e)))
theorem WheelM.rows (h : WheelM w g hg tv hF ps Q S K now M) : ∀ z ∈ M.map (·.b), ∃ v1 v2 v3 s t, Row w z 79 #[v1, v2, v3, s, t] := fun z hz => by
  obtain ⟨m, hm, rfl⟩ := List.mem_map.1 hz
  obtain ⟨x, y, r⟩ := h.node m hm
  exact ⟨_, _, _, _, _, r⟩
end
theorem lay_any (w : World) (g hg : Nat) (tv : Value) (hF : List Nat) (ps : List (Option Nat)) (Q : Nat → List Nat) (S : Slb) (K now : Nat) (M : List Tm) (m : Tm) (h : WheelM w g hg tv hF ps Q S K now M) (hm : m ∈ M) (hQ : ∀ q, q < 257 → m.b ∉ Q q) :
    Calls Tryd.prog 33 #[ptr g, ptr m.b] w fun e w' => e = .returned (.tuple #[]) ∧ Hid (WheelM w' g hg tv hF ps (upd Q (plc now m.a) (Q (plc now m.a) ++ [m.b])) S K now M ∧ Mods (blks g tv hF M) w w') := by
  have HM := Lib.hid h
  obtain ⟨x, y, r⟩ := h.node m hm
  obtain ⟨k0, _, _, f1⟩ := h.base.cells
  obtain ⟨cs, rg⟩ := h.base.row
  have hgn : m.b ≠ g := fun e => h.apart.2.2.1 (e ▸ List.mem_map_of_mem hm)
  have c2 : w.cell? ⟨m.b, 2, none⟩ = some (.int .i64 (m.a : Int)) := by rw [r.cell]; rfl
  have hp := plc_lt now m.a
  have hpz : ((plc now m.a : Nat) : Int) < 257 := by omega
  have hpz0 : (0 : Int) ≤ ((plc now m.a : Nat) : Int) := by omega
  have HP := place_any w.drew g now m.a k0 (by have := h.ok.time; omega) (by have := h.ok.times m hm; omega)
  have HA := Lib.hid (add_any w.drew g (plc now m.a) m.b Q cs _ _ _ x y (h.lnk.same rfl) hp hgn rg r hQ (fun z hz => h.rows z (h.qin _ hp z hz)))
  have HF := Lib.hid (show ∀ W, Lnk W g (upd Q (plc now m.a) (Q (plc now m.a) ++ [m.b])) → Lks g (m.b :: Q (plc now m.a)) w.drew W → WheelM W g hg tv hF ps (upd Q (plc now m.a) (Q (plc now m.a) ++ [m.b])) S K now M ∧ Mods (blks g tv hF M) w W from fun W h1 h2 => by
    have h2' : Lks g (m.b :: Q (plc now m.a)) w W := ⟨of_drew h2.mods, h2.base, h2.node⟩
    refine h.lks h2' (fun b hb => ?_) h1 (fun p hp b hb => ?_)
    · rcases List.mem_cons.1 hb with e | e
      · rw [e]; exact List.mem_map_of_mem hm
      · exact h.qin _ hp b e
    · unfold upd at hb
      split at hb
      · rcases List.mem_append.1 hb with e | e
        · exact h.qin _ (plc_lt _ _) b e
        · simp only [List.mem_cons, List.mem_nil_iff, or_false] at e
          rw [e]; exact List.mem_map_of_mem hm
      · exact h.qin p hp b hb)
  have HC := Lib.hid (show ∀ W, Lks g (m.b :: Q (plc now m.a)) w.drew W → W.cell? ⟨m.b, 2, none⟩ = some (.int .i64 (m.a : Int)) from fun W hl => by
    obtain ⟨x', y', r'⟩ := hl.node m.b hgn _ _ _ x y r
    rw [r'.cell]; rfl)
  generalize plc now m.a = p at *
  rw [show 3 + 2 * p = 3 + p * 2 by omega] at HA
  have HH := Lib.hid HP
  clear h r rg hQ hm HP
  go_enter Tryd.func33, Tryd.ntmps33
  go_wp2
  go_region_held3 (fun w' => w'.cell? ⟨m.b, 2, none⟩ = some (.int .i64 (m.a : Int))) (go_keep)
    (first
      | (go_at_call 41; refine Calls.mono HH.out ?_; rintro e w' ⟨rfl, rfl⟩)
      | (go_at_call 48; refine Calls.mono HA.out ?_; rintro e w' ⟨rfl, hf⟩; have c2n := HC.out w' hf.out.2))
  all_goals go_wp2
  all_goals go_end0
  all_goals exact ⟨rfl, Lib.hid (HF.out _ hf.out.1 hf.out.2)⟩
theorem lift_any (w : World) (g hg : Nat) (tv : Value) (hF : List Nat) (ps : List (Option Nat)) (Q : Nat → List Nat) (S : Slb) (K now : Nat) (M : List Tm) (m : Tm) (l1 l2 : List Nat) (h : WheelM w g hg tv hF ps Q S K now M) (hm : m ∈ M) (hQ : Q (plc now m.a) = l1 ++ m.b :: l2) :
    Calls Tryd.prog 36 #[ptr g, ptr m.b] w fun e w' => e = .returned (.tuple #[]) ∧ Hid (WheelM w' g hg tv hF ps (upd Q (plc now m.a) (l1 ++ l2)) S K now M ∧ Mods (blks g tv hF M) w w') := by
  have HM := Lib.hid h
  obtain ⟨x, y, r⟩ := h.node m hm
  obtain ⟨k0, _, _, f1⟩ := h.base.cells
  obtain ⟨cs, rg⟩ := h.base.row
  have hgn : m.b ≠ g := fun e => h.apart.2.2.1 (e ▸ List.mem_map_of_mem hm)
  have c2 : w.cell? ⟨m.b, 2, none⟩ = some (.int .i64 (m.a : Int)) := by rw [r.cell]; rfl
  have hp := plc_lt now m.a
  have hpz : ((plc now m.a : Nat) : Int) < 257 := by omega
  have hpz0 : (0 : Int) ≤ ((plc now m.a : Nat) : Int) := by omega
  have HP := place_any w.drew g now m.a k0 (by have := h.ok.time; omega) (by have := h.ok.times m hm; omega)
  have HA := Lib.hid (drop_any w.drew g (plc now m.a) m.b Q l1 l2 cs (h.lnk.same rfl) hp hQ rg (fun z hz => h.rows z (h.qin _ hp z hz)))
  have HF := Lib.hid (show ∀ W, Lnk W g (upd Q (plc now m.a) (l1 ++ l2)) → Lks g (Q (plc now m.a)) w.drew W → WheelM W g hg tv hF ps (upd Q (plc now m.a) (l1 ++ l2)) S K now M ∧ Mods (blks g tv hF M) w W from fun W h1 h2 => by
    have h2' : Lks g (Q (plc now m.a)) w W := ⟨of_drew h2.mods, h2.base, h2.node⟩
    refine h.lks h2' (fun b hb => h.qin _ hp b hb) h1 (fun p hp b hb => ?_)
    unfold upd at hb
    split at hb
    · refine h.qin _ (plc_lt now m.a) b ?_
      rw [hQ]
      rcases List.mem_append.1 hb with e | e
      · simp [e]
      · simp [e]
    · exact h.qin p hp b hb)
  have HC := Lib.hid (show ∀ W, Lks g (Q (plc now m.a)) w.drew W → W.cell? ⟨m.b, 2, none⟩ = some (.int .i64 (m.a : Int)) from fun W hl => by
    obtain ⟨x', y', r'⟩ := hl.node m.b hgn _ _ _ x y r
    rw [r'.cell]; rfl)
  generalize plc now m.a = p at *
  rw [show 3 + 2 * p = 3 + p * 2 by omega] at HA
  have HH := Lib.hid HP
  clear h r rg hQ hm HP
  go_enter Tryd.func36, Tryd.ntmps36
  go_wp2
  go_region_held3 (fun w' => w'.cell? ⟨m.b, 2, none⟩ = some (.int .i64 (m.a : Int))) (go_keep)
    (first
      | (go_at_call 41; refine Calls.mono HH.out ?_; rintro e w' ⟨rfl, rfl⟩)
      | (go_at_call 50; refine Calls.mono HA.out ?_; rintro e w' ⟨rfl, hf⟩; have c2n := HC.out w' hf.out.2))
  all_goals go_wp2
  all_goals go_end0
  all_goals exact ⟨rfl, Lib.hid (HF.out _ hf.out.1 hf.out.2)⟩
end Go.Proofs.YtgfmjkbelciaaaaDoor

/- What find of the program's wheel answers. -/
namespace Go.Proofs.YtgfmjkbelciaaaaDoor
open Go.RowKit
set_option maxRecDepth 10000
set_option linter.unusedVariables false
set_option linter.unusedSimpArgs false
set_option linter.unnecessarySimpa false

theorem eql_whl (p : Option Addr) (w : World) : (binOp .eql 23 (.pointer p) (.pointer none)).run Tryd.prog w = .ok (.bool p.isNone) w :=
  run_eql_pointer_nil _ _ _ (by kernel_rfl)
section
variable {w : World} {g hg : Nat} {tv : Value} {hF : List Nat} {ps : List (Option Nat)} {Q : Nat → List Nat} {S : Slb} {K now : Nat} {M : List Tm}
theorem bySlot_of {M : List Tm} (h : (M.map (·.s)).Nodup) {m : Tm} (hm : m ∈ M) : bySlot M m.s = some m.b := by
  induction M with
  | nil => cases hm
  | cons x M ih =>
    rw [List.map_cons, List.nodup_cons] at h
    unfold bySlot
    rw [List.find?_cons]
    rcases List.mem_cons.1 hm with e | e
    · subst e; simp
    · have hne : (x.s == m.s) = false := by
        simp only [beq_eq_false_iff_ne]
        intro e2
        exact h.1 (e2 ▸ List.mem_map_of_mem e)
      rw [hne]
      exact ih h.2 e
theorem bySlot_none {M : List Tm} {i : Nat} (h : ∀ m ∈ M, m.s ≠ i) : bySlot M i = none := by
  unfold bySlot
  rw [List.find?_eq_none.2 (fun m hm => by simpa using h m hm)]; rfl
theorem WheelM.is (h : WheelM w g hg tv hF ps Q S K now M) {m : Tm} (hm : m ∈ M) : S.is (m.s : Int) (m.g : Int) = true := by
  obtain ⟨h1, h2, h3⟩ := h.ok.use m hm
  unfold Slb.is
  rw [Int.toNat_natCast, h2, h3]; simp
theorem WheelM.of_is (h : WheelM w g hg tv hF ps Q S K now M) {a b : Int} (hi : S.is a b = true) : ∃ m ∈ M, a = (m.s : Int) ∧ b = (m.g : Int) := by
  obtain ⟨h0, h1, h2, h3⟩ := Slb.is_lt hi
  obtain ⟨m, hm, e⟩ := h.ok.all _ h2
  have := (h.ok.use m hm).2.2
  refine ⟨m, hm, by omega, ?_⟩
  rw [← h3, ← e, this]
theorem WheelM.slot (h : WheelM w g hg tv hF ps Q S K now M) {m : Tm} (hm : m ∈ M) : ∃ tb to n cap, tv = .slice (some ⟨tb, to, none⟩) n cap ∧ m.s < n ∧ n = ps.length ∧ n ≤ cap ∧ cap ≤ maxLen ∧ m.s < 4096 ∧ w.cell? ⟨tb, to + m.s, none⟩ = some (.pointer (some ⟨m.b, 0, none⟩)) ∧ w.cell? ⟨g, 2, none⟩ = some (.slice (some ⟨tb, to, none⟩) n cap) ∧ (∀ i, w.frozen? ⟨tb, i, none⟩ = false) ∧ tb ≠ g ∧ ps[m.s]? = some (some m.b) := by
  obtain ⟨u1, u2, u3⟩ := h.ok.use m hm
  have hl : m.s < ps.length := by rw [h.plen]; exact u1
  have hok : S.Ok K := by obtain ⟨sv, cs, xs, U, hF, hrow, hsz, h0, h1, h2, hU, hown, hx, hbit, hok⟩ := h.slab; exact hok
  have hp := h.pat m.s hl
  rw [bySlot_of h.ok.slots hm] at hp
  obtain ⟨A, n, cap, rfl, hn, hc1, hc2⟩ := h.own.slice'
  obtain ⟨tb, to, rfl, hc⟩ := h.own.src m.s (optr (some m.b)) (by rw [List.getElem?_map, hp]; rfl)
  rw [List.length_map] at hn
  obtain ⟨_, _, c2, _⟩ := h.base.cells
  refine ⟨tb, to, n, cap, rfl, by omega, hn, hc1, hc2, by have := hok.len; have := hok.hi; omega, hc, c2, h.own.free tb to rfl, fun e => ?_, hp⟩
  exact h.apart.2.1 (by simp [Value.ownBlock, e])
end
theorem find_nil (a b : Int) (w : World) : Calls Tryd.prog 35 #[.pointer none, .agg #[.int .i64 a, .int .i64 b]] w fun e w' => e = .returned (.pointer none) ∧ Mods [] w w' := by
  have he := eql_whl
  go_enter Tryd.func35, Tryd.ntmps35
  go_wp2
  go_ret
  exact ⟨rfl, (Mods.refl [] w).alloc _⟩
theorem find_no (w : World) (g hg : Nat) (tv : Value) (hF : List Nat) (ps : List (Option Nat)) (Q : Nat → List Nat) (S : Slb) (K now : Nat) (M : List Tm) (a b : Int) (h : WheelM w g hg tv hF ps Q S K now M) (ha : -9223372036854775808 ≤ a) (ha' : a ≤ 9223372036854775807) (hs : S.is a b = false) :
    Calls Tryd.prog 35 #[ptr g, .agg #[.int .i64 a, .int .i64 b]] w fun e w' => e = .returned (.pointer none) ∧ Mods [] w w' := by
  obtain ⟨k0, k1, k2, f1⟩ := h.base.cells
  have he := eql_whl
  have k1a := cell_alloc k1 (.cells #[.int .i64 a, .int .i64 b] 32)
  have HG := Lib.hid (get_no (w.alloc (.cells #[.int .i64 a, .int .i64 b] 32)).drew hg a b hF S K ha ha' (slabA_keep h.slab fun k hk => Below.heap_alloc w _ k (slabA_lt h.slab k hk)) hs)
  clear h hs
  go_enter Tryd.func35, Tryd.ntmps35
  go_wp2
  go_region_held3 (fun w' => w'.cell? ⟨g, 1, none⟩ = some (.pointer (some ⟨hg, 0, none⟩)) ∧ w'.cell? ⟨w.heap.size, 0, none⟩ = some (.int .i64 a) ∧ w'.cell? ⟨w.heap.size, 1, none⟩ = some (.int .i64 b)) (go_keep)
    ((go_at_call 49; refine Calls.mono HG.out ?_; rintro e w1 ⟨rfl, hd⟩; have k1b := cell_mods k1a (of_drew hd) (by simp); have k3 := cell_new (of_drew hd) (by simp) 0; have k4 := cell_new (of_drew hd) (by simp) 1; have H1 := Lib.hid (((Mods.refl [] w).alloc _).trans (of_drew hd) (by simp)); clear hd))
  all_goals go_wp2
  all_goals go_ret
  all_goals exact ⟨rfl, H1.out⟩
theorem find_yes (w : World) (g hg : Nat) (tv : Value) (hF : List Nat) (ps : List (Option Nat)) (Q : Nat → List Nat) (S : Slb) (K now : Nat) (M : List Tm) (m : Tm) (h : WheelM w g hg tv hF ps Q S K now M) (hm : m ∈ M) :
    Calls Tryd.prog 35 #[ptr g, .agg #[.int .i64 (m.s : Int), .int .i64 (m.g : Int)]] w fun e w' => e = .returned (ptr m.b) ∧ Mods [] w w' := by
  have hs := h.is hm
  obtain ⟨tb, to, n, cap, htv, q1, q2, q3, q4, q5, ct, k2, f2, tg, hps⟩ := h.slot hm
  obtain ⟨k0, k1, _, f1⟩ := h.base.cells
  have he := eql_whl
  have k1a := cell_alloc k1 (.cells #[.int .i64 (m.s : Int), .int .i64 (m.g : Int)] 32)
  have HG := Lib.hid (get_yes (w.alloc (.cells #[.int .i64 (m.s : Int), .int .i64 (m.g : Int)] 32)).drew hg m.s (m.g : Int) hF S K q5 (slabA_keep h.slab fun k hk => Below.heap_alloc w _ k (slabA_lt h.slab k hk)) hs)
  clear h hs htv q2 f2 hps
  have p1 : (m.s : Int) < (n : Int) := by omega
  go_enter Tryd.func35, Tryd.ntmps35
  go_wp2
  go_region_held3 (fun w' => w'.cell? ⟨g, 1, none⟩ = some (.pointer (some ⟨hg, 0, none⟩)) ∧ w'.cell? ⟨w.heap.size, 0, none⟩ = some (.int .i64 (m.s : Int)) ∧ w'.cell? ⟨w.heap.size, 1, none⟩ = some (.int .i64 (m.g : Int))) (go_keep)
    ((go_at_call 49; refine Calls.mono HG.out ?_; rintro e w1 ⟨rfl, hd⟩; have k1b := cell_mods k1a (of_drew hd) (by simp); have k3 := cell_new (of_drew hd) (by simp) 0; have k4 := cell_new (of_drew hd) (by simp) 1; have H1 := Lib.hid (((Mods.refl [] w).alloc _).trans (of_drew hd) (by simp)); clear hd))
  all_goals
    have k2b := cell_mods k2 H1.out (by simp)
    have ctb := cell_mods ct H1.out (by simp)
    go_wp2
    go_region
  all_goals go_wp2
  all_goals go_ret
  all_goals exact ⟨rfl, H1.out.drew⟩
end Go.Proofs.YtgfmjkbelciaaaaDoor
