/- The program's queue in memory, and what New, lay, Len, atMost of it do. -/
import Derived.Test.YtgahnediigmihaaCat
import Derived.Test.YtgahnediigmihaaCatI
namespace Go.Proofs.Ytgahnediigmihaa
open Go.RowKit
set_option maxRecDepth 10000
set_option linter.unusedVariables false
set_option linter.unusedSimpArgs false

/-- The queue behind pointer g: B: the bytes that are left; E: where the pieces end that were not told, counted from the beginning of all; W: how many bytes were written; T: how many pieces were told or dropped. -/
structure QueF (w : World) (g : Nat) (vd : Value) (td : Nat) (ve : Value) (te : Nat) (B E : List Int) (W T : Nat) : Prop where
  row : Row w g 53 #[vd, .int .i64 td, ve, .int .i64 te, .int .i64 W, .int .i64 ((T : Int) + (E.length : Int))]
  dat : Own w 5 vd (bv B)
  ends : Own w 3 ve (iv E)
  td_ : td ≤ B.length
  te_ : te ≤ E.length
  rng : ∀ x ∈ B, 0 ≤ x ∧ x ≤ 255
  top : W + B.length ≤ 1000000000
  num : T + E.length ≤ 1000000000
/-- F: its blocks. -/
def foot (g : Nat) (vd ve : Value) : List Nat := g :: (vd.ownBlock.toList ++ ve.ownBlock.toList)
def QueA (w : World) (g : Nat) (F : List Nat) (B E : List Int) (W T : Nat) : Prop := ∃ vd td ve te, F = foot g vd ve ∧ QueF w g vd td ve te B E W T
section
variable {w w' : World} {g td te W T : Nat} {vd ve : Value} {B E : List Int} {F : List Nat}
theorem QueF.keep (h : QueF w g vd td ve te B E W T) (e : ∀ k ∈ foot g vd ve, w'.heap[k]? = w.heap[k]?) : QueF w' g vd td ve te B E W T :=
  ⟨h.row.keep (e _ (by simp [foot])), h.dat.keep (fun k hk => e k (by simp only [foot, List.mem_cons, List.mem_append]; exact .inr (.inl hk))), h.ends.keep (fun k hk => e k (by simp only [foot, List.mem_cons, List.mem_append]; exact .inr (.inr hk))), h.td_, h.te_, h.rng, h.top, h.num⟩
theorem QueF.lt (h : QueF w g vd td ve te B E W T) : ∀ k ∈ foot g vd ve, k < w.heap.size := by
  intro k hk
  simp only [foot, List.mem_cons, List.mem_append] at hk
  rcases hk with rfl | hk | hk
  · exact h.row.lt
  · exact h.dat.lt k hk
  · exact h.ends.lt k hk
theorem QueA.keep (h : QueA w g F B E W T) (e : ∀ k ∈ F, w'.heap[k]? = w.heap[k]?) : QueA w' g F B E W T := by
  obtain ⟨vd, td, ve, te, rfl, h⟩ := h
  exact ⟨vd, td, ve, te, rfl, h.keep e⟩
theorem QueA.lt (h : QueA w g F B E W T) : ∀ k ∈ F, k < w.heap.size := by
  obtain ⟨vd, td, ve, te, rfl, h⟩ := h
  exact h.lt
theorem QueA.mods {G : List Nat} (h : QueA w g F B E W T) (hm : Mods G w w') (hd : ∀ k ∈ F, k ∉ G) : QueA w' g F B E W T :=
  h.keep fun k hk => hm.block k (h.lt k hk) (hd k hk)
theorem QueA.quiet (h : QueA w g F B E W T) (hm : Mods [] w w') : QueA w' g F B E W T := h.mods hm (by simp)
theorem QueA.rng (h : QueA w g F B E W T) : ∀ x ∈ B, 0 ≤ x ∧ x ≤ 255 := by obtain ⟨vd, td, ve, te, rfl, h⟩ := h; exact h.rng
theorem QueA.top (h : QueA w g F B E W T) : W + B.length ≤ 1000000000 ∧ T + E.length ≤ 1000000000 := by obtain ⟨vd, td, ve, te, rfl, h⟩ := h; exact ⟨h.top, h.num⟩
theorem QueA.self (h : QueA w g F B E W T) : g ∈ F := by obtain ⟨vd, td, ve, te, rfl, h⟩ := h; simp [foot]
end
theorem eql_qnil (p : Option Addr) (w : World) : (binOp .eql 25 (.pointer p) (.pointer none)).run Try.prog w = .ok (.bool p.isNone) w :=
  run_eql_pointer_nil _ _ _ (by kernel_rfl)
theorem qnew_any (w : World) : Calls Try.prog 10 #[] w fun e w' =>
    e = .returned (.pointer (some ⟨w.heap.size, 0, none⟩)) ∧ QueA w' w.heap.size [w.heap.size] [] [] 0 0 ∧ Mods [] w w' := by
  go_enter Try.func10, Try.ntmps10
  go_wp2
  go_ret
  refine ⟨rfl, ⟨.slice none 0 0, 0, .slice none 0 0, 0, rfl, ?_, Own.nil _ _, Own.nil _ _, by simp, by simp, by simp, by simp, by simp⟩, (Mods.refl _ _).alloc _⟩
  exact Row.new w _ _
/-- What lay leaves, of a row at place k of block g. -/
def LaidB (w w' : World) (g k : Nat) (t : TypeId) (cs : Array Value) (v : Value) (e : TypeId) (xs : List Value) : Prop :=
  ∃ v', Row w' g t (cs.setIfInBounds k v') ∧ Own w' e v' xs ∧ Mods (g :: v.ownBlock.toList) w w' ∧ (v'.ownBlock = v.ownBlock ∨ v'.ownBlock = some w.heap.size)
theorem layB_any (w : World) (g k : Nat) (t : TypeId) (cs : Array Value) (v : Value) (xs : List Int) (A : Option Addr) (n c : Nat) (l : List Int) (hr : Row w g t cs) (hk : cs[k]? = some v) (ho : Own w 5 v (bv xs)) (hn : n = l.length) (ha : Src w A (bv l)) (hl : xs.length + l.length ≤ 1000000000) (ht : 5 ≠ t) :
    Calls Try.prog 27 #[.pointer (some ⟨g, k, none⟩), .slice A n c] w fun e w' => e = .returned (.tuple #[]) ∧ Hid (LaidB w w' g k t cs v 5 (bv (xs ++ l))) := by
  subst hn
  obtain ⟨i, hi, hz, hs, hb⟩ := info_parts u8_info3
  have HI := Lib.hid (And.intro hi (And.intro hz (And.intro hs (show i.bytes ≤ 8 by omega))))
  have HA := Lib.hid ha
  have HR := Lib.hid hr
  have HN := Lib.hid (ho.ne_row hr ht)
  obtain ⟨Av, cv, rfl, hc1, hc2⟩ := ho.slice
  rw [bv_length] at ho hk HN ⊢
  have HO := Lib.hid ho
  have HK := Lib.hid hk
  have c0 := (hr.cell k).trans hk
  have HB := Lib.hid (show (bv xs).length + l.length ≤ 1000000000 by rw [bv_length]; exact hl)
  clear hi hz hs hb ho ha hr hc1 hc2 hk
  go_enter Try.func27, Try.ntmps27
  go_wp2_with (at_builtin; refine wpList_append_own2 _ rfl (.tmp 8) (.tmp 9) 28 rfl 5 i (.int .u8 0) Try.underlying28 HI.out.1 HI.out.2.1 HI.out.2.2.1 HI.out.2.2.2 rfl (.slice Av xs.length cv) (bv xs) rfl HO.out A l.length c (bv l) rfl (bv_length l).symm HA.out (bv_one l) HB.out ?_; intro v2 w2 HO2 HM2; obtain ⟨A2, n2, cp2, rfl, -, -, -⟩ := HO2.out.slice'; have HR2 := Lib.hid (HR.out.mods HM2.out.1 (fun h => HN.out g h rfl)); have c2 := (HR2.out.cell k).trans HK.out; have f2 := HR2.out.free k)
  go_end0
  refine ⟨rfl, Lib.hid ⟨_, HR2.out.set k _, ?_, ((HM2.out.1.more (fun k hk => .inl (List.mem_cons_of_mem _ hk))).setCell (.inl (by simp)) _), HM2.out.2⟩⟩
  rw [bv_append]
  exact HO2.out.keep fun b hb => heap_setCell_other w2 ⟨g, k, none⟩ b _ (HO2.out.ne_row HR2.out ht b hb)
theorem layI_any (w : World) (g k : Nat) (t : TypeId) (cs : Array Value) (v : Value) (xs : List Int) (A : Option Addr) (n c : Nat) (l : List Int) (hr : Row w g t cs) (hk : cs[k]? = some v) (ho : Own w 3 v (iv xs)) (hn : n = l.length) (ha : Src w A (iv l)) (hl : xs.length + l.length ≤ 1000000000) (ht : 3 ≠ t) :
    Calls Try.prog 28 #[.pointer (some ⟨g, k, none⟩), .slice A n c] w fun e w' => e = .returned (.tuple #[]) ∧ Hid (LaidB w w' g k t cs v 3 (iv (xs ++ l))) := by
  subst hn
  obtain ⟨i, hi, hz, hs, hb⟩ := info_parts int_info3
  have HI := Lib.hid (And.intro hi (And.intro hz (And.intro hs (show i.bytes ≤ 8 by omega))))
  have HA := Lib.hid ha
  have HR := Lib.hid hr
  have HN := Lib.hid (ho.ne_row hr ht)
  obtain ⟨Av, cv, rfl, hc1, hc2⟩ := ho.slice
  rw [iv_length] at ho hk HN ⊢
  have HO := Lib.hid ho
  have HK := Lib.hid hk
  have c0 := (hr.cell k).trans hk
  have HB := Lib.hid (show (iv xs).length + l.length ≤ 1000000000 by rw [iv_length]; exact hl)
  clear hi hz hs hb ho ha hr hc1 hc2 hk
  go_enter Try.func28, Try.ntmps28
  go_wp2_with (at_builtin; refine wpList_append_own2 _ rfl (.tmp 8) (.tmp 9) 29 rfl 3 i (.int .i64 0) Try.underlying29 HI.out.1 HI.out.2.1 HI.out.2.2.1 HI.out.2.2.2 rfl (.slice Av xs.length cv) (iv xs) rfl HO.out A l.length c (iv l) rfl (iv_length l).symm HA.out (iv_one l) HB.out ?_; intro v2 w2 HO2 HM2; obtain ⟨A2, n2, cp2, rfl, -, -, -⟩ := HO2.out.slice'; have HR2 := Lib.hid (HR.out.mods HM2.out.1 (fun h => HN.out g h rfl)); have c2 := (HR2.out.cell k).trans HK.out; have f2 := HR2.out.free k)
  go_end0
  refine ⟨rfl, Lib.hid ⟨_, HR2.out.set k _, ?_, ((HM2.out.1.more (fun k hk => .inl (List.mem_cons_of_mem _ hk))).setCell (.inl (by simp)) _), HM2.out.2⟩⟩
  rw [iv_append]
  exact HO2.out.keep fun b hb => heap_setCell_other w2 ⟨g, k, none⟩ b _ (HO2.out.ne_row HR2.out ht b hb)
theorem QueF.cells {w : World} {g td te W T : Nat} {vd ve : Value} {B E : List Int} (h : QueF w g vd td ve te B E W T) : ∃ Ad cd Ae ce, vd = .slice Ad B.length cd ∧ ve = .slice Ae E.length ce ∧ B.length ≤ cd ∧ cd ≤ maxLen ∧ E.length ≤ ce ∧ ce ≤ maxLen := by
  obtain ⟨Ad, cd, rfl, h1, h2⟩ := h.dat.slice
  obtain ⟨Ae, ce, rfl, h3, h4⟩ := h.ends.slice
  rw [bv_length] at *
  rw [iv_length] at *
  exact ⟨Ad, cd, Ae, ce, rfl, rfl, h1, h2, h3, h4⟩
theorem qlen_any (w : World) (g : Nat) (F : List Nat) (B E : List Int) (W T : Nat) (h : QueA w g F B E W T) :
    Calls Try.prog 24 #[.pointer (some ⟨g, 0, none⟩)] w fun e w' => e = .returned (.int .i64 B.length) ∧ w = w' := by
  obtain ⟨vd, td, ve, te, rfl, h⟩ := h
  obtain ⟨Ad, cd, Ae, ce, rfl, rfl, _⟩ := h.cells
  have c0 := h.row.cell 0
  have hn := eql_qnil
  clear h
  go_enter Try.func24, Try.ntmps24
  go_wp2
  go_ret
  exact ⟨rfl, rfl⟩
theorem qlen_nil (w : World) : Calls Try.prog 24 #[.pointer none] w fun e w' => e = .returned (.int .i64 0) ∧ w = w' := by
  have hn := eql_qnil
  go_enter Try.func24, Try.ntmps24
  go_wp2
  go_ret
  exact ⟨rfl, rfl⟩
theorem qmost_any (w : World) (g : Nat) (n : Int) (F : List Nat) (B E : List Int) (W T : Nat) (h : QueA w g F B E W T) :
    Calls Try.prog 29 #[.pointer (some ⟨g, 0, none⟩), .int .i64 n] w fun e w' => e = .returned (.int .i64 (clamp n B.length)) ∧ w = w' := by
  have HL := Lib.hid (qlen_any w g F B E W T h)
  have HE := Lib.hid (show min (max n 0) (B.length : Int) = (clamp n B.length : Int) by unfold clamp; omega)
  clear h
  go_enter Try.func29, Try.ntmps29
  go_wp2_with fail
  all_goals
    refine HL.out.mono ?_
    rintro e w' ⟨rfl, rfl⟩
  all_goals go_wp2
  all_goals
    go_ret
    exact ⟨ret_i64 (by rw [← HE.out]; omega), rfl⟩
end Go.Proofs.Ytgahnediigmihaa
