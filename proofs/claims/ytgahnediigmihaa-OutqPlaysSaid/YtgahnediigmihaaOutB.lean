/- What take of the program's queue does. -/
import Derived.Test.YtgahnediigmihaaOutA
import Derived.Test.YtgahnediigmihaaRows2
namespace Go.Proofs.Ytgahnediigmihaa
open Go.RowKit
set_option maxRecDepth 10000
set_option linter.unusedVariables false
set_option linter.unusedSimpArgs false

/-- What take leaves, of a row at place k of block g. -/
def Took (w w' : World) (g k : Nat) (t : TypeId) (cs : Array Value) (v : Value) (e : TypeId) (xs : List Value) : Prop :=
  ∃ (v' : Value) (d : Nat), Row w' g t ((cs.setIfInBounds k v').setIfInBounds (k + 1) (.int .i64 d)) ∧ Own w' e v' xs ∧ d ≤ xs.length ∧ Mods (g :: v.ownBlock.toList) w w' ∧ ∀ b ∈ v'.ownBlock.toList, b ∈ v.ownBlock.toList ∨ w.heap.size ≤ b
/-- v is a new slice of these. -/
def FreshO (w w' : World) (e : TypeId) (v : Value) (xs : List Value) : Prop := Own w' e v xs ∧ Mods [] w w' ∧ ∀ k ∈ v.ownBlock.toList, w.heap.size ≤ k
theorem concatB_row (w : World) (b : Nat) (A : Option Addr) (n c : Nat) (l : List Int) (hc : w.cell? ⟨b, 0, none⟩ = some (.slice A n c)) (hn : n = l.length) (hs : Src w A (bv l)) (hr : ∀ x ∈ l, 0 ≤ x ∧ x ≤ 255) (h1 : n ≤ c) (h2 : c ≤ maxLen) (ht : n ≤ 1000000000) :
    Calls Try.prog 34 #[.slice (some ⟨b, 0, none⟩) 1 1] w fun e w' => ∃ v, e = .returned v ∧ Hid (Fresh w w' v l) := by
  subst hn
  have hR : RowsAt w [] b [⟨A, l, c⟩] := ⟨World.block_lt_of_cell? w _ hc, by simp, fun i r hr => by
    match i, hr with
    | 0, hr => injection hr with hr; subst hr; exact hc, fun r hr => by
    simp only [List.mem_cons, List.mem_nil_iff, or_false] at hr
    subst hr
    refine ⟨fun i x hx => ?_, h1, h2⟩
    obtain ⟨b', o', e', h'⟩ := hs i (.int .u8 x) ((bv_at _ _ _).2 ⟨x, hx, rfl⟩)
    exact ⟨b', o', e', World.block_lt_of_cell? w _ h', by simp, h', by first | exact hr x (List.mem_of_getElem? hx) | exact ‹∀ x ∈ l, 0 ≤ x ∧ x ≤ 255› x (List.mem_of_getElem? hx)⟩⟩
  have hf : flatR [⟨A, l, c⟩] = l := by simp [flatR]
  have := concat_any w b [⟨A, l, c⟩] hR (by simp) (by rw [hf]; exact ht)
  rw [hf] at this
  exact this
theorem concatB_one (w : World) (b : Nat) (A : Option Addr) (n c : Nat) (l : List Int) (hc : w.cell? ⟨b, 0, none⟩ = some (.slice A n c)) (hn : n = l.length) (hs : Src w A (bv l)) (hr : ∀ x ∈ l, 0 ≤ x ∧ x ≤ 255) (h1 : n ≤ c) (h2 : c ≤ maxLen) (ht : n ≤ 1000000000) :
    Calls Try.prog 34 #[.slice (some ⟨b, 0, none⟩) 1 1] w fun e w' => ∃ v, e = .returned v ∧ Hid (FreshO w w' 5 v (bv l)) := by
  refine (concatB_row w b A n c l hc hn hs hr h1 h2 ht).mono ?_
  rintro e w' ⟨v, rfl, hd⟩
  exact ⟨v, rfl, Lib.hid ⟨Own.of_row hd.out.1, hd.out.2⟩⟩
theorem concatI_one (w : World) (b : Nat) (A : Option Addr) (n c : Nat) (l : List Int) (hc : w.cell? ⟨b, 0, none⟩ = some (.slice A n c)) (hn : n = l.length) (hs : Src w A (iv l)) (h1 : n ≤ c) (h2 : c ≤ maxLen) (ht : n ≤ 1000000000) :
    Calls Try.prog 35 #[.slice (some ⟨b, 0, none⟩) 1 1] w fun e w' => ∃ v, e = .returned v ∧ Hid (FreshO w w' 3 v (iv l)) := by
  refine (concatI_any w b A n c l hc hn hs (by omega)).mono ?_
  rintro e w' ⟨v, rfl, hd⟩
  exact ⟨v, rfl, Lib.hid hd.out⟩
theorem drop_map {α β : Type} (f : α → β) (l : List α) (m : Nat) : (l.map f).drop m = (l.drop m).map f := by rw [List.map_drop]
theorem bv_drop (l : List Int) (m : Nat) : (bv l).drop m = bv (l.drop m) := drop_map _ _ _
theorem iv_drop (l : List Int) (m : Nat) : (iv l).drop m = iv (l.drop m) := drop_map _ _ _
theorem Src.mods {w w' : World} {F : List Nat} {A : Option Addr} {xs : List Value} (h : Src w A xs) (hm : Mods F w w') (hF : ∀ b o, A = some ⟨b, o, none⟩ → b ∉ F) : Src w' A xs := fun j u hu => by
  obtain ⟨b, o, e, hc⟩ := h j u hu
  exact ⟨b, o, e, cell_mods hc hm (hF b o e)⟩
theorem cut_facts {w : World} {g k n1 c1 : Nat} {t e : TypeId} {cs : Array Value} {A1 : Option Addr} {ys : List Value} {x : Value} (hr : Row w g t cs) (ho : Own w e (.slice A1 n1 c1) ys) (hn : ∀ b ∈ (Value.slice A1 n1 c1).ownBlock.toList, b ≠ g) (h0 : k + 1 < cs.size) :
    ∃ W1, W1 = (w.setCell ⟨g, k, none⟩ (.slice A1 n1 c1)).setCell ⟨g, k + 1, none⟩ x ∧ Row W1 g t ((cs.setIfInBounds k (.slice A1 n1 c1)).setIfInBounds (k + 1) x) ∧ Own W1 e (.slice A1 n1 c1) ys ∧ Mods [g] w W1 ∧
      W1.cell? ⟨g, k, none⟩ = some (.slice A1 n1 c1) ∧ W1.cell? ⟨g, k + 1, none⟩ = some x := by
  have h1 := (hr.set k (.slice A1 n1 c1)).set (k + 1) x
  refine ⟨_, rfl, h1, ?_, ((Mods.refl _ _).setCell (.inl (by simp)) _).setCell (.inl (by simp)) _, ?_, ?_⟩
  · exact ho.keep fun b hb => (heap_setCell_other _ ⟨g, k + 1, none⟩ b _ (hn b hb)).trans (heap_setCell_other w ⟨g, k, none⟩ b _ (hn b hb))
  · rw [h1.cell k, Array.getElem?_setIfInBounds_ne (by omega), Array.getElem?_setIfInBounds_self]
    simp; omega
  · rw [h1.cell (k + 1), Array.getElem?_setIfInBounds_self]
    simp [h0]
theorem sets_two (cs : Array Value) (k : Nat) (x y x' y' : Value) : (((cs.setIfInBounds k x).setIfInBounds (k + 1) y).setIfInBounds k x').setIfInBounds (k + 1) y' = (cs.setIfInBounds k x').setIfInBounds (k + 1) y' := by
  apply Array.ext_getElem?
  intro i
  simp only [Array.getElem?_setIfInBounds, Array.size_setIfInBounds]
  by_cases h1 : k + 1 = i
  · simp [h1]
  · by_cases h2 : k = i
    · subst h2; simp
    · simp [h1, h2]
theorem set_at (cs : Array Value) (k : Nat) (x y : Value) (h : k + 1 < cs.size) : ((cs.setIfInBounds k x).setIfInBounds (k + 1) y)[k]? = some x ∧ ((cs.setIfInBounds k x).setIfInBounds (k + 1) y)[k + 1]? = some y := by
  refine ⟨?_, ?_⟩
  · rw [Array.getElem?_setIfInBounds_ne (by omega), Array.getElem?_setIfInBounds_self]
    simp; omega
  · rw [Array.getElem?_setIfInBounds_self]
    simp [h]
theorem took_new {w W1 w2 w3 : World} {g k n1 n3 c1 c3 : Nat} {t e : TypeId} {cs : Array Value} {v x : Value} {A1 A3 : Option Addr} {ys : List Value} (hm : Mods [g] w W1) (h2 : Mods [] W1 w2)
    (h3 : Row w3 g t ((cs.setIfInBounds k (.slice A1 n1 c1)).setIfInBounds (k + 1) x)) (hf : FreshO w2 w3 e (.slice A3 n3 c3) ys) (he : e ≠ t) :
    Took w ((w3.setCell ⟨g, k, none⟩ (.slice A3 n3 c3)).setCell ⟨g, k + 1, none⟩ (.int .i64 0)) g k t cs v e ys := by
  refine ⟨.slice A3 n3 c3, 0, ?_, ?_, Nat.zero_le _, ?_, fun b hb => .inr ?_⟩
  · have := (h3.set k (.slice A3 n3 c3)).set (k + 1) (.int .i64 ((0 : Nat) : Int))
    rw [sets_two] at this
    exact this
  · have hn := hf.1.ne_row h3 he
    exact hf.1.keep fun b hb => (heap_setCell_other _ ⟨g, k + 1, none⟩ b _ (hn b hb)).trans (heap_setCell_other w3 ⟨g, k, none⟩ b _ (hn b hb))
  · have hm' : Mods (g :: v.ownBlock.toList) w W1 := hm.more (by simp)
    exact (((hm'.trans h2 (by simp)).trans hf.2.1 (by simp)).setCell (.inl (by simp)) _).setCell (.inl (by simp)) _
  · have := hf.2.2 b hb
    have := hm.size
    have := h2.size
    omega
theorem took_old {w W1 W2 : World} {g k n1 c1 d m : Nat} {t e : TypeId} {cs : Array Value} {v : Value} {A1 : Option Addr} {ys : List Value} (hm : Mods [g] w W1) (h2 : Mods [] W1 W2)
    (hr : Row W1 g t ((cs.setIfInBounds k (.slice A1 n1 c1)).setIfInBounds (k + 1) (.int .i64 ((d : Int) + (m : Int))))) (ho : Own W1 e (.slice A1 n1 c1) ys) (hb : (Value.slice A1 n1 c1).ownBlock = v.ownBlock) (hd : d + m ≤ ys.length) :
    Took w W2 g k t cs v e ys := by
  refine ⟨.slice A1 n1 c1, d + m, hr.mods h2 (by simp), ho.mods h2 (by simp), hd, (hm.more (by simp)).trans h2 (by simp), fun b h => .inl (by rw [← hb]; exact h)⟩
theorem takeB_any (w : World) (g k : Nat) (t : TypeId) (cs : Array Value) (v : Value) (xs : List Int) (m d : Nat) (hr : Row w g t cs) (hk : cs[k]? = some v) (hk1 : cs[k + 1]? = some (.int .i64 d)) (ho : Own w 5 v (bv xs)) (hm : m ≤ xs.length) (hd : d ≤ xs.length) (hl : xs.length ≤ 1000000000) (hrg : ∀ x ∈ xs, 0 ≤ x ∧ x ≤ 255) (ht : 5 ≠ t) :
    Calls Try.prog 30 #[.pointer (some ⟨g, k, none⟩), .int .i64 m] w fun e w' => e = .returned (.tuple #[]) ∧ Hid (Took w w' g k t cs v 5 (bv (xs.drop m))) := by
  have HN := Lib.hid (ho.ne_row hr ht)
  obtain ⟨Av, cv, rfl, hc1, hc2⟩ := ho.slice
  rw [bv_length] at ho hk HN hc1 ⊢
  have HR := Lib.hid hr
  have HSZ := Lib.hid (show k + 1 < cs.size from (Array.getElem?_eq_some_iff.1 hk1).1)
  have c0 := (hr.cell k).trans hk
  have c1 := (hr.cell (k + 1)).trans hk1
  have f0 := hr.free k
  have f1 := hr.free (k + 1)
  unfold maxLen at hc2
  have HCU := Lib.hid (ho.cut m hm)
  have HBK := Lib.hid (cut_block (A := Av) (n := xs.length) (c := cv) (k := m) (xs.length - m) (cv - m))
  clear ho hr hk hk1
  rw [bv_drop] at HCU
  have HCN := Lib.hid (show ∀ b ∈ (Value.slice (if cv = m then Av else Option.map (fun x => x.add m) Av) (xs.length - m) (cv - m)).ownBlock.toList, b ≠ g by rw [HBK.out]; exact HN.out)
  have HF := Lib.hid (cut_facts (x := .int .i64 ((d : Int) + (m : Int))) HR.out HCU.out HCN.out HSZ.out)
  by_cases hgt : xs.length - m < d + m
  · have h1 : decide ((((xs.length - m : Nat)) : Int) < (d : Int) + (m : Int)) = true := by simp; omega
    go_enter Try.func30, Try.ntmps30
    go_wp2
    all_goals
      have hf := HF.out
      first
        | (have h' := ‹cv = m›; rw [if_pos h', show cv - m = 0 by omega] at hf HBK)
        | (have h' := ‹¬ cv = m›; rw [if_neg h'] at hf HBK)
      obtain ⟨W1, hW1, r1, o1, m1, e0, e1⟩ := hf
      rw [← hW1]
      have HR1 := Lib.hid r1
      have HO1 := Lib.hid o1
      have HM1 := Lib.hid m1
      have f0 := r1.free k
      have f1 := r1.free (k + 1)
      clear r1 o1 m1 hW1 HCU HCN HF h' c0 c1
      go_quiet (fail)
      go_wp2_with fail
      refine (concatB_one _ W1.heap.size _ (xs.length - m) _ (xs.drop m) ((Row.new (W1.drewN _) _ #[_]).cell 0) (by rw [List.length_drop]) ((HO1.out.src.mods (((Mods.refl [] _).drewN _).alloc _) (by simp))) (fun x hx => hrg x (List.mem_of_mem_drop hx)) (by omega) (by unfold maxLen; omega) (by omega)).mono ?_
      rintro e w3 ⟨v3, rfl, hd⟩
      have HD := Lib.hid hd.out
      obtain ⟨A3, n3, p3, rfl, -, -, -⟩ := hd.out.1.slice'
      have HR3 := Lib.hid ((((HR1.out.keep (w' := W1.drewN _) rfl).alloc _)).mods hd.out.2.1 (by simp))
      have f0 := HR3.out.free k
      have f1 := HR3.out.free (k + 1)
      have hs := fun x y => set_at cs k x y HSZ.out
      have e0 := (HR3.out.cell k).trans (hs _ _).1
      have e1 := (HR3.out.cell (k + 1)).trans (hs _ _).2
      clear hd hs
      go_wp2
      go_end0
      exact ⟨rfl, Lib.hid (took_new HM1.out (((Mods.refl _ _).drewN _).alloc _) HR3.out HD.out ht)⟩
  · have h1 : decide ((((xs.length - m : Nat)) : Int) < (d : Int) + (m : Int)) = false := by simp; omega
    go_enter Try.func30, Try.ntmps30
    go_wp2
    all_goals
      have hf := HF.out
      first
        | (have h' := ‹cv = m›; rw [if_pos h', show cv - m = 0 by omega] at hf HBK)
        | (have h' := ‹¬ cv = m›; rw [if_neg h'] at hf HBK)
      obtain ⟨W1, hW1, r1, o1, m1, e0, e1⟩ := hf
      rw [← hW1]
      have HR1 := Lib.hid r1
      have HO1 := Lib.hid o1
      have HM1 := Lib.hid m1
      clear r1 o1 m1 hW1 HCU HCN HF h' c0 c1
      go_quiet (fail)
      go_wp2
      go_end0
      exact ⟨rfl, Lib.hid (took_old HM1.out ((Mods.refl _ _).drewN _) HR1.out HO1.out HBK.out (by rw [bv_length, List.length_drop]; omega))⟩
theorem takeI_any (w : World) (g k : Nat) (t : TypeId) (cs : Array Value) (v : Value) (xs : List Int) (m d : Nat) (hr : Row w g t cs) (hk : cs[k]? = some v) (hk1 : cs[k + 1]? = some (.int .i64 d)) (ho : Own w 3 v (iv xs)) (hm : m ≤ xs.length) (hd : d ≤ xs.length) (hl : xs.length ≤ 1000000000) (ht : 3 ≠ t) :
    Calls Try.prog 33 #[.pointer (some ⟨g, k, none⟩), .int .i64 m] w fun e w' => e = .returned (.tuple #[]) ∧ Hid (Took w w' g k t cs v 3 (iv (xs.drop m))) := by
  have HN := Lib.hid (ho.ne_row hr ht)
  obtain ⟨Av, cv, rfl, hc1, hc2⟩ := ho.slice
  rw [iv_length] at ho hk HN hc1 ⊢
  have HR := Lib.hid hr
  have HSZ := Lib.hid (show k + 1 < cs.size from (Array.getElem?_eq_some_iff.1 hk1).1)
  have c0 := (hr.cell k).trans hk
  have c1 := (hr.cell (k + 1)).trans hk1
  have f0 := hr.free k
  have f1 := hr.free (k + 1)
  unfold maxLen at hc2
  have HCU := Lib.hid (ho.cut m hm)
  have HBK := Lib.hid (cut_block (A := Av) (n := xs.length) (c := cv) (k := m) (xs.length - m) (cv - m))
  clear ho hr hk hk1
  rw [iv_drop] at HCU
  have HCN := Lib.hid (show ∀ b ∈ (Value.slice (if cv = m then Av else Option.map (fun x => x.add m) Av) (xs.length - m) (cv - m)).ownBlock.toList, b ≠ g by rw [HBK.out]; exact HN.out)
  have HF := Lib.hid (cut_facts (x := .int .i64 ((d : Int) + (m : Int))) HR.out HCU.out HCN.out HSZ.out)
  by_cases hgt : xs.length - m < d + m
  · have h1 : decide ((((xs.length - m : Nat)) : Int) < (d : Int) + (m : Int)) = true := by simp; omega
    go_enter Try.func33, Try.ntmps33
    go_wp2
    all_goals
      have hf := HF.out
      first
        | (have h' := ‹cv = m›; rw [if_pos h', show cv - m = 0 by omega] at hf HBK)
        | (have h' := ‹¬ cv = m›; rw [if_neg h'] at hf HBK)
      obtain ⟨W1, hW1, r1, o1, m1, e0, e1⟩ := hf
      rw [← hW1]
      have HR1 := Lib.hid r1
      have HO1 := Lib.hid o1
      have HM1 := Lib.hid m1
      have f0 := r1.free k
      have f1 := r1.free (k + 1)
      clear r1 o1 m1 hW1 HCU HCN HF h' c0 c1
      go_quiet (fail)
      go_wp2_with fail
      refine (concatI_one _ W1.heap.size _ (xs.length - m) _ (xs.drop m) ((Row.new (W1.drewN _) _ #[_]).cell 0) (by rw [List.length_drop]) ((HO1.out.src.mods (((Mods.refl [] _).drewN _).alloc _) (by simp))) (by omega) (by unfold maxLen; omega) (by omega)).mono ?_
      rintro e w3 ⟨v3, rfl, hd⟩
      have HD := Lib.hid hd.out
      obtain ⟨A3, n3, p3, rfl, -, -, -⟩ := hd.out.1.slice'
      have HR3 := Lib.hid ((((HR1.out.keep (w' := W1.drewN _) rfl).alloc _)).mods hd.out.2.1 (by simp))
      have f0 := HR3.out.free k
      have f1 := HR3.out.free (k + 1)
      have hs := fun x y => set_at cs k x y HSZ.out
      have e0 := (HR3.out.cell k).trans (hs _ _).1
      have e1 := (HR3.out.cell (k + 1)).trans (hs _ _).2
      clear hd hs
      go_wp2
      go_end0
      exact ⟨rfl, Lib.hid (took_new HM1.out (((Mods.refl _ _).drewN _).alloc _) HR3.out HD.out ht)⟩
  · have h1 : decide ((((xs.length - m : Nat)) : Int) < (d : Int) + (m : Int)) = false := by simp; omega
    go_enter Try.func33, Try.ntmps33
    go_wp2
    all_goals
      have hf := HF.out
      first
        | (have h' := ‹cv = m›; rw [if_pos h', show cv - m = 0 by omega] at hf HBK)
        | (have h' := ‹¬ cv = m›; rw [if_neg h'] at hf HBK)
      obtain ⟨W1, hW1, r1, o1, m1, e0, e1⟩ := hf
      rw [← hW1]
      have HR1 := Lib.hid r1
      have HO1 := Lib.hid o1
      have HM1 := Lib.hid m1
      clear r1 o1 m1 hW1 HCU HCN HF h' c0 c1
      go_quiet (fail)
      go_wp2
      go_end0
      exact ⟨rfl, Lib.hid (took_old HM1.out ((Mods.refl _ _).drewN _) HR1.out HO1.out HBK.out (by rw [iv_length, List.length_drop]; omega))⟩
end Go.Proofs.Ytgahnediigmihaa
