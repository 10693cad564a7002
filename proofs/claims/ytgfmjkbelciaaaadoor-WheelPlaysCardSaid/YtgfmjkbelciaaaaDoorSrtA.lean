/- An array of pointers in memory; what cmp.Compare and the closure of 'fire' answer. -/
import Derived.Test.YtgfmjkbelciaaaaDoorProg
import Derived.WalkKit
import Derived.ProofKit
import Derived.RegionTactic
import Derived.Deep.QuietTactic
import Derived.BigQuiet
import Derived.Outline
import Derived.LoopTactic
import Derived.WalkLawsBesides
import Derived.WalkSpells
import Derived.Deep.RegionHeld3
import Derived.Deep.RegionWith
import Derived.BigRegion
import Derived.OwnWalk
import Derived.Test.YtgfmjkbelciaaaaDoorBy
import Derived.Test.YtgfmjkbelciaaaaDoorSrtMath
namespace Go.Proofs.YtgfmjkbelciaaaaDoor
open Go.RowKit
set_option maxRecDepth 10000
set_option linter.unusedVariables false

/-- The pointer to a block. -/
abbrev ptr (b : Nat) : Value := .pointer (some ⟨b, 0, none⟩)
/-- From the head of block B on: pointers to these blocks. -/
structure Arr (w : World) (B : Nat) (L : List Nat) : Prop where
  at_ : ∀ i b, L[i]? = some b → w.cell? ⟨B, i, none⟩ = some (ptr b)
  free : ∀ i, w.frozen? ⟨B, i, none⟩ = false
/-- Each of these blocks has its key in its third cell. -/
def Keyed (w : World) (B : Nat) (key : Nat → Int) (L : List Nat) : Prop := ∀ b ∈ L, b ≠ B ∧ w.cell? ⟨b, 2, none⟩ = some (.int .i64 (key b))
section
variable {w w' : World} {B : Nat} {L L' : List Nat} {key : Nat → Int} {F : List Nat}
theorem Arr.get (h : Arr w B L) {i : Nat} (hi : i < L.length) : w.cell? ⟨B, i, none⟩ = some (ptr (L.getD i 0)) := h.at_ i _ (at_getD hi)
theorem Arr.set (h : Arr w B L) {i : Nat} (hi : i < L.length) (b : Nat) : Arr (w.setCell ⟨B, i, none⟩ (ptr b)) B (L.set i b) := by
  refine ⟨fun j c hj => ?_, fun j => by rw [World.frozen?_setCell]; exact h.free j⟩
  rw [List.getElem?_set] at hj
  by_cases e : i = j
  · subst e
    rw [if_pos rfl, if_pos hi] at hj
    injection hj with hj
    subst hj
    exact World.cell?_setCell_same' _ _ _ (by rw [h.get hi]; rfl)
  · rw [if_neg e] at hj
    rw [World.cell?_setCell_other _ _ _ _ (by simp <;> omega)]
    exact h.at_ j c hj
theorem Arr.same (h : Arr w B L) (e : w'.heap[B]? = w.heap[B]?) : Arr w' B L :=
  ⟨fun i b hi => (World.cell?_of_block (w := w) e).trans (h.at_ i b hi), fun i => (World.frozen?_of_block (w := w) e).trans (h.free i)⟩
theorem Arr.drewN (h : Arr w B L) (n : Nat) : Arr (w.drewN n) B L := h.same rfl
theorem Arr.lt (h : Arr w B L) (hL : 0 < L.length) : B < w.heap.size := World.block_lt_of_cell? w _ (h.get hL)
theorem Keyed.mods (h : Keyed w B key L) (hm : Mods [B] w w') : Keyed w' B key L := fun b hb =>
  ⟨(h b hb).1, cell_mods (h b hb).2 hm (by simpa using (h b hb).1)⟩
theorem Keyed.sub (h : Keyed w B key L) (hs : ∀ b ∈ L', b ∈ L) : Keyed w B key L' := fun b hb => h b (hs b hb)
theorem Keyed.drewN (h : Keyed w B key L) (n : Nat) : Keyed (w.drewN n) B key L := h
theorem Keyed.get (h : Keyed w B key L) {i : Nat} (hi : i < L.length) : w.cell? ⟨L.getD i 0, 2, none⟩ = some (.int .i64 (key (L.getD i 0))) := (h _ (getD_mem L i hi)).2
end
def cmpI (x y : Int) : Int := if x < y then -1 else if y < x then 1 else 0
theorem cmpI_lt (x y : Int) : cmpI x y < 0 ↔ x < y := by unfold cmpI; split <;> (try split) <;> omega
theorem nan_any (x : Int) (w : World) : Calls Tryd.prog 64 #[.int .i64 x] w fun e w' => e = .returned (.bool false) ∧ w = w' := by
  go_enter Tryd.func64, Tryd.ntmps64
  go_wp2
  go_ret
  exact ⟨rfl, rfl⟩
theorem compare_any (x y : Int) (w : World) : Calls Tryd.prog 57 #[.int .i64 x, .int .i64 y] w fun e w' => e = .returned (.int .i64 (cmpI x y)) ∧ w = w' := by
  unfold cmpI
  rcases Int.lt_trichotomy x y with h | h | h
  · rw [if_pos h]
    go_enter Tryd.func57, Tryd.ntmps57
    go_wp2_with (go_at_call 64; refine (nan_any _ _).mono ?_; rintro e w' ⟨rfl, rfl⟩)
    go_ret
    exact ⟨rfl, rfl⟩
  · subst h
    rw [if_neg (by omega), if_neg (by omega)]
    go_enter Tryd.func57, Tryd.ntmps57
    go_wp2_with (go_at_call 64; refine (nan_any _ _).mono ?_; rintro e w' ⟨rfl, rfl⟩)
    go_ret
    exact ⟨rfl, rfl⟩
  · have h1 : ¬ x < y := by omega
    rw [if_neg h1, if_pos h]
    go_enter Tryd.func57, Tryd.ntmps57
    go_wp2_with (go_at_call 64; refine (nan_any _ _).mono ?_; rintro e w' ⟨rfl, rfl⟩)
    go_ret
    exact ⟨rfl, rfl⟩
/-- The closure of 'fire'. -/
theorem by_any (a b : Nat) (x y : Int) (w : World) (ha : w.cell? ⟨a, 2, none⟩ = some (.int .i64 x)) (hb : w.cell? ⟨b, 2, none⟩ = some (.int .i64 y)) :
    Calls Tryd.prog 56 #[ptr a, ptr b] w fun e w' => e = .returned (.int .i64 (cmpI x y)) ∧ ∃ n, w' = w.drewN n := by
  unfold ptr
  go_enter Tryd.func56, Tryd.ntmps56
  go_wp2
  go_quiet ((go_at_call 57; exact Calls.quiet_of_same ((compare_any x y _).mono fun _ _ ⟨a, b⟩ => ⟨a, b.symm⟩)))
  go_wp2
  go_ret
  exact ⟨rfl, _, rfl⟩
end Go.Proofs.YtgfmjkbelciaaaaDoor

/- What the library's swapRange and rotate make of an array of pointers. -/
namespace Go.Proofs.YtgfmjkbelciaaaaDoor
open Go.RowKit
set_option maxRecDepth 10000
set_option linter.unusedVariables false
set_option linter.unusedSimpArgs false
set_option linter.unnecessarySimpa false

/-- Two places exchanged. -/
def swp (D : List Nat) (p q : Nat) : List Nat := (D.set p (D.getD q 0)).set q (D.getD p 0)
theorem swp_length (D : List Nat) (p q : Nat) : (swp D p q).length = D.length := by simp [swp]
theorem swp_cut (A M B : List Nat) (x y : Nat) : swp (A ++ x :: (M ++ y :: B)) A.length (A.length + 1 + M.length) = A ++ y :: (M ++ x :: B) := by
  have h1 : (A ++ x :: (M ++ y :: B)).getD A.length 0 = x := by
    have := getD_mid A (x :: (M ++ y :: B)) 0
    simpa using this
  have h2 : (A ++ x :: (M ++ y :: B)).getD (A.length + 1 + M.length) 0 = y := by
    have := getD_mid (A ++ x :: M) (y :: B) 0
    simpa [Nat.add_assoc, Nat.add_comm, Nat.add_left_comm] using this
  unfold swp
  rw [h1, h2, set_swap]
theorem Arr.swp {w : World} {B : Nat} {D : List Nat} (h : Arr w B D) {p q : Nat} (hp : p < D.length) (hq : q < D.length) :
    Arr ((w.setCell ⟨B, p, none⟩ (ptr (D.getD q 0))).setCell ⟨B, q, none⟩ (ptr (D.getD p 0))) B (swp D p q) :=
  (h.set hp _).set (by rw [List.length_set]; exact hq) _
theorem swap_mods {w wr : World} {B p q : Nat} {u v : Value} (h : Mods [B] w wr) : Mods [B] w ((wr.setCell ⟨B, p, none⟩ u).setCell ⟨B, q, none⟩ v) :=
  (h.setCell (by simp) _).setCell (by simp) _
/-- The first n of two rows exchanged. -/
def half (A X M Y R : List Nat) (i : Nat) : List Nat := A ++ (Y.take i ++ (X.drop i ++ (M ++ (X.take i ++ (Y.drop i ++ R)))))
theorem half_step {A X M Y R : List Nat} {i : Nat} (hx : i < X.length) (he : X.length = Y.length) :
    swp (half A X M Y R i) (A.length + i) (A.length + X.length + M.length + i) = half A X M Y R (i + 1) := by
  have hx' : i < Y.length := by omega
  unfold half
  rw [List.drop_eq_getElem_cons hx, List.drop_eq_getElem_cons hx']
  have h := swp_cut (A ++ Y.take i) (X.drop (i + 1) ++ (M ++ X.take i)) (Y.drop (i + 1) ++ R) X[i] Y[i]
  simp only [List.length_append, List.length_take, List.length_drop, List.append_assoc, List.cons_append] at h
  rw [show min i Y.length = i by omega, show min i X.length = i by omega, show A.length + i + 1 + (X.length - (i + 1) + (M.length + i)) = A.length + X.length + M.length + i by omega] at h
  simp only [List.append_assoc, List.cons_append] at h ⊢
  rw [h, List.take_succ_eq_append_getElem hx, List.take_succ_eq_append_getElem hx']
  simp only [List.append_assoc, List.cons_append, List.nil_append]
theorem half_zero (A X M Y R : List Nat) : half A X M Y R 0 = A ++ (X ++ (M ++ (Y ++ R))) := by simp [half]
theorem half_all {A X M Y R : List Nat} (he : X.length = Y.length) : half A X M Y R X.length = A ++ (Y ++ (M ++ (X ++ R))) := by
  unfold half
  rw [List.take_length, List.drop_length, show X.length = Y.length from he, List.take_length, List.drop_length]
  simp
theorem half_length {A X M Y R : List Nat} {i : Nat} (he : X.length = Y.length) : (half A X M Y R i).length = A.length + X.length + M.length + Y.length + R.length := by
  simp [half]; omega
theorem swapRange_any (w : World) (B a b k n c : Nat) (A X M Y R : List Nat) (fv : Value) (h : Arr w B (A ++ (X ++ (M ++ (Y ++ R))))) (ha : a = A.length) (hx : k = X.length) (hy : k = Y.length) (hb : b = A.length + X.length + M.length) (hn : n = A.length + X.length + M.length + Y.length + R.length) (hs : n ≤ 1000000000) (hc : n ≤ c) :
    Calls Tryd.prog 69 #[.slice (some ⟨B, 0, none⟩) n c, .int .i64 a, .int .i64 b, .int .i64 k, fv] w fun e w' => e = .returned (.tuple #[]) ∧ Arr w' B (A ++ (Y ++ (M ++ (X ++ R)))) ∧ Mods [B] w w' := by
  have HA := Lib.hid h
  have he : X.length = Y.length := by omega
  have HE := Lib.hid he
  have HS := Lib.hid (fun i (hi : i < X.length) => half_step (A := A) (X := X) (M := M) (Y := Y) (R := R) hi he)
  have HL := Lib.hid (fun i => half_length (A := A) (X := X) (M := M) (Y := Y) (R := R) (i := i) he)
  have HX := Lib.hid hx
  have h1 : a + k ≤ n := by omega
  have h3 : a + k ≤ b := by omega
  have h2 : b + k ≤ n := by omega
  have HZ := Lib.hid (half_zero A X M Y R)
  have HV := Lib.hid (half_all (A := A) (M := M) (R := R) he)
  have HN := Lib.hid hn
  have HB := Lib.hid hb
  have HAA := Lib.hid ha
  clear h hn hb ha hx hy he
  go_enter Tryd.func69, Tryd.ntmps69
  go_wp2
  go_loopw [10] (fun v wr => ∃ i : Nat, i ≤ k ∧ v = .int .i64 i ∧ Hid (Arr wr B (half A X M Y R i) ∧ Mods [B] w wr)) (fun v _ => k - (intOf v).toNat)
  case atStart => exact ⟨0, by omega, rfl, Lib.hid ⟨by rw [HZ.out]; exact HA.out, Mods.refl _ _⟩⟩
  case round =>
    obtain ⟨i, hi, rfl, hr⟩ := hrel
    by_cases hlt : i < k
    · have hp : a + i < (half A X M Y R i).length := by rw [HL.out, ← HN.out]; omega
      have hq : b + i < (half A X M Y R i).length := by rw [HL.out, ← HN.out]; omega
      have c1 := hr.out.1.get hp
      have c2 := hr.out.1.get hq
      have f1 := hr.out.1.free (a + i)
      have f2 := hr.out.1.free (b + i)
      have HR := Lib.hid (hr.out.1.swp hp hq)
      have HM := Lib.hid (swap_mods (p := a + i) (q := b + i) (u := ptr ((half A X M Y R i).getD (b + i) 0)) (v := ptr ((half A X M Y R i).getD (a + i) 0)) hr.out.2)
      have H2 := Lib.hid (show swp (half A X M Y R i) (a + i) (b + i) = half A X M Y R (i + 1) by rw [HAA.out, HB.out]; exact HS.out i (by rw [← HX.out]; omega))
      rw [H2.out] at HR
      clear hp hq H2
      generalize (half A X M Y R i).getD (a + i) 0 = x at *
      generalize (half A X M Y R i).getD (b + i) 0 = y at *
      have c3 : (wr.setCell ⟨B, a + i, none⟩ (.pointer (some ⟨y, 0, none⟩))).cell? ⟨B, b + i, none⟩ = some (.pointer (some ⟨y, 0, none⟩)) := by
        rw [World.cell?_setCell_other _ _ _ _ (by simp <;> omega)]; exact c2
      have w1 : IntKind.i64.wrap ((b : Int) + (i : Int)) = (b : Int) + (i : Int) := by rw [IntKind.wrap_i64]; omega
      have w2 : IntKind.i64.wrap ((a : Int) + (i : Int)) = (a : Int) + (i : Int) := by rw [IntKind.wrap_i64]; omega
      have p1 : (0 : Int) ≤ (b : Int) + (i : Int) := by omega
      have p2 : (0 : Int) ≤ (a : Int) + (i : Int) := by omega
      have p3 : (b : Int) + (i : Int) < (n : Int) := by omega
      have p4 : (a : Int) + (i : Int) < (n : Int) := by omega
      have t1 : ((b : Int) + (i : Int)).toNat = b + i := by omega
      have t2 : ((a : Int) + (i : Int)).toNat = a + i := by omega
      go_wp2
      go_region
      all_goals go_wp2
      all_goals go_roundw
      case rel => exact ⟨i + 1, by omega, by go_num, Lib.hid ⟨by exact HR.out.drewN 1, by exact HM.out.drew⟩⟩
      case measure => simp [intOf]; omega
    · have e : i = X.length := by rw [← HX.out]; omega
      have HF := Lib.hid hr.out
      rw [e, HV.out] at HF
      go_wp2
      go_end0
      exact ⟨rfl, HF.out.1, HF.out.2⟩
theorem rotate_any (w : World) (B a m b n c : Nat) (A X Y R : List Nat) (fv : Value) (h : Arr w B (A ++ (X ++ (Y ++ R)))) (ha : a = A.length) (hm : m = A.length + X.length) (hb : b = m + Y.length) (hx : 0 < X.length) (hy : 0 < Y.length) (hn : n = A.length + X.length + Y.length + R.length) (hs : n ≤ 1000000000) (hc : n ≤ c) :
    Calls Tryd.prog 68 #[.slice (some ⟨B, 0, none⟩) n c, .int .i64 a, .int .i64 m, .int .i64 b, fv] w fun e w' => e = .returned (.tuple #[]) ∧ Arr w' B (A ++ (Y ++ (X ++ R))) ∧ Mods [B] w w' := by
  have HA := Lib.hid h
  have HN := Lib.hid hn
  have HM := Lib.hid hm
  have hmi : (m : Int) - a = X.length := by omega
  have hbi : (b : Int) - m = Y.length := by omega
  have w1 : IntKind.i64.wrap ((m : Int) - a) = X.length := by rw [IntKind.wrap_i64]; omega
  have w2 : IntKind.i64.wrap ((b : Int) - m) = Y.length := by rw [IntKind.wrap_i64]; omega
  have hmn : m ≤ n := by omega
  have hbn : m + Y.length ≤ n := by omega
  clear h hn ha hb hm hmi hbi
  go_enter Tryd.func68, Tryd.ntmps68
  go_wp2
  go_loopw [10, 11] (fun v u wr => ∃ i j : Nat, v = .int .i64 i ∧ u = .int .i64 j ∧ 0 < i ∧ 0 < j ∧ i ≤ m ∧ m + j ≤ n ∧ Hid (∃ P X' Y' Q, X'.length = i ∧ Y'.length = j ∧ A.length + P.length + i = m ∧ P ++ (Y' ++ (X' ++ Q)) = Y ++ X ∧ Arr wr B (A ++ (P ++ (X' ++ (Y' ++ (Q ++ R))))) ∧ Mods [B] w wr)) (fun v u _ => (intOf v).toNat + (intOf u).toNat)
  case atStart => exact ⟨X.length, Y.length, rfl, rfl, hx, hy, by rw [HM.out]; omega, by omega, Lib.hid ⟨[], X, Y, [], rfl, rfl, by rw [HM.out]; simp, by simp, by simpa using HA.out, Mods.refl _ _⟩⟩
  case round =>
    obtain ⟨i, j, rfl, rfl, hi, hj, him, hjn, hr⟩ := hrel
    by_cases hne : i = j
    · subst hne
      have HR := Lib.hid (show ∃ P X' Y' Q, X'.length = i ∧ Y'.length = i ∧ A.length + P.length + i = m ∧ P ++ (Y' ++ (X' ++ Q)) = Y ++ X ∧ Arr wr B ((A ++ P) ++ (X' ++ ([] ++ (Y' ++ (Q ++ R))))) ∧ Mods [B] w wr by
        obtain ⟨P, X', Y', Q, h1, h2, h3, h4, h5, h6⟩ := hr.out
        exact ⟨P, X', Y', Q, h1, h2, h3, h4, by simpa using h5, h6⟩)
      have w3 : IntKind.i64.wrap ((m : Int) - i) = ((m - i : Nat) : Int) := by rw [IntKind.wrap_i64]; omega
      clear hr
      go_wp2_with fail
      obtain ⟨P, X', Y', Q, h1, h2, h3, h4, h5, h6⟩ := HR.out
      have hl : n = A.length + X.length + Y.length + R.length := HN.out
      have h7 := congrArg List.length h4
      simp only [List.length_append] at h7
      refine (swapRange_any _ B (m - i) m i n c (A ++ P) X' [] Y' (Q ++ R) _ h5 (by simp; omega) h1.symm h2.symm (by simp; omega) (by simp; omega) hs hc).mono ?_
      rintro e w' ⟨rfl, ha, hm⟩
      have e1 : (A ++ P) ++ (Y' ++ ([] ++ (X' ++ (Q ++ R)))) = A ++ (Y ++ (X ++ R)) := by
        have : A ++ ((P ++ (Y' ++ (X' ++ Q))) ++ R) = A ++ ((Y ++ X) ++ R) := by rw [h4]
        simpa [List.append_assoc] using this
      rw [e1] at ha
      have HF := Lib.hid (And.intro ha (h6.trans hm (fun k hk => .inl hk)))
      clear h1 h2 h3 h4 h5 h6 h7 ha hm hl e1
      go_wp2
      go_end0
      exact ⟨rfl, HF.out⟩
    · have w3 : IntKind.i64.wrap ((m : Int) - i) = ((m - i : Nat) : Int) := by rw [IntKind.wrap_i64]; omega
      rcases Nat.lt_or_ge j i with hlt | hge
      · have HR := Lib.hid (show ∃ P X1 X2 Y' Q, X1.length = j ∧ X2.length = i - j ∧ Y'.length = j ∧ A.length + P.length + i = m ∧ P ++ (Y' ++ (X1 ++ (X2 ++ Q))) = Y ++ X ∧ Arr wr B ((A ++ P) ++ (X1 ++ (X2 ++ (Y' ++ (Q ++ R))))) ∧ Mods [B] w wr by
          obtain ⟨P, X', Y', Q, h1, h2, h3, h4, h5, h6⟩ := hr.out
          refine ⟨P, X'.take j, X'.drop j, Y', Q, by simp; omega, by simp; omega, h2, h3, ?_, ?_, h6⟩
          · rw [← h4, ← List.append_assoc (X'.take j), List.take_append_drop]
          · rw [← List.append_assoc (X'.take j), List.take_append_drop, List.append_assoc]; exact h5)
        have w4 : IntKind.i64.wrap ((i : Int) - j) = ((i - j : Nat) : Int) := by rw [IntKind.wrap_i64]; omega
        clear hr
        go_wp2_with fail
        obtain ⟨P, X1, X2, Y', Q, h0, h1, h2, h3, h4, h5, h6⟩ := HR.out
        have hl : n = A.length + X.length + Y.length + R.length := HN.out
        have h7 := congrArg List.length h4
        simp only [List.length_append] at h7
        refine (swapRange_any _ B (m - i) m j n c (A ++ P) X1 X2 Y' (Q ++ R) _ h5 (by simp; omega) h0.symm h2.symm (by simp; omega) (by simp; omega) hs hc).mono ?_
        rintro e w' ⟨rfl, ha, hm⟩
        have HF := Lib.hid (show ∃ P X' Y' Q, X'.length = i - j ∧ Y'.length = j ∧ A.length + P.length + (i - j) = m ∧ P ++ (Y' ++ (X' ++ Q)) = Y ++ X ∧ Arr w' B (A ++ (P ++ (X' ++ (Y' ++ (Q ++ R))))) ∧ Mods [B] w w' from
          ⟨P ++ Y', X2, X1, Q, h1, h0, by simp; omega, by simpa [List.append_assoc] using h4, by simpa [List.append_assoc] using ha, h6.trans hm (fun k hk => .inl hk)⟩)
        clear h0 h1 h2 h3 h4 h5 h6 h7 ha hm hl
        go_wp2
        go_roundw
        case rel => exact ⟨i - j, j, rfl, rfl, by omega, by omega, by omega, by omega, HF⟩
        case measure => simp [intOf]; omega
      · have HR := Lib.hid (show ∃ P X' Y1 Y2 Q, X'.length = i ∧ Y1.length = j - i ∧ Y2.length = i ∧ A.length + P.length + i = m ∧ P ++ (Y1 ++ (Y2 ++ (X' ++ Q))) = Y ++ X ∧ Arr wr B ((A ++ P) ++ (X' ++ (Y1 ++ (Y2 ++ (Q ++ R))))) ∧ Mods [B] w wr by
          obtain ⟨P, X', Y', Q, h1, h2, h3, h4, h5, h6⟩ := hr.out
          refine ⟨P, X', Y'.take (j - i), Y'.drop (j - i), Q, h1, by simp; omega, by simp; omega, h3, ?_, ?_, h6⟩
          · rw [← h4, ← List.append_assoc (Y'.take (j - i)), List.take_append_drop]
          · rw [← List.append_assoc (Y'.take (j - i)), List.take_append_drop, List.append_assoc]; exact h5)
        have w4 : IntKind.i64.wrap ((j : Int) - i) = ((j - i : Nat) : Int) := by rw [IntKind.wrap_i64]; omega
        have w5 : IntKind.i64.wrap ((m : Int) + j) = (m : Int) + j := by rw [IntKind.wrap_i64]; omega
        have w6 : IntKind.i64.wrap ((m : Int) + j - i) = ((m + j - i : Nat) : Int) := by rw [IntKind.wrap_i64]; omega
        clear hr
        go_wp2_with fail
        obtain ⟨P, X', Y1, Y2, Q, h0, h1, h2, h3, h4, h5, h6⟩ := HR.out
        have hl : n = A.length + X.length + Y.length + R.length := HN.out
        have h7 := congrArg List.length h4
        simp only [List.length_append] at h7
        refine (swapRange_any _ B (m - i) (m + j - i) i n c (A ++ P) X' Y1 Y2 (Q ++ R) _ h5 (by simp; omega) h0.symm h2.symm (by simp; omega) (by simp; omega) hs hc).mono ?_
        rintro e w' ⟨rfl, ha, hm⟩
        have HF := Lib.hid (show ∃ P X' Y' Q, X'.length = i ∧ Y'.length = j - i ∧ A.length + P.length + i = m ∧ P ++ (Y' ++ (X' ++ Q)) = Y ++ X ∧ Arr w' B (A ++ (P ++ (X' ++ (Y' ++ (Q ++ R))))) ∧ Mods [B] w w' from
          ⟨P, Y2, Y1, X' ++ Q, h2, h1, by omega, by simpa [List.append_assoc] using h4, by simpa [List.append_assoc] using ha, h6.trans hm (fun k hk => .inl hk)⟩)
        clear h0 h1 h2 h3 h4 h5 h6 h7 ha hm hl
        go_wp2
        go_roundw
        case rel => exact ⟨i, j - i, rfl, rfl, by omega, by omega, by omega, by omega, HF⟩
        case measure => simp [intOf]; omega
end Go.Proofs.YtgfmjkbelciaaaaDoor

/- What the library's insertion sort makes of an array of pointers. -/
namespace Go.Proofs.YtgfmjkbelciaaaaDoor
open Go.RowKit
set_option maxRecDepth 10000
set_option linter.unusedVariables false
set_option linter.unusedSimpArgs false
set_option linter.unnecessarySimpa false

theorem ins_exit {key : Nat → Int} {S1 S2 : List Nat} {x : Nat} (h : Srt key (S1 ++ S2)) (h2 : ∀ y ∈ S2, key x < key y) (h1 : ∀ y ∈ S1, key y ≤ key x) :
    Srt key (S1 ++ x :: S2) ∧ Same key ((S1 ++ S2) ++ [x]) (S1 ++ x :: S2) := by
  have h3 := srt_append.1 h
  refine ⟨srt_append.2 ⟨h3.1, srt_cons.2 ⟨fun y hy => Int.le_of_lt (h2 y hy), h3.2.1⟩, fun y hy z hz => ?_⟩, ?_⟩
  · rcases List.mem_cons.1 hz with e | e
    · rw [e]; exact h1 y hy
    · exact h3.2.2 y hy z e
  · have : Same key (S2 ++ [x]) ([x] ++ S2) := Same.swap fun y hy z hz e => by
      have := h2 y hy
      simp only [List.mem_cons, List.mem_nil_iff, or_false] at hz
      rw [hz] at e; omega
    have := (Same.refl key S1).append this
    simpa [List.append_assoc] using this
theorem ins_last {key : Nat → Int} {S : List Nat} {y : Nat} {k : Int} (h : Srt key (S ++ [y])) (hk : key y ≤ k) : ∀ z ∈ S ++ [y], key z ≤ k := fun z hz => by
  rcases List.mem_append.1 hz with e | e
  · exact Int.le_trans ((srt_append.1 h).2.2 z e y (by simp)) hk
  · simp only [List.mem_cons, List.mem_nil_iff, or_false] at e
    rw [e]; exact hk
theorem swp_next (A B : List Nat) (x y : Nat) : swp (A ++ y :: (x :: B)) (A.length + 1) A.length = A ++ x :: (y :: B) := by
  have h1 : (A ++ y :: (x :: B)).getD A.length 0 = y := by simpa using getD_mid A (y :: (x :: B)) 0
  have h2 : (A ++ y :: (x :: B)).getD (A.length + 1) 0 = x := by simpa using getD_mid A (y :: (x :: B)) 1
  unfold swp
  rw [h1, h2]
  exact set_swap' A [] B y x
/-- The row of the round: S1, x, S2 stand; S1 and S2 are sorted, S2 above x. -/
def InsIn (key : Nat → Int) (w wr : World) (B a j : Nat) (A S0 R : List Nat) (k : Nat) : Prop :=
  ∃ S1 x S2 T, a + S1.length = j ∧ S1.length + S2.length = k ∧ Srt key (S1 ++ S2) ∧ (∀ y ∈ S2, key x < key y) ∧ Same key S0 ((S1 ++ S2) ++ (x :: T)) ∧ Arr wr B (A ++ (S1 ++ (x :: (S2 ++ (T ++ R))))) ∧ Mods [B] w wr
def InsOut (key : Nat → Int) (w wr : World) (B : Nat) (A S0 R : List Nat) (k : Nat) : Prop :=
  ∃ S T, S.length = k ∧ Srt key S ∧ Same key S0 (S ++ T) ∧ Arr wr B (A ++ (S ++ (T ++ R))) ∧ Mods [B] w wr
theorem InsIn.done {key : Nat → Int} {w wr : World} {B a j k : Nat} {A S0 R : List Nat} (h : InsIn key w wr B a j A S0 R k) (hx : ∀ S1 x S2 T, a + S1.length = j → Srt key (S1 ++ S2) → Arr wr B (A ++ (S1 ++ (x :: (S2 ++ (T ++ R))))) → Same key S0 ((S1 ++ S2) ++ (x :: T)) → ∀ y ∈ S1, key y ≤ key x) :
    InsOut key w wr B A S0 R (k + 1) := by
  obtain ⟨S1, x, S2, T, h1, h2, h3, h4, h5, h6, h7⟩ := h
  obtain ⟨e1, e2⟩ := ins_exit h3 h4 (hx S1 x S2 T h1 h3 h6 h5)
  refine ⟨S1 ++ x :: S2, T, by simp; omega, e1, ?_, by simpa [List.append_assoc] using h6, h7⟩
  refine h5.trans ?_
  have := e2.append (Same.refl key T)
  simpa [List.append_assoc] using this
theorem InsOut.drewN {key : Nat → Int} {w wr : World} {B k : Nat} {A S0 R : List Nat} (h : InsOut key w wr B A S0 R k) (n : Nat) : InsOut key w (wr.drewN n) B A S0 R k := by
  obtain ⟨S, T, h1, h2, h3, h4, h5⟩ := h
  exact ⟨S, T, h1, h2, h3, h4.drewN n, h5.drewN n⟩
theorem InsIn.drewN {key : Nat → Int} {w wr : World} {B a j k : Nat} {A S0 R : List Nat} (h : InsIn key w wr B a j A S0 R k) (n : Nat) : InsIn key w (wr.drewN n) B a j A S0 R k := by
  obtain ⟨S1, x, S2, T, h1, h2, h3, h4, h5, h6, h7⟩ := h
  exact ⟨S1, x, S2, T, h1, h2, h3, h4, h5, h6.drewN n, h7.drewN n⟩
theorem InsOut.next {key : Nat → Int} {w wr : World} {B a k : Nat} {A S0 R : List Nat} (h : InsOut key w wr B A S0 R k) (hk : k < S0.length) : InsIn key w wr B a (a + k) A S0 R k := by
  obtain ⟨S, T, h1, h2, h3, h4, h5⟩ := h
  have hl := h3.length
  rw [List.length_append] at hl
  obtain ⟨x, T, rfl⟩ : ∃ x T', T = x :: T' := by
    cases T with
    | nil => simp at hl; omega
    | cons x T => exact ⟨x, T, rfl⟩
  exact ⟨S, x, [], T, by omega, by simpa using h1, by simpa using h2, by simp, by simpa using h3, by simpa using h4, h5⟩
/-- What the test of the inner round reads. -/
theorem InsIn.look {key : Nat → Int} {w wr : World} {B p k : Nat} {A S0 R : List Nat} (h : InsIn key w wr B A.length (A.length + (p + 1)) A S0 R k) (hK : Keyed w B key S0) :
    ∃ x y, wr.cell? ⟨B, A.length + p, none⟩ = some (ptr y) ∧ wr.cell? ⟨B, A.length + (p + 1), none⟩ = some (ptr x) ∧ wr.cell? ⟨y, 2, none⟩ = some (.int .i64 (key y)) ∧ wr.cell? ⟨x, 2, none⟩ = some (.int .i64 (key x)) ∧
      (∀ i, wr.frozen? ⟨B, i, none⟩ = false) ∧ (wr.setCell ⟨B, A.length + (p + 1), none⟩ (.pointer (some ⟨y, 0, none⟩))).cell? ⟨B, A.length + p, none⟩ = some (ptr y) ∧
      (key x < key y → InsIn key w (((wr.setCell ⟨B, A.length + (p + 1), none⟩ (ptr y)).setCell ⟨B, A.length + p, none⟩ (ptr x))) B A.length (A.length + p) A S0 R k) ∧
      (¬ key x < key y → InsOut key w wr B A S0 R (k + 1)) := by
  obtain ⟨S1, x, S2, T, h1, h2, h3, h4, h5, h6, h7⟩ := id h
  obtain ⟨S1, y, rfl⟩ : ∃ S y, S1 = S ++ [y] := by
    rcases List.eq_nil_or_concat S1 with e | ⟨S, y, e⟩
    · subst e; simp at h1
    · exact ⟨S, y, by simpa using e⟩
  have hp : p = S1.length := by simp at h1; omega
  subst hp
  have eD : A ++ (S1 ++ [y] ++ x :: (S2 ++ (T ++ R))) = (A ++ S1) ++ y :: (x :: (S2 ++ (T ++ R))) := by simp [List.append_assoc]
  rw [eD] at h6
  have g1 : ((A ++ S1) ++ y :: (x :: (S2 ++ (T ++ R)))).getD (A.length + S1.length) 0 = y := by simpa using getD_mid (A ++ S1) (y :: (x :: (S2 ++ (T ++ R)))) 0
  have g2 : ((A ++ S1) ++ y :: (x :: (S2 ++ (T ++ R)))).getD (A.length + (S1.length + 1)) 0 = x := by
    have h := getD_mid (A ++ S1) (y :: (x :: (S2 ++ (T ++ R)))) 1
    rw [List.length_append, Nat.add_assoc] at h
    exact h
  have l1 : A.length + S1.length < ((A ++ S1) ++ y :: (x :: (S2 ++ (T ++ R)))).length := by simp
  have l2 : A.length + (S1.length + 1) < ((A ++ S1) ++ y :: (x :: (S2 ++ (T ++ R)))).length := by simp only [List.length_append, List.length_cons]; omega
  have c1 := h6.get l1
  have c2 := h6.get l2
  rw [g1] at c1
  rw [g2] at c2
  have hm1 : y ∈ S0 := h5.mem.2 (by simp)
  have hm2 : x ∈ S0 := h5.mem.2 (by simp)
  have hK' := hK.mods h7
  refine ⟨x, y, c1, c2, (hK' y hm1).2, (hK' x hm2).2, h6.free, ?_, fun hlt => ?_, fun hnl => ?_⟩
  · rw [World.cell?_setCell_other _ _ _ _ (by simp <;> omega)]; exact c1
  · have hs := h6.swp l2 l1
    rw [g1, g2] at hs
    have e2 := swp_next (A ++ S1) (S2 ++ (T ++ R)) x y
    rw [List.length_append, Nat.add_assoc] at e2
    rw [e2] at hs
    refine ⟨S1, x, y :: S2, T, rfl, by simp at h2 ⊢; omega, by simpa [List.append_assoc] using h3, fun z hz => ?_, by simpa [List.append_assoc] using h5, by simpa [List.append_assoc] using hs, swap_mods h7⟩
    rcases List.mem_cons.1 hz with e | e
    · rw [e]; exact hlt
    · exact h4 z e
  · obtain ⟨e1, e2⟩ := ins_exit h3 h4 (ins_last (srt_append.1 h3).1 (by omega))
    refine ⟨S1 ++ [y] ++ x :: S2, T, by simp at h2 ⊢; omega, e1, ?_, by simpa [List.append_assoc] using h6, h7⟩
    refine h5.trans ?_
    have := e2.append (Same.refl key T)
    simpa [List.append_assoc] using this
theorem insertion_none (w : World) (A : Option Addr) (a b n c : Nat) (fv : Value) (h : b ≤ a + 1) (hs : a ≤ 1000000000) :
    Calls Tryd.prog 66 #[.slice A n c, .int .i64 a, .int .i64 b, fv] w fun e w' => e = .returned (.tuple #[]) ∧ w = w' := by
  have w1 : IntKind.i64.wrap ((a : Int) + 1) = (a : Int) + 1 := by rw [IntKind.wrap_i64]; omega
  go_enter Tryd.func66, Tryd.ntmps66
  go_wp2
  go_loopw [8] (fun v wr => v = .int .i64 ((a : Int) + 1) ∧ wr = w) (fun v _ => 0)
  case atStart => exact ⟨rfl, rfl⟩
  case round =>
    obtain ⟨rfl, rfl⟩ := hrel
    go_wp2
    go_end0
    exact ⟨rfl, rfl⟩
/-- The function value of the closure of 'fire'. -/
abbrev byF : Value := .func (.func 56) #[] #[]
set_option maxHeartbeats 1000000 in
theorem insertion_any (w : World) (B a b n c : Nat) (A S0 R : List Nat) (key : Nat → Int) (h : Arr w B (A ++ (S0 ++ R))) (ha : a = A.length) (hb : b = a + S0.length) (h0 : 0 < S0.length) (hk : Keyed w B key S0) (hn : n = A.length + S0.length + R.length) (hs : n ≤ 1000000000) (hc : n ≤ c) :
    Calls Tryd.prog 66 #[.slice (some ⟨B, 0, none⟩) n c, .int .i64 a, .int .i64 b, byF] w fun e w' => e = .returned (.tuple #[]) ∧ Hid (∃ Z, Arr w' B (A ++ (Z ++ R)) ∧ Srt key Z ∧ Same key S0 Z ∧ Mods [B] w w') := by
  subst ha
  have HK := Lib.hid hk
  have HO := Lib.hid (show InsOut key w w B A S0 R 1 by
    obtain ⟨x, T, rfl⟩ : ∃ x T', S0 = x :: T' := by
      cases S0 with
      | nil => simp at h0
      | cons x T => exact ⟨x, T, rfl⟩
    exact ⟨[x], T, rfl, srt_one x, Same.refl _ _, h, Mods.refl _ _⟩)
  have w1 : IntKind.i64.wrap ((A.length : Int) + 1) = (A.length : Int) + 1 := by rw [IntKind.wrap_i64]; omega
  have hbn : b ≤ n := by omega
  have HB := Lib.hid hb
  clear h hk hn hb
  go_enter Tryd.func66, Tryd.ntmps66
  go_wp2
  go_loopw [8] (fun v wr => ∃ k : Nat, 1 ≤ k ∧ v = .int .i64 ((A.length : Int) + (k : Int)) ∧ A.length + k ≤ b ∧ Hid (InsOut key w wr B A S0 R k)) (fun v _ => b - (intOf v).toNat)
  case atStart => exact ⟨1, by omega, by go_num, by rw [HB.out]; omega, HO⟩
  case round =>
    obtain ⟨k, hk1, rfl, hkb, hr⟩ := hrel
    by_cases hlt : A.length + k < b
    · have HI := Lib.hid (hr.out.next (a := A.length) (by have := HB.out; omega))
      have HN := Lib.hid (show k < S0.length by have := HB.out; omega)
      clear hr
      have q1 : (A.length : Int) + (k : Int) < (b : Int) := by omega
      have q2 : decide ((A.length : Int) + (k : Int) < (b : Int)) = true := by simpa using q1
      have q3 : IntKind.i64.wrap ((A.length : Int) + (k : Int) + 1) = (A.length : Int) + ((k + 1 : Nat) : Int) := by rw [IntKind.wrap_i64]; omega
      go_wp2
      go_loopw [9] (fun u wx => ∃ j : Nat, u = .int .i64 ((A.length : Int) + (j : Int)) ∧ j ≤ k ∧ Hid (InsIn key w wx B A.length (A.length + j) A S0 R k)) (fun u _ => (intOf u).toNat)
      case atStart => exact ⟨k, rfl, Nat.le_refl _, HI⟩
      case round =>
        obtain ⟨j, rfl, hjk, hr⟩ := hrel
        cases j with
        | zero =>
          have HE := Lib.hid (hr.out.done (fun S1 x S2 T h1 h2 h3 h4 y hy => by
            have : S1 = [] := List.eq_nil_of_length_eq_zero (by omega)
            subst this; simp at hy))
          have hd : decide ((A.length : Int) < (A.length : Int)) = false := by simp
          clear hr
          go_wp2
          go_quiet (fail)
          go_wp2
          go_roundw
          case rel => exact ⟨k + 1, by omega, rfl, by omega, Lib.hid (HE.out.drewN _)⟩
          case measure => simp [intOf]; omega
        | succ p =>
          have HL := Lib.hid (hr.out.look (p := p) HK.out)
          clear hr
          obtain ⟨x, y, c1, c2, c3, c4, f1, c5, h6, h7⟩ := HL.out
          clear HL
          have H6 := Lib.hid h6
          have H7 := Lib.hid h7
          clear h6 h7
          have f2 := f1 (A.length + (p + 1))
          have f3 := f1 (A.length + p)
          have hd : decide ((A.length : Int) < (A.length : Int) + ((p : Int) + 1)) = true := by simp; omega
          have w2 : IntKind.i64.wrap ((A.length : Int) + ((p : Int) + 1) - 1) = (A.length : Int) + (p : Int) := by rw [IntKind.wrap_i64]; omega
          by_cases hxy : key x < key y
          · go_wp2
            go_quiet (first | (go_at_call 56; exact Calls.quiet_of (by_any x y _ _ _ c4 c3)))
            have hlt2 : cmpI (key x) (key y) < 0 := (cmpI_lt _ _).2 hxy
            have HY := Lib.hid (H6.out hxy)
            clear c3 c4
            go_wp2
            go_region
            all_goals go_wp2
            all_goals go_roundw
            case rel => exact ⟨p, rfl, by omega, Lib.hid (by have := HY.out.drewN (nq + 1); exact this)⟩
            case measure => simp [intOf]; omega
          · have hlt2 : ¬ cmpI (key x) (key y) < 0 := fun h => hxy ((cmpI_lt _ _).1 h)
            have HY := Lib.hid (H7.out hxy)
            go_wp2
            go_quiet (first | (go_at_call 56; exact Calls.quiet_of (by_any x y _ _ _ c4 c3)))
            go_wp2
            go_roundw
            case rel => exact ⟨k + 1, by omega, rfl, by omega, Lib.hid (HY.out.drewN _)⟩
            case measure => simp [intOf]; omega
    · have e : k = S0.length := by have := HB.out; omega
      have HF := Lib.hid hr.out
      rw [e] at HF
      clear hr
      go_wp2
      go_end0
      refine ⟨rfl, Lib.hid ?_⟩
      obtain ⟨S, T, h1, h2, h3, h4, h5⟩ := HF.out
      have hl := h3.length
      rw [List.length_append] at hl
      have : T = [] := List.eq_nil_of_length_eq_zero (by omega)
      subst this
      exact ⟨S, by simpa using h4, h2, by simpa using h3, h5⟩
end Go.Proofs.YtgfmjkbelciaaaaDoor

/- Plain mathematics of the library's merge in place: where a row is cut, and what the parts are. No text of the program. -/
namespace Go.Proofs.YtgfmjkbelciaaaaDoor
set_option linter.unusedVariables false
set_option linter.unusedSimpArgs false
set_option linter.unnecessarySimpa false

/-- Ahead of p all are P, from q on none is. -/
structure Cut (P : Nat → Prop) (lo hi p q : Nat) : Prop where
  a : lo ≤ p
  b : p ≤ q
  c : q ≤ hi
  yes : ∀ t, lo ≤ t → t < p → P t
  no : ∀ t, q ≤ t → t < hi → ¬ P t
theorem Cut.all (P : Nat → Prop) {lo hi : Nat} (h : lo ≤ hi) : Cut P lo hi lo hi := ⟨Nat.le_refl _, h, Nat.le_refl _, fun t h1 h2 => by omega, fun t h1 h2 => by omega⟩
theorem Cut.up {P : Nat → Prop} {lo hi p q h : Nat} (c : Cut P lo hi p q) (hm : ∀ s t, lo ≤ s → s ≤ t → t < hi → P t → P s) (h1 : p ≤ h) (h2 : h < q) (hP : P h) : Cut P lo hi (h + 1) q :=
  ⟨by have := c.a; omega, by omega, c.c, fun t h3 h4 => hm t h h3 (by omega) (by have := c.c; omega) hP, c.no⟩
theorem Cut.down {P : Nat → Prop} {lo hi p q h : Nat} (c : Cut P lo hi p q) (hm : ∀ s t, lo ≤ s → s ≤ t → t < hi → P t → P s) (h1 : p ≤ h) (h2 : h < q) (hP : ¬ P h) : Cut P lo hi p h :=
  ⟨c.a, h1, by have := c.c; omega, c.yes, fun t h3 h4 ht => hP (hm h t (by have := c.a; omega) h3 h4 ht)⟩
section
variable {key : Nat → Int} {A X Y R : List Nat}
theorem part_x (A X Y R : List Nat) (t : Nat) (h1 : A.length ≤ t) (h2 : t < A.length + X.length) : (A ++ (X ++ (Y ++ R))).getD t 0 = X.getD (t - A.length) 0 := by
  obtain ⟨i, rfl⟩ := Nat.exists_eq_add_of_le h1
  rw [getD_mid, getD_front _ _ _ (by omega), Nat.add_sub_cancel_left]
theorem part_y (A X Y R : List Nat) (t : Nat) (h1 : A.length + X.length ≤ t) (h2 : t < A.length + X.length + Y.length) : (A ++ (X ++ (Y ++ R))).getD t 0 = Y.getD (t - (A.length + X.length)) 0 := by
  obtain ⟨i, rfl⟩ := Nat.exists_eq_add_of_le h1
  rw [Nat.add_assoc, getD_mid, getD_mid, getD_front _ _ _ (by omega), ← Nat.add_assoc, Nat.add_sub_cancel_left]
theorem up_x (hX : Srt key X) (s t : Nat) (h1 : A.length ≤ s) (h2 : s ≤ t) (h3 : t < A.length + X.length) : key ((A ++ (X ++ (Y ++ R))).getD s 0) ≤ key ((A ++ (X ++ (Y ++ R))).getD t 0) := by
  rw [part_x A X Y R s h1 (by omega), part_x A X Y R t (by omega) h3]
  exact srt_at hX (by omega) (by omega)
theorem up_y (hY : Srt key Y) (s t : Nat) (h1 : A.length + X.length ≤ s) (h2 : s ≤ t) (h3 : t < A.length + X.length + Y.length) : key ((A ++ (X ++ (Y ++ R))).getD s 0) ≤ key ((A ++ (X ++ (Y ++ R))).getD t 0) := by
  rw [part_y A X Y R s h1 (by omega), part_y A X Y R t (by omega) h3]
  exact srt_at hY (by omega) (by omega)
/-- Two rows, each cut in two. -/
theorem merge_facts {a m b mid s e : Nat} (hX : Srt key X) (hY : Srt key Y) (ha : a = A.length) (hm : m = A.length + X.length) (hb : b = A.length + X.length + Y.length) (hmid : mid = (a + b) / 2)
    (c : Cut (fun t => key ((A ++ (X ++ (Y ++ R))).getD t 0) ≤ key ((A ++ (X ++ (Y ++ R))).getD (mid + m - 1 - t) 0)) (if mid < m then mid + m - b else a) (if mid < m then mid else m) s s) (he : e = mid + m - s) :
    a ≤ s ∧ s ≤ m ∧ s ≤ mid ∧ m ≤ e ∧ e ≤ b ∧ (∀ y ∈ Y.take (e - m), ∀ x ∈ X.drop (s - a), key y < key x) ∧ (∀ x ∈ X.take (s - a), ∀ y ∈ Y.drop (e - m), key x ≤ key y) := by
  subst ha hm hb
  have c1 := c.a
  have c2 := c.c
  have hr : A.length ≤ s ∧ s ≤ A.length + X.length ∧ s ≤ mid ∧ A.length + X.length ≤ e ∧ e ≤ A.length + X.length + Y.length := by
    split at c1 <;> split at c2 <;> omega
  obtain ⟨r1, r2, r3, r4, r5⟩ := hr
  refine ⟨r1, r2, r3, r4, r5, fun y hy x hx => ?_, fun x hx y hy => ?_⟩
  · obtain ⟨i, hi, rfl⟩ := mem_getD hy
    obtain ⟨j, hj, rfl⟩ := mem_getD hx
    rw [List.length_take] at hi
    rw [List.length_drop] at hj
    have h1 := c.no s (Nat.le_refl _) (by split <;> omega)
    have h2 : key ((A ++ (X ++ (Y ++ R))).getD (mid + (A.length + X.length) - 1 - s) 0) < key ((A ++ (X ++ (Y ++ R))).getD s 0) := by simpa using h1
    have h3 := up_x (A := A) (Y := Y) (R := R) hX s (s + j) (by omega) (by omega) (by omega)
    have h4 := up_y (A := A) (X := X) (R := R) hY (A.length + X.length + i) (mid + (A.length + X.length) - 1 - s) (by omega) (by omega) (by omega)
    have e1 : (Y.take (e - (A.length + X.length))).getD i 0 = (A ++ (X ++ (Y ++ R))).getD (A.length + X.length + i) 0 := by
      rw [part_y _ _ _ _ _ (by omega) (by omega), Nat.add_sub_cancel_left, List.getD_eq_getElem?_getD, List.getD_eq_getElem?_getD, List.getElem?_take, if_pos (by omega)]
    have e2 : (X.drop (s - A.length)).getD j 0 = (A ++ (X ++ (Y ++ R))).getD (s + j) 0 := by
      rw [part_x _ _ _ _ _ (by omega) (by omega), List.getD_eq_getElem?_getD, List.getD_eq_getElem?_getD, List.getElem?_drop, show s - A.length + j = s + j - A.length by omega]
    rw [e1, e2]; omega
  · obtain ⟨i, hi, rfl⟩ := mem_getD hx
    obtain ⟨j, hj, rfl⟩ := mem_getD hy
    rw [List.length_take] at hi
    rw [List.length_drop] at hj
    have h1 := c.yes (s - 1) (by split at c1 <;> rename_i hh <;> (first | rw [if_pos hh] | rw [if_neg hh]) <;> omega) (by omega)
    have h2 : key ((A ++ (X ++ (Y ++ R))).getD (s - 1) 0) ≤ key ((A ++ (X ++ (Y ++ R))).getD (mid + (A.length + X.length) - 1 - (s - 1)) 0) := h1
    have h3 := up_x (A := A) (Y := Y) (R := R) hX (A.length + i) (s - 1) (by omega) (by omega) (by omega)
    have h4 := up_y (A := A) (X := X) (R := R) hY (mid + (A.length + X.length) - 1 - (s - 1)) (e + j) (by omega) (by omega) (by omega)
    have e1 : (X.take (s - A.length)).getD i 0 = (A ++ (X ++ (Y ++ R))).getD (A.length + i) 0 := by
      rw [part_x _ _ _ _ _ (by omega) (by omega), Nat.add_sub_cancel_left, List.getD_eq_getElem?_getD, List.getD_eq_getElem?_getD, List.getElem?_take, if_pos (by omega)]
    have e2 : (Y.drop (e - (A.length + X.length))).getD j 0 = (A ++ (X ++ (Y ++ R))).getD (e + j) 0 := by
      rw [part_y _ _ _ _ _ (by omega) (by omega), List.getD_eq_getElem?_getD, List.getD_eq_getElem?_getD, List.getElem?_drop, show e - (A.length + X.length) + j = e + j - (A.length + X.length) by omega]
    rw [e1, e2]; omega
theorem merge_mono {a m b mid : Nat} (hX : Srt key X) (hY : Srt key Y) (ha : a = A.length) (hm : m = A.length + X.length) (hb : b = A.length + X.length + Y.length) (hmid : mid = (a + b) / 2)
    (s t : Nat) (h1 : (if mid < m then mid + m - b else a) ≤ s) (h2 : s ≤ t) (h3 : t < (if mid < m then mid else m))
    (h : key ((A ++ (X ++ (Y ++ R))).getD t 0) ≤ key ((A ++ (X ++ (Y ++ R))).getD (mid + m - 1 - t) 0)) : key ((A ++ (X ++ (Y ++ R))).getD s 0) ≤ key ((A ++ (X ++ (Y ++ R))).getD (mid + m - 1 - s) 0) := by
  subst ha hm hb
  have r : A.length ≤ s ∧ t < A.length + X.length ∧ A.length + X.length ≤ mid + (A.length + X.length) - 1 - t ∧ mid + (A.length + X.length) - 1 - s < A.length + X.length + Y.length := by
    split at h1 <;> split at h3 <;> omega
  have h4 := up_x (A := A) (Y := Y) (R := R) hX s t (by omega) h2 (by omega)
  have h5 := up_y (A := A) (X := X) (R := R) hY (mid + (A.length + X.length) - 1 - t) (mid + (A.length + X.length) - 1 - s) (by omega) (by omega) (by omega)
  omega
/-- One ahead of a sorted row. -/
theorem one_ahead {x p : Nat} (hY : Srt key Y) (c : Cut (fun t => key ((A ++ ([x] ++ (Y ++ R))).getD t 0) < key x) (A.length + 1) (A.length + 1 + Y.length) (A.length + 1 + p) (A.length + 1 + p)) :
    Srt key (Y.take p ++ x :: Y.drop p) ∧ Same key ([x] ++ Y) (Y.take p ++ x :: Y.drop p) := by
  have hp := c.c
  have h1 : ∀ y ∈ Y.take p, key y < key x := fun y hy => by
    obtain ⟨i, hi, rfl⟩ := mem_getD hy
    rw [List.length_take] at hi
    have := c.yes (A.length + 1 + i) (by omega) (by omega)
    have e := part_y A [x] Y R (A.length + 1 + i) (by simp) (by simp; omega)
    rw [e] at this
    rw [List.getD_eq_getElem?_getD, List.getElem?_take, if_pos (by omega), ← List.getD_eq_getElem?_getD]
    simpa using this
  have h2 : ∀ y ∈ Y.drop p, key x ≤ key y := fun y hy => by
    obtain ⟨i, hi, rfl⟩ := mem_getD hy
    rw [List.length_drop] at hi
    have := c.no (A.length + 1 + (p + i)) (by omega) (by omega)
    have e := part_y A [x] Y R (A.length + 1 + (p + i)) (by simp) (by simp; omega)
    rw [e] at this
    rw [List.getD_eq_getElem?_getD, List.getElem?_drop, ← List.getD_eq_getElem?_getD]
    simpa using this
  have h3 := srt_append.1 (show Srt key (Y.take p ++ Y.drop p) by rw [List.take_append_drop]; exact hY)
  refine ⟨srt_append.2 ⟨h3.1, srt_cons.2 ⟨h2, h3.2.1⟩, fun y hy z hz => ?_⟩, ?_⟩
  · rcases List.mem_cons.1 hz with e | e
    · rw [e]; exact Int.le_of_lt (h1 y hy)
    · exact h3.2.2 y hy z e
  · have s : Same key ([x] ++ Y.take p) (Y.take p ++ [x]) := Same.swap fun z hz y hy e => by
      have := h1 y hy
      simp only [List.mem_cons, List.mem_nil_iff, or_false] at hz
      rw [hz] at e; omega
    have := s.append (Same.refl key (Y.drop p))
    simpa [List.append_assoc] using this
/-- One behind a sorted row. -/
theorem one_behind {y p : Nat} (hX : Srt key X) (c : Cut (fun t => key ((A ++ (X ++ ([y] ++ R))).getD t 0) ≤ key y) A.length (A.length + X.length) (A.length + p) (A.length + p)) :
    Srt key (X.take p ++ y :: X.drop p) ∧ Same key (X ++ [y]) (X.take p ++ y :: X.drop p) := by
  have hp := c.c
  have h1 : ∀ x ∈ X.take p, key x ≤ key y := fun x hx => by
    obtain ⟨i, hi, rfl⟩ := mem_getD hx
    rw [List.length_take] at hi
    have := c.yes (A.length + i) (by omega) (by omega)
    have e := part_x A X [y] R (A.length + i) (by omega) (by omega)
    rw [e] at this
    rw [List.getD_eq_getElem?_getD, List.getElem?_take, if_pos (by omega), ← List.getD_eq_getElem?_getD]
    simpa using this
  have h2 : ∀ x ∈ X.drop p, key y < key x := fun x hx => by
    obtain ⟨i, hi, rfl⟩ := mem_getD hx
    rw [List.length_drop] at hi
    have := c.no (A.length + (p + i)) (by omega) (by omega)
    have e := part_x A X [y] R (A.length + (p + i)) (by omega) (by omega)
    rw [e] at this
    rw [List.getD_eq_getElem?_getD, List.getElem?_drop, ← List.getD_eq_getElem?_getD]
    simpa using this
  have := ins_exit (S1 := X.take p) (S2 := X.drop p) (x := y) (by rw [List.take_append_drop]; exact hX) h2 h1
  rw [List.take_append_drop] at this
  exact this
end
end Go.Proofs.YtgfmjkbelciaaaaDoor

/- What the library's merge in place makes of two rows, one of which has one element. -/
namespace Go.Proofs.YtgfmjkbelciaaaaDoor
open Go.RowKit
set_option maxRecDepth 100000
set_option linter.unusedVariables false
set_option linter.unusedSimpArgs false
set_option linter.unnecessarySimpa false

/-- What is made of the rows X and Y. -/
def Merged (key : Nat → Int) (w w' : World) (B : Nat) (A X Y R : List Nat) : Prop :=
  ∃ Z, Arr w' B (A ++ (Z ++ R)) ∧ Srt key Z ∧ Same key (X ++ Y) Z ∧ Mods [B] w w'
theorem half_int (i j : Nat) (h : i + j ≤ 1000000000000) : IntKind.i64.wrap ((i : Int) + j) = (i : Int) + j ∧ IntKind.u64.wrap ((i : Int) + j) = (i : Int) + j ∧ IntKind.u64.wrap (((i : Int) + j) / 2) = (((i + j) / 2 : Nat) : Int) ∧ IntKind.i64.wrap (((i : Int) + j) / 2) = (((i + j) / 2 : Nat) : Int) ∧ IntKind.i64.wrap (((i + j) / 2 : Nat) : Int) = (((i + j) / 2 : Nat) : Int) ∧ IntKind.i64.wrap ((((i + j) / 2 : Nat) : Int) + 1) = (((i + j) / 2 + 1 : Nat) : Int) := by
  rw [IntKind.wrap_i64, IntKind.wrap_u64, IntKind.wrap_u64, IntKind.wrap_i64, IntKind.wrap_i64, IntKind.wrap_i64]
  omega
/-- x, so far up in Y. -/
def upRow (A : List Nat) (x : Nat) (Y R : List Nat) (q : Nat) : List Nat := A ++ (Y.take q ++ (x :: (Y.drop q ++ R)))
theorem up_step {w wr : World} {B x q : Nat} {A Y R : List Nat} (h : Arr wr B (upRow A x Y R q)) (hm : Mods [B] w wr) (hq : q < Y.length) :
    ∃ y, wr.cell? ⟨B, A.length + q, none⟩ = some (ptr x) ∧ wr.cell? ⟨B, A.length + q + 1, none⟩ = some (ptr y) ∧ (∀ i, wr.frozen? ⟨B, i, none⟩ = false) ∧
      (wr.setCell ⟨B, A.length + q, none⟩ (.pointer (some ⟨y, 0, none⟩))).cell? ⟨B, A.length + q + 1, none⟩ = some (ptr y) ∧
      Arr ((wr.setCell ⟨B, A.length + q, none⟩ (ptr y)).setCell ⟨B, A.length + q + 1, none⟩ (ptr x)) B (upRow A x Y R (q + 1)) ∧ Mods [B] w ((wr.setCell ⟨B, A.length + q, none⟩ (ptr y)).setCell ⟨B, A.length + q + 1, none⟩ (ptr x)) := by
  have e : upRow A x Y R q = (A ++ Y.take q) ++ x :: ([] ++ Y[q] :: (Y.drop (q + 1) ++ R)) := by
    unfold upRow
    rw [List.drop_eq_getElem_cons hq]; simp only [List.append_assoc, List.cons_append, List.nil_append]
  have e2 : upRow A x Y R (q + 1) = (A ++ Y.take q) ++ Y[q] :: ([] ++ x :: (Y.drop (q + 1) ++ R)) := by
    unfold upRow
    rw [List.take_succ_eq_append_getElem hq]; simp only [List.append_assoc, List.cons_append, List.nil_append]
  rw [e] at h
  have hl : (A ++ Y.take q).length = A.length + q := by simp; omega
  have sc := swp_cut (A ++ Y.take q) [] (Y.drop (q + 1) ++ R) x Y[q]
  have g1 : ((A ++ Y.take q) ++ x :: ([] ++ Y[q] :: (Y.drop (q + 1) ++ R))).getD (A.length + q) 0 = x := by
    have := getD_mid (A ++ Y.take q) (x :: ([] ++ Y[q] :: (Y.drop (q + 1) ++ R))) 0
    rw [hl] at this; exact this
  have g2 : ((A ++ Y.take q) ++ x :: ([] ++ Y[q] :: (Y.drop (q + 1) ++ R))).getD (A.length + q + 1) 0 = Y[q] := by
    have := getD_mid (A ++ Y.take q) (x :: ([] ++ Y[q] :: (Y.drop (q + 1) ++ R))) 1
    rw [hl] at this; exact this
  have l1 : A.length + q < ((A ++ Y.take q) ++ x :: ([] ++ Y[q] :: (Y.drop (q + 1) ++ R))).length := by rw [List.length_append, hl, List.length_cons]; omega
  have l2 : A.length + q + 1 < ((A ++ Y.take q) ++ x :: ([] ++ Y[q] :: (Y.drop (q + 1) ++ R))).length := by rw [List.length_append, hl, List.length_cons, List.nil_append, List.length_cons]; omega
  have c1 := h.get l1
  have c2 := h.get l2
  rw [g1] at c1
  rw [g2] at c2
  have hs := h.swp l1 l2
  rw [g1, g2] at hs
  rw [hl, List.length_nil, Nat.add_zero] at sc
  rw [sc, ← e2] at hs
  exact ⟨Y[q], c1, c2, h.free, by rw [World.cell?_setCell_other _ _ _ _ (by simp <;> omega)]; exact c2, hs, swap_mods hm⟩
set_option maxHeartbeats 1000000 in
theorem merge_one (w : World) (B a m b n c x : Nat) (A Y R : List Nat) (key : Nat → Int) (h : Arr w B (A ++ ([x] ++ (Y ++ R)))) (ha : a = A.length) (hm : m = A.length + 1) (hb : b = A.length + 1 + Y.length) (hY : Srt key Y) (hk : Keyed w B key ([x] ++ Y)) (hn : n = A.length + 1 + Y.length + R.length) (hs : n ≤ 1000000000) (hc : n ≤ c) :
    Calls Tryd.prog 67 #[.slice (some ⟨B, 0, none⟩) n c, .int .i64 a, .int .i64 m, .int .i64 b, byF] w fun e w' => e = .returned (.tuple #[]) ∧ Hid (Merged key w w' B A [x] Y R) := by
  have HA := Lib.hid h
  have HK := Lib.hid hk
  have HY := Lib.hid hY
  have HN := Lib.hid hn
  have HM := Lib.hid (And.intro ha (And.intro hm hb))
  have w1 : IntKind.i64.wrap ((m : Int) - a) = 1 := by rw [IntKind.wrap_i64]; omega
  have hmb : m ≤ b := by omega
  have hbn : b ≤ n := by omega
  have HAM := Lib.hid (show m = a + 1 by omega)
  have han : (a : Int) < n := by omega
  have ha0 : a < n := by omega
  have cA : w.cell? ⟨B, a, none⟩ = some (ptr x) := by
    have := h.get (i := a) (by simp; omega)
    rw [part_x A [x] Y R a (by omega) (by simp; omega)] at this
    simpa [ha] using this
  have cX := (hk x (by simp)).2
  have MON := Lib.hid (show ∀ s t, m ≤ s → s ≤ t → t < b → key ((A ++ ([x] ++ (Y ++ R))).getD t 0) < key x → key ((A ++ ([x] ++ (Y ++ R))).getD s 0) < key x from fun s t h1 h2 h3 h4 => by
    have := up_y (A := A) (X := [x]) (R := R) hY s t (by simp; omega) h2 (by simp; omega)
    omega)
  have KEY := Lib.hid (show ∀ t, m ≤ t → t < b → ∀ wr, Mods [B] w wr → Arr wr B (A ++ ([x] ++ (Y ++ R))) → ∃ y, (A ++ ([x] ++ (Y ++ R))).getD t 0 = y ∧ wr.cell? ⟨B, t, none⟩ = some (ptr y) ∧ wr.cell? ⟨y, 2, none⟩ = some (.int .i64 (key y)) ∧ wr.cell? ⟨B, a, none⟩ = some (ptr x) ∧ wr.cell? ⟨x, 2, none⟩ = some (.int .i64 (key x)) from fun t h1 h2 wr hmo har => by
    have hK := hk.mods hmo
    refine ⟨_, rfl, har.get (by simp; omega), (hK _ ?_).2, ?_, (hK x (by simp)).2⟩
    · rw [part_y A [x] Y R t (by simp; omega) (by simp; omega)]
      exact List.mem_append_right _ (getD_mem _ _ (by simp; omega))
    · have := har.get (i := a) (by simp; omega)
      rw [part_x A [x] Y R a (by omega) (by simp; omega)] at this
      simpa [ha] using this)
  clear h hk hn ha hm hb hY
  go_enter Tryd.func67, Tryd.ntmps67
  go_wp2
  go_loopw [10, 11, 12] (fun u v o wr => ∃ i j : Nat, u = .int .i64 i ∧ v = .int .i64 j ∧ i ≤ j ∧ j ≤ b ∧ m ≤ i ∧ Hid (Cut (fun t => key ((A ++ ([x] ++ (Y ++ R))).getD t 0) < key x) m b i j ∧ Arr wr B (A ++ ([x] ++ (Y ++ R))) ∧ Mods [B] w wr)) (fun u v _ _ => (intOf v).toNat - (intOf u).toNat)
  case atStart => exact ⟨m, b, rfl, rfl, hmb, Nat.le_refl _, Nat.le_refl _, Lib.hid ⟨Cut.all _ hmb, HA.out, Mods.refl _ _⟩⟩
  case round =>
    obtain ⟨i, j, rfl, rfl, hij, hjb, hmi, hr⟩ := hrel
    by_cases hlt : i < j
    · obtain ⟨k1, k2, k3, k4, k5, k6⟩ := half_int i j (by omega)
      have g1 : i ≤ (i + j) / 2 := by omega
      have g2 : (i + j) / 2 < j := by omega
      obtain ⟨y, hy, c1, c2, c3, c4⟩ := KEY.out ((i + j) / 2) (by omega) (by omega) wr hr.out.2.2 hr.out.2.1
      have HYY := Lib.hid hy
      clear hy
      have p1 : (((i + j) / 2 : Nat) : Int) < (n : Int) := by omega
      by_cases hxy : key y < key x
      · have hlt2 : cmpI (key y) (key x) < 0 := (cmpI_lt _ _).2 hxy
        go_wp2
        go_quiet (first | (go_at_call 56; exact Calls.quiet_of (by_any y x _ _ _ c2 c4)))
        go_wp2
        go_roundw
        case rel => exact ⟨(i + j) / 2 + 1, j, rfl, rfl, by omega, hjb, by omega, Lib.hid ⟨hr.out.1.up MON.out g1 g2 (by simp only [HYY.out]; exact hxy), hr.out.2.1.drewN _, hr.out.2.2.drewN _⟩⟩
        case measure => simp [intOf]; omega
      · have hlt2 : ¬ cmpI (key y) (key x) < 0 := fun h => hxy ((cmpI_lt _ _).1 h)
        go_wp2
        go_quiet (first | (go_at_call 56; exact Calls.quiet_of (by_any y x _ _ _ c2 c4)))
        go_wp2
        go_roundw
        case rel => exact ⟨i, (i + j) / 2, rfl, rfl, by omega, by omega, by omega, Lib.hid ⟨hr.out.1.down MON.out g1 g2 (by simp only [HYY.out]; omega), hr.out.2.1.drewN _, hr.out.2.2.drewN _⟩⟩
        case measure => simp [intOf]; omega
    · have e : j = i := by omega
      subst e
      obtain ⟨p, hp⟩ : ∃ p, j = m + p := ⟨j - m, by omega⟩
      have HU := Lib.hid (show Arr wr B (upRow A x Y R 0) ∧ Mods [B] w wr from ⟨by simpa [upRow] using hr.out.2.1, hr.out.2.2⟩)
      have HC := Lib.hid (show Srt key (Y.take p ++ x :: Y.drop p) ∧ Same key ([x] ++ Y) (Y.take p ++ x :: Y.drop p) by
        have hh := hr.out.1
        obtain ⟨h1, h2, h3⟩ := HM.out
        rw [hp, h2, h3] at hh
        exact one_ahead HY.out hh)
      have HP := Lib.hid (show j = a + p + 1 ∧ p ≤ Y.length by have := HM.out; omega)
      have w2 : IntKind.i64.wrap ((j : Int) - 1) = (a : Int) + (p : Int) := by rw [IntKind.wrap_i64]; have := HP.out; omega
      have hpn : a + p + 1 ≤ n := by have := HP.out; omega
      clear hr hp
      go_wp2
      go_loopw [13] (fun u wr => ∃ q : Nat, q ≤ p ∧ u = .int .i64 ((a : Int) + (q : Int)) ∧ Hid (Arr wr B (upRow A x Y R q) ∧ Mods [B] w wr)) (fun u _ => a + p - (intOf u).toNat)
      case atStart => exact ⟨0, by omega, by simp, HU⟩
      case round =>
        obtain ⟨q, hqp, rfl, hr⟩ := hrel
        by_cases hlt : q < p
        · obtain ⟨y, c1, c2, f1, c3, hs, hmo⟩ := up_step hr.out.1 hr.out.2 (by have := HP.out; omega)
          have HS := Lib.hid (And.intro hs hmo)
          have hal := HM.out.1
          rw [← HM.out.1] at c1 c2 c3 HS
          have f2 := f1 (a + q)
          have f3 := f1 (a + q + 1)
          clear hs hmo hr hal
          have w3 : IntKind.i64.wrap ((a : Int) + (q : Int) + 1) = (a : Int) + (q : Int) + 1 := by rw [IntKind.wrap_i64]; omega
          have q1 : (a : Int) + (q : Int) + 1 < (n : Int) := by omega
          have q2 : (0 : Int) ≤ (a : Int) + (q : Int) + 1 := by omega
          have q3 : (a : Int) + (q : Int) < (n : Int) := by omega
          have q4 : (0 : Int) ≤ (a : Int) + (q : Int) := by omega
          have t1 : ((a : Int) + (q : Int) + 1).toNat = a + q + 1 := by omega
          have t2 : ((a : Int) + (q : Int)).toNat = a + q := by omega
          go_wp2
          go_region
          all_goals go_wp2
          all_goals go_roundw
          case rel => exact ⟨q + 1, by omega, by rw [show ((q + 1 : Nat) : Int) = (q : Int) + 1 by omega, ← Int.add_assoc], Lib.hid ⟨HS.out.1.drewN 1, HS.out.2.drew⟩⟩
          case measure => simp [intOf]; omega
        · have e : q = p := by omega
          subst e
          have HF := Lib.hid hr.out
          clear hr
          go_wp2
          refine bodyPost_ret (results_none rfl _ _ _) rfl ?_
          exact ⟨rfl, Lib.hid ⟨_, by have := HF.out.1; unfold upRow at this; simpa [List.append_assoc] using this, HC.out.1, HC.out.2, HF.out.2⟩⟩
end Go.Proofs.YtgfmjkbelciaaaaDoor

/- What the library's merge in place makes of two rows, the second of which has one element. -/
namespace Go.Proofs.YtgfmjkbelciaaaaDoor
open Go.RowKit
set_option maxRecDepth 100000
set_option linter.unusedVariables false
set_option linter.unusedSimpArgs false
set_option linter.unnecessarySimpa false

/-- y, so far down in X: q of X stand ahead of it. -/
theorem down_step {w wr : World} {B y q : Nat} {A X R : List Nat} (h : Arr wr B (upRow A y X R (q + 1))) (hm : Mods [B] w wr) (hq : q < X.length) :
    ∃ x, wr.cell? ⟨B, A.length + q, none⟩ = some (ptr x) ∧ wr.cell? ⟨B, A.length + q + 1, none⟩ = some (ptr y) ∧ (∀ i, wr.frozen? ⟨B, i, none⟩ = false) ∧
      (wr.setCell ⟨B, A.length + q + 1, none⟩ (.pointer (some ⟨x, 0, none⟩))).cell? ⟨B, A.length + q, none⟩ = some (ptr x) ∧
      Arr ((wr.setCell ⟨B, A.length + q + 1, none⟩ (ptr x)).setCell ⟨B, A.length + q, none⟩ (ptr y)) B (upRow A y X R q) ∧ Mods [B] w ((wr.setCell ⟨B, A.length + q + 1, none⟩ (ptr x)).setCell ⟨B, A.length + q, none⟩ (ptr y)) := by
  have e : upRow A y X R q = (A ++ X.take q) ++ y :: (X[q] :: (X.drop (q + 1) ++ R)) := by
    unfold upRow
    rw [List.drop_eq_getElem_cons hq]; simp only [List.append_assoc, List.cons_append, List.nil_append]
  have e2 : upRow A y X R (q + 1) = (A ++ X.take q) ++ X[q] :: (y :: (X.drop (q + 1) ++ R)) := by
    unfold upRow
    rw [List.take_succ_eq_append_getElem hq]; simp only [List.append_assoc, List.cons_append, List.nil_append]
  rw [e2] at h
  have hl : (A ++ X.take q).length = A.length + q := by simp; omega
  have sc := swp_next (A ++ X.take q) (X.drop (q + 1) ++ R) y X[q]
  have g1 : ((A ++ X.take q) ++ X[q] :: (y :: (X.drop (q + 1) ++ R))).getD (A.length + q) 0 = X[q] := by
    have := getD_mid (A ++ X.take q) (X[q] :: (y :: (X.drop (q + 1) ++ R))) 0
    rw [hl] at this; exact this
  have g2 : ((A ++ X.take q) ++ X[q] :: (y :: (X.drop (q + 1) ++ R))).getD (A.length + q + 1) 0 = y := by
    have := getD_mid (A ++ X.take q) (X[q] :: (y :: (X.drop (q + 1) ++ R))) 1
    rw [hl] at this; exact this
  have l1 : A.length + q < ((A ++ X.take q) ++ X[q] :: (y :: (X.drop (q + 1) ++ R))).length := by rw [List.length_append, hl, List.length_cons]; omega
  have l2 : A.length + q + 1 < ((A ++ X.take q) ++ X[q] :: (y :: (X.drop (q + 1) ++ R))).length := by rw [List.length_append, hl, List.length_cons, List.length_cons]; omega
  have c1 := h.get l1
  have c2 := h.get l2
  rw [g1] at c1
  rw [g2] at c2
  have hs := h.swp l2 l1
  rw [g1, g2] at hs
  rw [hl] at sc
  rw [sc, ← e] at hs
  exact ⟨X[q], c1, c2, h.free, by rw [World.cell?_setCell_other _ _ _ _ (by simp <;> omega)]; exact c1, hs, swap_mods hm⟩
set_option maxHeartbeats 1000000 in
theorem merge_last (w : World) (B a m b n c y : Nat) (A X R : List Nat) (key : Nat → Int) (h : Arr w B (A ++ (X ++ ([y] ++ R)))) (ha : a = A.length) (hm : m = A.length + X.length) (hb : b = A.length + X.length + 1) (hx : 2 ≤ X.length) (hX : Srt key X) (hk : Keyed w B key (X ++ [y])) (hn : n = A.length + X.length + 1 + R.length) (hs : n ≤ 1000000000) (hc : n ≤ c) :
    Calls Tryd.prog 67 #[.slice (some ⟨B, 0, none⟩) n c, .int .i64 a, .int .i64 m, .int .i64 b, byF] w fun e w' => e = .returned (.tuple #[]) ∧ Hid (Merged key w w' B A X [y] R) := by
  have HA := Lib.hid h
  have HK := Lib.hid hk
  have HX := Lib.hid hX
  have HN := Lib.hid hn
  have HM := Lib.hid (And.intro ha (And.intro hm hb))
  have w1 : IntKind.i64.wrap ((m : Int) - a) = (X.length : Int) := by rw [IntKind.wrap_i64]; omega
  have w0 : IntKind.i64.wrap ((b : Int) - m) = 1 := by rw [IntKind.wrap_i64]; omega
  have d1 : ((X.length : Int) == 1) = false := by simp; omega
  have hmb : a ≤ m := by omega
  have hbn : m < n := by omega
  have hmz : (m : Int) < n := by omega
  have HAM := Lib.hid (show b = m + 1 by omega)
  have MON := Lib.hid (show ∀ s t, a ≤ s → s ≤ t → t < m → key ((A ++ (X ++ ([y] ++ R))).getD t 0) ≤ key y → key ((A ++ (X ++ ([y] ++ R))).getD s 0) ≤ key y from fun s t h1 h2 h3 h4 => by
    have := up_x (A := A) (Y := [y]) (R := R) hX s t (by omega) h2 (by omega)
    omega)
  have KEY := Lib.hid (show ∀ t, a ≤ t → t < m → ∀ wr, Mods [B] w wr → Arr wr B (A ++ (X ++ ([y] ++ R))) → ∃ x, (A ++ (X ++ ([y] ++ R))).getD t 0 = x ∧ wr.cell? ⟨B, t, none⟩ = some (ptr x) ∧ wr.cell? ⟨x, 2, none⟩ = some (.int .i64 (key x)) ∧ wr.cell? ⟨B, m, none⟩ = some (ptr y) ∧ wr.cell? ⟨y, 2, none⟩ = some (.int .i64 (key y)) from fun t h1 h2 wr hmo har => by
    have hK := hk.mods hmo
    refine ⟨_, rfl, har.get (by simp; omega), (hK _ ?_).2, ?_, (hK y (by simp)).2⟩
    · rw [part_x A X [y] R t (by omega) (by omega)]
      exact List.mem_append_left _ (getD_mem _ _ (by omega))
    · have := har.get (i := m) (by simp; omega)
      rw [part_y A X [y] R m (by omega) (by simp; omega)] at this
      simpa [hm] using this)
  clear h hk hn ha hm hb hX
  go_enter Tryd.func67, Tryd.ntmps67
  go_wp2
  go_loopw [14, 15, 16] (fun u v o wr => ∃ i j : Nat, u = .int .i64 i ∧ v = .int .i64 j ∧ i ≤ j ∧ j ≤ m ∧ a ≤ i ∧ Hid (Cut (fun t => key ((A ++ (X ++ ([y] ++ R))).getD t 0) ≤ key y) a m i j ∧ Arr wr B (A ++ (X ++ ([y] ++ R))) ∧ Mods [B] w wr)) (fun u v _ _ => (intOf v).toNat - (intOf u).toNat)
  case atStart => exact ⟨a, m, rfl, rfl, hmb, Nat.le_refl _, Nat.le_refl _, Lib.hid ⟨Cut.all _ hmb, HA.out, Mods.refl _ _⟩⟩
  case round =>
    obtain ⟨i, j, rfl, rfl, hij, hjb, hmi, hr⟩ := hrel
    by_cases hlt : i < j
    · obtain ⟨k1, k2, k3, k4, k5, k6⟩ := half_int i j (by omega)
      have g1 : i ≤ (i + j) / 2 := by omega
      have g2 : (i + j) / 2 < j := by omega
      obtain ⟨x, hx, c1, c2, c3, c4⟩ := KEY.out ((i + j) / 2) (by omega) (by omega) wr hr.out.2.2 hr.out.2.1
      have HXX := Lib.hid hx
      clear hx
      have p1 : (((i + j) / 2 : Nat) : Int) < (n : Int) := by omega
      by_cases hxy : key y < key x
      · have hlt2 : decide (cmpI (key y) (key x) < 0) = true := decide_eq_true ((cmpI_lt _ _).2 hxy)
        go_wp2
        go_quiet (first | (go_at_call 56; exact Calls.quiet_of (by_any y x _ _ _ c4 c2)))
        go_wp2
        go_roundw
        case rel => exact ⟨i, (i + j) / 2, rfl, rfl, by omega, by omega, by omega, Lib.hid ⟨hr.out.1.down MON.out g1 g2 (by simp only [HXX.out]; omega), hr.out.2.1.drewN _, hr.out.2.2.drewN _⟩⟩
        case measure => simp [intOf]; omega
      · have hlt2 : decide (cmpI (key y) (key x) < 0) = false := decide_eq_false fun h => hxy ((cmpI_lt _ _).1 h)
        go_wp2
        go_quiet (first | (go_at_call 56; exact Calls.quiet_of (by_any y x _ _ _ c4 c2)))
        go_wp2
        go_roundw
        case rel => exact ⟨(i + j) / 2 + 1, j, rfl, rfl, by omega, hjb, by omega, Lib.hid ⟨hr.out.1.up MON.out g1 g2 (by simp only [HXX.out]; omega), hr.out.2.1.drewN _, hr.out.2.2.drewN _⟩⟩
        case measure => simp [intOf]; omega
    · have e : j = i := by omega
      subst e
      obtain ⟨p, hp⟩ : ∃ p, j = a + p := ⟨j - a, by omega⟩
      have HU := Lib.hid (show Arr wr B (upRow A y X R X.length) ∧ Mods [B] w wr from ⟨by simpa [upRow] using hr.out.2.1, hr.out.2.2⟩)
      have HC := Lib.hid (show Srt key (X.take p ++ y :: X.drop p) ∧ Same key (X ++ [y]) (X.take p ++ y :: X.drop p) by
        have hh := hr.out.1
        obtain ⟨h1, h2, h3⟩ := HM.out
        rw [hp, h2, h1] at hh
        exact one_behind HX.out hh)
      have HP := Lib.hid (show j = a + p ∧ p ≤ X.length ∧ m = a + X.length by have := HM.out; omega)
      clear hr hp
      go_wp2
      go_loopw [17] (fun u wr => ∃ q : Nat, p ≤ q ∧ q ≤ X.length ∧ u = .int .i64 ((a : Int) + (q : Int)) ∧ Hid (Arr wr B (upRow A y X R q) ∧ Mods [B] w wr)) (fun u _ => (intOf u).toNat)
      case atStart => exact ⟨X.length, by have := HP.out; omega, by omega, by rw [HP.out.2.2]; simp, HU⟩
      case round =>
        obtain ⟨q, hqp, hql, rfl, hr⟩ := hrel
        by_cases hlt : p < q
        · obtain ⟨q, rfl⟩ : ∃ r, q = r + 1 := ⟨q - 1, by omega⟩
          obtain ⟨x, c1, c2, f1, c3, hs, hmo⟩ := down_step hr.out.1 hr.out.2 (by omega)
          have HS := Lib.hid (And.intro hs hmo)
          rw [← HM.out.1] at c1 c2 c3 HS
          have f2 := f1 (a + q)
          have f3 := f1 (a + q + 1)
          clear hs hmo hr
          have hjq : (j : Int) < (a : Int) + ((q + 1 : Nat) : Int) := by have := HP.out; omega
          have w3 : IntKind.i64.wrap ((a : Int) + ((q + 1 : Nat) : Int) - 1) = (a : Int) + (q : Int) := by rw [IntKind.wrap_i64]; have := HP.out; omega
          have w4 : IntKind.i64.wrap ((a : Int) + ((q : Int) + 1) - 1) = (a : Int) + (q : Int) := by rw [IntKind.wrap_i64]; have := HP.out; omega
          have q1 : (a : Int) + ((q : Int) + 1) < (n : Int) := by have := HP.out; omega
          have q2 : (0 : Int) ≤ (a : Int) + ((q : Int) + 1) := by omega
          have q3 : (a : Int) + (q : Int) < (n : Int) := by have := HP.out; omega
          have q4 : (0 : Int) ≤ (a : Int) + (q : Int) := by omega
          have t1 : ((a : Int) + ((q : Int) + 1)).toNat = a + q + 1 := by omega
          have t2 : ((a : Int) + (q : Int)).toNat = a + q := by omega
          go_wp2
          go_region
          all_goals go_wp2
          all_goals go_roundw
          case rel => exact ⟨q, by omega, by omega, rfl, Lib.hid ⟨HS.out.1.drewN 1, HS.out.2.drew⟩⟩
          case measure => simp [intOf]; omega
        · have e : q = p := by omega
          subst e
          have HF := Lib.hid hr.out
          have hjq : ¬ (j : Int) < (a : Int) + (q : Int) := by have := HP.out; omega
          clear hr
          go_wp2
          refine bodyPost_ret (results_none rfl _ _ _) rfl ?_
          exact ⟨rfl, Lib.hid ⟨_, by have := HF.out.1; unfold upRow at this; simpa [List.append_assoc] using this, HC.out.1, HC.out.2, HF.out.2⟩⟩
end Go.Proofs.YtgfmjkbelciaaaaDoor
