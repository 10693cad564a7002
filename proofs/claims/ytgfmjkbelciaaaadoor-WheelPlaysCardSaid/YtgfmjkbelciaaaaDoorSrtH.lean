/- What the library's stable sort makes of an array of pointers. -/
import Derived.Test.YtgfmjkbelciaaaaDoorSrtG
namespace Go.Proofs.YtgfmjkbelciaaaaDoor
open Go.RowKit
set_option maxRecDepth 100000
set_option linter.unusedVariables false
set_option linter.unusedSimpArgs false
set_option linter.unnecessarySimpa false

/-- Sorted rows of s each. -/
def Blks (key : Nat → Int) (s : Nat) (ls : List (List Nat)) : Prop := ∀ l ∈ ls, l.length = s ∧ Srt key l
theorem Blks.snoc {key : Nat → Int} {s : Nat} {ls : List (List Nat)} {l : List Nat} (h : Blks key s ls) (hl : l.length = s) (hs : Srt key l) : Blks key s (ls ++ [l]) := fun x hx => by
  rcases List.mem_append.1 hx with e | e
  · exact h x e
  · simp only [List.mem_cons, List.mem_nil_iff, or_false] at e
    rw [e]; exact ⟨hl, hs⟩
theorem flat_snoc (ls : List (List Nat)) (l : List Nat) : (ls ++ [l]).flatten = ls.flatten ++ l := by simp
/-- The first loop: so many blocks are sorted. -/
def St1 (key : Nat → Int) (w wr : World) (B : Nat) (D0 : List Nat) (a : Nat) : Prop :=
  ∃ ls R, Blks key 20 ls ∧ a = ls.flatten.length ∧ Same key D0 (ls.flatten ++ R) ∧ Arr wr B (ls.flatten ++ R) ∧ Mods [B] w wr
/-- Blocks of s, and a shorter one behind them. -/
def St2 (key : Nat → Int) (w wr : World) (B : Nat) (D0 : List Nat) (s : Nat) : Prop :=
  ∃ ls L, Blks key s ls ∧ L.length < s ∧ Srt key L ∧ Same key D0 (ls.flatten ++ L) ∧ Arr wr B (ls.flatten ++ L) ∧ Mods [B] w wr
/-- Blocks of 2 s, then of s, then a shorter one. -/
def St3 (key : Nat → Int) (w wr : World) (B : Nat) (D0 : List Nat) (s a : Nat) : Prop :=
  ∃ done rest L, Blks key (2 * s) done ∧ Blks key s rest ∧ L.length < s ∧ Srt key L ∧ a = done.flatten.length ∧ Same key D0 (done.flatten ++ (rest.flatten ++ L)) ∧ Arr wr B (done.flatten ++ (rest.flatten ++ L)) ∧ Mods [B] w wr
section
variable {key : Nat → Int} {w wr : World} {B s a n : Nat} {D0 : List Nat}
theorem St1.zero (h : Arr w B D0) : St1 key w w B D0 0 := ⟨[], D0, fun l hl => (by cases hl), rfl, by simpa using Same.refl key D0, by simpa using h, Mods.refl _ _⟩
theorem St1.le (h : St1 key w wr B D0 a) : a ≤ D0.length := by
  obtain ⟨ls, R, h1, h2, h3, h4, h5⟩ := h
  have := h3.length
  rw [List.length_append] at this; omega
theorem St1.next (h : St1 key w wr B D0 a) (hk : Keyed w B key D0) (hb : a + 20 ≤ D0.length) : ∃ A S0 R, Arr wr B (A ++ (S0 ++ R)) ∧ a = A.length ∧ S0.length = 20 ∧ Keyed wr B key S0 ∧ D0.length = A.length + S0.length + R.length ∧
    ∀ w' Z, Arr w' B (A ++ (Z ++ R)) → Srt key Z → Same key S0 Z → Mods [B] wr w' → St1 key w w' B D0 (a + 20) := by
  obtain ⟨ls, R, h1, h2, h3, h4, h5⟩ := h
  have hl := h3.length
  rw [List.length_append] at hl
  refine ⟨ls.flatten, R.take 20, R.drop 20, by rw [List.take_append_drop]; exact h4, h2, by simp; omega, (hk.mods h5).sub fun b hb => h3.mem.2 (List.mem_append_right _ (List.mem_of_mem_take hb)), by simp only [List.length_take, List.length_drop]; omega, fun w' Z g1 g2 g3 g4 => ?_⟩
  have hz := g3.length
  refine ⟨ls ++ [Z], R.drop 20, h1.snoc (by rw [← hz]; simp; omega) g2, by rw [flat_snoc, List.length_append, ← hz, List.length_take]; omega, ?_, ?_, h5.trans g4 (fun k hk => .inl hk)⟩
  · refine h3.trans ?_
    rw [flat_snoc, List.append_assoc]
    refine (Same.refl key _).append ?_
    have := g3.append (Same.refl key (R.drop 20))
    rw [List.take_append_drop] at this; exact this
  · rw [flat_snoc, List.append_assoc]; exact g1
theorem St1.last (h : St1 key w wr B D0 a) (hk : Keyed w B key D0) (hb : D0.length < a + 20) : ∃ A S0, Arr wr B (A ++ (S0 ++ [])) ∧ a = A.length ∧ Keyed wr B key S0 ∧ D0.length = A.length + S0.length ∧
    ∀ w' Z, Arr w' B (A ++ (Z ++ [])) → Srt key Z → Same key S0 Z → Mods [B] wr w' → St2 key w w' B D0 20 := by
  obtain ⟨ls, R, h1, h2, h3, h4, h5⟩ := h
  have hl := h3.length
  rw [List.length_append] at hl
  refine ⟨ls.flatten, R, by simpa using h4, h2, (hk.mods h5).sub fun b hb => h3.mem.2 (List.mem_append_right _ hb), by omega, fun w' Z g1 g2 g3 g4 => ?_⟩
  have hz := g3.length
  exact ⟨ls, Z, h1, by omega, g2, h3.trans ((Same.refl key _).append g3), by simpa using g1, h5.trans g4 (fun k hk => .inl hk)⟩
theorem St2.start (h : St2 key w wr B D0 s) : St3 key w wr B D0 s 0 := by
  obtain ⟨ls, L, h1, h2, h3, h4, h5, h6⟩ := h
  exact ⟨[], ls, L, fun l hl => (by cases hl), h1, h2, h3, rfl, by simpa using h4, by simpa using h5, h6⟩
theorem St2.all (h : St2 key w wr B D0 s) (hn : D0.length ≤ s) : ∃ Z, Arr wr B Z ∧ Srt key Z ∧ Same key D0 Z ∧ Mods [B] w wr := by
  obtain ⟨ls, L, h1, h2, h3, h4, h5, h6⟩ := h
  have hl := h4.length
  rw [List.length_append] at hl
  refine ⟨ls.flatten ++ L, h5, ?_, h4, h6⟩
  match ls, h1, hl with
  | [], _, _ => simpa using h3
  | [X], h1, hl =>
    have hx := h1 X (by simp)
    have : L = [] := nil_of_len (by simp only [List.flatten_cons, List.flatten_nil, List.length_append, List.length_nil, List.length_take, List.length_drop, List.append_nil, List.nil_append] at hl; omega)
    subst this
    simpa using hx.2
  | X :: Y :: ls, h1, hl =>
    have hx := (h1 X (by simp)).1
    have hy := (h1 Y (by simp)).1
    simp only [List.flatten_cons, List.flatten_nil, List.length_append, List.length_nil, List.length_take, List.length_drop, List.append_nil, List.nil_append] at hl; omega
theorem St3.next (h : St3 key w wr B D0 s a) (hk : Keyed w B key D0) (hb : a + 2 * s ≤ D0.length) : ∃ A X Y R, Arr wr B (A ++ (X ++ (Y ++ R))) ∧ a = A.length ∧ X.length = s ∧ Y.length = s ∧ Srt key X ∧ Srt key Y ∧ Keyed wr B key (X ++ Y) ∧ D0.length = A.length + X.length + Y.length + R.length ∧
    ∀ w', Merged key wr w' B A X Y R → St3 key w w' B D0 s (a + 2 * s) := by
  obtain ⟨done, rest, L, h1, h2, h3, h4, h5, h6, h7, h8⟩ := h
  have hl := h6.length
  rw [List.length_append, List.length_append] at hl
  match rest, h2, h6, h7, hl with
  | [], _, _, _, hl => simp only [List.flatten_cons, List.flatten_nil, List.length_append, List.length_nil, List.length_take, List.length_drop, List.append_nil, List.nil_append] at hl; omega
  | [X], h2, _, _, hl =>
    have hx := (h2 X (by simp)).1
    simp only [List.flatten_cons, List.flatten_nil, List.length_append, List.length_nil, List.length_take, List.length_drop, List.append_nil, List.nil_append] at hl; omega
  | X :: Y :: rest, h2, h6, h7, hl =>
    have hx := h2 X (by simp)
    have hy := h2 Y (by simp)
    have hr : Blks key s rest := fun l hl => h2 l (by simp [hl])
    refine ⟨done.flatten, X, Y, rest.flatten ++ L, by simpa [List.append_assoc] using h7, h5, hx.1, hy.1, hx.2, hy.2, (hk.mods h8).sub fun b hb => h6.mem.2 ?_, by simp only [List.flatten_cons, List.flatten_nil, List.length_append, List.length_nil, List.length_take, List.length_drop, List.append_nil, List.nil_append] at hl ⊢; omega, fun w' hm => ?_⟩
    · simp only [List.mem_append, List.flatten_cons] at hb ⊢
      rcases hb with h | h
      · exact .inr (.inl (.inl h))
      · exact .inr (.inl (.inr (.inl h)))
    · obtain ⟨Z, z1, z2, z3, z4⟩ := hm
      have hz := z3.length
      rw [List.length_append] at hz
      refine ⟨done ++ [Z], rest, L, h1.snoc (by omega) z2, hr, h3, h4, by rw [flat_snoc, List.length_append]; omega, ?_, ?_, h8.trans z4 (fun k hk => .inl hk)⟩
      · refine h6.trans ?_
        have := (Same.refl key done.flatten).append (z3.append (Same.refl key (rest.flatten ++ L)))
        rw [flat_snoc]
        simpa [List.append_assoc] using this
      · rw [flat_snoc]
        simpa [List.append_assoc] using z1
theorem St3.last (h : St3 key w wr B D0 s a) (hk : Keyed w B key D0) (hs : 0 < s) (hb : D0.length < a + 2 * s) (hm : a + s < D0.length) : ∃ A X Y, Arr wr B (A ++ (X ++ (Y ++ []))) ∧ a = A.length ∧ X.length = s ∧ 0 < Y.length ∧ Srt key X ∧ Srt key Y ∧ Keyed wr B key (X ++ Y) ∧ D0.length = A.length + X.length + Y.length ∧
    ∀ w', Merged key wr w' B A X Y [] → St2 key w w' B D0 (s * 2) := by
  obtain ⟨done, rest, L, h1, h2, h3, h4, h5, h6, h7, h8⟩ := h
  have hl := h6.length
  rw [List.length_append, List.length_append] at hl
  match rest, h2, h6, h7, hl with
  | [], _, _, _, hl => simp only [List.flatten_cons, List.flatten_nil, List.length_append, List.length_nil, List.length_take, List.length_drop, List.append_nil, List.nil_append] at hl; omega
  | [X], h2, h6, h7, hl =>
    have hx := h2 X (by simp)
    refine ⟨done.flatten, X, L, by simpa [List.append_assoc] using h7, h5, hx.1, by simp only [List.flatten_cons, List.flatten_nil, List.length_append, List.length_nil, List.length_take, List.length_drop, List.append_nil, List.nil_append] at hl; omega, hx.2, h4, (hk.mods h8).sub fun b hb => h6.mem.2 ?_, by simp only [List.flatten_cons, List.flatten_nil, List.length_append, List.length_nil, List.length_take, List.length_drop, List.append_nil, List.nil_append] at hl ⊢; omega, fun w' hm => ?_⟩
    · simp only [List.mem_append, List.flatten_cons, List.flatten_nil, List.append_nil] at hb ⊢
      rcases hb with h | h
      · exact .inr (.inl h)
      · exact .inr (.inr h)
    · obtain ⟨Z, z1, z2, z3, z4⟩ := hm
      have hz := z3.length
      rw [List.length_append] at hz
      rw [Nat.mul_comm s 2]
      refine ⟨done, Z, h1, by omega, z2, ?_, by simpa using z1, h8.trans z4 (fun k hk => .inl hk)⟩
      refine h6.trans ((Same.refl key done.flatten).append ?_)
      simpa using z3
  | X :: Y :: rest, h2, h6, h7, hl =>
    have hx := (h2 X (by simp)).1
    have hy := (h2 Y (by simp)).1
    simp only [List.flatten_cons, List.flatten_nil, List.length_append, List.length_nil, List.length_take, List.length_drop, List.append_nil, List.nil_append] at hl; omega
theorem St3.even (h : St3 key w wr B D0 s a) (hs : 0 < s) (hb : D0.length < a + 2 * s) (hm : D0.length ≤ a + s) : St2 key w wr B D0 (s * 2) := by
  obtain ⟨done, rest, L, h1, h2, h3, h4, h5, h6, h7, h8⟩ := h
  have hl := h6.length
  rw [List.length_append, List.length_append] at hl
  rw [Nat.mul_comm s 2]
  match rest, h2, h6, h7, hl with
  | [], _, h6, h7, hl => exact ⟨done, L, h1, by omega, h4, by simpa using h6, by simpa using h7, h8⟩
  | [X], h2, h6, h7, hl =>
    have hx := h2 X (by simp)
    have : L = [] := nil_of_len (by simp only [List.flatten_cons, List.flatten_nil, List.length_append, List.length_nil, List.length_take, List.length_drop, List.append_nil, List.nil_append] at hl; omega)
    subst this
    exact ⟨done, X, h1, by omega, hx.2, by simpa using h6, by simpa using h7, h8⟩
  | X :: Y :: rest, h2, h6, h7, hl =>
    have hx := (h2 X (by simp)).1
    have hy := (h2 Y (by simp)).1
    simp only [List.flatten_cons, List.flatten_nil, List.length_append, List.length_nil, List.length_take, List.length_drop, List.append_nil, List.nil_append] at hl; omega
end
end Go.Proofs.YtgfmjkbelciaaaaDoor

/- What slices.SortStableFunc makes of an array of pointers. -/
namespace Go.Proofs.YtgfmjkbelciaaaaDoor
open Go.RowKit
set_option maxRecDepth 100000
set_option linter.unusedVariables false
set_option linter.unusedSimpArgs false
set_option linter.unnecessarySimpa false

theorem stable_none (A : Option Addr) (c : Nat) (w : World) :
    Calls Tryd.prog 63 #[.slice A 0 c, .int .i64 0, byF] w fun e w' => e = .returned (.tuple #[]) ∧ w = w' := by
  go_enter Tryd.func63, Tryd.ntmps63
  go_wp2
  go_loopw [7, 8] (fun u v wr => u = .int .i64 0 ∧ v = .int .i64 20 ∧ wr = w) (fun _ _ _ => 0)
  case atStart => exact ⟨rfl, rfl, rfl⟩
  case round =>
    obtain ⟨rfl, rfl, rfl⟩ := hrel
    go_wp2_with fail
    refine (insertion_none _ A 0 0 0 c byF (by omega) (by omega)).mono ?_
    rintro e w' ⟨rfl, rfl⟩
    go_wp2
    go_loopw [6, 7, 8, 9] (fun u v x y wz => u = .int .i64 20 ∧ wz = wr) (fun _ _ _ _ _ => 0)
    case atStart => exact ⟨rfl, rfl⟩
    case round =>
      obtain ⟨rfl, rfl⟩ := hrel
      go_wp2
      go_end0
      exact ⟨rfl, rfl⟩
set_option maxHeartbeats 2000000 in
theorem stable_any (w : World) (B n c : Nat) (D0 : List Nat) (key : Nat → Int) (h : Arr w B D0) (hk : Keyed w B key D0) (hn : n = D0.length) (hs : n ≤ 100000000) (hc : n ≤ c) :
    Calls Tryd.prog 63 #[.slice (some ⟨B, 0, none⟩) n c, .int .i64 n, byF] w fun e w' => e = .returned (.tuple #[]) ∧ Hid (∃ Z, Arr w' B Z ∧ Srt key Z ∧ Same key D0 Z ∧ Mods [B] w w') := by
  have H0 := Lib.hid (St1.zero (key := key) h)
  have HK := Lib.hid hk
  have HN := Lib.hid hn
  clear h hk hn
  go_enter Tryd.func63, Tryd.ntmps63
  go_wp2
  go_loopw [7, 8] (fun u v wr => ∃ a : Nat, u = .int .i64 (a : Int) ∧ v = .int .i64 ((a + 20 : Nat) : Int) ∧ a ≤ n ∧ Hid (St1 key w wr B D0 a)) (fun u _ _ => n + 20 - (intOf u).toNat)
  case atStart => exact ⟨0, rfl, rfl, by omega, H0⟩
  case round =>
    obtain ⟨a, rfl, rfl, han, hr⟩ := hrel
    by_cases hb : a + 20 ≤ n
    · have q1 : ((a + 20 : Nat) : Int) ≤ (n : Int) := by omega
      have w1 : IntKind.i64.wrap (((a + 20 : Nat) : Int) + 20) = ((a + 20 + 20 : Nat) : Int) := by rw [IntKind.wrap_i64]; omega
      obtain ⟨b, hbb⟩ : ∃ b, b = a + 20 := ⟨_, rfl⟩
      rw [← hbb] at w1 q1 ⊢
      have HB := Lib.hid hbb
      clear hbb
      go_wp2_with fail
      obtain ⟨A, S0, R, g1, g2, g3, g4, g5, g6⟩ := hr.out.next HK.out (by have := HN.out; omega)
      refine (insertion_any _ B a b n c A S0 R key g1 g2 (by have := HB.out; omega) (by omega) g4 (by have := HN.out; omega) (by omega) hc).mono ?_
      rintro e w' ⟨rfl, hz⟩
      have HZ := Lib.hid (show St1 key w w' B D0 b from by
        obtain ⟨Z, z1, z2, z3, z4⟩ := hz.out
        rw [HB.out]
        exact g6 w' Z z1 z2 z3 z4)
      clear g1 g2 g3 g4 g5 g6 hz
      go_wp2
      go_roundw
      case rel => exact ⟨b, rfl, rfl, by have := HB.out; omega, HZ⟩
      case measure => have := HB.out; simp [intOf]; omega
    · have q1 : ¬ ((a + 20 : Nat) : Int) ≤ (n : Int) := by omega
      obtain ⟨b, hbb⟩ : ∃ b, b = a + 20 := ⟨_, rfl⟩
      rw [← hbb] at q1 ⊢
      have HB := Lib.hid hbb
      clear hbb
      go_wp2_with fail
      have hins : Calls Tryd.prog 66 #[.slice (some ⟨B, 0, none⟩) n c, .int .i64 a, .int .i64 n, byF] wr fun e w' => e = .returned (.tuple #[]) ∧ Hid (St2 key w w' B D0 20) := by
        obtain ⟨A, S0, g1, g2, g3, g4, g5⟩ := hr.out.last HK.out (by have := HN.out; omega)
        by_cases h0 : S0.length = 0
        · obtain rfl := nil_of_len h0
          exact (insertion_none wr _ a n n c byF (by have := HN.out; simp at g4; omega) (by omega)).mono fun e w' ⟨h1, h2⟩ => ⟨h1, Lib.hid (by subst h2; exact g5 wr [] g1 srt_nil (Same.refl _ _) (Mods.refl _ _))⟩
        · exact (insertion_any wr B a n n c A S0 [] key g1 g2 (by have := HN.out; omega) (by omega) g3 (by have := HN.out; simp; omega) (by omega) hc).mono fun e w' ⟨h1, h2⟩ => ⟨h1, Lib.hid (by
            obtain ⟨Z, z1, z2, z3, z4⟩ := h2.out
            exact g5 w' Z z1 z2 z3 z4)⟩
      refine hins.mono ?_
      clear hins
      rintro e w' ⟨rfl, hz⟩
      have HZ := hz
      clear hz hr
      go_wp2
      go_loopw [6, 7, 8, 9] (fun u v x y wz => ∃ s : Nat, u = .int .i64 (s : Int) ∧ 20 ≤ s ∧ s ≤ 2 * n + 20 ∧ Hid (St2 key w wz B D0 s)) (fun u _ _ _ _ => n + 1 - (intOf u).toNat)
      case atStart => exact ⟨20, rfl, by omega, by omega, HZ⟩
      case round =>
        obtain ⟨s, rfl, hs0, hs1, hr⟩ := hrel
        by_cases hlt : s < n
        · have HS := Lib.hid hr.out.start
          clear hr
          have w1 : IntKind.i64.wrap (2 * (s : Int)) = 2 * (s : Int) := by rw [IntKind.wrap_i64]; omega
          go_wp2
          go_loopw [7, 8] (fun u v wy => ∃ a b : Nat, u = .int .i64 (a : Int) ∧ v = .int .i64 (b : Int) ∧ a ≤ n ∧ Hid (b = a + 2 * s ∧ St3 key w wy B D0 s a)) (fun u _ _ => n + 1 - (intOf u).toNat)
          case atStart => exact ⟨0, 2 * s, rfl, by simp, by omega, Lib.hid ⟨by omega, HS.out⟩⟩
          case round =>
            obtain ⟨a, b, rfl, rfl, han, hr⟩ := hrel
            obtain ⟨m, hm⟩ : ∃ m, m = a + s := ⟨_, rfl⟩
            have w2 : IntKind.i64.wrap ((a : Int) + (s : Int)) = (m : Int) := by rw [IntKind.wrap_i64]; omega
            have HM := Lib.hid hm
            clear hm
            by_cases hb : b ≤ n
            · obtain ⟨b2, hb2⟩ : ∃ b2, b2 = b + 2 * s := ⟨_, rfl⟩
              have w3 : IntKind.i64.wrap ((b : Int) + 2 * (s : Int)) = (b2 : Int) := by rw [IntKind.wrap_i64]; omega
              have HB2 := Lib.hid hb2
              clear hb2
              go_wp2_with fail
              obtain ⟨A, X, Y, R, g1, g2, g3, g4, g5, g6, g7, g8, g9⟩ := hr.out.2.next HK.out (by have := HN.out; have := hr.out.1; omega)
              have e1 := HM.out
              have e2 := hr.out.1
              have e3 := HN.out
              refine (merge_any _ _ B a m b n c A X Y R key (Nat.le_refl _) g1 g2 (by omega) (by omega) (by omega) (by omega) g5 g6 g7 (by omega) (by omega) hc).mono ?_
              rintro e w' ⟨rfl, hz⟩
              have HZ := Lib.hid (show St3 key w w' B D0 s b from by
                rw [e2]; exact g9 w' hz.out)
              have HE := Lib.hid e2
              clear g1 g2 g3 g4 g5 g6 g7 g8 g9 hz e1 e2 e3 hr
              go_wp2
              go_roundw
              case rel => exact ⟨b, b2, rfl, rfl, hb, Lib.hid ⟨HB2.out, HZ.out⟩⟩
              case measure => have := HE.out; simp [intOf]; omega
            · have w4 : IntKind.i64.wrap ((s : Int) * 2) = (s : Int) * 2 := by rw [IntKind.wrap_i64]; omega
              by_cases hmn : m < n
              · go_wp2_with fail
                obtain ⟨A, X, Y, g1, g2, g3, g4, g5, g6, g7, g8, g9⟩ := hr.out.2.last HK.out (by omega) (by have := HN.out; have := hr.out.1; omega) (by have := HN.out; have := HM.out; omega)
                have e1 := HM.out
                have e3 := HN.out
                refine (merge_any _ _ B a m n n c A X Y [] key (Nat.le_refl _) g1 g2 (by omega) (by omega) (by omega) g4 g5 g6 g7 (by simp; omega) (by omega) hc).mono ?_
                rintro e w' ⟨rfl, hz⟩
                have HZ := Lib.hid (show St2 key w w' B D0 (s * 2) from g9 w' hz.out)
                clear g1 g2 g3 g4 g5 g6 g7 g8 g9 hz e1 e3 hr
                go_wp2
                go_roundw
                case rel => exact ⟨s * 2, by simp, by omega, by omega, HZ⟩
                case measure => simp [intOf]; omega
              · have HZ := Lib.hid (hr.out.2.even (by omega) (by have := HN.out; have := hr.out.1; omega) (by have := HN.out; have := HM.out; omega))
                clear hr
                go_wp2
                go_roundw
                case rel => exact ⟨s * 2, by simp, by omega, by omega, HZ⟩
                case measure => simp [intOf]; omega
        · have HZ := Lib.hid (hr.out.all (by have := HN.out; omega))
          clear hr
          go_wp2
          go_end0
          exact ⟨rfl, HZ⟩
theorem sort_none (A : Option Addr) (c : Nat) (w : World) :
    Calls Tryd.prog 55 #[.slice A 0 c, byF] w fun e w' => e = .returned (.tuple #[]) ∧ w = w' := by
  go_enter Tryd.func55, Tryd.ntmps55
  go_wp2_with fail
  refine (stable_none A c w).mono ?_
  rintro e w' ⟨rfl, rfl⟩
  go_wp2
  go_end0
  exact ⟨rfl, rfl⟩
theorem sort_any (w : World) (B n c : Nat) (D0 : List Nat) (key : Nat → Int) (h : Arr w B D0) (hk : Keyed w B key D0) (hn : n = D0.length) (hs : n ≤ 100000000) (hc : n ≤ c) :
    Calls Tryd.prog 55 #[.slice (some ⟨B, 0, none⟩) n c, byF] w fun e w' => e = .returned (.tuple #[]) ∧ Hid (∃ Z, Arr w' B Z ∧ Srt key Z ∧ Same key D0 Z ∧ Mods [B] w w') := by
  go_enter Tryd.func55, Tryd.ntmps55
  have HN := Lib.hid hn
  clear hn
  go_wp2_with fail
  refine (stable_any w B n c D0 key h hk HN.out hs hc).mono ?_
  rintro e w' ⟨rfl, hz⟩
  go_wp2
  go_end0
  exact ⟨rfl, hz⟩
end Go.Proofs.YtgfmjkbelciaaaaDoor
