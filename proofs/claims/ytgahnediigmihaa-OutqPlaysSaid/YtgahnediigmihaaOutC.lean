/- What whole, untold, Left of the program's queue answer. -/
import Derived.Test.YtgahnediigmihaaOutB
namespace Go.Proofs.Ytgahnediigmihaa
open Go.RowKit
set_option maxRecDepth 10000
set_option linter.unusedVariables false
set_option linter.unusedSimpArgs false

/-- How many pieces are whole by W bytes. -/
def wh (E : List Int) (W : Int) : Nat := (E.takeWhile fun x => decide (x ≤ W)).length
theorem wh_le (E : List Int) (W : Int) : wh E W ≤ E.length := (List.takeWhile_sublist _).length_le
theorem wh_of (E : List Int) (W : Int) (k : Nat) (hk : k ≤ E.length) (h : ∀ j x, j < k → E[j]? = some x → x ≤ W) (he : k = E.length ∨ ∃ x, E[k]? = some x ∧ ¬ x ≤ W) : wh E W = k := by
  induction E generalizing k with
  | nil => simp at hk; subst hk; rfl
  | cons x E ih =>
    cases k with
    | zero =>
      rcases he with he | ⟨y, hy, hn⟩
      · simp at he
      · simp at hy; subst hy
        simp [wh, hn]
    | succ k =>
      have hx : x ≤ W := h 0 x (by omega) rfl
      have := ih k (by simpa using hk) (fun j y hj hy => h (j + 1) y (by omega) (by simpa using hy)) (by
        rcases he with he | ⟨y, hy, hn⟩
        · left; simpa using he
        · right; exact ⟨y, by simpa using hy, hn⟩)
      simp only [wh, List.takeWhile_cons, decide_eq_true hx, if_true, List.length_cons] at this ⊢
      rw [this]
/-- The numbers behind a, so many. -/
def upto (a n : Nat) : List Int := (List.range n).map fun i : Nat => (a : Int) + 1 + (i : Int)
theorem upto_length (a n : Nat) : (upto a n).length = n := by simp [upto]
theorem upto_at (a n j : Nat) : (upto a n)[j]? = if j < n then some ((a : Int) + 1 + (j : Int)) else none := by
  simp only [upto, List.getElem?_map, List.getElem?_range]
  split <;> simp_all
theorem whole_any (w : World) (g : Nat) (F : List Nat) (B E : List Int) (W T : Nat) (h : QueA w g F B E W T) :
    Calls Try.prog 32 #[.pointer (some ⟨g, 0, none⟩)] w fun e w' => e = .returned (.int .i64 (wh E W)) ∧ ∃ q, w' = w.drewN q := by
  obtain ⟨vd, td, ve, te, rfl, h⟩ := h
  obtain ⟨Ad, cd, Ae, ce, rfl, rfl, hb1, hb2, hb3, hb4⟩ := h.cells
  have c2 := h.row.cell 2
  have c4 := h.row.cell 4
  have HS := Lib.hid h.ends.src
  have hnum := h.num
  unfold maxLen at hb4
  clear h hb1 hb2
  go_enter Try.func32, Try.ntmps32
  go_wp2
  go_loopw [3] (fun i wr => ∃ k : Nat, k ≤ E.length ∧ i = .int .i64 k ∧ Hid (∃ q, wr = w.drewN q) ∧ Hid (∀ j x, j < k → E[j]? = some x → x ≤ (W : Int))) (fun i _ => E.length - (intOf i).toNat)
  case atStart => exact ⟨0, Nat.zero_le _, rfl, Lib.hid ⟨0, rfl⟩, Lib.hid fun j x hj => by omega⟩
  case round =>
    obtain ⟨k, hk, rfl, hq, hall⟩ := hrel
    obtain ⟨q, rfl⟩ := hq.out
    by_cases hlt : k < E.length
    · obtain ⟨b, o, rfl, cc⟩ := HS.out k (.int .i64 E[k]) ((iv_at _ _ _).2 ⟨_, List.getElem?_eq_getElem hlt, rfl⟩)
      have HX := Lib.hid (List.getElem?_eq_getElem hlt)
      obtain ⟨x, hx⟩ : ∃ x, x = E[k] := ⟨_, rfl⟩
      rw [← hx] at cc HX
      clear hx
      by_cases he : x ≤ (W : Int)
      · have hd : decide (x ≤ (W : Int)) = true := by simpa using he
        clear hq
        go_wp2
        go_quiet (fail)
        go_wp2
        go_roundw
        case rel =>
          refine ⟨k + 1, by omega, by go_num, Lib.hid (by first | exact ⟨_, rfl⟩ | exact ⟨_, World.drewN_drewN ..⟩), Lib.hid fun j y hj hy => ?_⟩
          by_cases e : j = k
          · subst e; have := HX.out; rw [hy] at this; injection this with this; subst this; exact he
          · exact hall.out j y (by omega) hy
        case measure => simp [intOf]; omega
      · have hd : decide (x ≤ (W : Int)) = false := by simpa using he
        have HW := Lib.hid (wh_of E W k hk hall.out (.inr ⟨x, HX.out, he⟩))
        clear hq
        go_wp2
        go_quiet (fail)
        go_wp2
        go_ret
        exact ⟨ret_i64 (by rw [HW.out]), by first | exact ⟨_, rfl⟩ | exact ⟨_, World.drewN_drewN ..⟩⟩
    · have HW := Lib.hid (wh_of E W k hk hall.out (.inl (by omega)))
      clear hq
      go_wp2
      go_quiet (fail)
      go_wp2
      go_ret
      exact ⟨ret_i64 (by rw [HW.out]), by first | exact ⟨_, rfl⟩ | exact ⟨_, World.drewN_drewN ..⟩⟩
theorem make_int (n : Nat) (h : n ≤ 1000000000) (w : World) : (Instr.makeSlice 29 (.int .i64 (n : Int)) (.int .i64 (n : Int))).run Try.prog w =
    .ok (.slice (some ⟨w.heap.size, 0, none⟩) n n) (w.alloc (.cells (madeCells #[.int .i64 0] n) 3)) := by
  obtain ⟨i, hi, hz, hs, hb⟩ := info_parts int_info3
  have := run_make (P := Try.prog) w 29 3 i (.int .i64 0) Try.underlying29 hi hz .i64 .i64 n n (by omega) (Int.le_refl _) (by rw [hb]; omega) (by omega)
  simpa [hs, Value.cells] using this
/-- Block b holds the first k of these numbers. -/
def Filled (w : World) (b n k a : Nat) : Prop := ∃ cs : Array Value, Row w b 3 cs ∧ cs.size = n ∧ ∀ j, j < k → cs[j]? = some (.int .i64 ((a : Int) + 1 + (j : Int)))
theorem Filled.set {w : World} {b n k a : Nat} {x : Int} (h : Filled w b n k a) (hk : k < n) (hx : x = (a : Int) + 1 + (k : Int)) : Filled (w.setCell ⟨b, k, none⟩ (.int .i64 x)) b n (k + 1) a := by
  subst hx
  obtain ⟨cs, h1, h2, h3⟩ := h
  refine ⟨_, h1.set k _, by simpa using h2, fun j hj => ?_⟩
  by_cases e : k = j
  · subst e; rw [Array.getElem?_setIfInBounds_self]; simp; omega
  · rw [Array.getElem?_setIfInBounds_ne (by omega)]; exact h3 j (by omega)
theorem Filled.own {w : World} {b n a : Nat} (h : Filled w b n n a) (hn : n ≤ 1000000000) : Own w 3 (.slice (some ⟨b, 0, none⟩) n n) (iv (upto a n)) := by
  obtain ⟨cs, h1, h2, h3⟩ := h
  have hl : (iv (upto a n)).length = n := by rw [iv_length, upto_length]
  refine .inr ⟨b, 0, n, cs, by rw [hl], h1, by omega, by unfold maxLen; omega, by omega, fun i u hu => ?_⟩
  obtain ⟨x, hx, rfl⟩ := (iv_at _ _ _).1 hu
  rw [upto_at] at hx
  split at hx
  · injection hx with hx; subst hx; rw [Nat.zero_add]; exact h3 i (by assumption)
  · cases hx
theorem untold_any (w : World) (g : Nat) (F : List Nat) (B E : List Int) (W T n : Nat) (h : QueA w g F B E W T) (hn : n ≤ E.length) :
    Calls Try.prog 31 #[.pointer (some ⟨g, 0, none⟩), .int .i64 n] w fun e w' => ∃ v, e = .returned v ∧ Hid (FreshO w w' 3 v (iv (upto T n))) := by
  obtain ⟨vd, td, ve, te, rfl, h⟩ := h
  obtain ⟨Ad, cd, Ae, ce, rfl, rfl, hb1, hb2, hb3, hb4⟩ := h.cells
  have c2 := h.row.cell 2
  have c5 := h.row.cell 5
  have hnum := h.num
  have hmk := make_int n (by omega)
  obtain ⟨cs, hcs⟩ : ∃ cs, cs = madeCells #[.int .i64 0] n := ⟨_, rfl⟩
  have HC := Lib.hid (show cs.size = n by rw [hcs, size_madeCells])
  rw [← hcs] at hmk
  unfold maxLen at hb4
  clear h hb1 hb2 hcs
  go_enter Try.func31, Try.ntmps31
  go_wp2
  go_quiet (fail)
  go_wp2
  go_loopw [7, 24] (fun x i wr => ∃ k : Nat, k ≤ n ∧ i = .int .i64 k ∧ Hid (Filled wr w.heap.size n k T ∧ Mods [] w wr)) (fun _ i _ => n - (intOf i).toNat)
  case atStart => exact ⟨0, Nat.zero_le _, rfl, Lib.hid ⟨⟨cs, Row.new _ _ _, HC.out, fun j hj => by omega⟩, ((Mods.refl _ _).drewN _).alloc _⟩⟩
  case round =>
    obtain ⟨k, hk, rfl, hd⟩ := hrel
    by_cases hlt : k < n
    · obtain ⟨⟨cs', h1, h2, h3⟩, hm⟩ := hd.out
      have HD := Lib.hid (And.intro (show Filled wr w.heap.size n k T from ⟨cs', h1, h2, h3⟩) hm)
      obtain ⟨u, hu⟩ : ∃ u, wr.cell? ⟨w.heap.size, k, none⟩ = some u := ⟨_, (h1.cell k).trans (Array.getElem?_eq_getElem (by omega))⟩
      have fu := h1.free k
      clear h1 h2 h3 hm hd
      go_wp2
      go_roundw
      case rel => exact ⟨k + 1, by omega, by go_num, Lib.hid ⟨HD.out.1.set hlt (by omega), HD.out.2.setCell (.inr (by simp)) _⟩⟩
      case measure => simp [intOf]; omega
    · obtain rfl : k = n := by omega
      go_wp2
      go_ret
      exact ⟨_, rfl, Lib.hid ⟨hd.out.1.own (by omega), hd.out.2, by simp [Value.ownBlock]⟩⟩
theorem left_any (w : World) (g : Nat) (F : List Nat) (B E : List Int) (W T : Nat) (h : QueA w g F B E W T) :
    Calls Try.prog 25 #[.pointer (some ⟨g, 0, none⟩)] w fun e w' => ∃ v, e = .returned v ∧ Hid (FreshO w w' 3 v (iv (upto T E.length))) := by
  have HU := Lib.hid (untold_any w g F B E W T E.length h (Nat.le_refl _))
  obtain ⟨vd, td, ve, te, rfl, h⟩ := h
  obtain ⟨Ad, cd, Ae, ce, rfl, rfl, hb1, hb2, hb3, hb4⟩ := h.cells
  have c2 := h.row.cell 2
  have hn := eql_qnil
  clear h hb1 hb2 hb3 hb4
  go_enter Try.func25, Try.ntmps25
  go_wp2_with fail
  refine HU.out.mono ?_
  rintro e w' ⟨v, rfl, hd⟩
  go_wp2
  go_ret
  exact ⟨_, rfl, hd⟩
theorem left_nil (w : World) : Calls Try.prog 25 #[.pointer none] w fun e w' => e = .returned (.slice none 0 0) ∧ w = w' := by
  have hn := eql_qnil
  go_enter Try.func25, Try.ntmps25
  go_wp2
  go_ret
  exact ⟨rfl, rfl⟩
end Go.Proofs.Ytgahnediigmihaa
