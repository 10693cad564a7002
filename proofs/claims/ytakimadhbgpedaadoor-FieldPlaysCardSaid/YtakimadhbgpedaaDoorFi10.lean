/- The law's texts and fields, the document's Same, the law's known line. Conditions: as each says. -/
import Derived.Test.YtakimadhbgpedaaDoorFh10
import Derived.Test.YtakimadhbgpedaaDoorLowerR
namespace Go.Proofs.YtakimadhbgpedaaDoor
open Go.RowKit
set_option linter.unusedVariables false
set_option linter.unusedSimpArgs false

theorem bytes_eqB {a b : ByteArray} (h : a = b) : (a.toList == b.toList) = true ∧ (a.toList != b.toList) = false := by rw [h]; simp
theorem bytes_neB {a b : ByteArray} (h : a ≠ b) : (a.toList == b.toList) = false ∧ (a.toList != b.toList) = true := by
  have := bytes_neF h
  simpa using this
set_option maxRecDepth 10000 in
theorem texts_l (A B : List ByteArray) (va vb : Value) (w : World) (ha : SsAt w va A) (hb : SsAt w vb B) (hA : A.length ≤ 1000000) (hB : B.length ≤ 1000000) :
    Calls Tryd.prog 17 #[va, vb] w fun e w' => e = .returned (.bool (decide (A = B))) ∧ Drawn w w' := by
  by_cases hl : A.length = B.length
  · have h1 : ((A.length : Int) != (B.length : Int)) = false := by simp [hl]
    by_cases h0 : A.length = 0
    · obtain rfl : A = [] := List.eq_nil_of_length_eq_zero h0
      obtain rfl : B = [] := List.eq_nil_of_length_eq_zero (by rw [← hl]; rfl)
      obtain ⟨a, ca, rfl⟩ := ha.len
      obtain ⟨b, cb, rfl⟩ := hb.len
      clear ha hb
      go_enter Tryd.func17, Tryd.ntmps17
      go_wp2
      refine wp_loop_rounds 1 ?_
      rw [rounds_succ]
      go_wp2
      go_ret
      exact ⟨rfl, Drawn.refl _⟩
    · rcases ha with ⟨rfl, _⟩ | ⟨b1, o1, c1, rfl, -, -, hb1, hc1⟩
      · exact absurd rfl h0
      rcases hb with ⟨rfl, _⟩ | ⟨b2, o2, c2, rfl, -, -, hb2, hc2⟩
      · exact absurd hl h0
      have HL := Lib.hid hl
      have hl2 : A.length ≤ B.length := by omega
      clear hl h0
      have HC1 := Lib.hid hc1
      have HC2 := Lib.hid hc2
      clear hc1 hc2
      go_enter Tryd.func17, Tryd.ntmps17
      go_wp2
      go_loopw [5] (fun i wr => ∃ (k : Nat), k ≤ A.length ∧ i = .int .i64 k ∧ Drawn w wr ∧ ∀ j (h : j < A.length) (h2 : j < B.length), j < k → A[j] = B[j]) (fun i _ => A.length - (intOf i).toNat)
      case atStart => exact ⟨0, Nat.zero_le _, rfl, Drawn.refl _, fun j _ _ h => absurd h (by omega)⟩
      case round =>
        obtain ⟨k, hk, rfl, hd, hall⟩ := hrel
        have HA := Lib.hid hall
        clear hall
        by_cases hlt : k < A.length
        · have hlt2 : k < B.length := by omega
          have e1 : wr.cell? ⟨b1, o1 + k, none⟩ = some (.string A[k]) := by obtain ⟨m, rfl⟩ := hd; exact HC1.out k hlt
          have e2 : wr.cell? ⟨b2, o2 + k, none⟩ = some (.string B[k]) := by obtain ⟨m, rfl⟩ := hd; exact HC2.out k hlt2
          by_cases he : A[k] = B[k]
          · have hne := (bytes_eqB he).1
            have HE := Lib.hid he
            clear he
            go_wp2
            go_quiet (fail)
            go_wp2
            go_roundw
            case rel =>
              refine ⟨k + 1, by omega, by go_num, hd.more _, fun j h h2 hj => ?_⟩
              by_cases e : j = k
              · subst e; exact HE.out
              · exact HA.out j h h2 (by omega)
            case measure => simp [intOf]; omega
          · have hne := (bytes_neB he).1
            have HE := Lib.hid (decide_eq_false (show ¬ A = B from fun e => he (by subst e; rfl)))
            clear he
            go_wp2
            go_quiet (fail)
            go_wp2
            go_ret
            exact ⟨by rw [HE.out]; rfl, hd.more _⟩
        · have HE := Lib.hid (decide_eq_true (show A = B from List.ext_getElem HL.out fun j h h2 => HA.out j h h2 (by omega)))
          go_wp2
          go_ret
          exact ⟨by rw [HE.out]; rfl, hd⟩
  · have h1 : ((A.length : Int) != (B.length : Int)) = true := by simp; omega
    have HE := Lib.hid (decide_eq_false (show ¬ A = B from fun e => hl (by rw [e])))
    obtain ⟨a, ca, rfl⟩ := ha.len
    obtain ⟨b, cb, rfl⟩ := hb.len
    clear ha hb hl
    go_enter Tryd.func17, Tryd.ntmps17
    go_wp2
    go_ret
    exact ⟨by rw [HE.out]; rfl, Drawn.refl _⟩


set_option maxRecDepth 10000 in
set_option maxHeartbeats 1000000 in
theorem fields_l (A B : List FV) (va vb : Value) (w : World) (ha : FsAt w va A) (hb : FsAt w vb B) (hA : A.length ≤ 1000000) (hB : B.length ≤ 1000000) :
    Calls Tryd.prog 16 #[va, vb] w fun e w' => e = .returned (.bool (decide (A = B))) ∧ Drawn w w' := by
  by_cases hl : A.length = B.length
  · have h1 : ((A.length : Int) != (B.length : Int)) = false := by simp [hl]
    by_cases h0 : A.length = 0
    · obtain rfl : A = [] := List.eq_nil_of_length_eq_zero h0
      obtain rfl : B = [] := List.eq_nil_of_length_eq_zero (by rw [← hl]; rfl)
      obtain ⟨a, ca, rfl⟩ := ha.len
      obtain ⟨b, cb, rfl⟩ := hb.len
      clear ha hb
      go_enter Tryd.func16, Tryd.ntmps16
      go_wp2
      refine wp_loop_rounds 1 ?_
      rw [rounds_succ]
      go_wp2
      go_ret
      exact ⟨rfl, Drawn.refl _⟩
    · rcases ha with ⟨rfl, _⟩ | ⟨b1, o1, c1, rfl, -, hb1, hc1⟩
      · exact absurd rfl h0
      rcases hb with ⟨rfl, _⟩ | ⟨b2, o2, c2, rfl, -, hb2, hc2⟩
      · exact absurd hl h0
      have HL := Lib.hid hl
      have hl2 : A.length ≤ B.length := by omega
      clear hl h0
      have HC1 := Lib.hid hc1
      have HC2 := Lib.hid hc2
      clear hc1 hc2
      go_enter Tryd.func16, Tryd.ntmps16
      go_wp2
      go_loopw [5] (fun i wr => ∃ (k : Nat), k ≤ A.length ∧ i = .int .i64 k ∧ Drawn w wr ∧ ∀ j (h : j < A.length) (h2 : j < B.length), j < k → A[j] = B[j]) (fun i _ => A.length - (intOf i).toNat)
      case atStart => exact ⟨0, Nat.zero_le _, rfl, Drawn.refl _, fun j _ _ h => absurd h (by omega)⟩
      case round =>
        obtain ⟨k, hk, rfl, hd, hall⟩ := hrel
        have HA := Lib.hid hall
        clear hall
        by_cases hlt : k < A.length
        · have hlt2 : k < B.length := by omega
          have e1 : wr.cell? ⟨b1, o1 + k * 2, none⟩ = some (.string (A[k].1)) := by obtain ⟨m, rfl⟩ := hd; exact (HC1.out k hlt).1
          have e2 : wr.cell? ⟨b2, o2 + k * 2, none⟩ = some (.string (B[k].1)) := by obtain ⟨m, rfl⟩ := hd; exact (HC2.out k hlt2).1
          have e3 : wr.cell? ⟨b1, o1 + k * 2 + 1, none⟩ = some (.string (A[k].2)) := by obtain ⟨m, rfl⟩ := hd; exact (HC1.out k hlt).2
          have e4 : wr.cell? ⟨b2, o2 + k * 2 + 1, none⟩ = some (.string (B[k].2)) := by obtain ⟨m, rfl⟩ := hd; exact (HC2.out k hlt2).2
          by_cases he : A[k].1 = B[k].1
          · have hne := (bytes_eqB (show A[k].1 = B[k].1 by rw [he])).1
            by_cases he2 : A[k].2 = B[k].2
            · have hne2 := (bytes_eqB (show A[k].2 = B[k].2 by rw [he2])).1
              have HE := Lib.hid (show A[k] = B[k] from Prod.ext he he2)
              clear he he2
              go_wp2
              go_quiet (fail)
              go_wp2
              go_roundw
              case rel =>
                refine ⟨k + 1, by omega, by go_num, hd.more _, fun j h h2 hj => ?_⟩
                by_cases e : j = k
                · subst e; exact HE.out
                · exact HA.out j h h2 (by omega)
              case measure => simp [intOf]; omega
            · have hne2 := (bytes_neB he2).1
              have HE := Lib.hid (decide_eq_false (show ¬ A = B from fun e => he2 (by subst e; rfl)))
              clear he he2
              go_wp2
              go_quiet (fail)
              go_wp2
              go_ret
              exact ⟨by rw [HE.out]; rfl, hd.more _⟩
          · have hne := (bytes_neB he).1
            have HE := Lib.hid (decide_eq_false (show ¬ A = B from fun e => he (by subst e; rfl)))
            clear he
            go_wp2
            go_quiet (fail)
            go_wp2
            go_ret
            exact ⟨by rw [HE.out]; rfl, hd.more _⟩
        · have HE := Lib.hid (decide_eq_true (show A = B from List.ext_getElem HL.out fun j h h2 => HA.out j h h2 (by omega)))
          go_wp2
          go_ret
          exact ⟨by rw [HE.out]; rfl, hd⟩
  · have h1 : ((A.length : Int) != (B.length : Int)) = true := by simp; omega
    have HE := Lib.hid (decide_eq_false (show ¬ A = B from fun e => hl (by rw [e])))
    obtain ⟨a, ca, rfl⟩ := ha.len
    obtain ⟨b, cb, rfl⟩ := hb.len
    clear ha hb hl
    go_enter Tryd.func16, Tryd.ntmps16
    go_wp2
    go_ret
    exact ⟨by rw [HE.out]; rfl, Drawn.refl _⟩

theorem sameL_iff (a b : ByteArray) : sameL a b = ((⟨(lowL a.data.toList).toArray⟩ : ByteArray).toList == (⟨(lowL b.data.toList).toArray⟩ : ByteArray).toList) := by
  unfold sameL
  rw [ByteArray.toList_eq, ByteArray.toList_eq, Bool.eq_iff_iff, decide_eq_true_iff, beq_iff_eq]
theorem same_r (a b : ByteArray) {r : Bool} (h : sameL a b = r) (ha : a.size ≤ 1000000) (hb : b.size ≤ 1000000) (w : World) : Calls Tryd.prog 36 #[.string a, .string b] w fun e w' => e = .returned (.bool r) ∧ Mods [] w w' := by
  subst h
  rw [sameL_iff]
  have HA := Lib.hid (fun w => lower_r a w (by omega))
  have HB := Lib.hid (fun w => lower_r b w (by omega))
  obtain ⟨x, hx⟩ : ∃ x : ByteArray, x = ⟨(lowL a.data.toList).toArray⟩ := ⟨_, rfl⟩
  obtain ⟨y, hy⟩ : ∃ y : ByteArray, y = ⟨(lowL b.data.toList).toArray⟩ := ⟨_, rfl⟩
  rw [← hx] at HA ⊢
  rw [← hy] at HB ⊢
  clear hx hy
  go_enter Tryd.func36, Tryd.ntmps36
  go_wp2_with fail
  refine (HA.out _).mono ?_
  rintro e w1 ⟨rfl, hm⟩
  have M1 := Lib.hid (Mods.of_below (F := []) hm)
  clear hm
  go_wp2_with fail
  refine (HB.out _).mono ?_
  rintro e w2 ⟨rfl, hm⟩
  have M2 := Lib.hid (M1.out.trans (Mods.of_below (F := []) hm) (fun _ h => nomatch h))
  clear hm
  go_wp2
  go_ret
  exact ⟨rfl, M2.out⟩

def kHost : ByteArray := ⟨#[72, 111, 115, 116]⟩
def kA : ByteArray := ⟨#[97]⟩
def kB : ByteArray := ⟨#[98]⟩
def khost : ByteArray := ⟨#[104, 79, 83, 84]⟩
def khost2 : ByteArray := ⟨#[104, 111, 115, 116]⟩
theorem k1_ans : parR ⟨#[72, 111, 115, 116, 58, 32, 32, 97, 32]⟩ = ((kHost, kA), 0) := by decide +kernel
theorem k2_ans : parR ⟨#[97, 32, 98, 58, 32, 99]⟩ = (noF, 8) := by decide +kernel
theorem k3_ans : addF [] [(kHost, kA), (khost, kB)] = [(kHost, kA), (khost, kB)] := by decide +kernel
theorem k4_ans : getF [(kHost, kA), (khost, kB)] khost2 = ⟨#[97, 44, 32, 98]⟩ := by decide +kernel

theorem k1_par (w : World) : Calls Tryd.prog 9 #[.string { data := #[72, 111, 115, 116, 58, 32, 32, 97, 32] }] w fun e w' => e = .returned (.tuple #[.agg #[.string kHost, .string kA], .int .i64 0]) ∧ Mods [] w w' := by
  have h := parse_a ⟨#[72, 111, 115, 116, 58, 32, 32, 97, 32]⟩ w (by decide)
  unfold PAns at h
  rw [k1_ans] at h
  exact h
theorem k2_par (w : World) : Calls Tryd.prog 9 #[.string { data := #[97, 32, 98, 58, 32, 99] }] w fun e w' => e = .returned (.tuple #[.agg #[.string ⟨#[]⟩, .string ⟨#[]⟩], .int .i64 8]) ∧ Mods [] w w' := by
  have h := parse_a ⟨#[97, 32, 98, 58, 32, 99]⟩ w (by decide)
  unfold PAns at h
  rw [k2_ans] at h
  exact h
theorem k3_of (w : World) (b : Nat) (hb : b = w.heap.size) : Calls Tryd.prog 13 #[.slice (some ⟨b, 0, none⟩) 2 2] (w.alloc (.cells #[.string kHost, .string kA, .string khost, .string kB] 23)) fun e w' =>
    ∃ g u, e = .returned (ptr g) ∧ Fld 62 w' g u [(kHost, kA), (khost, kB)] ∧ Mods [] w w' := by
  subst hb
  have h := of_a (.slice (some ⟨w.heap.size, 0, none⟩) 2 2) [(kHost, kA), (khost, kB)] (w.alloc (.cells #[.string kHost, .string kA, .string khost, .string kB] 23)) (FsAt.new w 23 [(kHost, kA), (khost, kB)] (by decide) 2) (by decide)
    (by intro p hp; simp only [List.mem_cons, List.mem_nil_iff, or_false] at hp; rcases hp with rfl | rfl <;> decide)
  rw [k3_ans] at h
  exact h.mono fun e w' ⟨g, u, h1, h2⟩ => ⟨g, u, h1, h2.fld, ((Mods.refl [] w).alloc _).trans h2.mods (fun _ h => nomatch h)⟩
set_option maxRecDepth 10000 in
theorem known_l (w : World) : Calls Tryd.prog 11 #[] w fun e w' => e = .returned (.bool true) ∧ Mods [] w w' := by
  have HG := Lib.hid (fun (w : World) g u (h : Fld 62 w g u [(kHost, kA), (khost, kB)]) => get_a khost2 w h (by decide))
  rw [k4_ans] at HG
  have HO := Lib.hid k3_of
  unfold ptr at *
  go_enter Tryd.func11, Tryd.ntmps11
  go_wp2_with fail
  refine (k1_par _).mono ?_
  rintro e w1 ⟨rfl, hm⟩
  have M1 := Lib.hid hm
  clear hm
  go_wp2_with fail
  refine (k2_par _).mono ?_
  rintro e w2 ⟨rfl, hm⟩
  have M2 := Lib.hid hm
  have r2 := (Row.new w1 23 #[.string kHost, .string kA]).mods hm (by simp)
  have k0 := cell_alloc (r2.cell 0) (.cells #[.string ⟨#[]⟩, .string ⟨#[]⟩] 23)
  have k1 := cell_alloc (r2.cell 1) (.cells #[.string ⟨#[]⟩, .string ⟨#[]⟩] 23)
  have R2 := Lib.hid r2
  clear hm r2
  go_wp2_with fail
  refine (HO.out _ _ (by simp)).mono ?_
  rintro e w4 ⟨g, u, rfl, hf, hm⟩
  have HF := Lib.hid hf
  have M4 := Lib.hid ((((M1.out.alloc _).trans M2.out (fun _ h => nomatch h)).alloc _).trans hm (fun _ h => nomatch h))
  have e0 := cell_mods k0 hm (by simp)
  have e1 := cell_mods k1 hm (by simp)
  have hq1 : kHost.toList = [72, 111, 115, 116] := by rw [ByteArray.toList_eq]; rfl
  have hq2 : kA.toList = [97] := by rw [ByteArray.toList_eq]; rfl
  clear hf hm k0 k1
  go_wp2_with (go_at_call 20; refine (HG.out _ g u HF.out).mono ?_; rintro e w5 ⟨rfl, hm⟩; have M5 := Lib.hid (M4.out.trans hm (fun _ h => nomatch h)); clear hm)
  go_ret
  exact ⟨rfl, M5.out⟩
end Go.Proofs.YtakimadhbgpedaaDoor
