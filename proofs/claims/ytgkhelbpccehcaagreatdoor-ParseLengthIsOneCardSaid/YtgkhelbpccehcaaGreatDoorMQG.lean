/- bytes.HasSuffix, TrimSuffix and CutSuffix at a carriage return, bytes.Clone. Conditions: rows of at most a million bytes. -/
import Derived.Test.YtgkhelbpccehcaaGreatDoorMQF
import Derived.Deep.RegionHeld3
import Derived.BigRegion
import Derived.BigQuiet
import Derived.Lib.SliceRun
import Derived.Lib.SmallJoins
import Derived.Test.YtgkhelbpccehcaaGreatDoorMQA
import Derived.Deep.CutBlock
import Derived.Deep.DeepCutAuto
import Derived.Deep.RegionWith
import Derived.Test.YtgkhelbpccehcaaGreatDoorMQB
import Derived.Deep.RegionLaw
import Derived.Test.YtgkhelbpccehcaaGreatDoorSame
import Derived.Test.YtgkhelbpccehcaaGreatDoorMQE
import Derived.Test.YtgkhelbpccehcaaGreatDoorMQD
namespace Go.Proofs.YtgkhelbpccehcaaGreatDoor
open Go.RowKit
set_option linter.unusedVariables false
set_option linter.unusedSimpArgs false

theorem eq14 {a b : ByteArray} (h : a = b) : (a.toList == b.toList) = true := by rw [h]; simp
theorem ne14 {a b : ByteArray} (h : a ≠ b) : (a.toList == b.toList) = false := by
  rw [beq_eq_false_iff_ne]; intro e; exact h (bytes_ext (by rw [← ByteArray.toList_eq, e, ByteArray.toList_eq]))
theorem equal_b (A B : List UInt8) (va vb : Value) (w : World) (ha : BsAt w va A) (hb : BsAt w vb B) {r : Bool} (hr : decide (A = B) = r) :
    Calls Tryz.prog 85 #[va, vb] w fun e w' => e = .returned (.bool r) ∧ w = w' := by
  have h1 := ha.text
  have h2 := hb.text
  have hne : ((ofL A).toList == (ofL B).toList) = r := by
    rw [← hr]
    by_cases e : A = B
    · rw [decide_eq_true e]; exact eq14 (by rw [e])
    · rw [decide_eq_false e]; exact ne14 (fun h => e (ofL_inj h))
  obtain ⟨x, hx⟩ : ∃ x, x = ofL A := ⟨_, rfl⟩
  obtain ⟨y, hy⟩ : ∃ y, y = ofL B := ⟨_, rfl⟩
  rw [← hx] at h1 hne
  rw [← hy] at h2 hne
  clear hx hy hr
  obtain ⟨a, ca, rfl⟩ := ha.len
  obtain ⟨b, cb, rfl⟩ := hb.len
  clear ha hb
  go_enter Tryz.func85, Tryz.ntmps85
  go_wp2
  go_ret
  exact ⟨rfl, rfl⟩
/-- The bytes of a literal text. -/
theorem lit_at (w : World) (l : List UInt8) (fz : Nat × Nat) (h0 : 0 < l.length) (h : l.length ≤ 1000000000) : BsAt (w.alloc (.cells (bys l).toArray 5 fz)) (.slice (some ⟨w.heap.size, 0, none⟩) l.length l.length) l := by
  refine .inr ⟨_, 0, _, rfl, h0, by simp, Nat.le_refl _, by omega, fun j hj => ?_⟩
  rw [Nat.zero_add, cell_of_row _ w.heap.size j (bys l).toArray 5 fz (heap_alloc_new w _), List.getElem?_toArray]
  exact bys_at l j hj
theorem conv_lit (w : World) (C : Array Value) (n c g : Nat) (hg : g = w.heap.size) :
    (convert 22 22 (.slice (some ⟨g, 0, none⟩) n c)).run Tryz.prog (w.alloc (.cells C 5)) = .ok (.slice (some ⟨g, 0, none⟩) n c) (w.alloc (.cells C 5 (C.size, C.size + 1))) :=
  Go.Joins.run_convert_bytes_const_at (P := Tryz.prog) w 22 5 C n c g hg Tryz.underlying22 Tryz.underlying5
theorem conv_cr (w : World) : (convert 22 22 (.slice (some ⟨w.heap.size, 0, none⟩) 1 1)).run Tryz.prog (w.alloc (.cells #[.int .u8 13] 5)) = .ok (.slice (some ⟨w.heap.size, 0, none⟩) 1 1) (w.alloc (.cells #[.int .u8 13] 5 (1, 2))) :=
  conv_lit w #[.int .u8 13] 1 1 _ rfl
theorem cr_at (w : World) : BsAt (w.alloc (.cells #[.int .u8 13] 5 (1, 2))) (.slice (some ⟨w.heap.size, 0, none⟩) 1 1) [13] := lit_at w [13] (1, 2) (by decide) (by decide)
/-- Whether bytes end with a carriage return. -/
def crE (L : List UInt8) : Bool := decide (L.getLast? = some 13)
theorem crE_nil : crE [] = false := rfl
theorem crE_drop {L : List UInt8} (h : 0 < L.length) : decide (L.drop (L.length - 1) = [13]) = crE L := by
  unfold crE
  obtain ⟨M, c, rfl⟩ : ∃ M c, L = M ++ [c] := ⟨L.dropLast, L.getLast (List.length_pos_iff.1 h), (List.dropLast_concat_getLast _).symm⟩
  simp
set_option maxRecDepth 10000 in
theorem hassuf (L : List UInt8) (v : Value) (b : Nat) (w : World) (h : BsAt w v L) (hB : BsAt w (.slice (some ⟨b, 0, none⟩) 1 1) [13]) {r : Bool} (hr : crE L = r) :
    Calls Tryz.prog 63 #[v, .slice (some ⟨b, 0, none⟩) 1 1] w fun e w' => e = .returned (.bool r) ∧ w = w' := by
  rcases h with ⟨rfl, a, cap, rfl⟩ | ⟨g, off, cap, rfl, h0, hlt, h1, h2, hc⟩
  · rw [crE_nil] at hr
    subst hr
    clear hB
    go_enter Tryz.func63, Tryz.ntmps63
    go_wp2
    go_ret
    exact ⟨rfl, rfl⟩
  · have hA : BsAt w (.slice (some ⟨g, off, none⟩) L.length cap) L := .inr ⟨g, off, cap, rfl, h0, hlt, h1, h2, hc⟩
    obtain ⟨n, hn⟩ : ∃ n, L.length = n + 1 := ⟨L.length - 1, by omega⟩
    have hD := hA.from' (L.length - 1) (by omega) (A2 := some ⟨g, off + n, none⟩) (by rw [if_neg (by omega), Option.map_some, add_none, hn]; rfl) 1 (cap - n) (by omega) (by omega)
    have HE := Lib.hid (equal_b _ _ _ _ w hD hB (r := r) (by rw [← hr]; exact crE_drop h0))
    clear hD hB hA hc hr
    rw [hn] at h1 ⊢
    have hne : ¬ cap = n := by omega
    have hoff : (if cap = n then (some ⟨g, off, none⟩ : Option Addr) else Option.map (fun x : Addr => x.add n) (some ⟨g, off, none⟩)) = some ⟨g, off + n, none⟩ := by rw [if_neg hne, Option.map_some, add_none]
    clear hn hlt h0
    go_enter Tryz.func63, Tryz.ntmps63
    go_wp2_with (go_at_call 85; refine HE.out.mono ?_; rintro e w' ⟨rfl, rfl⟩)
    go_ret
    exact ⟨rfl, rfl⟩
set_option maxRecDepth 10000 in
theorem trimsuf (L : List UInt8) (A : Option Addr) (c b : Nat) (w : World) (h : BsAt w (.slice A L.length c) L) (hl : L.length ≤ 1000000) (hB : BsAt w (.slice (some ⟨b, 0, none⟩) 1 1) [13]) :
    Calls Tryz.prog 50 #[.slice A L.length c, .slice (some ⟨b, 0, none⟩) 1 1] w fun e w' => e = .returned (.slice A (cntT L) c) ∧ w = w' := by
  have hc : 0 < L.length → L.length ≤ c := fun h0 => by
    rcases h with ⟨rfl, _⟩ | ⟨_, _, _, hv, _, _, h1, _⟩
    · cases h0
    · injection hv with _ _ e; omega
  cases hr : crE L with
  | false =>
    have HS := Lib.hid (hassuf L _ b w h hB hr)
    have HT := Lib.hid (show cntT L = L.length by unfold cntT; rw [if_neg]; unfold crE at hr; exact of_decide_eq_false hr)
    clear h hB hr hc
    go_enter Tryz.func50, Tryz.ntmps50
    go_wp2_with (go_at_call 63; refine HS.out.mono ?_; rintro e w' ⟨rfl, rfl⟩)
    go_ret
    exact ⟨by rw [HT.out]; rfl, rfl⟩
  | true =>
    have HS := Lib.hid (hassuf L _ b w h hB hr)
    have h0 : 0 < L.length := by
      cases L with
      | nil => cases hr
      | cons x r => simp
    have HT := Lib.hid (show cntT L = L.length - 1 by unfold cntT; rw [if_pos]; unfold crE at hr; exact of_decide_eq_true hr)
    have hc2 := hc h0
    clear hc
    obtain ⟨n, hn⟩ : ∃ n, L.length = n + 1 := ⟨L.length - 1, by omega⟩
    have hn2 : n ≤ 1000000 := by omega
    rw [hn] at HS HT hc2 ⊢
    clear h hB hr hl hn h0
    go_enter Tryz.func50, Tryz.ntmps50
    go_wp2_with (go_at_call 63; refine HS.out.mono ?_; rintro e w' ⟨rfl, rfl⟩)
    go_ret
    exact ⟨by rw [HT.out]; rfl, rfl⟩
set_option maxRecDepth 10000 in
theorem cutsuf (L : List UInt8) (A : Option Addr) (c b : Nat) (w : World) (h : BsAt w (.slice A L.length c) L) (hl : L.length ≤ 1000000) (hB : BsAt w (.slice (some ⟨b, 0, none⟩) 1 1) [13]) :
    Calls Tryz.prog 61 #[.slice A L.length c, .slice (some ⟨b, 0, none⟩) 1 1] w fun e w' => e = .returned (.tuple #[.slice A (cntT L) c, .bool (crE L)]) ∧ w = w' := by
  have hc : 0 < L.length → L.length ≤ c := fun h0 => by
    rcases h with ⟨rfl, _⟩ | ⟨_, _, _, hv, _, _, h1, _⟩
    · cases h0
    · injection hv with _ _ e; omega
  cases hr : crE L with
  | false =>
    have HS := Lib.hid (hassuf L _ b w h hB hr)
    have HT := Lib.hid (show cntT L = L.length by unfold cntT; rw [if_neg]; unfold crE at hr; exact of_decide_eq_false hr)
    clear h hB hr hc
    go_enter Tryz.func61, Tryz.ntmps61
    go_wp2_with (go_at_call 63; refine HS.out.mono ?_; rintro e w' ⟨rfl, rfl⟩)
    go_ret2
    exact ⟨by rw [HT.out]; rfl, rfl⟩
  | true =>
    have HS := Lib.hid (hassuf L _ b w h hB hr)
    have h0 : 0 < L.length := by
      cases L with
      | nil => cases hr
      | cons x r => simp
    have HT := Lib.hid (show cntT L = L.length - 1 by unfold cntT; rw [if_pos]; unfold crE at hr; exact of_decide_eq_true hr)
    have hc2 := hc h0
    clear hc
    obtain ⟨n, hn⟩ : ∃ n, L.length = n + 1 := ⟨L.length - 1, by omega⟩
    have hn2 : n ≤ 1000000 := by omega
    rw [hn] at HS HT hc2 ⊢
    clear h hB hr hl hn h0
    go_enter Tryz.func61, Tryz.ntmps61
    go_wp2_with (go_at_call 63; refine HS.out.mono ?_; rintro e w' ⟨rfl, rfl⟩)
    go_ret2
    exact ⟨by rw [HT.out]; rfl, rfl⟩
set_option maxRecDepth 10000 in
theorem clone_b (L : List UInt8) (v : Value) (w : World) (h : BsAt w v L) (hl : L.length ≤ 1000000) :
    Calls Tryz.prog 66 #[v] w fun e w' => ∃ u, e = .returned u ∧ Hid (GB w L u w') := by
  obtain ⟨A, c, rfl⟩ := h.len
  have hnil := fun (a : Option Addr) (n : Nat) (w : World) => Go.Lib.run_eql_slice_nil (P := Tryz.prog) w 22 5 a n c 0 0 Tryz.underlying22
  cases A with
  | none =>
    have h0 : L = [] := by
      rcases h with ⟨e, _⟩ | ⟨_, _, _, hv, _⟩
      · exact e
      · injection hv with e; cases e
    subst h0
    clear h
    go_enter Tryz.func66, Tryz.ntmps66
    go_wp2
    go_ret
    exact ⟨_, rfl, Lib.hid (gb_nilB w)⟩
  | some A =>
    obtain ⟨a, n, c', w', hrun, hg⟩ := app_bs (gb_madeB w) (h.low ((Mods.refl [] w).alloc _)) (by simp; omega)
    have HG := Lib.hid hg
    clear hg h
    go_enter Tryz.func66, Tryz.ntmps66
    go_wp2_with (at_builtin; refine wpList_run_app2 rfl (.tmp 5) (.tmp 6) 22 22 rfl rfl rfl hrun ?_)
    go_ret
    exact ⟨_, rfl, Lib.hid (by simpa using HG.out)⟩
end Go.Proofs.YtgkhelbpccehcaaGreatDoor

/- The code's size lines: digits, sizeOf, endSize. Conditions: texts of at most a million bytes. -/
namespace Go.Proofs.YtgkhelbpccehcaaGreatDoor
open Go.RowKit
set_option linter.unusedVariables false
set_option linter.unusedSimpArgs false

theorem hx_more {p : UInt8 → Bool} : ∀ {l : List UInt8} {k : Nat} (hk : k < l.length), k ≤ (l.takeWhile p).length → p l[k] = true → k + 1 ≤ (l.takeWhile p).length
  | c :: r, 0, _, _, hb => by
    have hb : p c = true := hb
    rw [List.takeWhile_cons, if_pos hb]; simp
  | c :: r, k + 1, hk, hle, hb => by
    by_cases hc : p c = true
    · rw [List.takeWhile_cons, if_pos hc] at hle ⊢
      simp only [List.length_cons] at hle ⊢
      have := hx_more (l := r) (k := k) (by simp at hk; omega) (by omega) hb
      omega
    · rw [List.takeWhile_cons, if_neg hc] at hle; simp at hle
theorem hx_stop {p : UInt8 → Bool} : ∀ {l : List UInt8} {k : Nat} (hk : k < l.length), k ≤ (l.takeWhile p).length → p l[k] = false → (l.takeWhile p).length = k
  | c :: r, 0, _, _, hb => by
    have hb : p c = false := hb
    rw [List.takeWhile_cons, if_neg (by rw [hb]; simp)]; rfl
  | c :: r, k + 1, hk, hle, hb => by
    by_cases hc : p c = true
    · rw [List.takeWhile_cons, if_pos hc] at hle ⊢
      simp only [List.length_cons] at hle ⊢
      have := hx_stop (l := r) (k := k) (by simp at hk; omega) (by omega) hb
      omega
    · rw [List.takeWhile_cons, if_neg hc] at hle; simp at hle
theorem hxs_le (l : List UInt8) : (hxs l).length ≤ l.length := by
  have := congrArg List.length (List.takeWhile_append_dropWhile (p := isHx) (l := l)); rw [List.length_append] at this; unfold hxs; omega
theorem hxs_take (l : List UInt8) : l.take (hxs l).length = hxs l := by
  have h := List.takeWhile_append_dropWhile (p := isHx) (l := l)
  unfold hxs
  conv => lhs; arg 2; rw [← h]
  rw [List.take_left']
  rfl
theorem hxs_isHx (l : List UInt8) : (hxs l).all isHx = true := by
  rw [List.all_eq_true]; intro x hx
  unfold hxs at hx
  induction l with
  | nil => simp at hx
  | cons c r ih =>
    rw [List.takeWhile_cons] at hx
    split at hx
    · rename_i hc
      rcases List.mem_cons.1 hx with rfl | hx
      · exact hc
      · exact ih hx
    · simp at hx
theorem isHx_lt {c : UInt8} (h : isHx c = true) : digB c < 16 := by unfold isHx at h; exact of_decide_eq_true h
/-- What digits make. -/
theorem numL_hx : ∀ (l : List UInt8) (n : Int), l.all isHx = true → 0 ≤ n → ∃ m : Nat, numL 16 n l = ((m : Int), true) ∧ (m : Int) < (n + 1) * 16 ^ l.length
  | [], n, _, hn => ⟨n.toNat, by rw [numL_nil, Int.toNat_of_nonneg hn], by rw [Int.toNat_of_nonneg hn]; simp; omega⟩
  | c :: r, n, h, hn => by
    rw [List.all_cons, Bool.and_eq_true] at h
    have h16 := isHx_lt h.1
    have h0 := (digB_le c).1
    obtain ⟨m, hm, hlt⟩ := numL_hx r (n * 16 + digB c) h.2 (by omega)
    refine ⟨m, by rw [numL_good h16, hm], Int.lt_of_lt_of_le hlt ?_⟩
    rw [List.length_cons, Int.pow_succ, ← Int.mul_assoc, Int.mul_right_comm]
    exact Int.mul_le_mul_of_nonneg_right (by omega) (Int.pow_nonneg (by decide))
theorem hx_num {l : List UInt8} (h0 : 0 < (hxs l).length) (h12 : (hxs l).length ≤ 12) : numB 16 12 (hxs l) = ((hxn l : Int), true) ∧ ((hxs l).length ≤ 6 → hxn l < 16777216) := by
  obtain ⟨m, hm, hlt⟩ := numL_hx (hxs l) 0 (hxs_isHx l) (Int.le_refl _)
  have e : numB 16 12 (hxs l) = ((m : Int), true) := by
    unfold numB
    rw [if_neg, hm]
    rintro (e | e)
    · rw [e] at h0; cases h0
    · omega
  have hn : hxn l = m := by unfold hxn; rw [e]; simp
  refine ⟨by rw [e, hn], fun h6 => ?_⟩
  rw [hn]
  have : (16 : Int) ^ (hxs l).length ≤ 16 ^ 6 := by
    exact_mod_cast Nat.pow_le_pow_right (by decide) h6
  have h3 : (16 : Int) ^ 6 = 16777216 := by decide
  have h4 : (0 + 1 : Int) * 16 ^ (hxs l).length = 16 ^ (hxs l).length := by rw [Int.zero_add, Int.one_mul]
  omega
theorem hx_out {l : List UInt8} (h : (hxs l).length = 0 ∨ 12 < (hxs l).length) : numB 16 12 (hxs l) = (0, false) := by
  unfold numB
  rw [if_pos]
  rcases h with h | h
  · exact .inl (List.eq_nil_of_length_eq_zero h)
  · exact .inr h
theorem szO_lt {l : List UInt8} : (szO l).1 < 16777216 := by
  unfold szO
  split
  · decide
  · rename_i h
    rw [not_or] at h
    split
    · decide
    · exact (hx_num (l := l) (by omega) (by omega)).2 (by omega)

theorem pwSz : pw 16 12 ≤ 9007199254740992 := by decide +kernel
theorem hexA (s : ByteArray) (w : World) (hs : s.size ≤ 1000000) {p : Int × Bool} (h : numB 16 12 s.data.toList = p) : Calls Tryz.prog 166 #[.string s] w fun e w' => e = .returned (.tuple #[.int .i64 p.1, .bool p.2]) ∧ w = w' := by
  have HN := Lib.hid (num_a s 16 12 w (by unfold maxLen; omega) (by decide) (by decide) pwSz (by decide))
  have HP := Lib.hid h
  clear h
  go_enter Tryz.func166, Tryz.ntmps166
  go_wp2_with (go_at_call 196; refine HN.out.mono ?_; rw [HP.out]; rintro e w' ⟨rfl, rfl⟩)
  go_ret2
  exact ⟨rfl, rfl⟩
theorem one_hx (c : UInt8) : ∃ a : Int, numB 16 12 [c] = (a, isHx c) := by
  unfold numB isHx
  rw [if_neg (by simp)]
  by_cases h : digB c < 16
  · rw [numL_good h, numL_nil, decide_eq_true h]; exact ⟨_, rfl⟩
  · rw [numL_bad (by omega), decide_eq_false h]; exact ⟨_, rfl⟩
theorem isdig (c : UInt8) (s : ByteArray) (h : s.data.toList = [c]) (w : World) : Calls Tryz.prog 195 #[.string s] w fun e w' => e = .returned (.bool (isHx c)) ∧ w = w' := by
  obtain ⟨a, ha⟩ := one_hx c
  have hsz : s.size ≤ 1000000 := by
    have h2 : s.data.toList.length = s.size := rfl
    rw [h] at h2; simp only [List.length_cons, List.length_nil] at h2; omega
  have HX := Lib.hid (hexA s w hsz (p := (a, isHx c)) (by rw [h]; exact ha))
  clear ha h hsz
  go_enter Tryz.func195, Tryz.ntmps195
  go_wp2_with (go_at_call 166; refine HX.out.mono ?_; rintro e w' ⟨rfl, rfl⟩)
  go_ret
  exact ⟨rfl, rfl⟩
theorem ext_one14 (s : ByteArray) (k : Nat) (h : k < s.size) : (s.extract k (k + 1)).data.toList = [s[k]] := by
  rw [ByteArray.data_extract, Array.toList_extract]
  simp only [List.extract]
  rw [show k + 1 - k = 1 by omega, List.drop_eq_getElem_cons (show k < s.data.toList.length from h)]
  rfl
set_option maxRecDepth 10000 in
theorem digits_c (s : ByteArray) (hs : s.size ≤ 1000000) (w : World) : Calls Tryz.prog 165 #[.string s] w fun e w' => e = .returned (.int .i64 (hxs s.data.toList).length) ∧ w = w' := by
  obtain ⟨l, hl⟩ : ∃ l, l = s.data.toList := ⟨_, rfl⟩
  have HL := Lib.hid hl
  have HLE := Lib.hid (show (hxs l).length ≤ s.size by have := hxs_le l; rw [hl] at this ⊢; exact this)
  rw [← hl]
  clear hl
  go_enter Tryz.func165, Tryz.ntmps165
  go_wp2
  go_loopw [3] (fun i wr => ∃ (k : Nat), k ≤ s.size ∧ i = .int .i64 k ∧ k ≤ (hxs l).length ∧ w = wr) (fun i _ => s.size - (intOf i).toNat)
  case atStart => exact ⟨0, Nat.zero_le _, rfl, Nat.zero_le _, rfl⟩
  case round =>
    obtain ⟨k, hk, rfl, hkx, rfl⟩ := hrel
    have HKX := Lib.hid hkx
    clear hkx
    by_cases hlt : k < s.size
    · have hkl : k < l.length := by rw [HL.out]; exact hlt
      have hlk : l[k] = s[k] := by have := HL.out; subst this; rfl
      have HI := Lib.hid (fun w => isdig s[k] (s.extract k (k + 1)) (ext_one14 s k hlt) w)
      cases hx : isHx s[k] with
      | true =>
        rw [hx] at HI
        have HM := Lib.hid (hx_more (p := isHx) hkl HKX.out (by rw [hlk]; exact hx))
        clear hx hlk hkl
        go_wp2_with (go_at_call 195; refine (HI.out _).mono ?_; rintro e w' ⟨rfl, rfl⟩)
        go_roundw
        case rel => exact ⟨k + 1, by omega, by go_num, HM.out, by first | rfl | trivial⟩
        case measure => simp [intOf]; omega
      | false =>
        rw [hx] at HI
        have HM := Lib.hid (hx_stop (p := isHx) hkl HKX.out (by rw [hlk]; exact hx))
        clear hx hlk hkl
        go_wp2_with (go_at_call 195; refine (HI.out _).mono ?_; rintro e w' ⟨rfl, rfl⟩)
        go_ret
        exact ⟨by rw [show (hxs l).length = k from HM.out]; rfl, by first | rfl | trivial⟩
    · have HM := Lib.hid (show (hxs l).length = k by have := HLE.out; have := HKX.out; omega)
      go_wp2
      go_ret
      exact ⟨by rw [HM.out]; rfl, by first | rfl | trivial⟩
theorem params_b (s : ByteArray) (w : World) (hs : s.size ≤ 1000000) {r : Bool} (hr : (parsL s.data.toList).isSome = r) : Calls Tryz.prog 167 #[.string s] w fun e w' => ∃ a n c, e = .returned (.tuple #[.slice a n c, .bool r]) ∧ Mods [] w w' :=
  (params_a s w hs).mono fun e w' h => by
    obtain ⟨hb, h⟩ := h
    subst hr
    cases hp : parsL s.data.toList with
    | none => rw [hp] at h; exact ⟨none, 0, 0, h, Mods.of_below hb⟩
    | some ps =>
      rw [hp] at h
      obtain ⟨v, he, ho⟩ := h
      rcases ho.2 with ⟨rfl, _⟩ | ⟨g, cap, cur, rfl, _⟩
      · exact ⟨none, 0, 0, he, Mods.of_below hb⟩
      · exact ⟨_, _, _, he, Mods.of_below hb⟩
set_option maxRecDepth 10000 in
set_option maxHeartbeats 1000000 in
theorem sizeof_c (s : ByteArray) (hs : s.size ≤ 1000000) (w : World) {p : Nat × Bool} (hp : szO s.data.toList = p) :
    Calls Tryz.prog 139 #[.string s] w fun e w' => e = .returned (.tuple #[.int .i64 p.1, .bool p.2]) ∧ Mods [] w w' := by
  have HD := Lib.hid (digits_c s hs w)
  obtain ⟨l, hl⟩ : ∃ l, l = s.data.toList := ⟨_, rfl⟩
  rw [← hl] at HD hp
  obtain ⟨n, hn⟩ : ∃ n, n = (hxs l).length := ⟨_, rfl⟩
  have hns : n ≤ s.size := by have := hxs_le l; rw [← hn, hl] at this; exact this
  have h0l : (s.extract 0 n).data.toList = hxs l := by
    rw [ByteArray.data_extract, Array.toList_extract]
    simp only [List.extract, List.drop_zero, Nat.sub_zero]
    rw [← hl, hn]; exact hxs_take l
  have h1l : (s.extract n s.size).data.toList = l.drop n := by rw [ext_drop, hl]
  have hz0 : (s.extract 0 n).size ≤ 1000000 := Nat.le_trans (ext_sizeF _ _ _) hs
  have hz1 : (s.extract n s.size).size ≤ 1000000 := Nat.le_trans (ext_sizeF _ _ _) hs
  rw [← hn] at HD
  by_cases hout : n = 0 ∨ 12 < n
  · have HX := Lib.hid (hexA (s.extract 0 n) w hz0 (p := (0, false)) (by rw [h0l]; exact hx_out (by rw [← hn]; exact hout)))
    obtain rfl : (0, false) = p := by rw [← hp]; unfold szO; rw [if_pos (by rw [← hn]; omega)]
    clear hp h0l h1l hz0 hz1 hl hn hout
    go_enter Tryz.func139, Tryz.ntmps139
    go_wp2_with (first
      | (go_at_call 165; refine HD.out.mono ?_; rintro e w' ⟨rfl, rfl⟩)
      | (go_at_call 166; refine HX.out.mono ?_; rintro e w' ⟨rfl, rfl⟩))
    go_ret2
    exact ⟨rfl, Mods.refl _ _⟩
  · rw [not_or] at hout
    have hv := hx_num (l := l) (by omega) (by omega)
    have HX := Lib.hid (hexA (s.extract 0 n) w hz0 (p := ((hxn l : Int), true)) (by rw [h0l]; exact hv.1))
    by_cases h6 : 6 < n
    · obtain rfl : (0, false) = p := by rw [← hp]; unfold szO; rw [if_pos (by rw [← hn]; omega)]
      clear hp h0l h1l hz0 hz1 hl hn hout hv
      generalize hxn l = x at *
      go_enter Tryz.func139, Tryz.ntmps139
      go_wp2_with (first
        | (go_at_call 165; refine HD.out.mono ?_; rintro e w' ⟨rfl, rfl⟩)
        | (go_at_call 166; refine HX.out.mono ?_; rintro e w' ⟨rfl, rfl⟩))
      go_ret2
      exact ⟨rfl, Mods.refl _ _⟩
    · cases hpl : parsL (l.drop n) with
      | none =>
        have HP := Lib.hid (params_b (s.extract n s.size) w hz1 (r := false) (by rw [h1l, hpl]; rfl))
        obtain rfl : (0, false) = p := by rw [← hp]; unfold szO; rw [if_neg (by rw [← hn]; omega), ← hn, if_pos hpl]
        clear hp h0l h1l hz0 hz1 hl hn hout hv hpl
        generalize hxn l = x at *
        go_enter Tryz.func139, Tryz.ntmps139
        go_wp2_with (first
          | (go_at_call 165; refine HD.out.mono ?_; rintro e w' ⟨rfl, rfl⟩)
          | (go_at_call 166; refine HX.out.mono ?_; rintro e w' ⟨rfl, rfl⟩)
          | (go_at_call 167; refine HP.out.mono ?_; rintro e w1 ⟨pa, pn, pc, rfl, hm⟩; have M1 := Lib.hid hm; clear hm))
        go_ret2
        exact ⟨rfl, M1.out⟩
      | some ps =>
        have HP := Lib.hid (params_b (s.extract n s.size) w hz1 (r := true) (by rw [h1l, hpl]; rfl))
        obtain rfl : (hxn l, true) = p := by rw [← hp]; unfold szO; rw [if_neg (by rw [← hn]; omega), ← hn, if_neg (by rw [hpl]; simp)]
        clear hp h0l h1l hz0 hz1 hl hn hout hv hpl
        generalize hxn l = x at *
        go_enter Tryz.func139, Tryz.ntmps139
        go_wp2_with (first
          | (go_at_call 165; refine HD.out.mono ?_; rintro e w' ⟨rfl, rfl⟩)
          | (go_at_call 166; refine HX.out.mono ?_; rintro e w' ⟨rfl, rfl⟩)
          | (go_at_call 167; refine HP.out.mono ?_; rintro e w1 ⟨pa, pn, pc, rfl, hm⟩; have M1 := Lib.hid hm; clear hm))
        go_ret2
        exact ⟨rfl, M1.out⟩
/-- A size line is weighed. -/
theorem took_bad {g : Nat} {vl vb vt : Value} {w w' : World} {r : ChP} {L : List UInt8} {left e : Nat} {last : Bool} (c : CkC g vl vb vt w L left last e r.body r.trail false 0) (hw : r.whole = false) (hm : Mods [] w w') (n : Int) (hn : n ≠ 0) : TookC g vl vb vt w { r with status := n } w' :=
  ⟨vl, vb, vt, L, left, last, e, (show CkC g vl vb vt w' L left last e r.body r.trail r.whole 0 from by rw [hw]; exact c.low hm), fun h => absurd (done_no h).2 hn, Grew.of_low hm⟩
set_option maxRecDepth 10000 in
set_option maxHeartbeats 1000000 in
theorem endsize_c {g : Nat} {vl vb vt : Value} {w : World} {r : ChP} (s : ByteArray) (hs : s.size ≤ 1000000) (c : CkC g vl vb vt w [] 0 false r.ends r.body r.trail false 0) (o : ChOk r) (h0 : r.state = 0) (hl : r.line = []) (hw : r.whole = false) (hst : r.status = 0) {r' : ChP} (hr : sizeP r s.data.toList = r') :
    Calls Tryz.prog 111 #[ptr g, .string s] w fun z w' => z = .returned (.int .i64 r'.status) ∧ Hid (TookC g vl vb vt w r' w') := by
  have HZ := Lib.hid (sizeof_c s hs w rfl)
  have hx := szO_lt (l := s.data.toList)
  have hb := o.body
  obtain ⟨A, cp, rfl, -, -⟩ := c.body.form
  obtain ⟨⟨x, ok⟩, hp⟩ : ∃ p, p = szO s.data.toList := ⟨_, rfl⟩
  rw [← hp] at HZ hx
  simp only at hx
  have C := Lib.hid c
  have O := Lib.hid (show ∀ w1, Mods [] w w1 → w1.cell? ⟨g, 2, none⟩ = some (.slice A r.body.length cp) from fun w1 hm => (CkC.facts (c.low hm)).2.2.1)
  have O1 := Lib.hid (show ∀ w1, Mods [] w w1 → (∃ u, w1.cell? ⟨g, 1, none⟩ = some u) ∧ w1.frozen? ⟨g, 1, none⟩ = false from fun w1 hm => ⟨⟨_, (CkC.facts (c.low hm)).2.1⟩, (c.low hm).row.free 1⟩)
  have O3 := Lib.hid (show ∀ w1, Mods [] w w1 → (∃ u, w1.cell? ⟨g, 3, none⟩ = some u) ∧ w1.frozen? ⟨g, 3, none⟩ = false from fun w1 hm => ⟨⟨_, (CkC.facts (c.low hm)).2.2.2.1⟩, (c.low hm).row.free 3⟩)
  have HR := Lib.hid hr
  have HP := Lib.hid hp
  have HF := Lib.hid (And.intro hw (And.intro hst (And.intro h0 hl)))
  obtain ⟨nb, hnb⟩ : ∃ nb, nb = r.body.length := ⟨_, rfl⟩
  rw [← hnb] at hb O
  have HN := Lib.hid hnb
  clear c hr hp hw hst h0 hl o hnb
  unfold ptr
  cases ok with
  | false =>
    have HE := Lib.hid (show r' = { r with status := 400 } by rw [← HR.out]; exact sizeP_bad (by rw [← HP.out]))
    go_enter Tryz.func111, Tryz.ntmps111
    go_wp2_with (go_at_call 139; refine HZ.out.mono ?_; rintro e w1 ⟨rfl, hm⟩; have M1 := Lib.hid hm; clear hm)
    go_ret
    exact ⟨by rw [HE.out]; rfl, Lib.hid (by rw [HE.out]; exact took_bad C.out HF.out.1 M1.out 400 (by decide))⟩
  | true =>
    by_cases hmuch : 2048 < nb + x
    · have HE := Lib.hid (show r' = { r with status := 413 } by rw [← HR.out]; exact sizeP_much (by rw [← HP.out]) (by rw [← HP.out, ← HN.out]; exact hmuch))
      have hd : (2048 : Int) < (nb : Int) + (x : Int) := by omega
      clear hmuch
      go_enter Tryz.func111, Tryz.ntmps111
      go_wp2_with (go_at_call 139; refine HZ.out.mono ?_; rintro e w1 ⟨rfl, hm⟩; have M1 := Lib.hid hm; have d2 := O.out w1 hm; clear hm)
      go_ret
      exact ⟨by rw [HE.out]; rfl, Lib.hid (by rw [HE.out]; exact took_bad C.out HF.out.1 M1.out 413 (by decide))⟩
    · have hd : ¬ (2048 : Int) < (nb : Int) + (x : Int) := by omega
      by_cases hx0 : x = 0
      · have HE := Lib.hid (show r' = { r with state := 3 } by rw [← HR.out]; exact sizeP_last (by rw [← HP.out]) (by rw [← HP.out, ← HN.out]; exact hmuch) (by rw [← HP.out]; exact hx0))
        subst hx0
        clear hmuch
        go_enter Tryz.func111, Tryz.ntmps111
        go_wp2_with (go_at_call 139; refine HZ.out.mono ?_; rintro e w1 ⟨rfl, hm⟩; have M1 := Lib.hid hm; have d2 := O.out w1 hm; obtain ⟨⟨u3, d3⟩, f3⟩ := O3.out w1 hm; clear hm)
        go_ret
        refine ⟨by rw [HE.out]; show _ = Ending.returned (.int .i64 r.status); rw [HF.out.2.1]; rfl, Lib.hid ?_⟩
        rw [HE.out]
        have k := C.out.low M1.out
        exact ⟨_, _, vt, [], 0, true, r.ends, (show CkC g _ _ vt _ [] 0 true r.ends r.body r.trail r.whole 0 from by rw [HF.out.1]; exact k.set (cs' := ckCells 0 true r.ends false 0) 3 (.bool true) rfl), fun _ => ⟨by unfold lnC; rw [if_neg (by show ¬ ((3 : Nat) = 1 ∨ (3 : Nat) = 2); decide)]; exact HF.out.2.2.2.symm, rfl, rfl, rfl⟩, (Grew.of_low M1.out).trans (k.set_grew 3 _)⟩
      · have HE := Lib.hid (show r' = { r with state := 1, left := x } by rw [← HR.out, sizeP_more (by rw [← HP.out]) (by rw [← HP.out, ← HN.out]; exact hmuch) (by rw [← HP.out]; exact hx0), ← HP.out])
        have hxb : ((x : Int) == 0) = false := by rw [beq_eq_false_iff_ne]; omega
        clear hmuch
        go_enter Tryz.func111, Tryz.ntmps111
        go_wp2_with (go_at_call 139; refine HZ.out.mono ?_; rintro e w1 ⟨rfl, hm⟩; have M1 := Lib.hid hm; have d2 := O.out w1 hm; obtain ⟨⟨u1, d1⟩, f1⟩ := O1.out w1 hm; clear hm)
        go_ret
        refine ⟨by rw [HE.out]; show _ = Ending.returned (.int .i64 r.status); rw [HF.out.2.1]; rfl, Lib.hid ?_⟩
        rw [HE.out]
        have k := C.out.low M1.out
        exact ⟨_, _, vt, [], x + 2, false, r.ends, (show CkC g _ _ vt _ [] (x + 2) false r.ends r.body r.trail r.whole 0 from by rw [HF.out.1]; exact k.set (cs' := ckCells (x + 2) false r.ends false 0) 1 (.int .i64 ((x : Int) + 2)) rfl), fun _ => ⟨rfl, rfl, rfl, rfl⟩, (Grew.of_low M1.out).trans (k.set_grew 1 _)⟩
end Go.Proofs.YtgkhelbpccehcaaGreatDoor

/- A line weighed, a byte of a chunk taken, of the code. Conditions: lines of at most a thousand bytes, bodies of at most 2,048. -/
namespace Go.Proofs.YtgkhelbpccehcaaGreatDoor
open Go.RowKit
set_option linter.unusedVariables false
set_option linter.unusedSimpArgs false

theorem is14 (c : UInt8) (n : Nat) (z : Int) (hz : z = (n : Int)) (hn : n < 256) : (c = UInt8.ofNat n ∧ ((c.toNat : Int) == z) = true ∧ ((c.toNat : Int) != z) = false) ∨ (c ≠ UInt8.ofNat n ∧ ((c.toNat : Int) == z) = false ∧ ((c.toNat : Int) != z) = true) := by
  subst hz
  by_cases h : c = UInt8.ofNat n
  · left
    have : c.toNat = n := by rw [h, UInt8.toNat_ofNat']; omega
    exact ⟨h, by rw [this]; simp, by rw [this]; simp⟩
  · right
    have : c.toNat ≠ n := fun e => h (by rw [← e]; exact (UInt8.ofNat_toNat).symm)
    refine ⟨h, by rw [beq_eq_false_iff_ne]; omega, ?_⟩
    simp only [bne, Bool.not_eq_true', beq_eq_false_iff_ne]; omega
theorem wgS_low {e : Nat} {L : List UInt8} (h : ¬ 64 < cntT L) : wgS false e L = 0 := by unfold wgS; rw [if_pos rfl, if_neg h]
theorem wgS_bad {e : Nat} {L : List UInt8} (h : 64 < cntT L) : wgS false e L = 400 := by unfold wgS; rw [if_pos rfl, if_pos h]
theorem wgS_much {e : Nat} {L : List UInt8} (h : 256 < cntT L ∨ 512 < e + cntT L) : wgS true e L = 431 := by unfold wgS; rw [if_neg (by decide), if_pos h]
theorem wgS_fit {e : Nat} {L : List UInt8} (h : ¬ (256 < cntT L ∨ 512 < e + cntT L)) : wgS true e L = 0 := by unfold wgS; rw [if_neg (by decide), if_neg h]
theorem cntT_le (L : List UInt8) : cntT L ≤ L.length := by unfold cntT; split <;> omega
set_option maxRecDepth 10000 in
set_option maxHeartbeats 1000000 in
theorem weigh_c {g : Nat} {vl vb vt : Value} {w : World} {L B : List UInt8} {left e : Nat} {last whole : Bool} {T : List FV} {st : Int} (c : CkC g vl vb vt w L left last e B T whole st) (hl : L.length ≤ 1000) (he : e ≤ 1000) :
    Calls Tryz.prog 92 #[ptr g] w fun r w' => r = .returned (.int .i64 (wgS last e L)) ∧ Mods [] w w' := by
  obtain ⟨A, cp, rfl, -, -⟩ := c.line.form
  have m0 : Mods [] w (w.alloc (.cells #[.int .u8 13] 5 (1, 2))) := (Mods.refl [] w).alloc _
  have HT := Lib.hid (trimsuf L A cp w.heap.size _ (c.line.at.low m0) (by omega) (cr_at w))
  have M0 := Lib.hid m0
  have c0 : w.cell? ⟨g, 0, none⟩ = some (.slice A L.length cp) := (CkC.facts c).1
  have c2 := c.low m0
  have hle := cntT_le L
  have hn1 : cntT L ≤ 1000 := by omega
  clear m0 c hle hl
  have hcv := conv_cr w
  unfold ptr
  obtain ⟨W, hW⟩ : ∃ W, W = w.alloc (.cells #[.int .u8 13] 5 (1, 2)) := ⟨_, rfl⟩
  rw [← hW] at HT M0 c2 hcv
  have d3 : W.cell? ⟨g, 3, none⟩ = some (.bool last) := (CkC.facts c2).2.2.2.1
  have d4 : W.cell? ⟨g, 4, none⟩ = some (.int .i64 e) := (CkC.facts c2).2.2.2.2.1
  have HW := Lib.hid hW
  clear c2 hW
  go_enter Tryz.func92, Tryz.ntmps92
  go_upto_region 2 with (go_at_call 50; refine HT.out.mono ?_; rintro r w1 ⟨rfl, rfl⟩)
  clear c0
  have W0 := Lib.hid (fun h => wgS_low (e := e) (L := L) h)
  have W1 := Lib.hid (fun h => wgS_bad (e := e) (L := L) h)
  have W2 := Lib.hid (fun h => wgS_much (e := e) (L := L) h)
  have W3 := Lib.hid (fun h => wgS_fit (e := e) (L := L) h)
  generalize cntT L = n at *
  cases last with
  | false =>
    by_cases h1 : 64 < n
    · go_wp2
      go_ret
      exact ⟨by rw [W1.out h1]; rfl, M0.out⟩
    · go_wp2
      go_ret
      exact ⟨by rw [W0.out h1]; rfl, M0.out⟩
  | true =>
    by_cases h1 : 256 < n
    · go_wp2
      go_ret
      exact ⟨by rw [W2.out (.inl h1)]; rfl, M0.out⟩
    · by_cases h2 : 512 < e + n
      · have h3 : (512 : Int) < (e : Int) + (n : Int) := by omega
        go_wp2
        go_ret
        exact ⟨by rw [W2.out (.inr h2)]; rfl, M0.out⟩
      · have h3 : ¬ (512 : Int) < (e : Int) + (n : Int) := by omega
        go_wp2
        go_ret
        exact ⟨by rw [W3.out (fun h => h.elim h1 h2)]; rfl, M0.out⟩
set_option maxRecDepth 10000 in
set_option maxHeartbeats 1000000 in
/-- A byte of data. -/
theorem ofchunk_d {g : Nat} {vl vb vt : Value} {w : World} {L B : List UInt8} {n e : Nat} {last whole : Bool} {T : List FV} {st : Int} (x : UInt8) (c : CkC g vl vb vt w L (n + 1) last e B T whole st) (hn : 2 ≤ n) (hn2 : n ≤ 100000) (hB : B.length ≤ 100000) :
    Calls Tryz.prog 90 #[ptr g, .int .u8 (x.toNat : Int)] w fun r w' => r = .returned (.int .i64 0) ∧ Hid (∃ u, CkC g vl u vt w' L n last e (B ++ [x]) T whole st ∧ Grew (rdb g vl vb vt) (rdb g vl u vt) w w') := by
  obtain ⟨A, cp, rfl, -, -⟩ := c.body.form
  have c1 : w.cell? ⟨g, 1, none⟩ = some (.int .i64 ((n : Int) + 1)) := by have := (CkC.facts c).2.1; rw [this]; push_cast; rfl
  have f1 := c.row.free 1
  have k1 := c.set (cs' := ckCells n last e whole st) 1 (.int .i64 (n : Int)) rfl
  have G1 := Lib.hid (c.set_grew 1 (.int .i64 (n : Int)))
  obtain ⟨W, hW⟩ : ∃ W, W = w.setCell ⟨g, 1, none⟩ (.int .i64 (n : Int)) := ⟨_, rfl⟩
  rw [← hW] at k1 G1
  have d1 : W.cell? ⟨g, 1, none⟩ = some (.int .i64 (n : Int)) := (CkC.facts k1).2.1
  have d2 : W.cell? ⟨g, 2, none⟩ = some (.slice A B.length cp) := (CkC.facts k1).2.2.1
  obtain ⟨b, c', w4, hrun, hrow, hm, hb⟩ := app_row k1.body (by omega) x
  have hng : g ∉ (Value.slice A B.length cp).ownBlock.toList := fun hk => k1.ne_b (by decide) g hk rfl
  have r4 := k1.row.mods hm hng
  have e2 : w4.cell? ⟨g, 2, none⟩ = some (.slice A B.length cp) := r4.cell 2
  have g2 := r4.free 2
  have hput := k1.putB (cs' := ckCells n last e whole st) hrow hm (fun k hk => by
    have hkb : k = b := by simpa [Value.ownBlock, eq_comm] using hk
    subst hkb
    rcases hb with h | h
    · exact .inl (by rw [← h]; simp)
    · exact .inr h) 2 rfl
  have HP := Lib.hid hput
  have hge : (2 : Int) ≤ (n : Int) := by omega
  clear c k1 hrow hm hb hng r4 hput hn
  unfold ptr
  go_enter Tryz.func90, Tryz.ntmps90
  go_upto_region 2 with fail
  rw [← hW]
  clear hW c1 f1
  go_wp2_with (at_builtin; refine wpList_run_app2 rfl (.tmp 21) (.tmp 23) 22 22 rfl rfl rfl hrun ?_)
  go_ret
  exact ⟨rfl, Lib.hid ⟨_, HP.out.1, G1.out.trans HP.out.2⟩⟩
set_option maxRecDepth 10000 in
/-- A byte of the end behind data. -/
theorem ofchunk_e {g : Nat} {vl vb vt : Value} {w : World} {L B : List UInt8} {n e : Nat} {last whole : Bool} {T : List FV} {st : Int} (x : UInt8) (c : CkC g vl vb vt w L (n + 1) last e B T whole st) (hn : n = 0 ∨ n = 1) {z : Int} (hz : (if x = (if n = 0 then 10 else 13) then 0 else 400) = z) :
    Calls Tryz.prog 90 #[ptr g, .int .u8 (x.toNat : Int)] w fun r w' => r = .returned (.int .i64 z) ∧ Hid (CkC g vl vb vt w' L n last e B T whole st ∧ Grew (rdb g vl vb vt) (rdb g vl vb vt) w w') := by
  have c1 : w.cell? ⟨g, 1, none⟩ = some (.int .i64 ((n : Int) + 1)) := by have := (CkC.facts c).2.1; rw [this]; push_cast; rfl
  have f1 := c.row.free 1
  have k1 := c.set (cs' := ckCells n last e whole st) 1 (.int .i64 (n : Int)) rfl
  have G1 := Lib.hid (c.set_grew 1 (.int .i64 (n : Int)))
  obtain ⟨W, hW⟩ : ∃ W, W = w.setCell ⟨g, 1, none⟩ (.int .i64 (n : Int)) := ⟨_, rfl⟩
  rw [← hW] at k1 G1
  have d1 : W.cell? ⟨g, 1, none⟩ = some (.int .i64 (n : Int)) := (CkC.facts k1).2.1
  have K1 := Lib.hid k1
  have hge : ¬ (2 : Int) ≤ (n : Int) := by omega
  have hn2 : n ≤ 1 := by omega
  clear c k1
  unfold ptr
  go_enter Tryz.func90, Tryz.ntmps90
  go_upto_region 2 with fail
  rw [← hW]
  clear hW c1 f1
  rcases hn with rfl | rfl
  · rcases is14 x 10 10 rfl (by decide) with ⟨ex, -, hx0⟩ | ⟨ex, -, hx0⟩
    · have hx : ((x.toNat : Int) != ((({ data := #[13, 10] } : ByteArray)[1]'(by decide)).toNat : Int)) = false := hx0
      obtain rfl : 0 = z := by rw [← hz, if_pos rfl, if_pos (show x = 10 from ex)]
      clear ex hz hx0
      go_wp2
      go_ret
      exact ⟨rfl, Lib.hid ⟨K1.out, G1.out⟩⟩
    · have hx : ((x.toNat : Int) != ((({ data := #[13, 10] } : ByteArray)[1]'(by decide)).toNat : Int)) = true := hx0
      obtain rfl : 400 = z := by rw [← hz, if_pos rfl, if_neg (show ¬ x = 10 from ex)]
      clear ex hz hx0
      go_wp2
      go_ret
      exact ⟨rfl, Lib.hid ⟨K1.out, G1.out⟩⟩
  · rcases is14 x 13 13 rfl (by decide) with ⟨ex, -, hx0⟩ | ⟨ex, -, hx0⟩
    · have hx : ((x.toNat : Int) != ((({ data := #[13, 10] } : ByteArray)[0]'(by decide)).toNat : Int)) = false := hx0
      obtain rfl : 0 = z := by rw [← hz, if_neg (show ¬ (1 : Nat) = 0 by decide), if_pos (show x = 13 from ex)]
      clear ex hz hx0
      go_wp2
      go_ret
      exact ⟨rfl, Lib.hid ⟨K1.out, G1.out⟩⟩
    · have hx : ((x.toNat : Int) != ((({ data := #[13, 10] } : ByteArray)[0]'(by decide)).toNat : Int)) = true := hx0
      obtain rfl : 400 = z := by rw [← hz, if_neg (show ¬ (1 : Nat) = 0 by decide), if_neg (show ¬ x = 13 from ex)]
      clear ex hz hx0
      go_wp2
      go_ret
      exact ⟨rfl, Lib.hid ⟨K1.out, G1.out⟩⟩
end Go.Proofs.YtgkhelbpccehcaaGreatDoor

/- A trailer's end, of the code. Conditions: lines of at most a thousand bytes. -/
namespace Go.Proofs.YtgkhelbpccehcaaGreatDoor
open Go.RowKit
set_option linter.unusedVariables false
set_option linter.unusedSimpArgs false

set_option maxRecDepth 10000 in
set_option maxHeartbeats 2000000 in
theorem endtrail_c {g : Nat} {vl vb vt : Value} {w : World} {r : ChP} (l : List UInt8) (hl0 : l ≠ []) (hlen : l.length ≤ 1000) (s : ByteArray) (hs : s = ofL l) (c : CkC g vl vb vt w [] 0 true r.ends r.body r.trail false 0) (o : ChOk r) (h3 : r.state = 3) (hl : r.line = []) (hw : r.whole = false) (hst : r.status = 0) {r' : ChP} (hr : trailP r l = r') :
    Calls Tryz.prog 112 #[ptr g, .string s] w fun z w' => z = .returned (.int .i64 r'.status) ∧ Hid (TookC g vl vb vt w r' w') := by
  have hsz : s.size = l.length := by rw [hs, ofL_size]
  have hs2 : s.size ≤ 1000 := by omega
  have HZ := Lib.hid (fparse_a s w (by omega))
  unfold FPAns at HZ
  have hps := fun h => parR_size (s := s) h
  obtain ⟨⟨⟨x, y⟩, er⟩, hp⟩ : ∃ p, p = parR s := ⟨_, rfl⟩
  have HPE := Lib.hid (show parR (ofL l) = ((x, y), er) by rw [← hs, ← hp])
  rw [← hp] at HZ hps
  simp only at HZ hps
  have C := Lib.hid c
  have HR := Lib.hid hr
  have HF := Lib.hid (And.intro hw (And.intro hst (And.intro h3 hl)))
  have OK := Lib.hid o
  have HSZ := Lib.hid hsz
  have H0 := Lib.hid hl0
  have he512 := o.ends
  have ht8 := o.len
  clear c hr hp hw hst h3 hl o hsz hs hlen hl0
  unfold ptr
  by_cases her : er = 0
  · subst her
    have HPS := Lib.hid (hps rfl)
    clear hps
    go_enter Tryz.func112, Tryz.ntmps112
    go_upto_region 2 with (go_at_call 110; refine HZ.out.mono ?_; rintro e w1 ⟨rfl, hm⟩; have M1 := Lib.hid (hm.alloc (.cells #[.string x, .string y] 81)); have RX := Lib.hid (Row.new w1 81 #[.string x, .string y]); clear hm)
    obtain ⟨Wa, hWa⟩ : ∃ Wa, Wa = w1.alloc (.cells #[.string x, .string y] 81) := ⟨_, rfl⟩
    obtain ⟨xb, hxb⟩ : ∃ xb, xb = w1.heap.size := ⟨_, rfl⟩
    rw [← hWa] at M1
    rw [← hWa, ← hxb] at RX ⊢
    clear hWa hxb w1
    have k1 := C.out.low M1.out
    have d4 : Wa.cell? ⟨g, 4, none⟩ = some (.int .i64 (r.ends : Int)) := (CkC.facts k1).2.2.2.2.1
    have f4 := k1.row.free 4
    obtain ⟨e2, he2⟩ : ∃ e2, e2 = r.ends + (s.size + 2) := ⟨_, rfl⟩
    have hz : (r.ends : Int) + ((s.size : Int) + 2) = (e2 : Int) := by omega
    have kb := k1.set (cs' := ckCells 0 true e2 false 0) 4 (.int .i64 (e2 : Int)) rfl
    have GB1 := Lib.hid ((Grew.of_low M1.out).trans (k1.set_grew 4 (.int .i64 (e2 : Int))))
    have hne : xb ≠ g := Row.type_ne RX.out k1.row (by decide)
    have rx := RX.out.far (p := ⟨g, 4, none⟩) hne (.int .i64 (e2 : Int))
    have HE2 := Lib.hid (show e2 = r.ends + (l.length + 2) by rw [he2, HSZ.out])
    have he3 : e2 ≤ 2000 := by omega
    have HZ2 := Lib.hid hz
    clear k1 he2 hz
    go_upto_region 5 with fail
    rw [HZ2.out]
    obtain ⟨Wb, hWb⟩ : ∃ Wb, Wb = Wa.setCell ⟨g, 4, none⟩ (.int .i64 (e2 : Int)) := ⟨_, rfl⟩
    rw [← hWb] at kb GB1 rx ⊢
    clear hWb d4 f4 hne
    have b4 : Wb.cell? ⟨g, 4, none⟩ = some (.int .i64 (e2 : Int)) := (CkC.facts kb).2.2.2.2.1
    have b5 : Wb.cell? ⟨g, 5, none⟩ = some vt := (CkC.facts kb).2.2.2.2.2.1
    obtain ⟨at_, ct, hvt⟩ : ∃ a c, vt = .slice a r.trail.length c := (FsAt.of_row kb.trail).len
    by_cases hmuch : r.trail.length = 8 ∨ 512 < e2
    · have HE := Lib.hid (show r' = { r with status := 431 } by rw [← HR.out]; exact trailP_much H0.out (by rw [HPE.out]) (by rw [← HE2.out]; exact hmuch))
      have HT := Lib.hid (show TookC g vl vb vt w { r with status := 431 } Wb from ⟨vl, vb, vt, [], 0, true, e2, (show CkC g vl vb vt Wb [] 0 true e2 r.body r.trail r.whole 0 from by rw [HF.out.1]; exact kb), fun h => absurd (done_no h).2 (by show ¬ (431 : Int) = 0; decide), GB1.out⟩)
      clear kb rx
      subst hvt
      obtain ⟨tn, htn⟩ : ∃ tn, tn = r.trail.length := ⟨_, rfl⟩
      rw [← htn] at hmuch b5 ht8
      clear htn
      by_cases h5 : 512 < e2
      · have h6 : (512 : Int) < (e2 : Int) := by omega
        clear hmuch
        go_wp2
        go_ret
        exact ⟨by rw [HE.out]; rfl, Lib.hid (by rw [HE.out]; exact HT.out)⟩
      · have h6 : ¬ (512 : Int) < (e2 : Int) := by omega
        obtain rfl : tn = 8 := by omega
        clear hmuch
        go_wp2
        go_ret
        exact ⟨by rw [HE.out]; rfl, Lib.hid (by rw [HE.out]; exact HT.out)⟩
    · have HE := Lib.hid (show r' = { r with ends := e2, trail := r.trail ++ [(x, y)] } by rw [← HR.out, trailP_more H0.out (by rw [HPE.out]) (by rw [← HE2.out]; exact hmuch), HPE.out, ← HE2.out])
      have h6 : ¬ (512 : Int) < (e2 : Int) := by omega
      have h8 : ((r.trail.length : Int) == 8) = false := by rw [beq_eq_false_iff_ne]; omega
      have k5 := kb.low ((Mods.refl [] Wb).drew)
      have KB := Lib.hid kb
      obtain ⟨b5', c5, w4, hrun, hown, hm4, hb4⟩ := app_fld k5.trail (by omega) (x, y)
      have x0 : Wb.cell? ⟨xb, 0, none⟩ = some (.string x) := rx.cell 0
      have x1 : Wb.cell? ⟨xb, 1, none⟩ = some (.string y) := rx.cell 1
      have e3 := cell_alloc b5 (.cells #[.string x, .string y] 81)
      have hng : g ∉ vt.ownBlock.toList := fun hk => k5.ne_t (by decide) g hk rfl
      have r4 := k5.row.mods hm4 hng
      have e4 : w4.cell? ⟨g, 5, none⟩ = some vt := r4.cell 5
      have f4 := r4.free 5
      have HPUT := Lib.hid (k5.putT (cs' := ckCells 0 true e2 false 0) hown hm4 (fun k hk => by
        have hkb : k = b5' := by simpa [Value.ownBlock, eq_comm] using hk
        subst hkb
        rcases hb4 with h | h
        · exact .inl (by rw [← h]; simp)
        · exact .inr h) 5 rfl)
      simp only [World.size_drew] at hrun
      change Sem.run _ _ (World.drew (World.alloc Wb _)) = _ at hrun
      subst hvt
      clear kb k5 hown hm4 hb4 r4 hng rx hmuch
      go_upto_region 7 with fail
      go_region_law (refine step_appF rfl rfl rfl rfl hrun ?_)
      all_goals
        clear hrun e3 e4 f4
        go_wp2
        go_ret
        refine ⟨by rw [HE.out]; show _ = Ending.returned (.int .i64 r.status); rw [HF.out.2.1]; rfl, Lib.hid ?_⟩
        rw [HE.out]
        have hg0 : Grew (rdb g vl vb (.slice at_ r.trail.length ct)) (rdb g vl vb (.slice at_ r.trail.length ct)) w Wb.drew := GB1.out.low ((Mods.refl [] Wb).drew)
        exact ⟨vl, vb, _, [], 0, true, e2, (show CkC g vl vb _ _ [] 0 true e2 r.body (r.trail ++ [(x, y)]) r.whole 0 from by rw [HF.out.1]; exact HPUT.out.1), fun _ => ⟨by unfold lnC; rw [if_neg (by show ¬ (r.state = 1 ∨ r.state = 2); rw [HF.out.2.2.1]; decide)]; exact HF.out.2.2.2.symm, by unfold lfC; rw [if_neg (by show ¬ r.state = 1; rw [HF.out.2.2.1]; decide), if_neg (by show ¬ r.state = 2; rw [HF.out.2.2.1]; decide)], by unfold laC; exact (decide_eq_true HF.out.2.2.1).symm, rfl⟩, hg0.trans HPUT.out.2⟩
  · have hne : (er != 0) = true := by simpa using her
    have HE := Lib.hid (show r' = { r with status := 400 } by rw [← HR.out]; exact trailP_bad H0.out (by rw [HPE.out]; exact her))
    clear hps her
    go_enter Tryz.func112, Tryz.ntmps112
    go_wp2_with (go_at_call 110; refine HZ.out.mono ?_; rintro e w1 ⟨rfl, hm⟩; have M1 := Lib.hid (hm.alloc (.cells #[.string x, .string y] 81)); clear hm)
    go_ret
    exact ⟨by rw [HE.out]; rfl, Lib.hid (by rw [HE.out]; exact took_bad C.out HF.out.1 M1.out 400 (by decide))⟩
end Go.Proofs.YtgkhelbpccehcaaGreatDoor

/- A line's end, a byte, of the code. Conditions: none but those of a reader. -/
namespace Go.Proofs.YtgkhelbpccehcaaGreatDoor
open Go.RowKit
set_option linter.unusedVariables false
set_option linter.unusedSimpArgs false

theorem TookC.since {g : Nat} {vl ul vb ub vt ut : Value} {w w1 w' : World} {r : ChP} (h : TookC g ul ub ut w1 r w') (hg : Grew (rdb g vl vb vt) (rdb g ul ub ut) w w1) : TookC g vl vb vt w r w' := by
  obtain ⟨xl, xb, xt, L, left, last, e, c, hr, hg2⟩ := h
  exact ⟨xl, xb, xt, L, left, last, e, c, hr, hg.trans hg2⟩
theorem cr_split {L : List UInt8} (h : crE L = true) : ∃ M, L = M ++ [13] ∧ cntT L = M.length := by
  unfold crE at h
  have h2 := of_decide_eq_true h
  have hne : L ≠ [] := by rintro rfl; cases h2
  refine ⟨L.dropLast, ?_, ?_⟩
  · have e := List.dropLast_concat_getLast hne
    rw [List.getLast?_eq_some_getLast hne] at h2
    injection h2 with h2
    rw [h2] at e; exact e.symm
  · unfold cntT; rw [if_pos h2, List.length_dropLast]
theorem endP_bad {r : ChP} (h : crE r.line = false) : endP r = { r with status := 400 } := by unfold crE at h; unfold endP; rw [if_neg (of_decide_eq_false h)]
theorem endP_size {r : ChP} {M : List UInt8} (h : r.line = M ++ [13]) (h0 : r.state = 0) : endP r = sizeP { r with line := [] } M := by
  unfold endP; rw [h, if_pos (by simp), if_pos h0, List.dropLast_concat]
theorem endP_trail {r : ChP} {M : List UInt8} (h : r.line = M ++ [13]) (h0 : r.state = 3) : endP r = trailP { r with line := [] } M := by
  unfold endP; rw [h, if_pos (by simp), if_neg (by omega), List.dropLast_concat]
set_option maxRecDepth 10000 in
set_option maxHeartbeats 2000000 in
theorem endline_c {g : Nat} {vl vb vt : Value} {w : World} {r : ChP} (c : CkC g vl vb vt w r.line 0 (laC r) r.ends r.body r.trail false 0) (o : ChOk r) (hs : r.state = 0 ∨ r.state = 3) (hw : r.whole = false) (hst : r.status = 0) {r' : ChP} (hr : endP r = r') :
    Calls Tryz.prog 91 #[ptr g] w fun z w' => z = .returned (.int .i64 r'.status) ∧ Hid (TookC g vl vb vt w r' w') := by
  obtain ⟨A, cp, rfl, hcp, -⟩ := c.line.form
  have hlen := o.line
  have m0 : Mods [] w (w.alloc (.cells #[.int .u8 13] 5 (1, 2))) := (Mods.refl [] w).alloc _
  have HT := Lib.hid (cutsuf r.line A cp w.heap.size _ (c.line.at.low m0) (by omega) (cr_at w))
  have hcv := conv_cr w
  have c0 : w.cell? ⟨g, 0, none⟩ = some (.slice A r.line.length cp) := (CkC.facts c).1
  have k1 := c.low m0
  have M0 := Lib.hid m0
  obtain ⟨W, hW⟩ : ∃ W, W = w.alloc (.cells #[.int .u8 13] 5 (1, 2)) := ⟨_, rfl⟩
  rw [← hW] at HT M0 k1 hcv
  have d0 : W.cell? ⟨g, 0, none⟩ = some (.slice A r.line.length cp) := (CkC.facts k1).1
  have f0 := k1.row.free 0
  have hput := k1.putL (cs' := ckCells 0 (laC r) r.ends false 0) (v' := .slice A 0 cp) k1.line.cut0 (Mods.refl _ W) (fun k hk => .inl (by rw [cut0_block A 0 cp r.line.length cp] at hk; exact hk)) 0 rfl
  have hbs := k1.line.at
  have hng : ∀ k ∈ (Value.slice A r.line.length cp).ownBlock.toList, k ≠ g := k1.ne_l (by decide)
  obtain ⟨Wb, hWb⟩ : ∃ Wb, Wb = W.setCell ⟨g, 0, none⟩ (.slice A 0 cp) := ⟨_, rfl⟩
  rw [← hWb] at hput
  have hbs2 : BsAt Wb (.slice A r.line.length cp) r.line := hbs.mods (F := [g]) (by rw [hWb]; exact (Mods.refl [g] W).setCell (.inl (by simp)) _) (fun k hk => by simpa using hng k hk)
  have KB := Lib.hid hput.1
  have GB1 := Lib.hid ((Grew.of_low M0.out).trans hput.2)
  have hl3 : Wb.cell? ⟨g, 3, none⟩ = some (.bool (laC r)) := (CkC.facts hput.1).2.2.2.1
  have hl6 : Wb.cell? ⟨g, 6, none⟩ = some (.bool false) := (CkC.facts hput.1).2.2.2.2.2.2.1
  have f6 := hput.1.row.free 6
  have BS := Lib.hid hbs2
  have HR := Lib.hid hr
  have OF := Lib.hid o.fresh
  have HF := Lib.hid (And.intro hw hst)
  obtain ⟨nl, hnl⟩ : ∃ nl, nl = r.line.length := ⟨_, rfl⟩
  have HNL := Lib.hid hnl
  rw [← hnl] at HT c0 d0 BS hlen hcp
  clear c k1 m0 hput hbs hng hbs2 hr hw hst o hnl hW
  unfold ptr
  have HBAD := Lib.hid (fun h => endP_bad (r := r) h)
  cases hcr : crE r.line with
  | false =>
    have HE := Lib.hid (show r' = { r with status := 400 } by rw [← HR.out]; exact HBAD.out hcr)
    rw [hcr] at HT
    clear hcr HBAD
    generalize cntT r.line = nt at *
    go_enter Tryz.func91, Tryz.ntmps91
    go_upto_region 2 with (go_at_call 61; refine HT.out.mono ?_; rintro z w1 ⟨rfl, rfl⟩)
    clear hcv c0
    go_upto_region 3 with fail
    rw [← hWb]
    clear hWb d0 f0
    go_wp2
    go_ret
    refine ⟨by rw [HE.out]; rfl, Lib.hid ?_⟩
    rw [HE.out]
    exact TookC.since (took_bad (r := r) KB.out HF.out.1 (Mods.refl [] _) 400 (by decide)) GB1.out
  | true =>
    rw [hcr] at HT
    obtain ⟨M, hM, hcm⟩ := cr_split hcr
    rw [hcm] at HT
    have hmn : M.length + 1 = nl := by rw [HNL.out, hM]; simp
    have BM := Lib.hid (show BsAt Wb (.slice A M.length cp) M by
      have := BS.out.to M.length (by omega)
      rw [hM] at this
      simpa using this)
    have hconv := BM.out.text
    have HM := Lib.hid hM
    have hml : M.length ≤ 256 := by omega
    clear hcr hM hcm HBAD
    rcases hs with h0 | h3
    · have hla : laC r = false := by unfold laC; rw [h0]; rfl
      have HE := Lib.hid (show sizeP { r with line := [] } M = r' by rw [← endP_size HM.out h0]; exact HR.out)
      rw [hla] at hl3 KB
      have HS := Lib.hid (endsize_c (r := { r with line := [] }) (ofL M) (by rw [ofL_size]; omega) KB.out OF.out h0 rfl HF.out.1 HF.out.2 (r' := r') (by rw [ofL_list]; exact HE.out))
      unfold ptr at HS
      clear hla h0
      obtain ⟨s, hsm⟩ : ∃ s, s = ofL M := ⟨_, rfl⟩
      rw [← hsm] at HS hconv
      clear hsm
      generalize M.length = ml at *
      go_enter Tryz.func91, Tryz.ntmps91
      go_upto_region 2 with (go_at_call 61; refine HT.out.mono ?_; rintro z w1 ⟨rfl, rfl⟩)
      clear hcv c0
      go_upto_region 3 with fail
      rw [← hWb]
      clear hWb d0 f0
      go_wp2_with (go_at_call 111; refine HS.out.mono ?_; rintro z w2 ⟨rfl, hk⟩; have HK := Lib.hid hk.out; clear hk)
      go_ret
      exact ⟨rfl, Lib.hid (TookC.since HK.out GB1.out)⟩
    · have hla : laC r = true := by unfold laC; rw [h3]; rfl
      have HE := Lib.hid (show trailP { r with line := [] } M = r' by rw [← endP_trail HM.out h3]; exact HR.out)
      rw [hla] at hl3 KB
      by_cases hm0 : M = []
      · subst hm0
        have HE2 := Lib.hid (show r' = { r with line := [], whole := true } by rw [← HE.out, trailP_end])
        have HK := Lib.hid (show TookC g (.slice A 0 cp) vb vt Wb { r with line := [], whole := true } (Wb.setCell ⟨g, 6, none⟩ (.bool true)) from ⟨.slice A 0 cp, vb, vt, [], 0, true, r.ends, KB.out.set 6 (.bool true) rfl, fun h => absurd (done_no h).1 (by show ¬ true = false; decide), KB.out.set_grew 6 _⟩)
        clear hla h3
        simp only [List.length_nil] at HT hmn hml
        have hmn2 : nl ≤ 1 := by omega
        clear hconv hmn
        go_enter Tryz.func91, Tryz.ntmps91
        go_upto_region 2 with (go_at_call 61; refine HT.out.mono ?_; rintro z w1 ⟨rfl, rfl⟩)
        clear hcv c0
        go_upto_region 3 with fail
        rw [← hWb]
        clear hWb d0 f0
        go_wp2
        go_ret
        refine ⟨by rw [HE2.out]; show _ = Ending.returned (.int .i64 r.status); rw [HF.out.2]; rfl, Lib.hid ?_⟩
        rw [HE2.out]
        exact TookC.since HK.out GB1.out
      · have HS := Lib.hid (endtrail_c (r := { r with line := [] }) M hm0 (by omega) (ofL M) rfl KB.out OF.out h3 rfl HF.out.1 HF.out.2 (r' := r') HE.out)
        unfold ptr at HS
        have hpos := List.length_pos_iff.2 hm0
        clear hla h3
        obtain ⟨s, hsm⟩ : ∃ s, s = ofL M := ⟨_, rfl⟩
        rw [← hsm] at HS hconv
        clear hsm hm0
        generalize M.length = ml at *
        go_enter Tryz.func91, Tryz.ntmps91
        go_upto_region 2 with (go_at_call 61; refine HT.out.mono ?_; rintro z w1 ⟨rfl, rfl⟩)
        clear hcv c0
        go_upto_region 3 with fail
        rw [← hWb]
        clear hWb d0 f0
        go_wp2_with (go_at_call 112; refine HS.out.mono ?_; rintro z w2 ⟨rfl, hk⟩; have HK := Lib.hid hk.out; clear hk)
        go_ret
        exact ⟨rfl, Lib.hid (TookC.since HK.out GB1.out)⟩
end Go.Proofs.YtgkhelbpccehcaaGreatDoor

/- A byte, bytes, of the code's reader; New, Body and Trailers. Conditions: rows of at most a million bytes. -/
namespace Go.Proofs.YtgkhelbpccehcaaGreatDoor
open Go.RowKit
set_option linter.unusedVariables false
set_option linter.unusedSimpArgs false

theorem one_1 {r : ChP} {x : UInt8} (h : r.state = 1) : oneP r x = dataP r x := by unfold oneP; rw [if_pos h]
theorem one_2 {r : ChP} {x : UInt8} (h : r.state = 2) : oneP r x = crlfP r x := by unfold oneP; rw [if_neg (by omega), if_pos h]
theorem one_end {r : ChP} (h : r.state = 0 ∨ r.state = 3) : oneP r 10 = endP r := by unfold oneP; rw [if_neg (by omega), if_neg (by omega), if_pos rfl]
theorem one_grow {r : ChP} {x : UInt8} (h : r.state = 0 ∨ r.state = 3) (hx : x ≠ 10) : oneP r x = growP r x := by unfold oneP; rw [if_neg (by omega), if_neg (by omega), if_neg hx]
theorem lf_1 {r : ChP} (h : r.state = 1) : lfC r = r.left + 1 + 1 := by unfold lfC; rw [if_pos h]
theorem lf_2a {r : ChP} (h : r.state = 2) (hl : r.line = []) : lfC r = 1 + 1 := by unfold lfC; rw [if_neg (by omega), if_pos h, if_pos hl]
theorem lf_2b {r : ChP} (h : r.state = 2) (hl : r.line = [13]) : lfC r = 0 + 1 := by unfold lfC; rw [if_neg (by omega), if_pos h, if_neg (by rw [hl]; simp)]
theorem lf_0 {r : ChP} (h : r.state = 0 ∨ r.state = 3) : lfC r = 0 := by unfold lfC; rw [if_neg (by omega), if_neg (by omega)]
theorem ln_12 {r : ChP} (h : r.state = 1 ∨ r.state = 2) : lnC r = [] := by unfold lnC; rw [if_pos h]
theorem ln_03 {r : ChP} (h : r.state = 0 ∨ r.state = 3) : lnC r = r.line := by unfold lnC; rw [if_neg (by omega)]
theorem la_no {r : ChP} (h : r.state ≠ 3) : laC r = false := by unfold laC; exact decide_eq_false h
theorem data_rel {r : ChP} (x : UInt8) (o : ChOk r) (h : r.state = 1) : RelC (dataP r x) [] (r.left + 1) false r.ends := fun _ => by
  have h1 := o.room h
  have hs : (dataP r x).state = 1 ∨ (dataP r x).state = 2 := by
    show (if r.left = 1 then 2 else 1) = 1 ∨ (if r.left = 1 then 2 else 1) = 2
    split <;> simp
  refine ⟨(ln_12 hs).symm, ?_, (la_no (by omega)).symm, rfl⟩
  by_cases h2 : r.left = 1
  · have e : (dataP r x).state = 2 := by show (if r.left = 1 then 2 else 1) = 2; rw [if_pos h2]
    have e2 : (dataP r x).line = [] := by show (if r.left = 1 then [] else r.line) = []; rw [if_pos h2]
    rw [lf_2a e e2, h2]
  · have e : (dataP r x).state = 1 := by show (if r.left = 1 then 2 else 1) = 1; rw [if_neg h2]
    rw [lf_1 e]; show r.left + 1 = r.left - 1 + 1 + 1; omega
set_option maxRecDepth 10000 in
set_option maxHeartbeats 2000000 in
theorem take_c {g : Nat} {vl vb vt : Value} {w : World} {r : ChP} (c : CkC g vl vb vt w (lnC r) (lfC r) (laC r) r.ends r.body r.trail false 0) (o : ChOk r) (hw : r.whole = false) (hst : r.status = 0) (x : UInt8) {r' : ChP} (hr : oneP r x = r') :
    Calls Tryz.prog 65 #[ptr g, .int .u8 (x.toNat : Int)] w fun z w' => z = .returned (.int .i64 r'.status) ∧ Hid (TookC g vl vb vt w r' w') := by
  have hst3 := o.st
  have hc1 : w.cell? ⟨g, 1, none⟩ = some (.int .i64 (lfC r : Nat)) := (CkC.facts c).2.1
  rcases (by omega : r.state = 1 ∨ r.state = 2 ∨ (r.state = 0 ∨ r.state = 3)) with h1 | h2 | h03
  · have hrm := o.room h1
    have hbd := o.body
    rw [lf_1 h1] at c hc1
    rw [ln_12 (.inl h1), la_no (by omega)] at c
    have HT := Lib.hid (ofchunk_d x c (by omega) (by omega) (by omega))
    have HE := Lib.hid (show dataP r x = r' by rw [← one_1 h1]; exact hr)
    have HRL := Lib.hid (data_rel x o h1)
    have HF := Lib.hid (And.intro hw hst)
    unfold ptr at HT ⊢
    have hpos : (0 : Int) < ((r.left + 1 + 1 : Nat) : Int) := by omega
    clear c o hr hw hst hst3 h1 hrm hbd
    generalize ((r.left + 1 + 1 : Nat) : Int) = z1 at *
    go_enter Tryz.func65, Tryz.ntmps65
    go_wp2_with (go_at_call 90; refine HT.out.mono ?_; rintro z w2 ⟨rfl, hk⟩; have HK := Lib.hid hk.out; clear hk)
    go_ret
    obtain ⟨u, k, hg⟩ := HK.out
    refine ⟨by rw [← HE.out]; show _ = Ending.returned (.int .i64 r.status); rw [HF.out.2]; rfl, Lib.hid ?_⟩
    rw [← HE.out]
    exact ⟨vl, u, vt, [], r.left + 1, false, r.ends, (show CkC g vl u vt w2 [] (r.left + 1) false r.ends (r.body ++ [x]) r.trail r.whole 0 from by rw [HF.out.1]; exact k), HRL.out, hg⟩
  · rcases o.crlf h2 with hl | hl
    · rw [lf_2a h2 hl] at c hc1
      rw [ln_12 (.inr h2), la_no (by omega)] at c
      have HE := Lib.hid (show (if x = 13 then { r with line := [13] } else { r with status := 400 } : ChP) = r' by rw [← hr, one_2 h2]; unfold crlfP; rw [if_pos hl])
      have HT := Lib.hid (ofchunk_e x c (.inr rfl) (z := r'.status) (by rw [← HE.out, if_neg (show ¬ (1 : Nat) = 0 by decide)]; by_cases h : x = 13
                                                                        · rw [if_pos h, if_pos h]; exact hst.symm
                                                                        · rw [if_neg h, if_neg h]))
      have HF := Lib.hid (And.intro hw (And.intro hst (And.intro h2 hl)))
      unfold ptr at HT ⊢
      clear c o hr hw hst hst3 h2 hl
      go_enter Tryz.func65, Tryz.ntmps65
      go_wp2_with (go_at_call 90; refine HT.out.mono ?_; rintro z w2 ⟨rfl, hk⟩; have HK := Lib.hid hk.out; clear hk)
      go_ret
      refine ⟨rfl, Lib.hid ?_⟩
      rw [← HE.out]
      by_cases h : x = 13
      · rw [if_pos h]
        exact ⟨vl, vb, vt, [], 1, false, r.ends, (show CkC g vl vb vt w2 [] 1 false r.ends r.body r.trail r.whole 0 from by rw [HF.out.1]; exact HK.out.1), fun _ => ⟨(ln_12 (r := { r with line := [13] }) (.inr HF.out.2.2.1)).symm, (lf_2b (r := { r with line := [13] }) HF.out.2.2.1 rfl).symm, (la_no (by show r.state ≠ 3; have := HF.out.2.2.1; omega)).symm, rfl⟩, HK.out.2⟩
      · rw [if_neg h]
        exact ⟨vl, vb, vt, [], 1, false, r.ends, (show CkC g vl vb vt w2 [] 1 false r.ends r.body r.trail r.whole 0 from by rw [HF.out.1]; exact HK.out.1), fun h => absurd (done_no h).2 (by show ¬ (400 : Int) = 0; decide), HK.out.2⟩
    · rw [lf_2b h2 hl] at c hc1
      rw [ln_12 (.inr h2), la_no (by omega)] at c
      have HE := Lib.hid (show (if x = 10 then { r with line := [], state := 0 } else { r with status := 400 } : ChP) = r' by rw [← hr, one_2 h2]; unfold crlfP; rw [if_neg (show ¬ r.line = [] by rw [hl]; simp)])
      have HT := Lib.hid (ofchunk_e x c (.inl rfl) (z := r'.status) (by rw [← HE.out, if_pos rfl]; by_cases h : x = 10
                                                                        · rw [if_pos h, if_pos h]; exact hst.symm
                                                                        · rw [if_neg h, if_neg h]))
      have HF := Lib.hid (And.intro hw (And.intro hst (And.intro h2 hl)))
      unfold ptr at HT ⊢
      clear c o hr hw hst hst3 h2 hl
      go_enter Tryz.func65, Tryz.ntmps65
      go_wp2_with (go_at_call 90; refine HT.out.mono ?_; rintro z w2 ⟨rfl, hk⟩; have HK := Lib.hid hk.out; clear hk)
      go_ret
      refine ⟨rfl, Lib.hid ?_⟩
      rw [← HE.out]
      by_cases h : x = 10
      · rw [if_pos h]
        exact ⟨vl, vb, vt, [], 0, false, r.ends, (show CkC g vl vb vt w2 [] 0 false r.ends r.body r.trail r.whole 0 from by rw [HF.out.1]; exact HK.out.1), fun _ => ⟨(ln_03 (r := { r with line := [], state := 0 }) (.inl rfl)).symm, (lf_0 (r := { r with line := [], state := 0 }) (.inl rfl)).symm, (la_no (by show (0 : Nat) ≠ 3; decide)).symm, rfl⟩, HK.out.2⟩
      · rw [if_neg h]
        exact ⟨vl, vb, vt, [], 0, false, r.ends, (show CkC g vl vb vt w2 [] 0 false r.ends r.body r.trail r.whole 0 from by rw [HF.out.1]; exact HK.out.1), fun h => absurd (done_no h).2 (by show ¬ (400 : Int) = 0; decide), HK.out.2⟩
  · rw [lf_0 h03] at c hc1
    rw [ln_03 h03] at c
    have hlen := o.line
    rcases is14 x 10 10 rfl (by decide) with ⟨ex, hx, -⟩ | ⟨ex, hx, -⟩
    · have HT := Lib.hid (endline_c c o h03 hw hst (r' := r') (by rw [← hr, ex]; exact (one_end h03).symm))
      unfold ptr at HT ⊢
      clear c o hr hw hst hst3 h03 ex hlen
      go_enter Tryz.func65, Tryz.ntmps65
      go_wp2_with (go_at_call 91; refine HT.out.mono ?_; rintro z w2 ⟨rfl, hk⟩; have HK := Lib.hid hk.out; clear hk)
      go_ret
      exact ⟨rfl, HK⟩
    · have hx10 : x ≠ 10 := ex
      have hgr := grow_wg (c := x) hst h03
      rw [← one_grow h03 hx10, hr] at hgr
      have HGR := Lib.hid hgr
      obtain ⟨A, cp, rfl, -, -⟩ := c.line.form
      have c0 : w.cell? ⟨g, 0, none⟩ = some (.slice A r.line.length cp) := (CkC.facts c).1
      obtain ⟨b, c', w4, hrun, hrow, hm, hb⟩ := app_row c.line (by omega) x
      have hng : g ∉ (Value.slice A r.line.length cp).ownBlock.toList := fun hk => c.ne_l (by decide) g hk rfl
      have r4 := c.row.mods hm hng
      have e0 : w4.cell? ⟨g, 0, none⟩ = some (.slice A r.line.length cp) := r4.cell 0
      have g0 := r4.free 0
      have hput := c.putL (cs' := ckCells 0 (laC r) r.ends false 0) hrow hm (fun k hk => by
        have hkb : k = b := by simpa [Value.ownBlock, eq_comm] using hk
        subst hkb
        rcases hb with h | h
        · exact .inl (by rw [← h]; simp)
        · exact .inr h) 0 rfl
      have HP := Lib.hid hput
      have he := o.ends
      obtain ⟨W, hW⟩ : ∃ W, W = w4.setCell ⟨g, 0, none⟩ (.slice (some ⟨b, 0, none⟩) (r.line.length + 1) c') := ⟨_, rfl⟩
      have HWG := Lib.hid (weigh_c hput.1 (by rw [List.length_append]; simp; omega) (by omega))
      rw [← hW] at HP HWG
      have HF := Lib.hid (And.intro hw (And.intro hst h03))
      rw [← hgr.1] at HWG
      unfold ptr at HWG ⊢
      clear c o hr hw hst hst3 h03 ex hlen hgr hrow hm hb hng r4 hput he hx10
      go_enter Tryz.func65, Tryz.ntmps65
      go_upto_region 6 with (at_builtin; refine wpList_run_app2 rfl (.tmp 23) (.tmp 25) 22 22 rfl rfl rfl hrun ?_)
      rw [← hW]
      clear hW hrun e0 g0 c0 hc1
      go_wp2_with (go_at_call 92; refine HWG.out.mono ?_; rintro z w2 ⟨rfl, hm⟩; have M2 := Lib.hid hm; clear hm)
      go_ret
      obtain ⟨-, q2, q3, q4, q5⟩ := HGR.out
      have k := HP.out.1.low M2.out
      refine ⟨rfl, Lib.hid ⟨_, vb, vt, _, 0, laC r, r.ends, (show CkC g _ vb vt w2 _ 0 (laC r) r.ends r'.body r'.trail r'.whole 0 from by rw [q2, q3, q4, HF.out.1]; exact k), fun h => ?_, HP.out.2.low M2.out⟩⟩
      have q := q5 (done_no h).2
      rw [q]
      exact ⟨(ln_03 (r := { r with line := r.line ++ [x] }) HF.out.2.2).symm, (lf_0 (r := { r with line := r.line ++ [x] }) HF.out.2.2).symm, rfl, rfl⟩
/-- What Feed leaves: the reader, what has turned. -/
def FedC (F : List Nat) (w : World) (g : Nat) (r : ChP) (w' : World) : Prop := ∃ F', CkA F' w' g r ∧ Grew F F' w w'
theorem FedC.low {F : List Nat} {w w' w2 : World} {g : Nat} {r : ChP} (h : FedC F w g r w') (hm : Mods [] w' w2) : FedC F w g r w2 := by
  obtain ⟨F', a, hg⟩ := h
  exact ⟨F', a.low hm, hg.low hm⟩
/-- The first k bytes were taken. -/
def Fed (r : ChP) (l : List UInt8) (k : Nat) (r1 : ChP) : Prop := feedP r (l.take k) = (r1, k)
theorem Fed.start (r : ChP) (l : List UInt8) : Fed r l 0 r := by unfold Fed; rw [List.take_zero]; rfl
theorem Fed.next {r r1 : ChP} {l : List UInt8} {k : Nat} (h : Fed r l k r1) (hk : k < l.length) (hd : doneC r1 = false) : Fed r l (k + 1) (oneP r1 l[k]) := by
  unfold Fed at *
  rw [List.take_succ_eq_append_getElem hk, feed_app, h]
  show ((feedP r1 [l[k]]).1, k + (feedP r1 [l[k]]).2) = _
  rw [feed_cons hd, feed_nil]
theorem Fed.stop {r r1 : ChP} {l : List UInt8} {k : Nat} (h : Fed r l k r1) (hd : doneC r1 = true ∨ l.length ≤ k) : feedP r l = (r1, k) := by
  unfold Fed at h
  rcases hd with hd | hd
  · have e := feed_app (l.take k) (l.drop k) r
    rw [List.take_append_drop, h] at e
    rw [e]
    show ((feedP r1 (l.drop k)).1, k + (feedP r1 (l.drop k)).2) = _
    rw [feed_done hd]; rfl
  · rw [List.take_of_length_le hd] at h; exact h
theorem Fed.ok {r r1 : ChP} {l : List UInt8} {k : Nat} (h : Fed r l k r1) (o : ChOk r) : ChOk r1 := by
  have := ChOk.feed (l.take k) o
  unfold Fed at h
  rw [h] at this; exact this
theorem TookC.fed {g : Nat} {vl vb vt : Value} {w w' : World} {r : ChP} (t : TookC g vl vb vt w r w') (o : ChOk r) : FedC (rdb g vl vb vt) w g r (w'.setCell ⟨g, 7, none⟩ (.int .i64 r.status)) := by
  obtain ⟨ul, ub, ut, L, left, last, e, c, hr, hg⟩ := t
  exact ⟨rdb g ul ub ut, ⟨⟨ul, ub, ut, L, left, last, e, c.set 7 (.int .i64 r.status) rfl, rfl, hr⟩, o⟩, hg.trans (c.set_grew 7 _)⟩
set_option maxRecDepth 10000 in
set_option maxHeartbeats 2000000 in
theorem feed_c {F : List Nat} {w : World} {g : Nat} {r : ChP} (p : Value) (l : List UInt8) (hp : BsAt w p l) (hF : 0 < l.length → ∀ k ∈ p.ownBlock.toList, k ∉ F) (a : CkA F w g r) (hl : l.length ≤ 1000000) :
    Calls Tryz.prog 53 #[ptr g, p] w fun z w' => z = .returned (.tuple #[.int .i64 ((feedP r l).2 : Nat), .bool (feedP r l).1.whole, .int .i64 (feedP r l).1.status]) ∧ Hid (FedC F w g (feedP r l).1 w') := by
  have HP := Lib.hid hp
  have HFF := Lib.hid hF
  have OK := Lib.hid a.ok
  have HA := Lib.hid (show FedC F w g r w from ⟨F, a, Grew.refl F w⟩)
  obtain ⟨A, c, rfl⟩ := hp.len
  clear hp hF a
  unfold ptr
  go_enter Tryz.func53, Tryz.ntmps53
  go_wp2
  go_loopw [4] (fun n wr => ∃ (k : Nat) (r1 : ChP), k ≤ l.length ∧ n = .int .i64 k ∧ Hid (Fed r l k r1) ∧ Hid (FedC F w g r1 wr)) (fun n _ => l.length - (intOf n).toNat)
  case atStart => exact ⟨0, r, Nat.zero_le _, rfl, Lib.hid (Fed.start r l), HA⟩
  case round =>
    obtain ⟨k, r1, hk, rfl, HFD, HC⟩ := hrel
    clear HA
    have HO := Lib.hid (HFD.out.ok OK.out)
    obtain ⟨F1, a1, hg1⟩ := HC.out
    obtain ⟨vl, vb, vt, L, left, last, e, cc, hF1, hz⟩ := a1.ex
    have d6 : wr.cell? ⟨g, 6, none⟩ = some (.bool r1.whole) := (CkC.facts cc).2.2.2.2.2.2.1
    have d7 : wr.cell? ⟨g, 7, none⟩ = some (.int .i64 r1.status) := (CkC.facts cc).2.2.2.2.2.2.2
    by_cases hstop : doneC r1 = true ∨ l.length ≤ k
    · have HE := Lib.hid (HFD.out.stop hstop)
      have hcase : l.length ≤ k ∨ (k < l.length ∧ (r1.whole = true ∨ (r1.whole = false ∧ (r1.status == 0) = false))) := by
        rcases (by omega : l.length ≤ k ∨ k < l.length) with h | h
        · exact .inl h
        · refine .inr ⟨h, ?_⟩
          have hd := hstop.resolve_right (by omega)
          unfold doneC at hd
          cases hw : r1.whole with
          | true => exact .inl rfl
          | false =>
            rw [hw, Bool.false_or] at hd
            exact .inr ⟨rfl, by rw [beq_eq_false_iff_ne]; exact of_decide_eq_true hd⟩
      clear hstop a1 hg1 cc hF1 hz
      obtain ⟨bw, hbw⟩ : ∃ bw, bw = r1.whole := ⟨_, rfl⟩
      obtain ⟨bs, hbs⟩ : ∃ bs, bs = r1.status := ⟨_, rfl⟩
      rw [← hbw] at d6 hcase
      rw [← hbs] at d7 hcase
      have HBW := Lib.hid hbw.symm
      have HBS := Lib.hid hbs.symm
      clear hbw hbs
      rcases hcase with h | ⟨h, rfl | ⟨rfl, h2⟩⟩
      · obtain rfl : k = l.length := by omega
        go_upto_region 6 with fail
        go_quiet (fail)
        go_wp2
        go_ret3
        exact ⟨by rw [HE.out, ← HBW.out, ← HBS.out]; rfl, Lib.hid (by rw [HE.out]; exact HC.out.low ((Mods.refl _ _).drewN _))⟩
      · go_upto_region 6 with fail
        go_quiet (fail)
        go_wp2
        go_ret3
        exact ⟨by rw [HE.out, HBW.out, ← HBS.out]; rfl, Lib.hid (by rw [HE.out]; exact HC.out.low ((Mods.refl _ _).drewN _))⟩
      · go_upto_region 6 with fail
        go_quiet (fail)
        go_wp2
        go_ret3
        exact ⟨by rw [HE.out, HBW.out, ← HBS.out]; rfl, Lib.hid (by rw [HE.out]; exact HC.out.low ((Mods.refl _ _).drewN _))⟩
    · rw [not_or] at hstop
      have hd : doneC r1 = false := by simpa using hstop.1
      obtain ⟨h1, h2⟩ := done_no hd
      have hlt : k < l.length := by omega
      obtain ⟨rfl, rfl, rfl, rfl⟩ := hz hd
      rw [h1] at d6
      rw [h2] at d7
      rw [h1, h2] at cc
      obtain ⟨b, off, cap, hv, hb, hcell⟩ : ∃ b off cap, A = some ⟨b, off, none⟩ ∧ cap = c ∧ wr.cell? ⟨b, off + k, none⟩ = some (.int .u8 (l[k].toNat : Int)) := by
        rcases HP.out with ⟨e, _⟩ | ⟨b, off, cap, hv, _, hbl, _, _, hc⟩
        · rw [e] at hlt; simp at hlt
        · injection hv with e1 e2 e3
          subst e1
          exact ⟨b, off, cap, rfl, e3.symm, cell_mods (hc k hlt) hg1.mods (HFF.out (by omega) b (by simp [Value.ownBlock]))⟩
      subst hv
      have HT := Lib.hid (take_c cc a1.ok h1 h2 l[k] rfl)
      have HN := Lib.hid (HFD.out.next hlt hd)
      have HG1 := Lib.hid hg1
      have HO2 := Lib.hid (a1.ok.one l[k])
      have f7 := cc.row.free 7
      have HF1 := Lib.hid hF1
      clear hstop hd h1 h2 a1 hg1 cc hF1 hz hb HC
      obtain ⟨x, hx⟩ : ∃ x, x = l[k] := ⟨_, rfl⟩
      rw [← hx] at HT HN HO2 hcell
      clear hx
      obtain ⟨r2, hr2⟩ : ∃ r2, r2 = oneP r1 x := ⟨_, rfl⟩
      rw [← hr2] at HT HN HO2
      clear hr2
      unfold ptr at HT
      go_wp2_with (go_at_call 65; refine HT.out.mono ?_; rintro z w2 ⟨rfl, hk2⟩; have HK := Lib.hid hk2.out; obtain ⟨e7, g7⟩ : (∃ u, w2.cell? ⟨g, 7, none⟩ = some u) ∧ w2.frozen? ⟨g, 7, none⟩ = false := (by obtain ⟨_, _, _, _, _, _, _, q, _, _⟩ := hk2.out; exact ⟨⟨_, (CkC.facts q).2.2.2.2.2.2.2⟩, q.row.free 7⟩); obtain ⟨u7, e7⟩ := e7; clear hk2)
      go_roundw
      case rel =>
        refine ⟨k + 1, r2, by omega, by go_num, HN, Lib.hid ?_⟩
        obtain ⟨F3, a3, hg3⟩ := HK.out.fed HO2.out
        rw [HF1.out] at HG1
        exact ⟨F3, a3, HG1.out.trans hg3⟩
      case measure => simp [intOf]; omega
theorem feed_cnil (p : Value) (l : List UInt8) (w : World) (hp : BsAt w p l) :
    Calls Tryz.prog 53 #[.pointer none, p] w fun z w' => z = .returned (.tuple #[.int .i64 0, .bool false, .int .i64 0]) ∧ w = w' := by
  obtain ⟨A, c, rfl⟩ := hp.len
  clear hp
  go_enter Tryz.func53, Tryz.ntmps53
  go_wp2
  go_ret3
  exact ⟨rfl, rfl⟩
set_option maxRecDepth 10000 in
theorem new_c (w : World) : Calls Tryz.prog 84 #[] w fun z w' => ∃ g F, z = .returned (ptr g) ∧ Hid (CkA F w' g newC ∧ Mods [] w w' ∧ ∀ k ∈ F, w.heap.size ≤ k) := by
  have HC := Lib.hid (show CkA [w.heap.size] (w.alloc (.cells (ckCells 0 false 0 false 0 (.slice none 0 0) (.slice none 0 0) (.slice none 0 0)) 109)) w.heap.size newC from
    ⟨⟨.slice none 0 0, .slice none 0 0, .slice none 0 0, [], 0, false, 0, ⟨Row.new _ _ _, BRow.nil _, BRow.nil _, World.ownsRow_nil _ _ _ _, fun k hk => by simp [Value.ownBlock] at hk⟩, rfl, fun _ => ⟨rfl, rfl, rfl, rfl⟩⟩, newC_ok⟩)
  have HM := Lib.hid ((Mods.refl [] w).alloc (.cells (ckCells 0 false 0 false 0 (.slice none 0 0) (.slice none 0 0) (.slice none 0 0)) 109))
  unfold ckCells at HC HM
  unfold ptr
  go_enter Tryz.func84, Tryz.ntmps84
  go_wp2
  go_ret
  exact ⟨_, _, rfl, Lib.hid ⟨HC.out, HM.out, fun k hk => by rw [List.mem_singleton] at hk; omega⟩⟩
set_option maxRecDepth 10000 in
theorem body_c {F : List Nat} {w : World} {g : Nat} {r : ChP} (a : CkA F w g r) : Calls Tryz.prog 54 #[ptr g] w fun z w' => ∃ u, z = .returned u ∧ Hid (GB w r.body u w') := by
  obtain ⟨vl, vb, vt, L, left, last, e, c, rfl, hz⟩ := a.ex
  have hb := a.ok.body
  have HC := Lib.hid (clone_b r.body vb w c.body.at (by omega))
  have d2 : w.cell? ⟨g, 2, none⟩ = some vb := (CkC.facts c).2.2.1
  clear a c hz hb
  unfold ptr
  go_enter Tryz.func54, Tryz.ntmps54
  go_wp2_with (go_at_call 66; refine HC.out.mono ?_; rintro z w1 ⟨u, rfl, hk⟩; have HK := Lib.hid hk.out; clear hk)
  go_ret
  exact ⟨_, rfl, HK⟩
theorem body_nil (w : World) : Calls Tryz.prog 54 #[.pointer none] w fun z w' => z = .returned (.slice none 0 0) ∧ w = w' := by
  go_enter Tryz.func54, Tryz.ntmps54
  go_wp2
  go_ret
  exact ⟨rfl, rfl⟩
end Go.Proofs.YtgkhelbpccehcaaGreatDoor

/- append onto a row of bytes that is full and that another may share. No text of the program. -/
namespace Go.Proofs.YtgkhelbpccehcaaGreatDoor
open Go.RowKit
set_option linter.unusedVariables false
set_option linter.unusedSimpArgs false

/-- append onto a full row: a new one. -/
theorem app_full {W : World} {b : Nat} {l m : List UInt8} {u : Value} (h : BsAt W (.slice (some ⟨b, 0, none⟩) l.length l.length) l) (hb : BsAt W u m) (hl : 0 < l.length) (h0 : 0 < m.length) (hroom : l.length + m.length ≤ 1000000) :
    ∃ (b' c : Nat) (w' : World), (Builtin.append_ #[22, 22] 22 #[.slice (some ⟨b, 0, none⟩) l.length l.length, u]).run Tryz.prog W = .ok (.slice (some ⟨b', 0, none⟩) (l.length + m.length) c) w' ∧ GB W (l ++ m) (.slice (some ⟨b', 0, none⟩) (l.length + m.length) c) w' := by
  obtain ⟨i0, hi, hz0, hz1, hz2⟩ := info_parts infoU8
  rcases hb with ⟨rfl, A, k, rfl⟩ | ⟨b2, off2, cap2, rfl, _, hlt2, h12, h22, hc2⟩
  · cases h0
  rcases h with ⟨e, _⟩ | ⟨b1, off1, cap1, hv, _, hlt1, h11, h21, hc1⟩
  · rw [e] at hl; cases hl
  injection hv with e1 e2 e3
  injection e1 with e1
  injection e1 with e4 e5
  subst e4
  subst e5
  have holds : ∀ j x, (bys l)[j]? = some x → W.cell? ((⟨b, 0, none⟩ : Addr).add j) = some x := fun j x hj => by
    have hj2 : j < l.length := by have := (List.getElem?_eq_some_iff.1 hj).1; rw [bys_len] at this; exact this
    rw [bys_at l j hj2] at hj
    rw [add_none, hc1 j hj2]; exact hj
  have hr := run_append_grow (P := Tryz.prog) W 22 22 5 i0 (.int .u8 0) Tryz.underlying22 hi hz0 ⟨b, 0, none⟩ l.length l.length (bys l) (by rw [bys_len, hz1, Nat.mul_one]) holds ⟨b2, off2, none⟩ m.length cap2 (bys m) (by rw [bys_len, hz1, Nat.mul_one]) (fun j x hj => by
    rw [add_none]
    have hj2 : j < m.length := by have := (List.getElem?_eq_some_iff.1 hj).1; rw [bys_len] at this; exact this
    rw [bys_at m j hj2] at hj
    rw [hc2 j hj2]; exact hj) (by omega) (by omega) (growslice_fits (by omega) (by rw [hz2]; omega))
  refine ⟨_, _, _, hr, ?_⟩
  have hge := grownCap_ge W (l.length + m.length) l.length 5
  have hcm : grownCap W (l.length + m.length) l.length 5 ≤ maxLen := grownCap_le_maxLen W (l.length + m.length) l.length 5 (by unfold maxLen; omega)
  have hcm2 : grownCap W (l.length + m.length) l.length 5 - (l.length + m.length) + (l.length + m.length) = grownCap W (l.length + m.length) l.length 5 := Nat.sub_add_cancel hge
  refine ⟨⟨by rw [bys_len, List.length_append, Nat.mul_one], .inr ⟨W.heap.size, _, _, by rw [List.length_append], Nat.le_refl _, heap_alloc_new W.drew _, by rw [List.length_append]; exact hge, hcm, ?_, ?_⟩⟩, ?_⟩
  · simp only [Array.size_append, List.size_toArray, size_zeroCells, bys_len]
    rw [show (Value.int .u8 0).cells.size = 1 from rfl]
    omega
  · rw [List.length_append, bys_append]
    simp only [Array.toList_append, List.append_assoc]
    rw [← List.append_assoc, show (l.length + m.length) * 1 = (bys l ++ bys m).length by rw [List.length_append, bys_len, bys_len, Nat.mul_one]]
    exact List.take_left
  · exact (Below.refl _ _).grown (row := none) ⟨rfl, rfl, rfl, by simp, fun k hk _ => heap_alloc_old W.drew _ k hk⟩ (Nat.le_refl _) (fun k e => by cases e)
end Go.Proofs.YtgkhelbpccehcaaGreatDoor

/- What stage 15's laws compare with, and the body that they know. Conditions: rows of at most a million bytes; the library's table of bits is laid. -/
namespace Go.Proofs.YtgkhelbpccehcaaGreatDoor
open Go.RowKit
set_option linter.unusedVariables false
set_option linter.unusedSimpArgs false

theorem Drawn.mods15 {w w' : World} (h : Drawn w w') : Mods [] w w' := by obtain ⟨n, rfl⟩ := h; exact (Mods.refl [] w).drewN n
theorem byte_eq15 {a b : UInt8} (h : a = b) : ((a.toNat : Int) != (b.toNat : Int)) = false := by rw [h]; simp
theorem byte_ne15 {a b : UInt8} (h : a ≠ b) : ((a.toNat : Int) != (b.toNat : Int)) = true := by
  simp only [bne, Bool.not_eq_true', beq_eq_false_iff_ne]
  intro e
  exact h (UInt8.toNat_inj.1 (by omega))
set_option maxRecDepth 10000 in
set_option maxHeartbeats 1000000 in
theorem same_l15 (A B : List UInt8) (va vb : Value) (w : World) (ha : BsAt w va A) (hb : BsAt w vb B) {r : Bool} (hr : decide (A = B) = r) :
    Calls Tryz.prog 23 #[va, vb] w fun e w' => e = .returned (.bool r) ∧ Drawn w w' := by
  by_cases hl : A.length = B.length
  · have h1 : ((A.length : Int) != (B.length : Int)) = false := by simp [hl]
    by_cases h0 : A.length = 0
    · obtain rfl : A = [] := List.eq_nil_of_length_eq_zero h0
      obtain rfl : B = [] := List.eq_nil_of_length_eq_zero (by rw [← hl]; rfl)
      obtain rfl : true = r := by rw [← hr]; rfl
      obtain ⟨a, ca, rfl⟩ := ha.len
      obtain ⟨b, cb, rfl⟩ := hb.len
      clear ha hb hr
      go_enter Tryz.func23, Tryz.ntmps23
      go_wp2
      refine wp_loop_rounds 1 ?_
      rw [rounds_succ]
      go_wp2
      go_ret
      exact ⟨rfl, Drawn.refl _⟩
    · rcases ha with ⟨rfl, _⟩ | ⟨b1, o1, c1, rfl, -, hb1, hcap1, hmx1, hc1⟩
      · exact absurd rfl h0
      rcases hb with ⟨rfl, _⟩ | ⟨b2, o2, c2, rfl, -, hb2, hcap2, hmx2, hc2⟩
      · exact absurd hl h0
      have HL := Lib.hid hl
      have HRR := Lib.hid hr
      have hl2 : A.length ≤ B.length := by omega
      clear hl h0 hr
      have HC1 := Lib.hid hc1
      have HC2 := Lib.hid hc2
      clear hc1 hc2
      go_enter Tryz.func23, Tryz.ntmps23
      go_wp2
      go_loopw [5] (fun i wr => ∃ (k : Nat), k ≤ A.length ∧ i = .int .i64 k ∧ Drawn w wr ∧ ∀ j (h : j < A.length) (h2 : j < B.length), j < k → A[j] = B[j]) (fun i _ => A.length - (intOf i).toNat)
      case atStart => exact ⟨0, Nat.zero_le _, rfl, Drawn.refl _, fun j _ _ h => absurd h (by omega)⟩
      case round =>
        obtain ⟨k, hk, rfl, hd, hall⟩ := hrel
        have HA := Lib.hid hall
        clear hall
        by_cases hlt : k < A.length
        · have hlt2 : k < B.length := by omega
          have e1 : wr.cell? ⟨b1, o1 + k, none⟩ = some (.int .u8 (A[k].toNat : Int)) := by obtain ⟨m, rfl⟩ := hd; exact HC1.out k hlt
          have e2 : wr.cell? ⟨b2, o2 + k, none⟩ = some (.int .u8 (B[k].toNat : Int)) := by obtain ⟨m, rfl⟩ := hd; exact HC2.out k hlt2
          by_cases he : A[k] = B[k]
          · have hne := byte_eq15 he
            have HE := Lib.hid he
            clear he
            go_wp2
            go_quiet (fail)
            go_wp2
            go_roundw
            case rel =>
              refine ⟨k + 1, by omega, by go_num, hd.more _, fun j h h2 hj => ?_⟩
              by_cases e : j = k
              · subst e; exact HE.out
              · exact HA.out j h h2 (by omega)
            case measure => simp [intOf]; omega
          · have hne := byte_ne15 he
            have HE := Lib.hid (decide_eq_false (show ¬ A = B from fun e => he (by subst e; rfl)))
            clear he
            go_wp2
            go_quiet (fail)
            go_wp2
            go_ret
            exact ⟨by rw [← HRR.out, HE.out]; rfl, hd.more _⟩
        · have HE := Lib.hid (decide_eq_true (show A = B from List.ext_getElem HL.out fun j h h2 => HA.out j h h2 (by omega)))
          go_wp2
          go_ret
          exact ⟨by rw [← HRR.out, HE.out]; rfl, hd⟩
  · have h1 : ((A.length : Int) != (B.length : Int)) = true := by simp; omega
    have HE := Lib.hid (decide_eq_false (show ¬ A = B from fun e => hl (by rw [e])))
    obtain ⟨a, ca, rfl⟩ := ha.len
    obtain ⟨b, cb, rfl⟩ := hb.len
    have HRR := Lib.hid hr
    clear ha hb hl hr
    go_enter Tryz.func23, Tryz.ntmps23
    go_wp2
    go_ret
    exact ⟨by rw [← HRR.out, HE.out]; rfl, Drawn.refl _⟩
set_option maxRecDepth 10000 in
set_option maxHeartbeats 1000000 in
theorem fields_l15 (A B : List FV) (va vb : Value) (w : World) (ha : FsAt w va A) (hb : FsAt w vb B) (hA : A.length ≤ 1000000) (hB : B.length ≤ 1000000) :
    Calls Tryz.prog 30 #[va, vb] w fun e w' => e = .returned (.bool (decide (A = B))) ∧ Drawn w w' := by
  by_cases hl : A.length = B.length
  · have h1 : ((A.length : Int) != (B.length : Int)) = false := by simp [hl]
    by_cases h0 : A.length = 0
    · obtain rfl : A = [] := List.eq_nil_of_length_eq_zero h0
      obtain rfl : B = [] := List.eq_nil_of_length_eq_zero (by rw [← hl]; rfl)
      obtain ⟨a, ca, rfl⟩ := ha.len
      obtain ⟨b, cb, rfl⟩ := hb.len
      clear ha hb
      go_enter Tryz.func30, Tryz.ntmps30
      go_wp2
      refine wp_loop_rounds 1 ?_
      rw [rounds_succ]
      go_wp2
      go_ret
      exact ⟨rfl, Drawn.refl _⟩
    · rcases ha with ⟨rfl, _⟩ | ⟨b1, o1, c1, rfl, -, hb1, hc1⟩
      · exact absurd rfl h0
      rcases hb with ⟨rfl, _⟩ | ⟨b2, o2, c2, rfl, -, hb2, hc2⟩
      · exact absurd hl h0
      have HL := Lib.hid hl
      have hl2 : A.length ≤ B.length := by omega
      clear hl h0
      have HC1 := Lib.hid hc1
      have HC2 := Lib.hid hc2
      clear hc1 hc2
      go_enter Tryz.func30, Tryz.ntmps30
      go_wp2
      go_loopw [5] (fun i wr => ∃ (k : Nat), k ≤ A.length ∧ i = .int .i64 k ∧ Drawn w wr ∧ ∀ j (h : j < A.length) (h2 : j < B.length), j < k → A[j] = B[j]) (fun i _ => A.length - (intOf i).toNat)
      case atStart => exact ⟨0, Nat.zero_le _, rfl, Drawn.refl _, fun j _ _ h => absurd h (by omega)⟩
      case round =>
        obtain ⟨k, hk, rfl, hd, hall⟩ := hrel
        have HA := Lib.hid hall
        clear hall
        by_cases hlt : k < A.length
        · have hlt2 : k < B.length := by omega
          have e1 : wr.cell? ⟨b1, o1 + k * 2, none⟩ = some (.string (A[k].1)) := by obtain ⟨m, rfl⟩ := hd; exact (HC1.out k hlt).1
          have e2 : wr.cell? ⟨b2, o2 + k * 2, none⟩ = some (.string (B[k].1)) := by obtain ⟨m, rfl⟩ := hd; exact (HC2.out k hlt2).1
          have e3 : wr.cell? ⟨b1, o1 + k * 2 + 1, none⟩ = some (.string (A[k].2)) := by obtain ⟨m, rfl⟩ := hd; exact (HC1.out k hlt).2
          have e4 : wr.cell? ⟨b2, o2 + k * 2 + 1, none⟩ = some (.string (B[k].2)) := by obtain ⟨m, rfl⟩ := hd; exact (HC2.out k hlt2).2
          by_cases he : A[k].1 = B[k].1
          · have hne := (bytes_eqB (show A[k].1 = B[k].1 by rw [he])).1
            by_cases he2 : A[k].2 = B[k].2
            · have hne2 := (bytes_eqB (show A[k].2 = B[k].2 by rw [he2])).1
              have HE := Lib.hid (show A[k] = B[k] from Prod.ext he he2)
              clear he he2
              go_wp2
              go_quiet (fail)
              go_wp2
              go_roundw
              case rel =>
                refine ⟨k + 1, by omega, by go_num, hd.more _, fun j h h2 hj => ?_⟩
                by_cases e : j = k
                · subst e; exact HE.out
                · exact HA.out j h h2 (by omega)
              case measure => simp [intOf]; omega
            · have hne2 := (bytes_neB he2).1
              have HE := Lib.hid (decide_eq_false (show ¬ A = B from fun e => he2 (by subst e; rfl)))
              clear he he2
              go_wp2
              go_quiet (fail)
              go_wp2
              go_ret
              exact ⟨by rw [HE.out]; rfl, hd.more _⟩
          · have hne := (bytes_neB he).1
            have HE := Lib.hid (decide_eq_false (show ¬ A = B from fun e => he (by subst e; rfl)))
            clear he
            go_wp2
            go_quiet (fail)
            go_wp2
            go_ret
            exact ⟨by rw [HE.out]; rfl, hd.more _⟩
        · have HE := Lib.hid (decide_eq_true (show A = B from List.ext_getElem HL.out fun j h h2 => HA.out j h h2 (by omega)))
          go_wp2
          go_ret
          exact ⟨by rw [HE.out]; rfl, hd⟩
  · have h1 : ((A.length : Int) != (B.length : Int)) = true := by simp; omega
    have HE := Lib.hid (decide_eq_false (show ¬ A = B from fun e => hl (by rw [e])))
    obtain ⟨a, ca, rfl⟩ := ha.len
    obtain ⟨b, cb, rfl⟩ := hb.len
    clear ha hb hl
    go_enter Tryz.func30, Tryz.ntmps30
    go_wp2
    go_ret
    exact ⟨by rw [HE.out]; rfl, Drawn.refl _⟩
end Go.Proofs.YtgkhelbpccehcaaGreatDoor

/- Requests, byte by byte: plain functions of chapter 15. No program but for what Parse answers. -/
namespace Go.Proofs.YtgkhelbpccehcaaGreatDoor
open Go.RowKit
set_option linter.unusedVariables false
set_option linter.unusedSimpArgs false

/-- Where a parser is: 0 idle, 1 in the head, 2 in the body, 3 whole, 4 refused. -/
structure PrP where
  phase : Nat
  status : Int
  head : HdP
  line : List UInt8
  how : HowP
  body : List UInt8
  ch : ChP
  came : Bool
def newR : PrP := ⟨0, 0, newH, [], noH, [], newC, false⟩
def badR (p : PrP) (s : Int) : PrP := { p with phase := 4, status := s }
/-- The head is whole. -/
def begR (p : PrP) (h : HdP) : PrP :=
  { p with head := h, line := [], how := h.how, body := [], came := false, ch := newC, phase := if h.how.kind = 0 ∨ (h.how.kind = 1 ∧ h.how.length = 0) then 3 else 2 }
/-- The end of a line. -/
def lendR (p : PrP) : PrP :=
  if p.line.getLast? = some 13 then
    (if (lineP p.head (ofL p.line.dropLast)).status ≠ 0 then badR { p with line := [], head := lineP p.head (ofL p.line.dropLast) } (lineP p.head (ofL p.line.dropLast)).status
     else if (lineP p.head (ofL p.line.dropLast)).whole = true then begR p (lineP p.head (ofL p.line.dropLast))
     else { p with line := [], head := lineP p.head (ofL p.line.dropLast) })
  else badR p 400
def lgrowR (p : PrP) (c : UInt8) : PrP := if 256 < cntL p.line c then badR { p with line := p.line ++ [c] } (longS p.head) else { p with line := p.line ++ [c] }
def headR (p : PrP) (c : UInt8) : PrP := if c = 10 then lendR p else lgrowR p c
/-- A byte of the body. -/
def moreR (p : PrP) (c : UInt8) : PrP :=
  if p.how.kind = 1 then { p with came := true, body := p.body ++ [c], phase := if ((p.body.length + 1 : Nat) : Int) = p.how.length then 3 else 2 }
  else if (oneP p.ch c).status ≠ 0 then badR { p with came := true, ch := oneP p.ch c, body := (oneP p.ch c).body } (oneP p.ch c).status
  else { p with came := true, ch := oneP p.ch c, body := (oneP p.ch c).body, phase := if (oneP p.ch c).whole = true then 3 else 2 }
def oneR (p : PrP) (c : UInt8) : PrP :=
  if p.phase = 2 then moreR p c
  else if p.phase = 0 then headR { p with phase := 1, head := newH, line := [] } c
  else headR p c
def doneR (p : PrP) : Bool := decide (3 ≤ p.phase)
/-- A request as data. -/
structure RqP where
  meth : ByteArray
  tgt : Tgt
  minor : Int
  fields : List FV
  body : List UInt8
  close : Bool
  expect : Bool
def rqOf (p : PrP) : RqP := ⟨p.head.meth, p.head.tgt, p.head.minor, p.head.S, p.body, p.how.close, p.how.expect⟩
def noRq : RqP := ⟨noB, noT, 0, [], [], false, false⟩
def takeR (p : PrP) : PrP × RqP × Int := if p.phase = 3 then ({ p with phase := 0 }, rqOf p, 0) else (p, noRq, 4)
def waitsR (p : PrP) : Bool := decide (p.phase = 2) && p.how.expect && !p.came
/-- What a parser is behind bytes; how many it took. -/
def feedR : PrP → List UInt8 → PrP × Nat
  | r, [] => (r, 0)
  | r, c :: l => if doneR r = true then (r, 0) else ((feedR (oneR r c) l).1, (feedR (oneR r c) l).2 + 1)
theorem feedR_nil (r : PrP) : feedR r [] = (r, 0) := rfl
theorem feedR_done {r : PrP} (h : doneR r = true) : ∀ l, feedR r l = (r, 0)
  | [] => rfl
  | c :: l => by rw [feedR, if_pos h]
theorem feedR_cons {r : PrP} (h : doneR r = false) (c : UInt8) (l : List UInt8) : feedR r (c :: l) = ((feedR (oneR r c) l).1, (feedR (oneR r c) l).2 + 1) := by rw [feedR, if_neg (by rw [h]; simp)]
theorem feedR_le : ∀ (l : List UInt8) (r : PrP), (feedR r l).2 ≤ l.length
  | [], r => Nat.le_refl _
  | c :: l, r => by
    cases h : doneR r with
    | true => rw [feedR_done h]; exact Nat.zero_le _
    | false => rw [feedR_cons h]; have := feedR_le l (oneR r c); simp only [List.length_cons]; omega
/-- Fewer bytes are taken than there are just where it was whole or refused. -/
theorem feedR_lt : ∀ (l : List UInt8) (r : PrP), (feedR r l).2 < l.length → doneR (feedR r l).1 = true
  | [], r, h => absurd h (Nat.lt_irrefl _)
  | c :: l, r, h => by
    cases hd : doneR r with
    | true => rw [feedR_done hd]; exact hd
    | false =>
      rw [feedR_cons hd] at h ⊢
      exact feedR_lt l (oneR r c) (by simp only [List.length_cons] at h; omega)
/-- However the bytes are parted. -/
theorem feedR_app : ∀ (a b : List UInt8) (r : PrP), feedR r (a ++ b) = ((feedR (feedR r a).1 b).1, (feedR r a).2 + (feedR (feedR r a).1 b).2)
  | [], b, r => by rw [feedR_nil, List.nil_append, Nat.zero_add]
  | c :: a, b, r => by
    cases h : doneR r with
    | true => rw [feedR_done h, feedR_done h]; show (r, 0) = ((feedR r b).1, 0 + (feedR r b).2); rw [feedR_done h]; rfl
    | false =>
      rw [List.cons_append, feedR_cons h, feedR_cons h, feedR_app a b (oneR r c)]
      show ((feedR (feedR (oneR r c) a).1 b).1, (feedR (oneR r c) a).2 + (feedR (feedR (oneR r c) a).1 b).2 + 1) = ((feedR (feedR (oneR r c) a).1 b).1, (feedR (oneR r c) a).2 + 1 + (feedR (feedR (oneR r c) a).1 b).2)
      congr 1
      omega
theorem feedR_cut (a b : List UInt8) (r : PrP) : (feedR r (a ++ b)).1 = (feedR (feedR r a).1 b).1 := by rw [feedR_app]

/-! Ways that end nowhere. -/
/-- All of some bytes are taken, and the parser goes on. -/
def GoesR (r : PrP) (l : List UInt8) (r' : PrP) : Prop := feedR r l = (r', l.length)
theorem GoesR.nil (r : PrP) : GoesR r [] r := rfl
theorem GoesR.cons {r r' : PrP} {c : UInt8} {l : List UInt8} (h : doneR r = false) (hl : GoesR (oneR r c) l r') : GoesR r (c :: l) r' := by
  unfold GoesR at *
  rw [feedR_cons h, hl]; rfl
theorem GoesR.app {r r1 r2 : PrP} {a b : List UInt8} (h1 : GoesR r a r1) (h2 : GoesR r1 b r2) : GoesR r (a ++ b) r2 := by
  unfold GoesR at *
  rw [feedR_app, h1, List.length_append]
  show ((feedR r1 b).1, a.length + (feedR r1 b).2) = _
  rw [h2]
theorem GoesR.more {r r1 : PrP} {a : List UInt8} (h : GoesR r a r1) (b : List UInt8) : feedR r (a ++ b) = ((feedR r1 b).1, a.length + (feedR r1 b).2) := by
  rw [feedR_app]
  unfold GoesR at h
  rw [h]
theorem GoesR.done {r r1 : PrP} {a : List UInt8} (h : GoesR r a r1) (hd : doneR r1 = true) (b : List UInt8) : feedR r (a ++ b) = (r1, a.length) := by
  rw [h.more, feedR_done hd]; rfl


/-! Lines. -/
/-- In the head, a line being begun. -/
def InR (p : PrP) (h : HdP) (ln : List UInt8) : PrP := { p with phase := 1, head := h, line := ln }
theorem doneR_in (p : PrP) (h : HdP) (ln : List UInt8) : doneR (InR p h ln) = false := by unfold doneR InR; simp
theorem oneR_in (p : PrP) (h : HdP) (ln : List UInt8) (c : UInt8) : oneR (InR p h ln) c = headR (InR p h ln) c := by
  unfold oneR; rw [if_neg (show ¬ (InR p h ln).phase = 2 from fun h => by cases h), if_neg (show ¬ (InR p h ln).phase = 0 from fun h => by cases h)]
/-- Bytes without an end of line, not too many. -/
theorem rline_goes (p : PrP) (h : HdP) : ∀ (l ln : List UInt8), (∀ x ∈ l, x ≠ 10) → ln.length + l.length ≤ 256 → GoesR (InR p h ln) l (InR p h (ln ++ l))
  | [], ln, _, _ => by rw [List.append_nil]; exact GoesR.nil _
  | c :: l, ln, h10, hl => by
    rw [List.length_cons] at hl
    refine GoesR.cons (doneR_in p h ln) ?_
    have hc : cntL ln c ≤ ln.length + 1 := by unfold cntL; split <;> omega
    have e : oneR (InR p h ln) c = InR p h (ln ++ [c]) := by
      rw [oneR_in]
      unfold headR
      rw [if_neg (h10 c (by simp))]
      unfold lgrowR
      rw [if_neg (show ¬ 256 < cntL (InR p h ln).line c by show ¬ 256 < cntL ln c; omega)]
      rfl
    rw [e]
    have ih := rline_goes p h l (ln ++ [c]) (fun x hx => h10 x (by simp [hx])) (by rw [List.length_append]; simp; omega)
    rw [List.append_assoc] at ih
    exact ih
theorem rcr_goes (p : PrP) (h : HdP) (ln : List UInt8) (hl : ln.length ≤ 256) : GoesR (InR p h ln) [13] (InR p h (ln ++ [13])) := by
  refine GoesR.cons (doneR_in p h ln) ?_
  have e : oneR (InR p h ln) 13 = InR p h (ln ++ [13]) := by
    rw [oneR_in]
    unfold headR
    rw [if_neg (by decide)]
    unfold lgrowR
    have hc : cntL ln 13 = ln.length := by unfold cntL; rw [if_pos rfl]
    rw [if_neg (show ¬ 256 < cntL (InR p h ln).line 13 by show ¬ 256 < cntL ln 13; omega)]
    rfl
  rw [e]
  exact GoesR.nil _
/-- What a whole line makes of a parser. -/
def lineR (p : PrP) (h : HdP) (s : ByteArray) : PrP :=
  if (lineP h s).status ≠ 0 then badR (InR p (lineP h s) []) (lineP h s).status
  else if (lineP h s).whole = true then begR (InR p (lineP h s) []) (lineP h s)
  else InR p (lineP h s) []
theorem rlf_goes (p : PrP) (h : HdP) (l : List UInt8) : GoesR (InR p h (l ++ [13])) [10] (lineR p h (ofL l)) := by
  refine GoesR.cons (doneR_in p h _) ?_
  have e : oneR (InR p h (l ++ [13])) 10 = lineR p h (ofL l) := by
    rw [oneR_in]
    unfold headR
    rw [if_pos rfl]
    unfold lendR
    rw [if_pos (show (InR p h (l ++ [13])).line.getLast? = some 13 by show (l ++ [13]).getLast? = some 13; simp)]
    have hdl : (InR p h (l ++ [13])).line.dropLast = l := List.dropLast_concat
    rw [hdl]
    rfl
  rw [e]
  exact GoesR.nil _
/-- A whole line. -/
theorem rwhole (p : PrP) (h : HdP) (s : ByteArray) (h10 : ∀ x ∈ s.data.toList, x ≠ 10) (hl : s.size ≤ 256) : GoesR (InR p h []) (s.data.toList ++ [13, 10]) (lineR p h s) := by
  have hz : s.data.toList.length = s.size := rfl
  have g1 := rline_goes p h s.data.toList [] h10 (by simp; omega)
  rw [List.nil_append] at g1
  have g := (g1.app (rcr_goes p h s.data.toList (by omega))).app (rlf_goes p h s.data.toList)
  rw [List.append_assoc, ofL_data] at g
  exact g
/-- The first line. -/
theorem rfirst {p : PrP} (hp : p.phase = 0) {c : UInt8} {l : List UInt8} {p' : PrP} (g : GoesR (InR p newH []) (c :: l) p') : GoesR p (c :: l) p' := by
  have hd : doneR p = false := by unfold doneR; rw [hp]; rfl
  have e : oneR p c = oneR (InR p newH []) c := by
    rw [oneR_in]
    unfold oneR
    rw [if_neg (by rw [hp]; decide), if_pos hp]
    rfl
  unfold GoesR at g ⊢
  rw [feedR_cons hd, e, ← feedR_cons (doneR_in p newH [])]
  exact g
/-- Lines that neither end a head nor are refused. -/
theorem rlines (p : PrP) : ∀ (ls : List ByteArray) (h : HdP), (∀ s ∈ ls, (∀ x ∈ s.data.toList, x ≠ 10) ∧ s.size ≤ 256) → (∀ k, k ≤ ls.length → 0 < k → (playP h (ls.take k)).status = 0 ∧ (playP h (ls.take k)).whole = false) →
    GoesR (InR p h []) (ls.flatMap fun s => s.data.toList ++ [13, 10]) (InR p (playP h ls) [])
  | [], h, _, _ => GoesR.nil _
  | s :: ls, h, h1, h2 => by
    rw [List.flatMap_cons]
    have hs := h1 s (by simp)
    have h21 := h2 1 (by simp) (by omega)
    have e1 : playP h ((s :: ls).take 1) = lineP h s := rfl
    rw [e1] at h21
    have g1 := rwhole p h s hs.1 hs.2
    have e2 : lineR p h s = InR p (lineP h s) [] := by
      unfold lineR
      rw [if_neg (by rw [h21.1]; simp), if_neg (by rw [h21.2]; simp)]
    rw [e2] at g1
    refine g1.app (rlines p ls (lineP h s) (fun x hx => h1 x (by simp [hx])) (fun k hk hk0 => ?_))
    have := h2 (k + 1) (by simp; omega) (by omega)
    exact this
/-! Bodies with a length. -/
theorem rbody_goes {p : PrP} {n : Nat} (hk : p.how.kind = 1) (hn : p.how.length = n) : ∀ (l b : List UInt8) (cm : Bool), b.length + l.length < n →
    GoesR { p with phase := 2, body := b, came := cm } l { p with phase := 2, body := b ++ l, came := cm || !l.isEmpty }
  | [], b, cm, _ => by rw [List.append_nil]; simp; exact GoesR.nil _
  | c :: l, b, cm, h => by
    rw [List.length_cons] at h
    refine GoesR.cons rfl ?_
    have e : oneR { p with phase := 2, body := b, came := cm } c = { p with phase := 2, body := b ++ [c], came := true } := by
      unfold oneR
      rw [if_pos rfl]
      unfold moreR
      rw [if_pos hk]
      show PrP.mk (if ((b.length + 1 : Nat) : Int) = p.how.length then 3 else 2) _ _ _ _ _ _ _ = _
      rw [if_neg (by rw [hn]; omega)]
    rw [e]
    have ih := rbody_goes hk hn l (b ++ [c]) true (by rw [List.length_append]; simp; omega)
    rw [List.append_assoc] at ih
    simpa using ih
theorem rlast_goes {p : PrP} {n : Nat} (hk : p.how.kind = 1) (hn : p.how.length = n) (b : List UInt8) (cm : Bool) (c : UInt8) (h : b.length + 1 = n) :
    GoesR { p with phase := 2, body := b, came := cm } [c] { p with phase := 3, body := b ++ [c], came := true } := by
  refine GoesR.cons rfl ?_
  have e : oneR { p with phase := 2, body := b, came := cm } c = { p with phase := 3, body := b ++ [c], came := true } := by
    unfold oneR
    rw [if_pos rfl]
    unfold moreR
    rw [if_pos hk]
    show PrP.mk (if ((b.length + 1 : Nat) : Int) = p.how.length then 3 else 2) _ _ _ _ _ _ _ = _
    rw [if_pos (by rw [hn]; omega)]
  rw [e]
  exact GoesR.nil _
/-- A body with a length is whole at its last byte. -/
theorem rbody_whole {p : PrP} (hk : p.how.kind = 1) {l : List UInt8} (h0 : l ≠ []) (hn : p.how.length = (l.length : Nat)) (cm : Bool) : GoesR { p with phase := 2, body := [], came := cm } l { p with phase := 3, body := l, came := true } := by
  have e := List.dropLast_concat_getLast h0
  have hz : l.dropLast.length + 1 = l.length := by rw [List.length_dropLast]; have := List.length_pos_iff.2 h0; omega
  have g1 := rbody_goes (p := p) hk hn l.dropLast [] cm (by simp; omega)
  rw [List.nil_append] at g1
  have g2 := rlast_goes (p := p) hk hn l.dropLast (cm || !l.dropLast.isEmpty) (l.getLast h0) hz
  have g := g1.app g2
  rw [e] at g
  exact g
end Go.Proofs.YtgkhelbpccehcaaGreatDoor

/- What chapter 15's laws ask of a parser, in plain terms. No program but for what Parse answers. -/
namespace Go.Proofs.YtgkhelbpccehcaaGreatDoor
open Go.RowKit
set_option linter.unusedVariables false
set_option linter.unusedSimpArgs false

/-! Start lines. -/
theorem beg_line {s : ByteArray} {m p q : List UInt8} {v : List UInt8} (hs : s.size ≤ 256) (h0 : s.size ≠ 0) (hw : wordsL s.data.toList = [m, p, v]) (hm : tokL m = true) (hv : verS v = 0) (hp : (parT m p).2 = 0) :
    lineP newH s = { newH with started := true, meth := ofL m, tgt := (parT m p).1, minor := verM v, bytes := s.size + 2 } := by
  have e : startS s.data.toList = 0 := by
    rw [startS_three hw, if_neg (by rw [hm]; simp), if_neg (by rw [hv]; simp), if_neg (by rw [hp]; decide), if_neg (by rw [hp]; decide)]
  rw [lineP_go rfl rfl (by omega) (by show ¬ 1024 < 0 + (s.size + 2); omega), bodyP_start rfl h0, startP_yes e]
  unfold wordN
  rw [hw]
  show HdP.mk _ _ _ _ _ _ _ (0 + (s.size + 2)) _ _ = _
  rw [Nat.zero_add]
  rfl
def crlf : List UInt8 := [13, 10]
/-- `POST /x HTTP/1.1`, `POST / HTTP/1.1`, `GET /z HTTP/1.0`. -/
def postX : ByteArray := ⟨#[80, 79, 83, 84, 32, 47, 120, 32, 72, 84, 84, 80, 47, 49, 46, 49]⟩
def postR : ByteArray := ⟨#[80, 79, 83, 84, 32, 47, 32, 72, 84, 84, 80, 47, 49, 46, 49]⟩
def getZ : ByteArray := ⟨#[71, 69, 84, 32, 47, 122, 32, 72, 84, 84, 80, 47, 49, 46, 48]⟩
def postM : List UInt8 := [80, 79, 83, 84]
def pathT (p : ByteArray) : Tgt := ⟨1, noB, p, noB⟩
theorem x_par : (parT postM [47, 120]).2 = 0 ∧ (parT postM [47, 120]).1.form = 1 ∧ (parT postM [47, 120]).1.host = noB ∧ (parT postM [47, 120]).1.path = ⟨#[47, 120]⟩ ∧ (parT postM [47, 120]).1.query = noB := by decide +kernel
theorem r_par : (parT postM [47]).2 = 0 ∧ (parT postM [47]).1.form = 1 ∧ (parT postM [47]).1.host = noB ∧ (parT postM [47]).1.path = ⟨#[47]⟩ ∧ (parT postM [47]).1.query = noB := by decide +kernel
theorem z_par : (parT getT [47, 122]).2 = 0 ∧ (parT getT [47, 122]).1.form = 1 ∧ (parT getT [47, 122]).1.host = noB ∧ (parT getT [47, 122]).1.path = ⟨#[47, 122]⟩ ∧ (parT getT [47, 122]).1.query = noB := by decide +kernel
def begQ (m : List UInt8) (p : ByteArray) (mn : Int) (n : Nat) : HdP := ⟨true, ofL m, pathT p, mn, noH, false, 0, n, 0, []⟩
theorem postX_line : lineP newH postX = begQ postM ⟨#[47, 120]⟩ 1 18 := by
  rw [beg_line (m := postM) (p := [47, 120]) (q := []) (v := [72, 84, 84, 80, 47, 49, 46, 49]) (by decide) (by decide) rfl (by decide +kernel) (by decide +kernel) x_par.1]
  obtain ⟨_, g1, g2, g3, g4⟩ := x_par
  rw [show (parT postM [47, 120]).1 = pathT ⟨#[47, 120]⟩ from Tgt.ext' g1 g2 g3 g4]
  rfl
theorem postR_line : lineP newH postR = begQ postM ⟨#[47]⟩ 1 17 := by
  rw [beg_line (m := postM) (p := [47]) (q := []) (v := [72, 84, 84, 80, 47, 49, 46, 49]) (by decide) (by decide) rfl (by decide +kernel) (by decide +kernel) r_par.1]
  obtain ⟨_, g1, g2, g3, g4⟩ := r_par
  rw [show (parT postM [47]).1 = pathT ⟨#[47]⟩ from Tgt.ext' g1 g2 g3 g4]
  rfl
theorem getZ_line : lineP newH getZ = begQ getT ⟨#[47, 122]⟩ 0 17 := by
  rw [beg_line (m := getT) (p := [47, 122]) (q := []) (v := [72, 84, 84, 80, 47, 49, 46, 48]) (by decide) (by decide) rfl (by decide +kernel) (by decide +kernel) z_par.1]
  obtain ⟨_, g1, g2, g3, g4⟩ := z_par
  rw [show (parT getT [47, 122]).1 = pathT ⟨#[47, 122]⟩ from Tgt.ext' g1 g2 g3 g4]
  rfl

/-! Heads with a length. -/
def expV : ByteArray := ⟨#[49, 48, 48, 45, 67, 111, 110, 116, 105, 110, 117, 101]⟩
def lenS15 (n : Nat) (ex : Bool) : List FV := [(nHost, aN), (nCL, decB n)] ++ if ex = true then [(nExp, expV)] else []
theorem v_vals (n : Nat) (ex : Bool) : valsF (lenS15 n ex) nHost = [aN] ∧ valsF (lenS15 n ex) nTE = [] ∧ valsF (lenS15 n ex) nCL = [decB n] ∧ valsF (lenS15 n ex) nCon = [] ∧ valsF (lenS15 n ex) nExp = (if ex = true then [expV] else []) := by
  obtain ⟨s1, s2, s3, s4, s5⟩ := n_same
  obtain ⟨t1, t2, t3, t4, t5⟩ := l_same
  have x1 : sameL nExp nHost = false ∧ sameL nExp nTE = false ∧ sameL nExp nCL = false ∧ sameL nExp nCon = false ∧ sameL nExp nExp = true := by decide +kernel
  obtain ⟨u1, u2, u3, u4, u5⟩ := x1
  unfold lenS15 valsF namedF
  cases ex <;> simp [s1, s2, s3, s4, s5, t1, t2, t3, t4, t5, u1, u2, u3, u4, u5]
theorem exp_get (n : Nat) : sameL (getF (lenS15 n true) nExp) contB = true := by
  have h : getF (lenS15 n true) nExp = expV := by
    unfold getF getL
    rw [(v_vals n true).2.2.2.2]
    rfl
  rw [h]
  decide +kernel
theorem len_frm (n : Nat) (ex : Bool) (hn : n ≤ 2048) : frm 1 (lenS15 n ex) = (⟨1, n, false, ex && decide (0 < n)⟩, 0) := by
  obtain ⟨v1, v2, v3, v4, v5⟩ := v_vals n ex
  have hl : lenS [decB n] = ((n : Int), 0) := by
    have h1 := dec_toks [n]
    have h2 := (dec_lenN n [] (fun x hx => by have : x = n := by simpa using hx
                                              omega)).trans (if_pos (by simp))
    exact (lenS_some h1 h2).trans (if_neg (by omega))
  have hb : bodyS 1 (lenS15 n ex) = (1, (n : Int), 0) := by unfold bodyS; rw [v2, v3, hl]; simp
  show frmN 1 (lenS15 n ex) = _
  have hh : hostOk 1 (valsF (lenS15 n ex) nHost) = true := by rw [v1]; exact host_one ⟨0, by decide⟩
  have hc : toksO (valsF (lenS15 n ex) nCon) ≠ none := by rw [v4, toks_nil]; simp
  have hcl : closeS 1 (valsF (lenS15 n ex) nCon) = false := by rw [v4, close_nil]; rfl
  cases ex with
  | false =>
    rw [frm_plain hh (by rw [hb]) hc (by rw [v5]; simp), hb, hcl]
    rfl
  | true =>
    rw [frm_exp hh (by rw [hb]) hc ⟨rfl, by rw [v5]; simp⟩ (exp_get n), hb, hcl]
    have e : decide ((1 : Int) = 2 ∨ 0 < (n : Int)) = decide (0 < n) := by rw [decide_eq_decide]; omega
    show (HowP.mk 1 n false (decide ((1 : Int) = 2 ∨ 0 < (n : Int))), (0 : Int)) = _
    rw [e]; rfl
def lensL (n : Nat) (ex : Bool) : List ByteArray := linesF (lenS15 n ex)
theorem lens_ok {n : Nat} (ex : Bool) (hn : n ≤ 2048) : ∀ p ∈ lenS15 n ex, okF p = true ∧ p.1.size + p.2.size ≤ 40 := fun p hp => by
  have hz := dec_size (n := n) (by omega)
  have : p = (nHost, aN) ∨ p = (nCL, decB n) ∨ p = (nExp, expV) := by
    unfold lenS15 at hp
    cases ex with
    | false => simp at hp; rcases hp with h | h; exact .inl h; exact .inr (.inl h)
    | true => simp at hp; rcases hp with h | h | h; exact .inl h; exact .inr (.inl h); exact .inr (.inr h)
  rcases this with rfl | rfl | rfl
  · exact ⟨by decide +kernel, by decide⟩
  · refine ⟨dec_ok n, ?_⟩
    have : nCL.size = 14 := rfl
    show nCL.size + (decB n).size ≤ 40
    omega
  · exact ⟨by decide +kernel, by decide⟩
theorem lens_bytes {n : Nat} (ex : Bool) (hn : n ≤ 2048) : bytesF (lenS15 n ex) ≤ 132 := by
  have h := lens_ok ex hn
  have hlen : (lenS15 n ex).length ≤ 3 := by unfold lenS15; cases ex <;> simp
  have : ∀ l : List FV, (∀ p ∈ l, p.1.size + p.2.size ≤ 40) → bytesF l ≤ l.length * 44 := by
    intro l
    induction l with
    | nil => intro _; decide
    | cons p r ih => intro h; rw [bytesF_cons, List.length_cons]; have := h p (by simp); have := ih fun q hq => h q (by simp [hq]); omega
  have := this _ fun p hp => (h p hp).2
  omega

/-! The bytes that the laws know. -/
def knR : List UInt8 := [71, 69, 84, 32, 47, 32, 72, 84, 84, 80, 47, 49, 46, 48, 13, 10, 13, 10, 71, 69, 84]
theorem knR_feed : (feedR newR knR).2 = 18 ∧ (feedR newR knR).1.phase = 3 ∧ (rqOf (feedR newR knR).1).close = true ∧ (rqOf (feedR newR knR).1).minor = 0 ∧ (rqOf (feedR newR knR).1).tgt.path = ⟨#[47]⟩ := by decide +kernel

/-! A line that is too long. -/
theorem rlong (p : PrP) (h : HdP) (l : List UInt8) (c : UInt8) (m : List UInt8) (h10 : ∀ x ∈ l, x ≠ 10) (hl : l.length = 256) (hc : c ≠ 10) (hc2 : c ≠ 13) :
    feedR (InR p h []) (l ++ c :: m) = (badR (InR p h (l ++ [c])) (longS h), 257) := by
  have g1 := rline_goes p h l [] h10 (by simp; omega)
  rw [List.nil_append] at g1
  have e : oneR (InR p h l) c = badR (InR p h (l ++ [c])) (longS h) := by
    rw [oneR_in]
    unfold headR
    rw [if_neg hc]
    unfold lgrowR
    rw [if_pos (show 256 < cntL (InR p h l).line c by show 256 < cntL l c; unfold cntL; rw [if_neg hc2]; omega)]
    rfl
  have g2 : GoesR (InR p h l) [c] (badR (InR p h (l ++ [c])) (longS h)) := by
    refine GoesR.cons (doneR_in p h l) ?_
    rw [e]
    exact GoesR.nil _
  have g := g1.app g2
  have hd := g.done rfl m
  rw [List.append_assoc, List.length_append, hl] at hd
  exact hd
end Go.Proofs.YtgkhelbpccehcaaGreatDoor

/- Requests with a length, as chapter 15's laws make them. No program but for what Parse answers. -/
namespace Go.Proofs.YtgkhelbpccehcaaGreatDoor
open Go.RowKit
set_option linter.unusedVariables false
set_option linter.unusedSimpArgs false

def lnsC (ls : List ByteArray) : List UInt8 := ls.flatMap fun s => s.data.toList ++ [13, 10]
theorem lnsC_cons (s : ByteArray) (ls : List ByteArray) : lnsC (s :: ls) = s.data.toList ++ [13, 10] ++ lnsC ls := by unfold lnsC; rw [List.flatMap_cons]
/-- A head but for its end. -/
theorem head_in {s : ByteArray} {H0 : HdP} (hs : ∀ x ∈ s.data.toList, x ≠ 10) (hz : s.size ≤ 256) (h0 : s.size ≠ 0) (hl : lineP newH s = H0) (e1 : H0.started = true) (e2 : H0.whole = false) (e3 : H0.status = 0) (e4 : H0.S = [])
    (S : List FV) (hS : ∀ p ∈ S, okF p = true ∧ p.1.size + p.2.size ≤ 254) (h24 : S.length ≤ 24) (hb : H0.bytes + bytesF S ≤ 1024) :
    GoesR newR (lnsC (s :: linesF S)) (InR newR { H0 with bytes := H0.bytes + bytesF S, S := S } []) := by
  have hH : H0 = { H0 with bytes := H0.bytes, S := [] } := by cases H0; simp only at e4; rw [e4]
  have play : ∀ k, playP H0 (linesF (S.take k)) = { H0 with bytes := H0.bytes + bytesF (S.take k), S := S.take k } := fun k => by
    have hbk : bytesF (S.take k) ≤ bytesF S := by
      have : ∀ (l m : List FV), bytesF (l ++ m) = bytesF l + bytesF m := fun l m => by unfold bytesF; rw [List.map_append, List.sum_append]
      have h := this (S.take k) (S.drop k)
      rw [List.take_append_drop] at h
      omega
    have h := flds_play (h := H0) (S.take k) H0.bytes [] e1 e2 e3 (fun p hp => hS p (List.mem_of_mem_take hp)) (by rw [List.length_take]; simp; omega) (by omega)
    rw [← hH, List.nil_append] at h
    exact h
  have hlines : ∀ k, (linesF S).take k = linesF (S.take k) := fun k => by unfold linesF; rw [List.map_take]
  have g := rlines newR (s :: linesF S) newH (fun x hx => by
    rcases List.mem_cons.1 hx with rfl | hx
    · exact ⟨hs, hz⟩
    · unfold linesF at hx
      obtain ⟨p, hp, rfl⟩ := List.mem_map.1 hx
      have := hS p hp
      exact ⟨ok_10 this.1, by rw [lineK_size]; omega⟩) (fun k hk hk0 => by
    obtain ⟨j, rfl⟩ : ∃ j, k = j + 1 := ⟨k - 1, by omega⟩
    rw [List.take_succ_cons, hlines, playP_cons, hl, play j]
    exact ⟨e3, e2⟩)
  have hp := play S.length
  rw [List.take_length] at hp
  rw [playP_cons, hl, hp] at g
  have hne : s.data.toList ≠ [] := by
    intro h
    exact h0 (show s.data.toList.length = 0 by rw [h]; rfl)
  change GoesR (InR newR newH []) (lnsC (s :: linesF S)) _ at g
  rw [lnsC_cons] at g ⊢
  match hd : s.data.toList, hne with
  | c :: l, _ =>
    rw [hd] at g
    exact rfirst rfl g
/-- The empty line behind it, where the head is whole. -/
theorem head_end (p : PrP) {h : HdP} {hw : HowP} (e1 : h.started = true) (e2 : h.whole = false) (e3 : h.status = 0) (hb : h.bytes + 2 ≤ 1024) (hf : frm h.minor h.S = (hw, 0)) :
    GoesR (InR p h []) [13, 10] (begR (InR p { h with bytes := h.bytes + 2, how := hw, whole := true, status := 0 } []) { h with bytes := h.bytes + 2, how := hw, whole := true, status := 0 }) := by
  have g := rwhole p h noB (fun x hx => nomatch hx) (by decide)
  have e : lineP h noB = { h with bytes := h.bytes + 2, how := hw, whole := true, status := 0 } := by
    rw [end_line e1 e2 e3 hb, hf]; rfl
  unfold lineR at g
  rw [e] at g
  rw [if_neg (show ¬ ((0 : Int) ≠ 0) from fun h => h rfl), if_pos rfl] at g
  exact g
/-- A head with a length, ended. -/
def hdL (m : List UInt8) (p : ByteArray) (b n : Nat) (ex : Bool) : HdP := { begQ m p 1 b with bytes := b + bytesF (lenS15 n ex), S := lenS15 n ex }
def hdW (m : List UInt8) (p : ByteArray) (b n : Nat) (ex : Bool) : HdP := { hdL m p b n ex with bytes := b + bytesF (lenS15 n ex) + 2, how := ⟨1, n, false, ex && decide (0 < n)⟩, whole := true, status := 0 }
theorem postX_goes {n : Nat} (ex : Bool) (hn : n ≤ 2048) : GoesR newR (lnsC (postX :: linesF (lenS15 n ex))) (InR newR (hdL postM ⟨#[47, 120]⟩ 18 n ex) []) :=
  head_in (by decide) (by decide) (by decide) postX_line rfl rfl rfl rfl _ (fun p hp => ⟨(lens_ok ex hn p hp).1, Nat.le_trans (lens_ok ex hn p hp).2 (by decide)⟩) (by unfold lenS15; cases ex <;> simp) (by have := lens_bytes ex hn; show 18 + _ ≤ 1024; omega)
theorem postR_goes {n : Nat} (ex : Bool) (hn : n ≤ 2048) : GoesR newR (lnsC (postR :: linesF (lenS15 n ex))) (InR newR (hdL postM ⟨#[47]⟩ 17 n ex) []) :=
  head_in (by decide) (by decide) (by decide) postR_line rfl rfl rfl rfl _ (fun p hp => ⟨(lens_ok ex hn p hp).1, Nat.le_trans (lens_ok ex hn p hp).2 (by decide)⟩) (by unfold lenS15; cases ex <;> simp) (by have := lens_bytes ex hn; show 17 + _ ≤ 1024; omega)
theorem len_end (p : PrP) (m : List UInt8) (pa : ByteArray) {b n : Nat} (ex : Bool) (hb : b ≤ 30) (hn : n ≤ 2048) : GoesR (InR p (hdL m pa b n ex) []) [13, 10] (begR (InR p (hdW m pa b n ex) []) (hdW m pa b n ex)) :=
  head_end p rfl rfl rfl (by have := lens_bytes ex hn; show b + _ + 2 ≤ 1024; omega) (len_frm n ex hn)
theorem beg_phase (p : PrP) (m : List UInt8) (pa : ByteArray) (b n : Nat) (ex : Bool) : (begR (InR p (hdW m pa b n ex) []) (hdW m pa b n ex)).phase = if n = 0 then 3 else 2 := by
  show (if (1 : Int) = 0 ∨ ((1 : Int) = 1 ∧ (n : Int) = 0) then 3 else 2) = _
  by_cases h : n = 0
  · rw [if_pos (.inr ⟨rfl, by omega⟩), if_pos h]
  · rw [if_neg (by rintro (h2 | h2); cases h2; omega), if_neg h]
/-- Its body, all but the last byte, and the last one. -/
theorem body_most (p : PrP) (m : List UInt8) (pa : ByteArray) (b : Nat) (ex : Bool) {l : List UInt8} (h0 : l ≠ []) :
    GoesR (begR (InR p (hdW m pa b l.length ex) []) (hdW m pa b l.length ex)) l.dropLast { begR (InR p (hdW m pa b l.length ex) []) (hdW m pa b l.length ex) with phase := 2, body := l.dropLast, came := !l.dropLast.isEmpty } := by
  have hpos := List.length_pos_iff.2 h0
  have hph : (begR (InR p (hdW m pa b l.length ex) []) (hdW m pa b l.length ex)).phase = 2 := by rw [beg_phase, if_neg (by omega)]
  have g := rbody_goes (p := begR (InR p (hdW m pa b l.length ex) []) (hdW m pa b l.length ex)) (n := l.length) rfl rfl l.dropLast [] false (by rw [List.length_dropLast]; simp; omega)
  rw [List.nil_append, Bool.false_or] at g
  have e : begR (InR p (hdW m pa b l.length ex) []) (hdW m pa b l.length ex) = { begR (InR p (hdW m pa b l.length ex) []) (hdW m pa b l.length ex) with phase := 2, body := [], came := false } := by
    generalize hg : begR (InR p (hdW m pa b l.length ex) []) (hdW m pa b l.length ex) = q at *
    have hb1 : q.body = [] := by rw [← hg]; rfl
    have hb2 : q.came = false := by rw [← hg]; rfl
    cases q
    simp only at hph hb1 hb2
    subst hph; subst hb1; subst hb2
    rfl
  rw [← e] at g
  exact g
theorem body_last (p : PrP) (m : List UInt8) (pa : ByteArray) (b : Nat) (ex : Bool) {l : List UInt8} (h0 : l ≠ []) :
    GoesR { begR (InR p (hdW m pa b l.length ex) []) (hdW m pa b l.length ex) with phase := 2, body := l.dropLast, came := !l.dropLast.isEmpty } [l.getLast h0] { begR (InR p (hdW m pa b l.length ex) []) (hdW m pa b l.length ex) with phase := 3, body := l, came := true } := by
  have hpos := List.length_pos_iff.2 h0
  have g := rlast_goes (p := begR (InR p (hdW m pa b l.length ex) []) (hdW m pa b l.length ex)) (n := l.length) rfl rfl l.dropLast (!l.dropLast.isEmpty) (l.getLast h0) (by rw [List.length_dropLast]; omega)
  rw [List.dropLast_concat_getLast h0] at g
  exact g
/-- A second request, of no field, behind a first one that was taken. -/
theorem getZ_goes {p : PrP} (hp : p.phase = 0) : ∃ p', GoesR p (lnsC [getZ, noB]) p' ∧ p'.phase = 3 ∧ (rqOf p').tgt = pathT ⟨#[47, 122]⟩ := by
  have g1 := rlines p [getZ] newH (fun x hx => by
    have : x = getZ := by simpa using hx
    subst this
    exact ⟨by decide, by decide⟩) (fun k hk hk0 => by
    have hk1 : k = 1 := by simp at hk; omega
    subst hk1
    show (lineP newH getZ).status = 0 ∧ (lineP newH getZ).whole = false
    rw [getZ_line]; exact ⟨rfl, rfl⟩)
  rw [show playP newH [getZ] = begQ getT ⟨#[47, 122]⟩ 0 17 from getZ_line] at g1
  have hf : (frm 0 []).1.kind = 0 ∧ (frm 0 []).2 = 0 := by decide +kernel
  obtain ⟨hw, s, hfr⟩ : ∃ hw s, frm 0 [] = (hw, s) := ⟨_, _, rfl⟩
  rw [hfr] at hf
  simp only at hf
  obtain ⟨hf1, hf2⟩ := hf
  subst hf2
  have g2 := head_end p (h := begQ getT ⟨#[47, 122]⟩ 0 17) rfl rfl rfl (by decide) hfr
  have g := g1.app g2
  have e : lnsC [getZ, noB] = 71 :: (lnsC [getZ, noB]).tail := rfl
  change GoesR (InR p newH []) (lnsC [getZ, noB]) _ at g
  rw [e] at g
  have gz := rfirst hp g
  rw [← e] at gz
  refine ⟨_, gz, ?_, rfl⟩
  show (if hw.kind = 0 ∨ _ then 3 else 2) = 3
  rw [if_pos (.inl hf1)]
end Go.Proofs.YtgkhelbpccehcaaGreatDoor
