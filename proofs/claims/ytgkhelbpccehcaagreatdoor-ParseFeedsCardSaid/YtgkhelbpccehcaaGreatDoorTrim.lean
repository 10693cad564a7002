/- The code's and the document's Trim answer the text without blanks about it. Conditions: a text within the reach. -/
import Derived.Test.YtgkhelbpccehcaaGreatDoorTrimShelf
import Derived.Test.YtgkhelbpccehcaaGreatDoorTok
import Derived.WalkSpells
namespace Go.Proofs.YtgkhelbpccehcaaGreatDoor
open Go.RowKit
set_option linter.unusedVariables false

def blk (c : UInt8) : Bool := [9, 32].contains c
def tlL (l : List UInt8) : List UInt8 := l.dropWhile blk
def trL (l : List UInt8) : List UInt8 := (l.reverse.dropWhile blk).reverse
theorem dw_nil {p : UInt8 → Bool} : ∀ {l : List UInt8}, List.dropWhile p l = [] ↔ ∀ x ∈ l, p x = true
  | [] => by simp
  | c :: r => by
    rw [List.dropWhile_cons]
    by_cases h : p c = true
    · rw [if_pos h, dw_nil]; simp [h]
    · rw [if_neg h]; simp [h]
theorem dw_le (p : UInt8 → Bool) : ∀ l : List UInt8, (List.dropWhile p l).length ≤ l.length
  | [] => Nat.le_refl _
  | c :: r => by
    rw [List.dropWhile_cons]
    by_cases h : p c = true
    · rw [if_pos h]; have := dw_le p r; simp only [List.length_cons]; omega
    · rw [if_neg h]; exact Nat.le_refl _
theorem trL_nil : trL [] = [] := rfl
theorem trL_snoc_yes (l : List UInt8) (c : UInt8) (h : blk c = true) : trL (l ++ [c]) = trL l := by
  unfold trL; rw [List.reverse_append]; simp [h]
theorem trL_snoc_no (l : List UInt8) (c : UInt8) (h : blk c = false) : trL (l ++ [c]) = l ++ [c] := by
  unfold trL; rw [List.reverse_append]; simp [h]
theorem trL_cons (c : UInt8) (l : List UInt8) : trL (c :: l) = if l.all blk then (if blk c then [] else [c]) else c :: trL l := by
  unfold trL
  rw [List.reverse_cons, List.dropWhile_append]
  by_cases h : l.all blk = true
  · have : List.dropWhile blk l.reverse = [] := by
      rw [dw_nil]; intro x hx; exact List.all_eq_true.1 h x (by simpa using hx)
    rw [this, if_pos h]
    by_cases hc : blk c = true <;> simp [hc]
  · have : List.dropWhile blk l.reverse ≠ [] := by
      intro e; rw [dw_nil] at e
      exact h (List.all_eq_true.2 fun x hx => e x (by simpa using hx))
    rw [if_neg h]
    have h2 : (List.dropWhile blk l.reverse).isEmpty = false := by simpa using this
    rw [h2]; simp
theorem trL_all (l : List UInt8) (h : l.all blk = true) : trL l = [] := by
  unfold trL
  have : List.dropWhile blk l.reverse = [] := by
    rw [dw_nil]; intro x hx; exact List.all_eq_true.1 h x (by simpa using hx)
  rw [this]; rfl
theorem tl_tr (l : List UInt8) : tlL (trL l) = trL (tlL l) := by
  induction l with
  | nil => rfl
  | cons c r ih =>
    rw [trL_cons]
    by_cases hc : blk c = true
    · have e : tlL (c :: r) = tlL r := by simp [tlL, hc]
      rw [e, ← ih]
      by_cases h : r.all blk = true
      · rw [if_pos h, if_pos hc, trL_all r h]
      · rw [if_neg h]; simp [tlL, hc]
    · have e : tlL (c :: r) = c :: r := by simp [tlL, hc]
      rw [e, trL_cons]
      by_cases h : r.all blk = true
      · rw [if_pos h, if_neg hc]; simp [tlL, hc]
      · rw [if_neg h]; simp [tlL, hc]
def trimL (l : List UInt8) : List UInt8 := Lib.trimS l [9, 32]
theorem trimL_eq (l : List UInt8) : trimL l = trL (tlL l) := by
  rw [← tl_tr]; rfl
theorem tlL_le (l : List UInt8) : (tlL l).length ≤ l.length := dw_le _ _
theorem trL_le (l : List UInt8) : (trL l).length ≤ l.length := by
  unfold trL; rw [List.length_reverse]; have := dw_le blk l.reverse; simpa using this
theorem trimL_le (l : List UInt8) : (trimL l).length ≤ l.length := by
  rw [trimL_eq]; exact Nat.le_trans (trL_le _) (tlL_le _)
def trimA (s : ByteArray) : ByteArray := ⟨(trimL s.data.toList).toArray⟩
theorem trimA_size (s : ByteArray) : (trimA s).size ≤ s.size := by
  show (trimL s.data.toList).length ≤ s.data.toList.length; exact trimL_le _

set_option maxRecDepth 10000 in
theorem trim_a (s : ByteArray) (w : World) (hs : s.size ≤ 140737488351232) :
    Calls Tryz.prog 124 #[.string s] w fun e w' => e = .returned (.string (trimA s)) ∧ Below w.heap.size w w' := by
  have h1 := Lib.hid (trimA_size s)
  go_enter Tryz.func124, Tryz.ntmps124
  go_wp2_with fail
  refine (trim_shelf s _ hs).mono ?_
  rintro e w1 ⟨rfl, hd⟩
  have H1 := Lib.hid hd
  clear hd
  have ht : (⟨(Lib.trimS s.data.toList [9, 32]).toArray⟩ : ByteArray) = trimA s := rfl
  rw [ht]
  go_wp2_with fail
  have hz : (trimA s).size ≤ 140737488351232 := by have := h1.out; omega
  go_in
  go_wp2_with fail
  refine (clone_shelf _ _ hz).mono ?_
  rintro e w2 ⟨rfl, hd⟩
  have H2 := Lib.hid (H1.out.trans (hd.mono H1.out.size))
  clear hd
  go_wp2
  go_ret
  exact ⟨rfl, H2.out⟩

theorem toNat_lit {c : UInt8} {n : Nat} (hn : n < 256) : ((c.toNat : Int) == (n : Int)) = (c == UInt8.ofNat n) := by
  rw [Bool.eq_iff_iff]
  simp only [beq_iff_eq]
  constructor
  · intro h; rw [← UInt8.toNat_inj, UInt8.toNat_ofNat']; omega
  · intro h; rw [h, UInt8.toNat_ofNat']; omega
theorem blk_9 {c : UInt8} (h : ((c.toNat : Int) == 9) = true) : blk c = true := by
  rw [show ((9 : Int)) = ((9 : Nat) : Int) from rfl, toNat_lit (by decide)] at h
  rw [eq_of_beq h]; decide
theorem blk_32 {c : UInt8} (h : ((c.toNat : Int) == 32) = true) : blk c = true := by
  rw [show ((32 : Int)) = ((32 : Nat) : Int) from rfl, toNat_lit (by decide)] at h
  rw [eq_of_beq h]; decide
theorem blk_no {c : UInt8} (h : ((c.toNat : Int) == 9) = false) (h2 : ((c.toNat : Int) == 32) = false) : blk c = false := by
  have h3 : c ≠ 9 := by rintro rfl; simp at h
  have h4 : c ≠ 32 := by rintro rfl; simp at h2
  simp [blk, h3, h4]
theorem list_head (t : ByteArray) (h : 0 < t.size) : t.data.toList = t[0] :: t.data.toList.drop 1 := by
  have := drop_cons t 0 h; simpa using this

def sizeV : Value → Nat | .string t => t.size | _ => 0
theorem tail_list (t : ByteArray) : (t.extract 1 t.size).data.toList = t.data.toList.drop 1 := by
  rw [ByteArray.data_extract, Array.toList_extract]
  show (t.data.toList.drop 1).take _ = _
  rw [List.take_of_length_le]; rw [List.length_drop]; show t.size - 1 ≤ _; omega
theorem tail_size (t : ByteArray) : (t.extract 1 t.size).size = t.size - 1 := by
  show (t.extract 1 t.size).data.toList.length = _
  rw [tail_list, List.length_drop]; rfl
theorem tl_cons_yes {c : UInt8} {l : List UInt8} (h : blk c = true) : tlL (c :: l) = tlL l := by simp [tlL, h]
theorem tl_cons_no {c : UInt8} {l : List UInt8} (h : blk c = false) : tlL (c :: l) = c :: l := by simp [tlL, h]
theorem tl_step {t : ByteArray} (h : 0 < t.size) (hb : blk t[0] = true) : tlL (t.extract 1 t.size).data.toList = tlL t.data.toList := by
  rw [tail_list, list_head t h, tl_cons_yes hb]; simp
theorem tl_stop {t : ByteArray} (h : 0 < t.size) (hb : blk t[0] = false) : tlL t.data.toList = t.data.toList := by
  rw [list_head t h, tl_cons_no hb]
theorem init_list (t : ByteArray) (h : 0 < t.size) : t.data.toList = (t.extract 0 (t.size - 1)).data.toList ++ [t[t.size - 1]'(by omega)] := by
  rw [ByteArray.data_extract, Array.toList_extract]
  have := take_snoc t (t.size - 1) (by omega)
  rw [show t.size - 1 + 1 = t.size by omega, List.take_of_length_le (by exact Nat.le_refl _)] at this
  simpa using this
theorem init_size (t : ByteArray) (h : 0 < t.size) : (t.extract 0 (t.size - 1)).size = t.size - 1 := by
  have := congrArg List.length (init_list t h)
  rw [List.length_append] at this
  have e1 : t.data.toList.length = t.size := rfl
  have e2 : (t.extract 0 (t.size - 1)).data.toList.length = (t.extract 0 (t.size - 1)).size := rfl
  rw [e1, e2] at this; simp only [List.length_cons, List.length_nil] at this; omega
theorem tr_step {t : ByteArray} (h : 0 < t.size) (hb : blk (t[t.size - 1]'(by omega)) = true) : trL (t.extract 0 (t.size - 1)).data.toList = trL t.data.toList := by
  conv => rhs; rw [init_list t h, trL_snoc_yes _ _ hb]
theorem tr_stop {t : ByteArray} (h : 0 < t.size) (hb : blk (t[t.size - 1]'(by omega)) = false) : trL t.data.toList = t.data.toList := by
  conv => lhs; rw [init_list t h, trL_snoc_no _ _ hb]
  rw [← init_list t h]
theorem nil_of_size {t : ByteArray} (h : t.size = 0) : t.data.toList = [] := List.eq_nil_of_length_eq_zero (by rw [len_data]; exact h)
theorem trimA_of {s t : ByteArray} (h : t.data.toList = trL (tlL s.data.toList)) : t = trimA s := by
  apply Go.WideShapes.bytes_inj
  rw [h, ← trimL_eq]; rfl

set_option maxRecDepth 10000 in
set_option maxHeartbeats 1000000 in
theorem trim_r (s : ByteArray) (w : World) (hs : s.size ≤ 140737488351232) :
    Calls Tryz.prog 81 #[.string s] w fun e w' => e = .returned (.string (trimA s)) ∧ w = w' := by
  go_enter Tryz.func81, Tryz.ntmps81
  go_wp2
  go_loop [0] (fun v => ∃ t : ByteArray, v = .string t ∧ t.size ≤ s.size ∧ tlL t.data.toList = tlL s.data.toList) (fun v => sizeV v)
  case atStart => exact ⟨s, rfl, Nat.le_refl _, rfl⟩
  case round =>
    obtain ⟨t, rfl, hts, hl⟩ := hrel
    have HL := Lib.hid hl
    clear hl
    by_cases h0 : 0 < t.size
    · by_cases hb : blk t[0] = true
      · have HB := Lib.hid hb
        clear hb
        cases h9 : ((t[0].toNat : Int) == 9)
        · cases h32 : ((t[0].toNat : Int) == 32)
          · exfalso; have := blk_no h9 h32; rw [HB.out] at this; cases this
          · go_wp2
            go_round
            case rel => exact ⟨_, rfl, by rw [tail_size]; omega, by rw [tl_step h0 HB.out, HL.out]⟩
            case measure => simp only [sizeV]; rw [tail_size]; omega
        · go_wp2
          go_round
          case rel => exact ⟨_, rfl, by rw [tail_size]; omega, by rw [tl_step h0 HB.out, HL.out]⟩
          case measure => simp only [sizeV]; rw [tail_size]; omega
      · have hb : blk t[0] = false := by simpa using hb
        have HS := Lib.hid (show tlL s.data.toList = t.data.toList by rw [← HL.out, tl_stop h0 hb])
        have h9 : ((t[0].toNat : Int) == 9) = false := by
          cases h : ((t[0].toNat : Int) == 9)
          · rfl
          · rw [blk_9 h] at hb; cases hb
        have h32 : ((t[0].toNat : Int) == 32) = false := by
          cases h : ((t[0].toNat : Int) == 32)
          · rfl
          · rw [blk_32 h] at hb; cases hb
        clear hb
        go_wp2
        go_loop [0] (fun v => ∃ u : ByteArray, v = .string u ∧ u.size ≤ t.size ∧ trL u.data.toList = trL t.data.toList) (fun v => sizeV v)
        case atStart => exact ⟨t, rfl, Nat.le_refl _, rfl⟩
        case round =>
          obtain ⟨u, rfl, hus, hl⟩ := hrel
          have HM := Lib.hid hl
          clear hl
          by_cases h0 : 0 < u.size
          · have hlt : u.size - 1 < u.size := by omega
            by_cases hb : blk u[u.size - 1] = true
            · have HB := Lib.hid hb
              clear hb
              cases h9 : ((u[u.size - 1].toNat : Int) == 9)
              · cases h32 : ((u[u.size - 1].toNat : Int) == 32)
                · exfalso; have := blk_no h9 h32; rw [HB.out] at this; cases this
                · go_wp2
                  go_round
                  case rel => exact ⟨_, rfl, by rw [init_size u h0]; omega, by rw [tr_step h0 HB.out, HM.out]⟩
                  case measure => simp only [sizeV]; rw [init_size u h0]; omega
              · go_wp2
                go_round
                case rel => exact ⟨_, rfl, by rw [init_size u h0]; omega, by rw [tr_step h0 HB.out, HM.out]⟩
                case measure => simp only [sizeV]; rw [init_size u h0]; omega
            · have hb : blk u[u.size - 1] = false := by simpa using hb
              have HF := Lib.hid (trimA_of (s := s) (t := u) (by rw [HS.out, ← HM.out, tr_stop h0 hb]))
              have h9 : ((u[u.size - 1].toNat : Int) == 9) = false := by
                cases h : ((u[u.size - 1].toNat : Int) == 9)
                · rfl
                · rw [blk_9 h] at hb; cases hb
              have h32 : ((u[u.size - 1].toNat : Int) == 32) = false := by
                cases h : ((u[u.size - 1].toNat : Int) == 32)
                · rfl
                · rw [blk_32 h] at hb; cases hb
              clear hb
              go_wp2
              go_ret
              exact ⟨ret_str HF.out, rfl⟩
          · have HF := Lib.hid (trimA_of (s := s) (t := u) (by rw [HS.out, ← HM.out, nil_of_size (by omega)]; rfl))
            go_wp2
            go_ret
            exact ⟨ret_str HF.out, rfl⟩
    · have HS := Lib.hid (show tlL s.data.toList = t.data.toList by rw [← HL.out, nil_of_size (by omega)]; rfl)
      go_wp2
      go_loop [0] (fun v => ∃ u : ByteArray, v = .string u ∧ u.size ≤ t.size ∧ trL u.data.toList = trL t.data.toList) (fun v => sizeV v)
      case atStart => exact ⟨t, rfl, Nat.le_refl _, rfl⟩
      case round =>
        obtain ⟨u, rfl, hus, hl⟩ := hrel
        have HM := Lib.hid hl
        clear hl
        by_cases h0 : 0 < u.size
        · exfalso; omega
        · have HF := Lib.hid (trimA_of (s := s) (t := u) (by rw [HS.out, ← HM.out, nil_of_size (by omega)]; rfl))
          go_wp2
          go_ret
          exact ⟨ret_str HF.out, rfl⟩
end Go.Proofs.YtgkhelbpccehcaaGreatDoor
