/- The code's skipBlanks, firstToken, tokenOrQuoted; the document's blanks and token. Conditions: a text of at most a million bytes. -/
import Derived.Test.YtgkhelbpccehcaaGreatDoorPd9
namespace Go.Proofs.YtgkhelbpccehcaaGreatDoor
open Go.RowKit
set_option linter.unusedVariables false

def skipB (s : ByteArray) : ByteArray := ba (tlL s.data.toList)
def firstB (s : ByteArray) : ByteArray := ba (tw s.data.toList)
theorem skipB_size (s : ByteArray) : (skipB s).size ≤ s.size := by
  show (tlL s.data.toList).length ≤ s.data.toList.length; exact tlL_le _
theorem firstB_size (s : ByteArray) : (firstB s).size ≤ s.size := by
  show (tw s.data.toList).length ≤ s.data.toList.length; exact tw_len _
theorem skip_a (s : ByteArray) (w : World) : Calls Tryz.prog 197 #[.string s] w fun e w' => e = .returned (.string (skipB s)) ∧ Below w.heap.size w w' := by
  go_enter Tryz.func197, Tryz.ntmps197
  go_wp2_with (go_at_call 212; refine (trimleft_shelf s _).mono ?_; rintro e w1 ⟨rfl, hb⟩; have HB := Lib.hid hb; clear hb)
  go_ret
  exact ⟨rfl, HB.out⟩
theorem ext_one (s : ByteArray) (k : Nat) (h : k < s.size) : (s.extract k (k + 1)).data.toList = [s[k]] := by
  rw [ext_snoc s k k (Nat.le_refl _) h, ext_self]; rfl
theorem tok_one (s : ByteArray) (k : Nat) (h : k < s.size) : tokL (s.extract k (k + 1)).data.toList = tokB s[k] := by
  rw [ext_one s k h]; unfold tokL; simp
theorem tw_more {s : ByteArray} {k : Nat} (h : k < s.size) (hk : s.data.toList.take k = (tw s.data.toList).take k) (hle : k ≤ (tw s.data.toList).length) (hb : tokB s[k] = true) :
    s.data.toList.take (k + 1) = (tw s.data.toList).take (k + 1) ∧ k + 1 ≤ (tw s.data.toList).length := by
  have h1 := tw_dwt s.data.toList
  have hlt : k < (tw s.data.toList).length := by
    rcases Nat.lt_or_ge k (tw s.data.toList).length with h2 | h2
    · exact h2
    · exfalso
      have e : (tw s.data.toList).length = k := by omega
      have hd : dwt s.data.toList = s.data.toList.drop k := by rw [← dwt_drop, e]
      rw [drop_cons s k h] at hd
      unfold dwt at hd
      have : ∀ (l : List UInt8) c t, l.dropWhile tokB = c :: t → tokB c = false := by
        intro l; induction l with
        | nil => intro c t h; simp at h
        | cons d r ih =>
          intro c t hh
          by_cases hd : tokB d = true
          · rw [List.dropWhile_cons, if_pos hd] at hh; exact ih c t hh
          · rw [List.dropWhile_cons, if_neg hd] at hh; injection hh with e1 _; subst e1; simpa using hd
      rw [this _ _ _ hd] at hb; cases hb
  refine ⟨?_, by omega⟩
  conv => lhs; rw [← h1]
  rw [List.take_append_of_le_length (by omega)]
theorem tw_stop {s : ByteArray} {k : Nat} (hle : k ≤ (tw s.data.toList).length) (h : s.size ≤ k ∨ ∃ hk : k < s.size, tokB s[k] = false) : (tw s.data.toList).length = k := by
  have hl := tw_len s.data.toList
  have e2 : s.data.toList.length = s.size := rfl
  rcases h with h | ⟨hk, hb⟩
  · omega
  · rcases Nat.lt_or_ge k (tw s.data.toList).length with h2 | h2
    · exfalso
      have h1 : (tw s.data.toList)[k] = s[k] := by
        have := tw_dwt s.data.toList
        have h3 : (tw s.data.toList ++ dwt s.data.toList)[k]? = s.data.toList[k]? := by rw [this]
        rw [List.getElem?_append_left h2, List.getElem?_eq_getElem h2, List.getElem?_eq_getElem (by exact hk)] at h3
        injection h3
      have : tokB (tw s.data.toList)[k] = true := List.all_eq_true.1 (List.all_takeWhile) _ (List.getElem_mem h2)
      rw [h1, hb] at this; cases this
    · omega
set_option maxRecDepth 10000 in
theorem first_a (s : ByteArray) (w : World) (hs : s.size ≤ 1000000) : Calls Tryz.prog 213 #[.string s] w fun e w' => e = .returned (.string (firstB s)) ∧ Below w.heap.size w w' := by
  go_enter Tryz.func213, Tryz.ntmps213
  go_wp2
  go_loop [3] (fun i => ∃ (k : Nat), k ≤ s.size ∧ i = .int .i64 k ∧ k ≤ (tw s.data.toList).length ∧ s.data.toList.take k = (tw s.data.toList).take k) (fun i => s.size - (intOf i).toNat)
  case atStart => exact ⟨0, Nat.zero_le _, rfl, Nat.zero_le _, rfl⟩
  case round =>
    obtain ⟨k, hk, rfl, hle, ht⟩ := hrel
    have HT := Lib.hid ht
    have HLE := Lib.hid hle
    clear ht hle
    have fin : ∀ (w0 : World), (tw s.data.toList).length = k → Calls Tryz.prog 47 #[.string (s.extract 0 k)] w0 fun e w' => e = .returned (.string (firstB s)) ∧ Below w0.heap.size w0 w' := by
      intro w0 hkk
      have e : s.extract 0 k = firstB s := by
        apply Go.WideShapes.bytes_inj
        rw [ext_list]
        show (s.data.toList.drop 0).take (k - 0) = tw s.data.toList
        rw [List.drop_zero, Nat.sub_zero, HT.out, ← hkk, List.take_length]
      rw [e]
      exact clone_shelf _ _ (by have := firstB_size s; omega)
    have FIN := Lib.hid fin
    clear fin
    by_cases hlt : k < s.size
    · have hsz : (s.extract k (k + 1)).size ≤ maxLen := by rw [extract_size _ _ _ (by omega)]; unfold maxLen; omega
      have hiv := fun w => istok_a (s.extract k (k + 1)) w hsz
      rw [tok_one s k hlt] at hiv
      cases hb : tokB s[k]
      · rw [hb] at hiv
        have hkk := tw_stop HLE.out (Or.inr ⟨hlt, hb⟩)
        have hcl := FIN.out w hkk
        clear hb hkk
        go_wp2_with (go_at_call 106; refine (hiv _).mono ?_; rintro e w' ⟨rfl, rfl⟩)
        go_in
        go_wp2_with (go_at_call 47; refine hcl.mono ?_; rintro e w2 ⟨rfl, hd⟩; have HD := Lib.hid hd; clear hd)
        go_ret
        exact ⟨rfl, HD.out⟩
      · rw [hb] at hiv
        have hm := tw_more hlt HT.out HLE.out hb
        have HM := Lib.hid hm
        clear hb hm
        go_wp2_with (go_at_call 106; refine (hiv _).mono ?_; rintro e w' ⟨rfl, rfl⟩)
        go_round
        case rel => exact ⟨k + 1, by omega, by go_num, HM.out.2, HM.out.1⟩
        case measure => simp [intOf]; omega
    · obtain rfl : k = s.size := by omega
      have hcl := FIN.out w (tw_stop HLE.out (Or.inl (Nat.le_refl _)))
      rw [show s.extract 0 s.size = s from ByteArray.extract_zero_size] at hcl
      go_wp2_with fail
      go_in
      go_wp2_with (go_at_call 47; refine hcl.mono ?_; rintro e w2 ⟨rfl, hd⟩; have HD := Lib.hid hd; clear hd)
      go_ret
      exact ⟨rfl, HD.out⟩
end Go.Proofs.YtgkhelbpccehcaaGreatDoor
