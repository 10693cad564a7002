/- The code's Has answers whether a token is among those of its values; the law's texts and heavy. Conditions: at most a million bytes in all. -/
import Derived.Test.YtfnjkkjpffnbiaaDoorTn9
import Derived.BigQuiet
import Derived.BigRegion
namespace Go.Proofs.YtfnjkkjpffnbiaaDoor
open Go.RowKit
set_option linter.unusedVariables false

theorem row_strs {W : World} {base : Nat} {v : Value} {L : List (List UInt8)} (h : W.ownsRow base 9 1 v L.length (strs9 L)) : StrsAt W v (L.map ba) := by
  rcases h.2 with ⟨rfl, h0⟩ | ⟨g, cap, cur, rfl, hb, hg, hn, hm, hc, ht⟩
  · left
    have : L = [] := List.eq_nil_of_length_eq_zero h0
    subst this
    exact ⟨rfl, _, _, rfl⟩
  · by_cases h0 : L.length = 0
    · have : L = [] := List.eq_nil_of_length_eq_zero h0
      subst this
      exact Or.inl ⟨rfl, _, _, rfl⟩
    · right
      refine ⟨g, 0, cap, by rw [List.length_map], by rw [List.length_map]; omega, (Array.getElem?_eq_some_iff.1 hg).1, fun j hj => ?_⟩
      rw [List.length_map] at hj
      have hj2 : j < cur.toList.length := by simp; omega
      have e : cur.toList[j]? = some (strV L[j]) := by
        have h1 : (cur.toList.take (L.length * 1))[j]? = (strs9 L)[j]? := by rw [ht]
        rw [List.getElem?_take, if_pos (by omega)] at h1
        rw [h1]; simp [strs9, hj]
      simp only [World.cell?, hg, Nat.zero_add]
      have e2 : cur[j]? = some (strV L[j]) := by rw [← Array.getElem?_toList]; exact e
      simp [e2, strV, ba]
theorem StrsAt.below {W W' : World} {v : Value} {ts : List ByteArray} (h : StrsAt W v ts) (hb : Below W.heap.size W W') : StrsAt W' v ts := by
  rcases h with h | ⟨b, off, cap, hv, h0, hlt, hc⟩
  · exact .inl h
  · exact .inr ⟨b, off, cap, hv, h0, Nat.lt_of_lt_of_le hlt hb.size, fun j hj => (hb.cell (p := ⟨b, off + j, none⟩) hlt).trans (hc j hj)⟩
theorem contains_any (ts : List ByteArray) (v : Value) (x : ByteArray) (w : World) (h : StrsAt w v ts) (hs : ts.length ≤ 1000000) :
    Calls Tryd.prog 28 #[v, .string x] w fun e w' => e = .returned (.bool (Lib.containsS ts x)) ∧ w' = w := by
  rcases h with ⟨rfl, a, cap, rfl⟩ | ⟨b, off, cap, rfl, h0, hlt, hc⟩
  · exact contains_none a cap x w
  · have := contains_shelf b off ts.length cap ts x w (Nat.le_refl _) (by omega) (fun j hj => by rw [hc j hj, List.getD_eq_getElem?_getD, List.getElem?_eq_getElem hj]; rfl)
    rw [List.take_length] at this; exact this
theorem ba_inj {a b : List UInt8} (h : ba a = ba b) : a = b := by
  have := congrArg (fun t : ByteArray => t.data.toList) h
  exact this
theorem has_contains (L : List (List UInt8)) (t : List UInt8) : Lib.containsS (L.map ba) (ba t) = L.any (fun x => x == t) := by
  rw [Bool.eq_iff_iff, Lib.containsS_iff, List.any_eq_true]
  constructor
  · intro h
    obtain ⟨x, hx, e⟩ := List.mem_map.1 h
    exact ⟨x, hx, by rw [ba_inj e]; simp⟩
  · rintro ⟨x, hx, e⟩
    exact List.mem_map.2 ⟨x, hx, by rw [eq_of_beq e]⟩
def HasAns (w : World) (tok : ByteArray) (ts : List ByteArray) (e : Ending) (w' : World) : Prop :=
  e = .returned (.bool (hasL tok.data.toList ts)) ∧ Below w.heap.size w w'
theorem toksO_len {ts : List ByteArray} {L : List (List UInt8)} (h : toksO ts = some L) : L.length ≤ sizes ts := Nat.le_trans (tokO_len h) (partsO_len ts)

set_option maxRecDepth 10000 in
theorem has_a (tok : ByteArray) (ts : List ByteArray) (v : Value) (w : World) (h : StrsAt w v ts) (hs : sizes ts ≤ 1000000) (ht : tok.size ≤ 1000000) :
    Calls Tryd.prog 13 #[.string tok, v] w (HasAns w tok ts) := by
  have hm : tok.size ≤ maxLen := by unfold maxLen; omega
  have HT := tokens_a ts v w h hs
  have HS := Lib.hid hs
  clear hs h
  cases hL : toksO ts with
  | none =>
    have hh : hasL tok.data.toList ts = false := by unfold hasL; rw [hL]
    have HH := Lib.hid hh
    have HL := Lib.hid hL
    clear hh hL
    go_enter Tryd.func13, Tryd.ntmps13
    go_wp2_with (go_at_call 10; refine HT.mono ?_; rintro e w1 ⟨hb, he⟩; rw [HL.out] at he; obtain rfl := he; have HB := Lib.hid hb; clear hb)
    go_ret
    exact ⟨by rw [HH.out]; rfl, HB.out⟩
  | some L =>
    have hh : hasL tok.data.toList ts = L.any (fun x => x == lowL tok.data.toList) := by unfold hasL; rw [hL]
    have hlen := Nat.le_trans (toksO_len hL) HS.out
    have HH := Lib.hid hh
    have HL := Lib.hid hL
    clear hh hL
    go_enter Tryd.func13, Tryd.ntmps13
    go_wp2_with (first
      | (go_at_call 10; refine HT.mono ?_; rintro e w1 ⟨hb, he⟩; rw [HL.out] at he; obtain ⟨v1, rfl, hr⟩ := he; have HB := Lib.hid hb; have HR := Lib.hid (row_strs hr); clear hb hr)
      | (go_at_call 24; refine (lower_a tok _ hm).mono ?_; rintro e w2 ⟨rfl, hb2⟩; have HB2 := Lib.hid hb2; clear hb2)
      | (go_at_call 28; refine (contains_any (L.map ba) v1 _ _ (HR.out.below HB2.out) (by rw [List.length_map]; exact hlen)).mono ?_; rintro e w3 ⟨rfl, rfl⟩))
    go_ret
    refine ⟨?_, HB.out.trans (HB2.out.mono HB.out.size)⟩
    rw [HH.out, ← has_contains]; rfl

/-! ### The law's comparison of two lists of texts, and its measure -/
theorem bytes_eq {a b : ByteArray} (h : a = b) : (a.toList == b.toList) = true ∧ (a.toList != b.toList) = false := by rw [h]; simp
theorem bytes_ne {a b : ByteArray} (h : a ≠ b) : (a.toList == b.toList) = false ∧ (a.toList != b.toList) = true := by
  have : a.toList ≠ b.toList := fun e => h (by
    rw [ByteArray.toList_eq, ByteArray.toList_eq] at e
    exact Go.WideShapes.bytes_inj (by simpa using congrArg List.toArray e |> fun h => by simpa using h))
  simpa using this
theorem StrsAt.len {W : World} {v : Value} {ts : List ByteArray} (h : StrsAt W v ts) : ∃ a cap, v = .slice a ts.length cap := by
  rcases h with ⟨rfl, a, cap, rfl⟩ | ⟨b, off, cap, rfl, _⟩
  · exact ⟨a, cap, rfl⟩
  · exact ⟨_, cap, rfl⟩
set_option maxRecDepth 10000 in
set_option maxHeartbeats 1000000 in
theorem texts_l (A B : List ByteArray) (va vb : Value) (w : World) (ha : StrsAt w va A) (hb : StrsAt w vb B) (hA : A.length ≤ 1000000) (hB : B.length ≤ 1000000) :
    Calls Tryd.prog 12 #[va, vb] w fun e w' => e = .returned (.bool (decide (A = B))) ∧ Drawn w w' := by
  by_cases hl : A.length = B.length
  · have h1 : ((A.length : Int) != (B.length : Int)) = false := by simp [hl]
    by_cases h0 : A.length = 0
    · obtain rfl : A = [] := List.eq_nil_of_length_eq_zero h0
      obtain rfl : B = [] := List.eq_nil_of_length_eq_zero (by rw [← hl]; rfl)
      obtain ⟨a, ca, rfl⟩ := ha.len
      obtain ⟨b, cb, rfl⟩ := hb.len
      clear ha hb
      go_enter Tryd.func12, Tryd.ntmps12
      go_wp2
      refine wp_loop_rounds 1 ?_
      rw [rounds_succ]
      go_wp2
      go_ret
      exact ⟨rfl, Drawn.refl _⟩
    · rcases ha with ⟨rfl, _⟩ | ⟨b1, o1, c1, rfl, -, hb1, hc1⟩
      · exact absurd rfl h0
      rcases hb with ⟨rfl, _⟩ | ⟨b2, o2, c2, rfl, -, hb2, hc2⟩
      · exact absurd hl h0
      have HL := Lib.hid hl
      have hl2 : A.length ≤ B.length := by omega
      clear hl h0
      have HC1 := Lib.hid hc1
      have HC2 := Lib.hid hc2
      clear hc1 hc2
      go_enter Tryd.func12, Tryd.ntmps12
      go_wp2
      go_loopw [5] (fun i wr => ∃ (k : Nat), k ≤ A.length ∧ i = .int .i64 k ∧ Drawn w wr ∧ ∀ j (h : j < A.length) (h2 : j < B.length), j < k → A[j] = B[j]) (fun i _ => A.length - (intOf i).toNat)
      case atStart => exact ⟨0, Nat.zero_le _, rfl, Drawn.refl _, fun j _ _ h => absurd h (by omega)⟩
      case round =>
        obtain ⟨k, hk, rfl, hd, hall⟩ := hrel
        have HA := Lib.hid hall
        clear hall
        by_cases hlt : k < A.length
        · have hlt2 : k < B.length := by omega
          have e1 : wr.cell? ⟨b1, o1 + k, none⟩ = some (.string A[k]) := by obtain ⟨m, rfl⟩ := hd; exact HC1.out k hlt
          have e2 : wr.cell? ⟨b2, o2 + k, none⟩ = some (.string B[k]) := by obtain ⟨m, rfl⟩ := hd; exact HC2.out k hlt2
          by_cases he : A[k] = B[k]
          · have hne := (bytes_eq he).1
            have HE := Lib.hid he
            clear he
            go_wp2
            go_quiet (fail)
            go_wp2
            go_roundw
            case rel =>
              refine ⟨k + 1, by omega, by go_num, hd.more _, fun j h h2 hj => ?_⟩
              by_cases e : j = k
              · subst e; exact HE.out
              · exact HA.out j h h2 (by omega)
            case measure => simp [intOf]; omega
          · have hne := (bytes_ne he).1
            have HE := Lib.hid (decide_eq_false (show ¬ A = B from fun e => he (by subst e; rfl)))
            clear he
            go_wp2
            go_quiet (fail)
            go_wp2
            go_ret
            exact ⟨by rw [HE.out]; rfl, hd.more _⟩
        · have HE := Lib.hid (decide_eq_true (show A = B from List.ext_getElem HL.out fun j h h2 => HA.out j h h2 (by omega)))
          go_wp2
          go_ret
          exact ⟨by rw [HE.out]; rfl, hd⟩
  · have h1 : ((A.length : Int) != (B.length : Int)) = true := by simp; omega
    have HE := Lib.hid (decide_eq_false (show ¬ A = B from fun e => hl (by rw [e])))
    obtain ⟨a, ca, rfl⟩ := ha.len
    obtain ⟨b, cb, rfl⟩ := hb.len
    clear ha hb hl
    go_enter Tryd.func12, Tryd.ntmps12
    go_wp2
    go_ret
    exact ⟨by rw [HE.out]; rfl, Drawn.refl _⟩

theorem sizes_step (ts : List ByteArray) (k : Nat) (h : k < ts.length) : sizes (ts.take (k + 1)) = sizes (ts.take k) + 1 + ts[k].size := by
  rw [List.take_succ_eq_append_getElem h, sizes_append]; simp only [sizes]; omega
set_option maxRecDepth 10000 in
theorem heavy_l (A : List ByteArray) (va : Value) (w : World) (ha : StrsAt w va A) (hA : ∀ t ∈ A, t.size ≤ 140737488351232) (hA2 : A.length ≤ 140737488351232) :
    Calls Tryd.prog 9 #[va] w fun e w' => e = .returned (.bool (decide (3000 < sizes A))) ∧ w = w' := by
  by_cases h0 : A.length = 0
  · obtain rfl : A = [] := List.eq_nil_of_length_eq_zero h0
    obtain ⟨a, ca, rfl⟩ := ha.len
    clear ha
    go_enter Tryd.func9, Tryd.ntmps9
    go_wp2
    refine wp_loop_rounds 1 ?_
    rw [rounds_succ]
    go_wp2
    go_ret
    exact ⟨rfl, rfl⟩
  · rcases ha with ⟨rfl, _⟩ | ⟨b1, o1, c1, rfl, -, hb1, hc1⟩
    · exact absurd rfl h0
    have HC1 := Lib.hid hc1
    have HA := Lib.hid hA
    clear hc1 h0 hA
    go_enter Tryd.func9, Tryd.ntmps9
    go_wp2
    go_loop [3, 4] (fun s i => ∃ (k m : Nat), k ≤ A.length ∧ i = .int .i64 k ∧ s = .int .i64 m ∧ m = sizes (A.take k) ∧ m ≤ 3000) (fun _ i => A.length - (intOf i).toNat)
    case atStart => exact ⟨0, 0, Nat.zero_le _, rfl, rfl, rfl, Nat.zero_le _⟩
    case round =>
      obtain ⟨k, m, hk, rfl, rfl, hm, hm2⟩ := hrel
      have HM := Lib.hid hm
      clear hm
      by_cases hlt : k < A.length
      · have e1 := HC1.out k hlt
        have hz := HA.out A[k] (List.getElem_mem hlt)
        have HS := Lib.hid (sizes_step A k hlt)
        by_cases hbig : 3000 < m + 1 + A[k].size
        · have HD := Lib.hid (decide_eq_true (show 3000 < sizes A by have := sizes_take A (k + 1); have := HS.out; have := HM.out; omega))
          go_wp2
          go_ret
          exact ⟨by rw [HD.out]; rfl, rfl⟩
        · go_wp2
          go_round
          case rel => exact ⟨k + 1, m + 1 + A[k].size, by omega, by go_num, by go_num, by rw [HS.out, HM.out], by omega⟩
          case measure => simp [intOf]; omega
      · have HD := Lib.hid (decide_eq_false (show ¬ 3000 < sizes A by have := HM.out; rw [List.take_of_length_le (by omega)] at this; omega))
        go_wp2
        go_ret
        exact ⟨by rw [HD.out]; rfl, rfl⟩
end Go.Proofs.YtfnjkkjpffnbiaaDoor
