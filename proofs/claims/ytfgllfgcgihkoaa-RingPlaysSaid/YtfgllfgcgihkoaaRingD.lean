/- What bytes.IndexByte and the ring's Find answer. -/
import Derived.Test.YtfgllfgcgihkoaaRingC
import Derived.Lib.BytesEntry
import Derived.Laws.Externs
namespace Go.Proofs.Ytfgllfgcgihkoaa
open Go.RowKit
set_option maxRecDepth 10000
set_option linter.unusedVariables false
set_option linter.unusedSimpArgs false

/-- Where c stands first; -1. -/
def idx : List Int → Int → Int
  | [], _ => -1
  | x :: l, c => if x = c then 0 else if idx l c = -1 then -1 else idx l c + 1
theorem idx_ge (l : List Int) (c : Int) : -1 ≤ idx l c := by
  induction l with
  | nil => simp [idx]
  | cons x l ih => unfold idx; split; omega; split <;> omega
theorem idx_lt (l : List Int) (c : Int) : idx l c < l.length := by
  induction l with
  | nil => simp [idx]
  | cons x l ih => unfold idx; simp only [List.length_cons]; split; omega; split <;> omega
theorem idx_append (l m : List Int) (c : Int) : idx (l ++ m) c = if idx l c = -1 then (if idx m c = -1 then -1 else l.length + idx m c) else idx l c := by
  induction l with
  | nil => simp [idx]
  | cons x l ih =>
    have h1 := idx_ge l c
    have h2 := idx_ge m c
    simp only [List.cons_append, idx, ih, List.length_cons]
    by_cases hx : x = c
    · simp [hx]
    · simp only [if_neg hx]
      by_cases a : idx l c = -1
      · simp only [a, if_true]
        by_cases b : idx m c = -1
        · simp [b]
        · simp only [if_neg b]
          rw [if_neg (by omega)]
          omega
      · simp only [if_neg a]
        rw [if_neg (by omega)]
theorem idx_eq (l : List Int) (c : Int) (hl : ∀ x ∈ l, 0 ≤ x ∧ x ≤ 255) (h0 : 0 ≤ c) (h1 : c ≤ 255) : Lib.indexByte (Lib.bytesOf l) c.toNat.toUInt8 = idx l c := by
  induction l with
  | nil => rfl
  | cons x l ih =>
    have hx := hl x (by simp)
    have := ih fun y hy => hl y (by simp [hy])
    show (if (UInt8.ofNat x.toNat == c.toNat.toUInt8) = true then (0 : Int) else if (Lib.indexByte (Lib.bytesOf l) c.toNat.toUInt8 == -1) = true then -1 else Lib.indexByte (Lib.bytesOf l) c.toNat.toUInt8 + 1) = _
    rw [this, show idx (x :: l) c = if x = c then 0 else if idx l c = -1 then -1 else idx l c + 1 from rfl]
    have e : (UInt8.ofNat x.toNat == c.toNat.toUInt8) = decide (x = c) := by
      rw [Bool.eq_iff_iff, beq_iff_eq, decide_eq_true_iff, ← UInt8.toNat_inj]
      simp only [UInt8.toNat_ofNat', Nat.toUInt8]
      omega
    rw [e]
    by_cases hc : x = c
    · simp [hc]
    · simp [hc]
theorem ibyte_any (b o n c : Nat) (l : List Int) (cv : Int) (w : World) (hl : l.length = n) (ha : At w [] (some ⟨b, o, none⟩) l) (h0 : 0 ≤ cv) (h1 : cv ≤ 255) :
    Calls Try.prog 32 #[.slice (some ⟨b, o, none⟩) n c, .int .u8 cv] w fun e w' => e = .returned (.int .i64 (idx l cv)) ∧ w = w' := by
  have HC : ∀ i, i < n → w.cell? ⟨b, o + i, none⟩ = some (.int .u8 (l.getD i 0)) := fun i hi => by
    have hx : l[i]? = some (l.getD i 0) := by rw [List.getD_eq_getElem?_getD, List.getElem?_eq_getElem (by omega)]; rfl
    obtain ⟨b', o', e, _, _, hc, _⟩ := ha i _ hx
    injection e with e
    injection e with e1 e2
    subst e1 e2
    exact hc
  have HR := Lib.hid (Lib.run_indexByteSlice (P := Try.prog) w b o n c l hl HC cv)
  have HI := Lib.hid (idx_eq l cv ha.range h0 h1)
  clear HC ha
  go_enter Try.func32, Try.ntmps32
  go_wp2
  rw [run_callFunc_extern Try.func34 (by kernel_rfl) (by kernel_rfl) (by kernel_rfl) (e := Extern.BytealgIndexByte.indexByte) (by kernel_rfl), HR.out]
  simp only [Result.andThen]
  rw [Oper.upon_value]
  go_wp2
  go_ret
  exact ⟨ret_i64 HI.out, rfl⟩
theorem pl_zero {N f : Nat} (h : f < N) : pl N f 0 = f := by unfold pl; rw [if_neg (by omega)]; omega
theorem ring_parts {w : World} {g m N f n k : Nat} {L : List Int} {cs : Array Value} (h : RingF w g m N L f cs) (hn : n ≤ L.length) (hk : k = min n (N - f)) :
    At w [] (some ⟨m, f, none⟩) (L.take k) ∧ At w [] (some ⟨m, 0, none⟩) ((L.take n).drop k) := by
  have hf := h.first
  have hc := h.count
  constructor
  · intro i x hx
    rw [List.getElem?_take] at hx
    split at hx
    case isFalse => cases hx
    case isTrue hi =>
      obtain ⟨h1, h2⟩ := h.at_ i x hx
      rw [show pl N f i = f + i by unfold pl; rw [if_neg (by omega)]] at h1
      exact ⟨m, f, rfl, h.mem.lt, by simp, by rw [h.mem.cell]; exact h1, h2⟩
  · intro i x hx
    rw [List.getElem?_drop, List.getElem?_take] at hx
    split at hx
    case isFalse => cases hx
    case isTrue hi =>
      obtain ⟨h1, h2⟩ := h.at_ (k + i) x hx
      rw [show pl N f (k + i) = 0 + i by unfold pl; rw [if_pos (by omega)]; omega] at h1
      exact ⟨m, 0, rfl, h.mem.lt, by simp, by rw [h.mem.cell]; exact h1, h2⟩
theorem find_any (w : World) (g m N : Nat) (L : List Int) (c : Int) (h : RingA w g m N L) (h0 : 0 ≤ c) (h1 : c ≤ 255) :
    Calls Try.prog 22 #[.pointer (some ⟨g, 0, none⟩), .int .u8 c] w fun e w' => e = .returned (.int .i64 (idx L c)) ∧ ∃ q, w' = w.drewN q := by
  obtain ⟨f, cs, h⟩ := h
  have hn := eql_nil
  have c2 := h.row.cell 2
  have HS := Lib.hid (span_any w g m N f 0 L.length L cs h (Nat.zero_le _) h.count)
  rw [pl_zero h.first] at HS
  obtain ⟨k, hk⟩ : ∃ k, k = min L.length (N - f) := ⟨_, rfl⟩
  have hp := ring_parts h (Nat.le_refl _) hk
  rw [List.take_length] at hp
  rw [← hk] at HS
  have k1 : k ≤ L.length := by omega
  have HP := Lib.hid hp
  have hi := idx_append (L.take k) (L.drop k) c
  rw [List.take_append_drop, List.length_take, Nat.min_eq_left k1] at hi
  have g1 := idx_ge (L.take k) c
  have g2 := idx_ge (L.drop k) c
  have l2 := idx_lt (L.drop k) c
  rw [List.length_drop] at l2
  have HB1 := Lib.hid (fun q => ibyte_any m f k (N - f) (L.take k) c (w.drewN q) (by rw [List.length_take]; omega) (HP.out.1.mods ((Mods.refl _ _).drewN q)) h0 h1)
  have HB2 := Lib.hid (fun q => ibyte_any m 0 (L.length - k) N (L.drop k) c (w.drewN q) (by rw [List.length_drop]) (HP.out.2.mods ((Mods.refl _ _).drewN q)) h0 h1)
  have hN := h.hi
  have hcn := h.count
  obtain ⟨r, hr⟩ : ∃ r, r = idx L c := ⟨_, rfl⟩
  obtain ⟨r1, hr1⟩ : ∃ r, r = idx (L.take k) c := ⟨_, rfl⟩
  obtain ⟨r2, hr2⟩ : ∃ r, r = idx (L.drop k) c := ⟨_, rfl⟩
  rw [← hr, ← hr1, ← hr2] at hi
  rw [← hr]
  rw [← hr1] at HB1 g1
  rw [← hr2] at HB2 g2 l2
  have HI := Lib.hid hi
  clear h hk hp hi hr hr1 hr2
  by_cases d1 : 0 ≤ r1
  · have HR := Lib.hid (show r1 = r by rw [HI.out, if_neg (by omega)])
    go_enter Try.func22, Try.ntmps22
    go_wp2_with fail
    refine HS.out.mono ?_
    rintro e w' ⟨rfl, q, rfl⟩
    go_wp2_with fail
    refine (HB1.out q).mono ?_
    rintro e w' ⟨rfl, rfl⟩
    go_wp2
    go_ret
    exact ⟨ret_i64 HR.out, _, rfl⟩
  · by_cases d2 : 0 ≤ r2
    · have HR := Lib.hid (show (k : Int) + r2 = r by rw [HI.out, if_pos (by omega), if_neg (by omega)])
      go_enter Try.func22, Try.ntmps22
      go_wp2_with fail
      refine HS.out.mono ?_
      rintro e w' ⟨rfl, q, rfl⟩
      go_wp2_with fail
      refine (HB1.out q).mono ?_
      rintro e w' ⟨rfl, rfl⟩
      go_wp2_with fail
      refine (HB2.out q).mono ?_
      rintro e w' ⟨rfl, rfl⟩
      go_wp2
      go_ret
      exact ⟨ret_i64 HR.out, _, rfl⟩
    · have HR := Lib.hid (show (-1 : Int) = r by rw [HI.out, if_pos (by omega), if_pos (by omega)])
      go_enter Try.func22, Try.ntmps22
      go_wp2_with fail
      refine HS.out.mono ?_
      rintro e w' ⟨rfl, q, rfl⟩
      go_wp2_with fail
      refine (HB1.out q).mono ?_
      rintro e w' ⟨rfl, rfl⟩
      go_wp2_with fail
      refine (HB2.out q).mono ?_
      rintro e w' ⟨rfl, rfl⟩
      go_wp2
      go_ret
      exact ⟨ret_i64 HR.out, _, rfl⟩
theorem find_nil (w : World) (c : Int) : Calls Try.prog 22 #[.pointer none, .int .u8 c] w fun e w' => e = .returned (.int .i64 (-1)) ∧ w = w' := by
  have hn := eql_nil
  go_enter Try.func22, Try.ntmps22
  go_wp2
  go_ret
  exact ⟨rfl, rfl⟩
#print axioms find_any
end Go.Proofs.Ytfgllfgcgihkoaa
