/- What bytes.IndexByte and the ring's Find answer. -/
import Derived.Test.YtdocifbkocbiiaaRingC
import Derived.Lib.BytesEntry
import Derived.Laws.Externs
namespace Go.Proofs.Ytdocifbkocbiiaa
open Go.RowKit
set_option maxRecDepth 10000
set_option linter.unusedVariables false
set_option linter.unusedSimpArgs false

/-- Where c stands first; -1. -/
def idx : List Int → Int → Int
  | [], _ => -1
  | x :: l, c => if x = c then 0 else if idx l c = -1 then -1 else idx l c + 1
theorem idx_ge (l : List Int) (c : Int) : -1 ≤ idx l c := by
  induction l with
  | nil => simp [idx]
  | cons x l ih => unfold idx; split; omega; split <;> omega
theorem idx_lt (l : List Int) (c : Int) : idx l c < l.length := by
  induction l with
  | nil => simp [idx]
  | cons x l ih => unfold idx; simp only [List.length_cons]; split; omega; split <;> omega
theorem idx_append (l m : List Int) (c : Int) : idx (l ++ m) c = if idx l c = -1 then (if idx m c = -1 then -1 else l.length + idx m c) else idx l c := by
  induction l with
  | nil => simp [idx]
  | cons x l ih =>
    have h1 := idx_ge l c
    have h2 := idx_ge m c
    simp only [List.cons_append, idx, ih, List.length_cons]
    by_cases hx : x = c
    · simp [hx]
    · simp only [if_neg hx]
      by_cases a : idx l c = -1
      · simp only [a, if_true]
        by_cases b : idx m c = -1
        · simp [b]
        · simp only [if_neg b]
          rw [if_neg (by omega)]
          omega
      · simp only [if_neg a]
        rw [if_neg (by omega)]
theorem idx_eq (l : List Int) (c : Int) (hl : ∀ x ∈ l, 0 ≤ x ∧ x ≤ 255) (h0 : 0 ≤ c) (h1 : c ≤ 255) : Lib.indexByte (Lib.bytesOf l) c.toNat.toUInt8 = idx l c := by
  induction l with
  | nil => rfl
  | cons x l ih =>
    have hx := hl x (by simp)
    have := ih fun y hy => hl y (by simp [hy])
    show (if (UInt8.ofNat x.toNat == c.toNat.toUInt8) = true then (0 : Int) else if (Lib.indexByte (Lib.bytesOf l) c.toNat.toUInt8 == -1) = true then -1 else Lib.indexByte (Lib.bytesOf l) c.toNat.toUInt8 + 1) = _
    rw [this, show idx (x :: l) c = if x = c then 0 else if idx l c = -1 then -1 else idx l c + 1 from rfl]
    have e : (UInt8.ofNat x.toNat == c.toNat.toUInt8) = decide (x = c) := by
      rw [Bool.eq_iff_iff, beq_iff_eq, decide_eq_true_iff, ← UInt8.toNat_inj]
      simp only [UInt8.toNat_ofNat', Nat.toUInt8]
      omega
    rw [e]
    by_cases hc : x = c
    · simp [hc]
    · simp [hc]
theorem ibyte_any (b o n c : Nat) (l : List Int) (cv : Int) (w : World) (hl : l.length = n) (ha : At w [] (some ⟨b, o, none⟩) l) (h0 : 0 ≤ cv) (h1 : cv ≤ 255) :
    Calls Try.prog 19 #[.slice (some ⟨b, o, none⟩) n c, .int .u8 cv] w fun e w' => e = .returned (.int .i64 (idx l cv)) ∧ w = w' := by
  have HC : ∀ i, i < n → w.cell? ⟨b, o + i, none⟩ = some (.int .u8 (l.getD i 0)) := fun i hi => by
    have hx : l[i]? = some (l.getD i 0) := by rw [List.getD_eq_getElem?_getD, List.getElem?_eq_getElem (by omega)]; rfl
    obtain ⟨b', o', e, _, _, hc, _⟩ := ha i _ hx
    injection e with e
    injection e with e1 e2
    subst e1 e2
    exact hc
  have HR := Lib.hid (Lib.run_indexByteSlice (P := Try.prog) w b o n c l hl HC cv)
  have HI := Lib.hid (idx_eq l cv ha.range h0 h1)
  clear HC ha
  go_enter Try.func19, Try.ntmps19
  go_wp2
  rw [run_callFunc_extern Try.func27 (by kernel_rfl) (by kernel_rfl) (by kernel_rfl) (e := Extern.BytealgIndexByte.indexByte) (by kernel_rfl), HR.out]
  simp only [Result.andThen]
  rw [Oper.upon_value]
  go_wp2
  go_ret
  exact ⟨ret_i64 HI.out, rfl⟩
theorem pl_zero {N f : Nat} (h : f < N) : pl N f 0 = f := by unfold pl; rw [if_neg (by omega)]; omega
theorem ring_parts {w : World} {g m N f n k : Nat} {L : List Int} {cs : Array Value} (h : RingF w g m N L f cs) (hn : n ≤ L.length) (hk : k = min n (N - f)) :
    At w [] (some ⟨m, f, none⟩) (L.take k) ∧ At w [] (some ⟨m, 0, none⟩) ((L.take n).drop k) := by
  have hf := h.first
  have hc := h.count
  constructor
  · intro i x hx
    rw [List.getElem?_take] at hx
    split at hx
    case isFalse => cases hx
    case isTrue hi =>
      obtain ⟨h1, h2⟩ := h.at_ i x hx
      rw [show pl N f i = f + i by unfold pl; rw [if_neg (by omega)]] at h1
      exact ⟨m, f, rfl, h.mem.lt, by simp, by rw [h.mem.cell]; exact h1, h2⟩
  · intro i x hx
    rw [List.getElem?_drop, List.getElem?_take] at hx
    split at hx
    case isFalse => cases hx
    case isTrue hi =>
      obtain ⟨h1, h2⟩ := h.at_ (k + i) x hx
      rw [show pl N f (k + i) = 0 + i by unfold pl; rw [if_pos (by omega)]; omega] at h1
      exact ⟨m, 0, rfl, h.mem.lt, by simp, by rw [h.mem.cell]; exact h1, h2⟩
end Go.Proofs.Ytdocifbkocbiiaa
