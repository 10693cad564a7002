/- Both slabs' answers in one form each; two rows of handles. -/
import Derived.Test.YtdkcdljhpopakaaDoorOldMath
import Derived.Test.YtdkcdljhpopakaaDoorOpenS
namespace Go.Proofs.YtdkcdljhpopakaaDoor
open Go.RowKit
set_option maxRecDepth 10000
set_option linter.unusedVariables false
set_option linter.unusedSimpArgs false

def Slb.getv (S : Slb) (a b : Int) : Int := if S.is a b = true then S.vs.getD a.toNat 0 else 0
def Slb.gete (S : Slb) (a b : Int) : Int := if S.is a b = true then 0 else 10
def Slb.set1 (S : Slb) (a b v : Int) : Slb := if S.is a b = true then S.set a.toNat v else S
def Slb.ph (S : Slb) : Int × Int := if S.cnt < S.lim then ((S.least : Int), (S.gen : Int)) else (0, 0)
def Slb.pe (S : Slb) : Int := if S.cnt < S.lim then 0 else 3
def Slb.put1 (S : Slb) (v : Int) : Slb := if S.cnt < S.lim then S.put v else S
theorem slabA_ok {w : World} {g : Nat} {F : List Nat} {S : Slb} {K : Nat} (h : SlabA w g F S K) : S.Ok K := by
  obtain ⟨_, _, _, _, _, _, _, _, _, _, _, _, _, _, hok⟩ := h; exact hok
theorem slabB_ok {w : World} {g : Nat} {F : List Nat} {S : Slb} {K : Nat} (h : SlabB w g F S K) : S.Ok K := by
  obtain ⟨_, _, _, _, _, hok⟩ := h; exact hok
theorem slabA_more {w : World} {g : Nat} {F : List Nat} {S : Slb} {K L : Nat} (h : SlabA w g F S K) (hK : K ≤ L) : SlabA w g F S L := by
  obtain ⟨sv, cs, xs, U, h1, h2, h3, h4, h5, h6, h7, h8, h9, h10, hok⟩ := h
  exact ⟨sv, cs, xs, U, h1, h2, h3, h4, h5, h6, h7, h8, h9, h10, hok.mono hK⟩
theorem slabB_more {w : World} {g : Nat} {F : List Nat} {S : Slb} {K L : Nat} (h : SlabB w g F S K) (hK : K ≤ L) : SlabB w g F S L := by
  obtain ⟨uv, gv, vv, h1, h2, hok⟩ := h
  exact ⟨uv, gv, vv, h1, h2, hok.mono hK⟩
theorem is_nat {S : Slb} {K : Nat} {a b : Int} (hS : S.Ok K) (h : S.is a b = true) : ∃ i : Nat, a = i ∧ i < 4096 := by
  obtain ⟨h0, h1, _, _⟩ := Slb.is_lt h
  have := hS.len; have := hS.hi
  exact ⟨a.toNat, by omega, by omega⟩
theorem ph_i64 {S : Slb} {K : Nat} (hS : S.Ok K) (hK : K ≤ 4000000000000) : I64 S.ph.1 ∧ I64 S.ph.2 := by
  unfold Slb.ph I64
  split
  · rename_i h
    have h1 := S.least_lt hS h
    have h2 := hS.hi
    have h3 := hS.gk S.least
    unfold Slb.gen
    simp only
    omega
  · simp
theorem get_any (w : World) (g : Nat) (a b : Int) (F : List Nat) (S : Slb) (K : Nat) (ha : I64 a) (h : SlabA w g F S K) :
    Calls Tryd.prog 16 #[.pointer (some ⟨g, 0, none⟩), .agg #[.int .i64 a, .int .i64 b]] w fun e w' => e = .returned (.tuple #[.int .i64 (S.getv a b), .int .i64 (S.gete a b)]) ∧ Mods [] w w' := by
  unfold Slb.getv Slb.gete
  by_cases hs : S.is a b = true
  · rw [if_pos hs, if_pos hs]
    obtain ⟨i, rfl, hi⟩ := is_nat (slabA_ok h) hs
    rw [Int.toNat_natCast]
    exact get_yes w g i b F S K hi h hs
  · rw [if_neg hs, if_neg hs]
    exact get_no w g a b F S K ha.1 ha.2 h (by simpa using hs)
theorem rget_any (w : World) (g : Nat) (a b : Int) (F : List Nat) (S : Slb) (K : Nat) (ha : I64 a) (h : SlabB w g F S K) :
    Calls Tryd.prog 17 #[.pointer (some ⟨g, 0, none⟩), .agg #[.int .i64 a, .int .i64 b]] w fun e w' => e = .returned (.tuple #[.int .i64 (S.getv a b), .int .i64 (S.gete a b)]) ∧ Mods [] w w' := by
  unfold Slb.getv Slb.gete
  by_cases hs : S.is a b = true
  · rw [if_pos hs, if_pos hs]
    obtain ⟨i, rfl, hi⟩ := is_nat (slabB_ok h) hs
    rw [Int.toNat_natCast]
    exact rget_yes w g i b F S K hi h hs
  · rw [if_neg hs, if_neg hs]
    exact rget_no w g a b F S K ha.1 ha.2 h (by simpa using hs)
theorem set_any (w : World) (g : Nat) (a b v : Int) (F : List Nat) (S : Slb) (K : Nat) (ha : I64 a) (h : SlabA w g F S K) :
    Calls Tryd.prog 12 #[.pointer (some ⟨g, 0, none⟩), .agg #[.int .i64 a, .int .i64 b], .int .i64 v] w fun e w' => e = .returned (.int .i64 (S.gete a b)) ∧ SlabA w' g F (S.set1 a b v) K ∧ Mods F w w' := by
  unfold Slb.set1 Slb.gete
  by_cases hs : S.is a b = true
  · rw [if_pos hs, if_pos hs]
    obtain ⟨i, rfl, hi⟩ := is_nat (slabA_ok h) hs
    rw [Int.toNat_natCast]
    exact set_yes w g i b v F S K hi h hs
  · rw [if_neg hs, if_neg hs]
    exact (set_no w g a b v F S K ha.1 ha.2 h (by simpa using hs)).mono fun e w' ⟨he, hm⟩ => ⟨he, slabA_mods h hm (by simp), hm.more (by simp)⟩
theorem rset_any (w : World) (g : Nat) (a b v : Int) (F : List Nat) (S : Slb) (K : Nat) (ha : I64 a) (h : SlabB w g F S K) :
    Calls Tryd.prog 13 #[.pointer (some ⟨g, 0, none⟩), .agg #[.int .i64 a, .int .i64 b], .int .i64 v] w fun e w' => e = .returned (.int .i64 (S.gete a b)) ∧ SlabB w' g F (S.set1 a b v) K ∧ Mods F w w' := by
  unfold Slb.set1 Slb.gete
  by_cases hs : S.is a b = true
  · rw [if_pos hs, if_pos hs]
    obtain ⟨i, rfl, hi⟩ := is_nat (slabB_ok h) hs
    rw [Int.toNat_natCast]
    exact rset_yes w g i b v F S K hi h hs
  · rw [if_neg hs, if_neg hs]
    exact (rset_no w g a b v F S K ha.1 ha.2 h (by simpa using hs)).mono fun e w' ⟨he, hm⟩ => ⟨he, slabB_mods h hm (by simp), hm.more (by simp)⟩
theorem put1_any (w : World) (g : Nat) (v : Int) (F : List Nat) (S : Slb) (K : Nat) (h : SlabA w g F S K) (hT : TzTab w) (hK : K ≤ 4000000000000) :
    Calls Tryd.prog 10 #[.pointer (some ⟨g, 0, none⟩), .int .i64 v] w fun e w' => e = .returned (.tuple #[.agg #[.int .i64 S.ph.1, .int .i64 S.ph.2], .int .i64 S.pe]) ∧
      Hid (∃ F', SlabA w' g F' (S.put1 v) (K + 1) ∧ Mods F w w' ∧ ∀ k ∈ F', k ∈ F ∨ w.heap.size ≤ k) := by
  unfold Slb.ph Slb.pe Slb.put1
  by_cases hc : S.cnt < S.lim
  · rw [if_pos hc, if_pos hc, if_pos hc]
    exact put_any w g v F S K h hT hc hK
  · rw [if_neg hc, if_neg hc, if_neg hc]
    exact (put_full w g v F S K h (by omega)).mono fun e w' ⟨he, hm⟩ => ⟨he, Lib.hid ⟨F, slabA_more (slabA_mods h hm (by simp)) (by omega), hm.more (by simp), fun k hk => .inl hk⟩⟩
theorem rput1_any (w : World) (g : Nat) (v : Int) (F : List Nat) (S : Slb) (K : Nat) (h : SlabB w g F S K) (hK : K ≤ 4000000000000) :
    Calls Tryd.prog 11 #[.pointer (some ⟨g, 0, none⟩), .int .i64 v] w fun e w' => e = .returned (.tuple #[.agg #[.int .i64 S.ph.1, .int .i64 S.ph.2], .int .i64 S.pe]) ∧
      Hid (∃ F', SlabB w' g F' (S.put1 v) (K + 1) ∧ Mods F w w' ∧ ∀ k ∈ F', k ∈ F ∨ w.heap.size ≤ k) := by
  unfold Slb.ph Slb.pe Slb.put1
  by_cases hc : S.cnt < S.lim
  · rw [if_pos hc, if_pos hc, if_pos hc]
    exact rput_any w g v F S K h hc hK
  · rw [if_neg hc, if_neg hc, if_neg hc]
    exact (rput_full w g v F S K h (by omega)).mono fun e w' ⟨he, hm⟩ => ⟨he, Lib.hid ⟨F, slabB_more (slabB_mods h hm (by simp)) (by omega), hm.more (by simp), fun k hk => .inl hk⟩⟩

theorem handles_same (w : World) (v1 v2 : Value) (l : List (Int × Int)) (hl : l.length ≤ 4096) (h1 : OwnPairs w 32 v1 l) (h2 : OwnPairs w 32 v2 l) :
    Calls Tryd.prog 19 #[v1, v2] w fun e w' => e = .returned (.bool true) ∧ Mods [] w w' := by
  obtain ⟨A, c, rfl, l1, l2⟩ := own_pairs_slice h1
  obtain ⟨B, d, rfl, l3, l4⟩ := own_pairs_slice h2
  have H1 := Lib.hid h1
  have H2 := Lib.hid h2
  clear h1 h2
  go_enter Tryd.func19, Tryd.ntmps19
  go_wp2
  go_loopw [5] (fun j wr => ∃ k : Nat, k ≤ l.length ∧ j = .int .i64 k ∧ Hid (Mods [] w wr)) (fun j _ => l.length - (intOf j).toNat)
  case atStart => exact ⟨0, by omega, rfl, Lib.hid (Mods.refl _ _)⟩
  case round =>
    obtain ⟨k, hk, rfl, hr⟩ := hrel
    by_cases hlt : k < l.length
    · have hq := List.getElem?_eq_getElem hlt
      generalize l[k] = q at hq
      obtain ⟨a, b⟩ := q
      obtain ⟨oa, rfl, _, e1, e2⟩ := own_pairs_at (own_mods H1.out hr.out (by simp)) hq
      obtain ⟨ob, rfl, _, e3, e4⟩ := own_pairs_at (own_mods H2.out hr.out (by simp)) hq
      clear hq
      have q1 : (k : Int) < (l.length : Int) := by omega
      go_wp2
      go_quiet (fail)
      go_wp2
      go_roundw
      case rel => exact ⟨k + 1, by omega, by go_num, Lib.hid (hr.out.drewN _)⟩
      case measure => simp [intOf]; omega
    · go_wp2
      go_ret
      exact ⟨rfl, hr.out⟩
end Go.Proofs.YtdkcdljhpopakaaDoor
