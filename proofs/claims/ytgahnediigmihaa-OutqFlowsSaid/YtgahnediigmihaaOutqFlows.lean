/- For every list of texts and cuts, pieces that are written in portions come out one behind the other, and each is told once, in order, when it is whole: the law returns true. Condition: none. -/
import Derived.Test.YtgahnediigmihaaRows
import Derived.WalkKit
import Derived.ProofKit
import Derived.OpenShut
import Derived.ShutString
import Derived.ChangeOld
import Derived.Below
import Derived.SizedLaws
import Derived.Test.YtgahnediigmihaaOpenQ
import Derived.Test.YtgahnediigmihaaKnownQ
import Derived.Deep.RegionHeld3
import Derived.Deep.RegionWith
import Derived.Deep.DeepCutAuto
import Derived.Deep.CutBlock
namespace Go.Proofs.Ytgahnediigmihaa.outqFlows
open Go.ChangeShapes Go.WideShapes Go.ChangeAt Go.RowKit
open Go.ChangeMaps (open_string shut_string)
set_option linter.unusedVariables false
set_option maxRecDepth 100000
set_option linter.unusedSimpArgs false
theorem rows_len {w : World} {F : List Nat} (r : Rw) {n : Nat} (hn : n = r.l.length) (hF : ∀ b ∈ F, b < w.heap.size) (h : r.Ok w F) : RowsAt (w.alloc (.cells #[.slice r.A n r.c] 28)) F w.heap.size [r] := by
  subst hn
  exact rows_one r rfl h (fun hb => by have := hF _ hb; omega)
/-- Where the first k pieces end. -/
def ends (rs : List Rw) (k : Nat) : List Int := (List.range k).map fun i => ((flatR (rs.take (i + 1))).length : Int)
theorem ends_succ (rs : List Rw) (k : Nat) : ends rs (k + 1) = ends rs k ++ [((flatR (rs.take (k + 1))).length : Int)] := by simp [ends, List.range_succ]
theorem ends_length (rs : List Rw) (k : Nat) : (ends rs k).length = k := by simp [ends]
/-- The queue, all bytes, where all pieces end. -/
structure Fill (W wr : World) (g : Nat) (va ve : Value) (F : List Nat) (B E : List Int) (Wn T : Nat) (P Q : List Int) : Prop where
  que : QueA wr g F B E Wn T
  all : Own wr 5 va (bv P)
  ends : Own wr 3 ve (iv Q)
  mods : Mods [] W wr
  hiF : ∀ b ∈ F, W.heap.size ≤ b
  hiA : ∀ b ∈ va.ownBlock.toList, W.heap.size ≤ b ∧ b ∉ F
  hiE : ∀ b ∈ ve.ownBlock.toList, W.heap.size ≤ b ∧ b ∉ F
section
variable {W wr w2 w3 : World} {g : Nat} {va ve va' ve' : Value} {F F' : List Nat} {B E B' E' P Q l : List Int} {Wn T W' T' : Nat}
theorem Fill.quiet (h : Fill W wr g va ve F B E Wn T P Q) (hm : Mods [] wr w2) : Fill W w2 g va ve F B E Wn T P Q :=
  ⟨h.que.quiet hm, h.all.mods hm (by simp), h.ends.mods hm (by simp), h.mods.trans hm (by simp), h.hiF, h.hiA, h.hiE⟩
theorem Fill.to (h : Fill W wr g va ve F B E Wn T P Q) (hq : QueA w2 g F' B' E' W' T') (hm : Mods F wr w2) (hn : ∀ k ∈ F', k ∈ F ∨ wr.heap.size ≤ k) : Fill W w2 g va ve F' B' E' W' T' P Q := by
  have hs := h.mods.size
  refine ⟨hq, h.all.mods hm (fun b hb => (h.hiA b hb).2), h.ends.mods hm (fun b hb => (h.hiE b hb).2), h.mods.trans hm (fun k hk => .inr (h.hiF k hk)), fun b hb => ?_, fun b hb => ⟨(h.hiA b hb).1, fun hf => ?_⟩, fun b hb => ⟨(h.hiE b hb).1, fun hf => ?_⟩⟩
  · rcases hn b hb with h1 | h1
    · exact h.hiF b h1
    · omega
  · rcases hn b hf with h1 | h1
    · exact (h.hiA b hb).2 h1
    · have := h.all.lt b hb; omega
  · rcases hn b hf with h1 | h1
    · exact (h.hiE b hb).2 h1
    · have := h.ends.lt b hb; omega
theorem Fill.onAll (h : Fill W wr g va ve F B E Wn T P Q) (ho : Own w2 5 va' (bv P ++ bv l)) (hm : Mods va.ownBlock.toList wr w2 ∧ (va'.ownBlock = va.ownBlock ∨ va'.ownBlock = some wr.heap.size)) : Fill W w2 g va' ve F B E Wn T (P ++ l) Q := by
  have hs := h.mods.size
  refine ⟨h.que.mods hm.1 (fun k hk hk2 => (h.hiA k hk2).2 hk), by rw [bv_append]; exact ho, h.ends.mods hm.1 (fun b hb => h.ends.ne h.all (by decide) b hb), h.mods.trans hm.1 (fun k hk => .inr (h.hiA k hk).1), h.hiF, fun b hb => ?_, h.hiE⟩
  rcases hm.2 with e | e
  · rw [e] at hb; exact h.hiA b hb
  · rw [e] at hb; simp at hb; subst hb
    exact ⟨hs, fun hf => by have := h.que.lt _ hf; omega⟩
theorem Fill.onEnds (h : Fill W wr g va ve F B E Wn T P Q) (ho : Own w2 3 ve' (iv Q ++ iv l)) (hm : Mods ve.ownBlock.toList wr w2 ∧ (ve'.ownBlock = ve.ownBlock ∨ ve'.ownBlock = some wr.heap.size)) : Fill W w2 g va ve' F B E Wn T P (Q ++ l) := by
  have hs := h.mods.size
  refine ⟨h.que.mods hm.1 (fun k hk hk2 => (h.hiE k hk2).2 hk), h.all.mods hm.1 (fun b hb => h.all.ne h.ends (by decide) b hb), by rw [iv_append]; exact ho, h.mods.trans hm.1 (fun k hk => .inr (h.hiE k hk).1), h.hiF, h.hiA, fun b hb => ?_⟩
  rcases hm.2 with e | e
  · rw [e] at hb; exact h.hiE b hb
  · rw [e] at hb; simp at hb; subst hb
    exact ⟨hs, fun hf => by have := h.que.lt _ hf; omega⟩
end
theorem wh_all (E : List Int) (x : Int) : ∀ i, i < wh E x → ∃ y, E[i]? = some y ∧ y ≤ x := by
  induction E with
  | nil => intro i h; simp [wh] at h
  | cons e E ih =>
    intro i h
    by_cases he : e ≤ x
    · simp only [wh, List.takeWhile_cons, decide_eq_true he, if_true, List.length_cons] at h
      cases i with
      | zero => exact ⟨e, rfl, he⟩
      | succ i => exact ih i (by simp only [wh]; omega)
    · simp [wh, he] at h
theorem wh_stop (E : List Int) (x : Int) (h : wh E x < E.length) : ∃ y, E[wh E x]? = some y ∧ ¬ y ≤ x := by
  induction E with
  | nil => simp at h
  | cons e E ih =>
    by_cases he : e ≤ x
    · have e1 : wh (e :: E) x = wh E x + 1 := by simp [wh, he]
      rw [e1] at h ⊢
      exact ih (by simpa using h)
    · have e1 : wh (e :: E) x = 0 := by simp [wh, he]
      rw [e1]
      exact ⟨e, rfl, he⟩
def Rows (W : World) (A : Option Addr) (rs : List Rw) : Prop := ∀ i r, rs[i]? = some r → (∃ b o, A = some ⟨b, o, none⟩ ∧ b < W.heap.size ∧ W.cell? ⟨b, o + i, none⟩ = some (.slice r.A r.l.length r.c)) ∧ Came W r
/-- Behind the filling. -/
def Full (W wr : World) (g : Nat) (va ve : Value) (P Q : List Int) (at_ told : Nat) : Prop := ∃ F, Fill W wr g va ve F (P.drop at_) (Q.drop told) at_ told P Q
set_option maxHeartbeats 20000000 in
theorem main (W : World) (A : Option Addr) (rs : List Rw) (cap : Nat) (hlm : rs.length ≤ maxLen) (hr : Rows W A rs) (C : Option Addr) (len ccap : Nat) (f : Nat → Int) (hcm : len ≤ maxLen)
    (hf : ∀ j, j < len → ∃ bb off, C = some ⟨bb, off, none⟩ ∧ bb < W.heap.size ∧ W.cell? ⟨bb, off + j, none⟩ = some (.int .i64 (f j)) ∧ I64 (f j)) :
    Calls Try.prog 4 #[.slice A rs.length cap, .slice C len ccap] W fun e w' => e = .returned (.bool true) ∧ Below W.heap.size W w' := by
  have hn := eql_qnil
  obtain ⟨i0, hi, hz, hs, hby⟩ := info_parts u8_info3
  have HI := Lib.hid (And.intro hi (And.intro hz (And.intro hs (show i0.bytes ≤ 8 by omega))))
  clear hi hz hs hby
  obtain ⟨i1, hi, hz, hs, hby⟩ := info_parts int_info3
  have HJ := Lib.hid (And.intro hi (And.intro hz (And.intro hs (show i1.bytes ≤ 8 by omega))))
  have HR := Lib.hid hr
  have HF := Lib.hid hf
  unfold maxLen at hlm hcm
  clear hr hf hi hz hs hby
  go_enter Try.func4, Try.ntmps4
  go_wp2
  go_loop [5, 6] (fun n i => ∃ k L : Nat, k ≤ rs.length ∧ k + L ≤ 3000 ∧ i = .int .i64 k ∧ n = .int .i64 ((k : Int) + (L : Int)) ∧ Hid (L = (flatR (rs.take k)).length)) (fun _ i => rs.length - (intOf i).toNat)
  case atStart => exact ⟨0, 0, by omega, by omega, rfl, rfl, Lib.hid rfl⟩
  case round =>
    obtain ⟨k, L, hk, hkL, rfl, rfl, hd⟩ := hrel
    by_cases hlt : k < rs.length
    · have HRk := Lib.hid (HR.out k rs[k] (List.getElem?_eq_getElem hlt))
      obtain ⟨⟨bb, oo, rfl, hbb, hc⟩, _⟩ := HRk.out
      have HSN := Lib.hid (flatR_snoc rs k hlt)
      obtain ⟨r, hr⟩ : ∃ r, r = rs[k] := ⟨_, rfl⟩
      rw [← hr] at HRk hc HSN
      have hcap := HRk.out.2.2
      clear hr
      by_cases h2 : 3000 < k + L + 1 + r.l.length
      · have e2 : (3000 : Int) < (k : Int) + (L : Int) + 1 + (r.l.length : Int) := by omega
        go_wp2
        go_ret
        exact ⟨rfl, Below.refl _ _⟩
      · have e2 : ¬ (3000 : Int) < (k : Int) + (L : Int) + 1 + (r.l.length : Int) := by omega
        go_wp2
        go_round
        case rel => exact ⟨k + 1, L + r.l.length, by omega, by omega, by go_num, by go_num, Lib.hid (by rw [HSN.out, List.length_append]; have := hd.out; omega)⟩
        case measure => simp [intOf]; omega
    · have HK := Lib.hid (show rs.take k = rs from List.take_of_length_le (by omega))
      rw [HK.out] at hd
      have hkn : k = rs.length := by omega
      subst hkn
      have hPL := Lib.hid (show rs.length + (flatR rs).length ≤ 3000 by have := hd.out; omega)
      clear hd hlt hk HK
      by_cases h300 : 300 < len
      · have e1 : (300 : Int) < (len : Int) := by omega
        go_wp2
        go_ret
        exact ⟨rfl, Below.refl _ _⟩
      have e1 : ¬ (300 : Int) < (len : Int) := by omega
      go_wp2_with fail
      refine (qnew_any W).mono ?_
      rintro e w1 ⟨rfl, hq, hm⟩
      have H0 := Lib.hid (show Fill W w1 W.heap.size (.slice none 0 0) (.slice none 0 0) [W.heap.size] [] [] 0 0 [] [] from ⟨hq, Own.nil _ _, Own.nil _ _, hm, by simp, by simp [Value.ownBlock], by simp [Value.ownBlock]⟩)
      clear hq hm
      go_wp2_with fail
      go_loopw [8, 9, 10] (fun va ve i wr => ∃ k : Nat, k ≤ rs.length ∧ i = .int .i64 k ∧ Hid (∃ F, Fill W wr W.heap.size va ve F (flatR (rs.take k)) (ends rs k) 0 0 (flatR (rs.take k)) (ends rs k))) (fun _ _ i _ => rs.length - (intOf i).toNat)
      case atStart => exact ⟨0, by omega, rfl, Lib.hid ⟨_, H0.out⟩⟩
      case round =>
        obtain ⟨k, hk, rfl, hd⟩ := hrel
        obtain ⟨F, hfl⟩ := hd.out
        have HFL := Lib.hid hfl
        clear hd hfl H0
        by_cases hlt : k < rs.length
        · have HRk := Lib.hid (HR.out k rs[k] (List.getElem?_eq_getElem hlt))
          obtain ⟨⟨bb, oo, rfl, hbb, hc⟩, _⟩ := HRk.out
          have HSN := Lib.hid (flatR_snoc rs k hlt)
          have HEN := Lib.hid (ends_succ rs k)
          have HLE := Lib.hid (flatR_le rs (k + 1))
          obtain ⟨r, hr⟩ : ∃ r, r = rs[k] := ⟨_, rfl⟩
          rw [← hr] at HRk hc HSN
          have c0 := cell_mods hc HFL.out.mods (by simp)
          have HC := Lib.hid hc
          have hcap := HRk.out.2.2
          have hkl : k ≤ 3000 := by have := hPL.out; omega
          have HRW := Lib.hid (show r.Ok wr F from (HRk.out.2.ok (F := F) HFL.out.hiF).mods (HFL.out.mods.more (by simp)))
          clear hr hc
          obtain ⟨P, hP⟩ : ∃ P, P = flatR (rs.take k) := ⟨_, rfl⟩
          obtain ⟨E, hE⟩ : ∃ E, E = ends rs k := ⟨_, rfl⟩
          have hEl : E.length = k := by rw [hE, ends_length]
          rw [← hP, ← hE] at HFL
          rw [← hP] at HSN
          rw [← hE, HSN.out] at HEN
          rw [HSN.out] at HLE
          have HPl := Lib.hid (show (P ++ r.l).length ≤ 3000 by have := hPL.out; have := HLE.out; omega)
          have HELn := Lib.hid hEl
          clear hP hE hEl
          go_wp2_with fail
          refine (add_as _ W.heap.size F P E (P ++ r.l) (E ++ [((P ++ r.l).length : Int)]) 0 0 _ 1 1 [r] ((k : Int) + 1) (HFL.out.que.quiet ((Mods.refl [] _).alloc _)) (Parts.of_rows (rows_len r rfl (fun b hb => HFL.out.que.lt b hb) HRW.out)) rfl (by unfold maxLen; omega) (by simp [flatR]) (by simp) (by rw [List.length_append, HELn.out]; simp) (by have := HPl.out; omega) (by rw [List.length_append, HELn.out]; simp; omega)).mono ?_
          rintro e w2 ⟨rfl, hd⟩
          obtain ⟨F2, q2, m2, n2⟩ := hd.out
          have H2 := Lib.hid ((HFL.out.quiet ((Mods.refl [] _).alloc _)).to q2 m2 n2)
          have c2 := cell_mods HC.out H2.out.mods (by simp)
          have HAT := Lib.hid (show Src w2 r.A (bv r.l) from (HRk.out.2.1.mods H2.out.mods).srcs)
          have HB2 := Lib.hid (show (bv P).length + r.l.length ≤ 1000000000 by have := HPl.out; rw [List.length_append] at this; rw [bv_length]; omega)
          have HB3 := Lib.hid (show (iv E).length + 1 ≤ 1000000000 by rw [iv_length, HELn.out]; omega)
          clear hd q2 m2 n2
          go_wp2_with (first
            | (at_builtin; refine wpList_append_own2 _ rfl (.tmp 55) (.tmp 59) 28 rfl 5 i0 (.int .u8 0) Try.underlying28 HI.out.1 HI.out.2.1 HI.out.2.2.1 HI.out.2.2.2 rfl u8 (bv P) rfl H2.out.all r.A r.l.length r.c (bv r.l) rfl (bv_length _).symm HAT.out (bv_one _) HB2.out ?_; intro v3 w3 HO3 HM3; obtain ⟨A3, n3, c3, rfl, hn3, -, -⟩ := HO3.out.slice'; have HN3 := Lib.hid (show n3 = (P ++ r.l).length by rw [hn3, List.length_append, List.length_append, bv_length, bv_length]); have H3 := Lib.hid (H2.out.onAll HO3.out HM3.out); clear hn3)
            | (at_builtin; refine wpList_append_own2 _ rfl (.tmp 61) (.tmp 64) 29 rfl 3 i1 (.int .i64 0) Try.underlying29 HJ.out.1 HJ.out.2.1 HJ.out.2.2.1 HJ.out.2.2.2 rfl u9 (iv E) rfl (H3.out.ends.alloc _) (some ⟨w3.heap.size, 0, none⟩) 1 1 [.int .i64 n3] rfl rfl (Src.one _ _ _) (by simp [Value.oneCell']) HB3.out ?_; intro v4 w4 HO4 HM4; have H4 := Lib.hid ((H3.out.quiet ((Mods.refl [] _).alloc _)).onEnds (l := [(n3 : Int)]) HO4.out HM4.out)))
          go_roundw
          case rel => exact ⟨k + 1, by omega, by go_num, Lib.hid ⟨F2, by rw [HSN.out, HEN.out, ← HN3.out]; have := H4.out; rw [HN3.out] at this ⊢; exact this⟩⟩
          case measure => simp [intOf]; omega
        · have HK := Lib.hid (show rs.take k = rs from List.take_of_length_le (by omega))
          have hkn : k = rs.length := by omega
          subst hkn
          rw [HK.out] at HFL
          have HEL := Lib.hid (ends_length rs rs.length)
          obtain ⟨P, hP⟩ : ∃ P, P = flatR rs := ⟨_, rfl⟩
          obtain ⟨E, hE⟩ : ∃ E, E = ends rs rs.length := ⟨_, rfl⟩
          rw [← hP, ← hE] at HFL
          rw [← hP] at hPL
          rw [← hE] at HEL
          obtain ⟨A8, n8, c8, rfl, hn8, hc81, hc82⟩ := HFL.out.all.slice'
          obtain ⟨A9, n9, c9, rfl, hn9, hc91, hc92⟩ := HFL.out.ends.slice'
          rw [bv_length] at hn8
          rw [iv_length] at hn9
          have a1 : P.length ≤ n8 := by omega
          have a2 : n8 ≤ P.length := by omega
          have a3 : n9 ≤ rs.length := by rw [hn9]; exact Nat.le_of_eq HEL.out
          have a4 : rs.length ≤ n9 := by rw [hn9]; exact Nat.le_of_eq HEL.out.symm
          have HX := Lib.hid (show Full W wr W.heap.size (.slice A8 n8 c8) (.slice A9 n9 c9) P E 0 0 from ⟨F, by simpa using HFL.out⟩)
          have hP3 : P.length ≤ 3000 := by have := hPL.out; omega
          have hR3 : rs.length ≤ 3000 := by have := hPL.out; omega
          have HN8 := Lib.hid hn8
          have HN9 := Lib.hid hn9
          have HRG := Lib.hid HFL.out.que.rng
          unfold maxLen at hc82 hc92
          clear hP hE hn8 hn9 HFL HK hlt hk
          go_wp2_with fail
          go_loopw [11, 12, 13, 14, 15, 16] (fun s11 s12 s13 s14 s15 s16 wx => ∃ j a t : Nat, j ≤ len ∧ a ≤ P.length ∧ t ≤ rs.length ∧ s13 = .int .i64 j ∧ s11 = .int .i64 a ∧ s12 = .int .i64 t ∧ Hid (Full W wx W.heap.size (.slice A8 n8 c8) (.slice A9 n9 c9) P E a t)) (fun _ _ s13 _ _ _ _ => len - (intOf s13).toNat)
          case atStart => exact ⟨0, 0, 0, by omega, by omega, by omega, rfl, rfl, rfl, HX⟩
          case round =>
            clear HX
            obtain ⟨j, a, t, hj, ha, ht, rfl, rfl, rfl, hd⟩ := hrel
            obtain ⟨wo, rfl⟩ : ∃ wo : World, wo = wr := ⟨_, rfl⟩
            obtain ⟨F, hfl⟩ := hd.out
            have HFL := Lib.hid hfl
            clear hd hfl
            by_cases hlt : j < len
            · obtain ⟨bb, off, rfl, hbb, hcell, hI⟩ := HF.out j hlt
              have c0 := cell_mods hcell HFL.out.mods (by simp)
              have HC := Lib.hid hcell
              obtain ⟨c, hc, hc63⟩ : ∃ c : Nat, bits BinOp.and IntKind.i64 (f j) 63 = (c : Int) ∧ c ≤ 63 := and_mask (f j) 63 (by decide)
              generalize f j = fk at *
              obtain ⟨kN, hkN⟩ : ∃ kN, kN = min c (P.length - a) := ⟨_, rfl⟩
              have k1 : a + kN ≤ P.length := by omega
              have k2 : kN ≤ 63 := by omega
              have HK2 := Lib.hid (show (P.drop a).take (clamp (c : Int) (P.drop a).length) = (P.drop a).take kN ∧ ((P.drop a).take kN).length = kN by
                refine ⟨by unfold clamp; rw [List.length_drop, hkN]; rfl, by rw [List.length_take, List.length_drop]; omega⟩)
              have hck : (¬ (kN : Int) < (c : Int)) ∨ ((kN : Int) < (c : Int) ∧ (((a : Int) + (kN : Int)) != (n8 : Int)) = false) := by
                by_cases h : c = kN
                · left; omega
                · right; refine ⟨by omega, ?_⟩; simp; omega
              clear hcell hkN
              go_wp2_with fail
              refine (next_as wo W.heap.size kN (c : Int) F (P.drop a) (E.drop t) ((P.drop a).take kN) a t HFL.out.que HK2.out.1 HK2.out.2).mono ?_
              rintro e w5 ⟨A5, c5, rfl, hd⟩
              have N5 := Lib.hid hd.out
              have H5 := Lib.hid (HFL.out.quiet hd.out.mods)
              have d1 : ¬ (n8 : Int) < (a : Int) + (kN : Int) := by omega
              have c05 := cell_mods HC.out H5.out.mods (by simp)
              clear hd
              go_upto_region 27 with fail
              go_cut [116] (fun s116 wx => s116 = .bool false ∧ Hid (Mods [] w5 wx))
              case first =>
                rcases hck with hk1 | ⟨hk1, hk2⟩
                all_goals
                  go_wp2_with fail
                all_goals
                  refine (same_yes w5 A5 _ ((P.drop a).take kN) kN kN c5 _ HK2.out.2.symm HK2.out.2.symm (N5.out.at0 (Mods.refl _ _)) ?_ (by rw [HK2.out.2]; omega)).mono ?_
                  · have hAT : At w5 [] A8 P := At.of_own2 (F := []) H5.out.all (by simp) HRG.out
                    first
                      | exact (hAT.cut a (.inl rfl)).take kN
                      | exact (hAT.cut a (.inr (by omega))).take kN
                  rintro e w6 ⟨rfl, hm⟩
                  have M6 := Lib.hid hm
                  have c06 := cell_mods c05 hm (by simp)
                  clear hm
                  first
                    | (have h' := ‹c8 = a›; subst h')
                    | skip
                  go_wp2
                  go_meet
                  exact ⟨by rw [decide_eq_false (by omega)], M6⟩
              case rest =>
                obtain ⟨rfl, hm⟩ := hcut
                have H7 := Lib.hid (H5.out.quiet hm.out)
                obtain ⟨q, hq⟩ : ∃ q, q = wh (E.drop t) ((a + kN : Nat) : Int) := ⟨_, rfl⟩
                have hqE : t + q ≤ rs.length := by
                  have h1 := wh_le (E.drop t) ((a + kN : Nat) : Int)
                  rw [List.length_drop, HEL.out, ← hq] at h1
                  omega
                have HQ := Lib.hid hq
                have HDD := Lib.hid (show (P.drop a).drop kN = P.drop (a + kN) ∧ (E.drop t).drop q = E.drop (t + q) from ⟨by rw [List.drop_drop], by rw [List.drop_drop]⟩)
                have HCL := Lib.hid (show clamp (kN : Int) (P.drop a).length = kN by unfold clamp; rw [List.length_drop]; omega)
                clear hm hq hck H5 N5 c0 c05
                go_wp2_with fail
                refine (done_as wc W.heap.size kN q (kN : Int) F (P.drop a) (E.drop t) (P.drop (a + kN)) (E.drop (t + q)) (upto t q) a t (a + kN) (t + q) H7.out.que HCL.out HQ.out.symm HDD.out.1 HDD.out.2 rfl rfl rfl).mono ?_
                rintro e w8 ⟨A8', c8', rfl, hd⟩
                obtain ⟨⟨F8, q8, m8, n8', o8, b8⟩, -, h81, h82⟩ := hd.out
                have H8 := Lib.hid (H7.out.to q8 m8 n8')
                have O8 := Lib.hid o8
                have HSD := Lib.hid (show Src w8 A8' (iv (upto t q)) from o8.src)
                have HSE := Lib.hid (show Src w8 A9 (iv E) from H8.out.ends.src)
                unfold maxLen at h82
                clear hd q8 m8 n8' o8 b8 H7
                go_wp2_with fail
                go_loop [12, 16] (fun s12 s16 => ∃ m T2 : Nat, m ≤ q ∧ T2 ≤ rs.length ∧ s16 = .int .i64 m ∧ s12 = .int .i64 T2 ∧ Hid (T2 = t + m)) (fun _ s16 => q - (intOf s16).toNat)
                case atStart => exact ⟨0, t, by omega, by omega, rfl, rfl, Lib.hid rfl⟩
                case round =>
                  obtain ⟨m, T2, hm, hT, rfl, rfl, hTm⟩ := hrel
                  by_cases hmq : m < q
                  · obtain ⟨y, hy, hyl⟩ := wh_all (E.drop t) ((a + kN : Nat) : Int) m (by rw [← HQ.out]; exact hmq)
                    rw [List.getElem?_drop, ← hTm.out] at hy
                    obtain ⟨b9, o9, rfl, cy⟩ := HSE.out T2 (.int .i64 y) ((iv_at _ _ _).2 ⟨y, hy, rfl⟩)
                    obtain ⟨x, hx, hx1, hx2⟩ : ∃ x : Int, (iv (upto t q))[m]? = some (.int .i64 x) ∧ (x != (T2 : Int) + 1) = false ∧ x ≤ 5000 := by
                      refine ⟨(t : Int) + 1 + (m : Int), (iv_at _ _ _).2 ⟨_, by rw [upto_at, if_pos hmq], rfl⟩, ?_, by omega⟩
                      have := hTm.out
                      simp; omega
                    obtain ⟨b8, o8, rfl, cx⟩ := HSD.out m _ hx
                    have hyn : ¬ ((a : Int) + (kN : Int)) < y := by omega
                    have hTl : T2 < rs.length := by have := (List.getElem?_eq_some_iff.1 hy).1; have := HEL.out; omega
                    clear hy hyl hx
                    go_wp2
                    go_round
                    case rel => exact ⟨m + 1, T2 + 1, by omega, by omega, by go_num, by go_num, Lib.hid (by have := hTm.out; omega)⟩
                    case measure => simp [intOf]; omega
                  · obtain rfl : m = q := by omega
                    by_cases hTl : T2 < rs.length
                    · obtain ⟨y, hy, hyl⟩ := wh_stop (E.drop t) ((a + kN : Nat) : Int) (by rw [← HQ.out, List.length_drop, HEL.out]; have := hTm.out; omega)
                      rw [← HQ.out, List.getElem?_drop, ← hTm.out] at hy
                      obtain ⟨b9, o9, rfl, cy⟩ := HSE.out T2 (.int .i64 y) ((iv_at _ _ _).2 ⟨y, hy, rfl⟩)
                      have hyn : ¬ y ≤ (a : Int) + (kN : Int) := by omega
                      clear hy hyl
                      go_wp2
                      go_roundw
                      case rel => exact ⟨j + 1, a + kN, T2, by omega, by omega, by omega, by go_num, by go_num, rfl, Lib.hid ⟨F8, by rw [hTm.out]; exact H8.out⟩⟩
                      case measure => simp [intOf]; omega
                    · go_wp2
                      go_roundw
                      case rel => exact ⟨j + 1, a + kN, T2, by omega, by omega, by omega, by go_num, by go_num, rfl, Lib.hid ⟨F8, by rw [hTm.out]; exact H8.out⟩⟩
                      case measure => simp [intOf]; omega
            · obtain rfl : j = len := by omega
              have HP1 := Lib.hid (show (P.drop a).length = P.length - a by rw [List.length_drop])
              have HE1 := Lib.hid (show (E.drop t).length = rs.length - t by rw [List.length_drop, HEL.out])
              have x1 : (((P.length - a : Nat) : Int) == (n8 : Int) - (a : Int)) = true := by simp; omega
              have x2 : (((rs.length - t : Nat) : Int) == (rs.length : Int) - (t : Int)) = true := by simp; omega
              go_wp2_with fail
              refine (qlen_any wo W.heap.size F (P.drop a) (E.drop t) a t HFL.out.que).mono ?_
              rw [HP1.out]
              rintro e w' ⟨rfl, rfl⟩
              go_wp2_with fail
              refine (left_as wo W.heap.size (rs.length - t) F (P.drop a) (E.drop t) _ a t HFL.out.que rfl HE1.out).mono ?_
              rintro e w7 ⟨A7, c7, rfl, hd⟩
              have M7 := Lib.hid (HFL.out.mods.trans hd.out.mods (by simp))
              clear hd
              go_wp2_with fail
              refine (known_any _).mono ?_
              rintro e w8 ⟨rfl, hm⟩
              have M8 := Lib.hid (M7.out.trans hm (by simp))
              clear hm
              go_wp2
              go_ret
              exact ⟨rfl, M8.out.below⟩
theorem walk (W : World) (v : Value) (ho : IsRows W v) (v2 : Value) (ho2 : IsInts W v2) :
    Calls Try.prog 4 #[v, v2] W fun e w' => e = .returned (.bool true) ∧ Below W.heap.size W w' := by
  obtain ⟨A, rs, cap, rfl, hlm, hr⟩ := ho
  obtain ⟨C, len, ccap, f, rfl, hl, hf⟩ : ∃ (C : Option Addr) (len ccap : Nat) (f : Nat → Int), v2 = .slice C len ccap ∧ len ≤ maxLen ∧
      ∀ j, j < len → ∃ bb off, C = some ⟨bb, off, none⟩ ∧ bb < W.heap.size ∧ W.cell? ⟨bb, off + j, none⟩ = some (.int .i64 (f j)) ∧ I64 (f j) := by
    rcases ho2 with ⟨a, cap, rfl⟩ | ⟨bb, off, len, cap, f, rfl, h1, h2, h3, h4, h5⟩
    · exact ⟨a, 0, cap, fun _ => 0, rfl, Nat.zero_le _, fun j hj => by omega⟩
    · exact ⟨_, len, cap, f, rfl, by omega, fun j hj => ⟨bb, off, rfl, h4, (h5 j hj).1, (h5 j hj).2⟩⟩
  exact main W A rs cap hlm hr C len ccap f hl hf

theorem own : ownKnob Try.prog.godebug = none := by kernel_rfl
theorem laidOut : laidOutB Try.prog = true := by kernel_rfl
set_option maxRecDepth 100000 in
theorem lifted (os : Os) (started : os.Started) (H : Type) (enc : TypeId × Value → H) :
    ReturnsInHanded {} Try.checked os 4 .any (Rows.outqFlowsSpec.pre6 enc Try.prog Try.f4 Rows.outqFlowsRow.domain false) (Rows.outqFlowsSpec.post enc Try.prog Try.f4 false true false false) := by
  refine returnsInHanded_of_change_sized (C := Try.checked) own started (by kernel_rfl) Try.func4
    (ChangeSpec.witness6 (enc := enc) (C := Try.checked) false ⟨#[], #[.slice none 0 0, .slice none 0 0], []⟩ 8 (by kernel_rfl) (by kernel_rfl) (by kernel_rfl) (by kernel_rfl)) ?_
  intro W base args ds gs before hval0 hW hcnd hsz0 _
  have hsz : (DataW.weightsEach Try.prog (Try.f4.params.toList ++ Rows.outqFlowsSpec.plain.varTypes Try.prog) (ds ++ gs)).all (· ≤ reachBytes) = true := hsz0
  have hval : ∀ (j : Nat) t v, Try.f4.params[j]? = some t → args[j]? = some v → Value.okWide Try.prog W .any base t v := hval0
  have hW' := hW
  obtain ⟨p, q, hA0, hV, rfl, hfz, hnd⟩ := hW
  have hA : DataW.TrodAll enc Try.prog W 0 (fun _ => true) true Try.f4.params.toList args.toList ds p := hA0
  rw [Try.params4] at hA hval hsz
  obtain ⟨v0, vs0, d0, ds0, p0, q0, hargs, rfl, rfl, h0, r0⟩ := trodAll_cons hA
  obtain ⟨v1, vs1, d1, ds1, p1, q1, rfl, rfl, rfl, h1, r1⟩ := trodAll_cons r0
  obtain ⟨rfl, rfl, rfl⟩ := trodAll_nil r1
  obtain rfl : args = #[v0, v1] := by cases args; simp_all
  obtain ⟨rfl, rfl⟩ := trodVars_none hV
  have k0 := h0
  have lt0 : ∀ x ∈ p0, x.block < W.heap.size := by obtain ⟨m, hm⟩ := k0; exact DataW.trod_lt m _ _ _ hm
  obtain o0 := open_rows (hval 0 43 v0 rfl rfl) k0 (fun n hn => by simpa using List.all_eq_true.1 hsz n (DataW.weights_mem_each (j := 0) (t := 43) rfl rfl n hn))
  have k1 := h1
  have lt1 : ∀ x ∈ p1, x.block < W.heap.size := by obtain ⟨m, hm⟩ := k1; exact DataW.trod_lt m _ _ _ hm
  obtain o1 := open_nums (hval 1 29 v1 rfl rfl) k1
  clear hA0 hval0 hsz0 hsz
  refine (walk W v0 o0 v1 o1).mono fun e W' ⟨he, bel⟩ => ?_
  subst he
  exact ⟨_, rfl, _, _, _, [], _, [], hW', trodAll_mk1 (shut_bool Try.underlying4 _), (trodAll_cons_mk (Below.trod laidOut (by kernel_rfl) (of_decide_eq_true (by kernel_rfl)) k0 bel lt0) (trodAll_cons_mk (Below.trod laidOut (by kernel_rfl) (of_decide_eq_true (by kernel_rfl)) k1 bel lt1) trodAll_mk0)), rfl, bel.frame _, fun h => by cases h⟩

theorem over : Rows.outqFlowsRow.holds Try.pinned (OpenSpec.ofChange Rows.outqFlowsSpec) :=
  OpenClaim.holds_of_wide 4 Try.f4 rfl rfl rfl rfl rfl rfl rfl ⟨rfl, rfl, rfl, rfl, rfl⟩ rfl rfl rfl rfl rfl (by kernel_rfl) Try.func4 (by kernel_rfl)
    (of_decide_eq_true (by kernel_rfl)) (by unfold Func.isWrapper; first | (rw [if_pos (by decide +kernel)]; kernel_rfl) | (rw [if_neg (by decide +kernel)]; exact ⟨rfl, rfl⟩))
    (fun os started H enc _ => lifted os started H enc)

theorem proved : Rows.OutqFlowsSaid := over
end Go.Proofs.Ytgahnediigmihaa.outqFlows
