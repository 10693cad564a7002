/- For every size, text and cuts, the bytes that are written and skipped in portions come out in their order, each once: the law returns true. Condition: none. -/
import Derived.Test.YtfgllfgcgihkoaaRows
import Derived.WalkKit
import Derived.ProofKit
import Derived.OpenShut
import Derived.ShutString
import Derived.ChangeOld
import Derived.Below
import Derived.SizedLaws
import Derived.Test.YtfgllfgcgihkoaaOpenR
import Derived.Test.YtfgllfgcgihkoaaRingL
import Derived.Deep.RegionHeld3
import Derived.Deep.RegionWith
import Derived.Deep.DeepCutAuto
import Derived.Deep.CutBlock
namespace Go.Proofs.Ytfgllfgcgihkoaa.ringFlows
open Go.ChangeShapes Go.WideShapes Go.ChangeAt Go.RowKit
open Go.ChangeMaps (open_string shut_string)
set_option linter.unusedVariables false
set_option maxRecDepth 100000
/-- Ahead of each round: what is out and what the ring holds are what came so far. -/
structure Fl (W wr : World) (g m N : Nat) (ov : Value) (n : Nat) (bl O L : List Int) : Prop where
  ring : RingA wr g m N L
  own : wr.ownsRow 0 5 1 ov O.length (bv O)
  eq : O ++ L = bl.take n
  le : n ≤ bl.length
  mods : Mods [g, m] W wr
  far : ∀ k ∈ ov.ownBlock.toList, W.heap.size ≤ k ∧ k ∉ [g, m]
theorem rows_len {w : World} {F : List Nat} (r : Rw) {n : Nat} (hn : n = r.l.length) (hF : ∀ b ∈ F, b < w.heap.size) (h : r.Ok w F) : RowsAt (w.alloc (.cells #[.slice r.A n r.c] 32)) F w.heap.size [r] := by
  subst hn
  exact rows_one r rfl h (fun hb => by have := hF _ hb; omega)
set_option maxHeartbeats 2000000 in
theorem main (N : Nat) (h1 : 1 ≤ N) (h2 : N ≤ 300) (W : World) (b : Rw) (hb : Came W b) (hlb : b.l.length ≤ 6000) (A : Option Addr) (len cap : Nat) (f : Nat → Int) (hcm : len ≤ maxLen) (hlen : len ≤ 200)
    (hf : ∀ j, j < len → ∃ bb off, A = some ⟨bb, off, none⟩ ∧ bb < W.heap.size ∧ W.cell? ⟨bb, off + j, none⟩ = some (.int .i64 (f j)) ∧ I64 (f j)) :
    Calls Try.prog 4 #[.int .i64 N, .slice b.A b.l.length b.c, .slice A len cap] W fun e w' => e = .returned (.bool true) ∧ Below W.heap.size W w' := by
  have hn := eql_nil
  obtain ⟨i0, hi, hz, hs, hby⟩ := info_parts u8_info3
  have HI := Lib.hid (And.intro hi (And.intro hz (And.intro hs hby)))
  have HB := Lib.hid (show b.Ok W [W.heap.size + 1, W.heap.size] from hb.ok (by simp))
  have cb := hb.2
  have HF := Lib.hid hf
  unfold maxLen at hcm
  clear hi hz hs hby hb hf
  go_enter Try.func4, Try.ntmps4
  go_wp2_with fail
  refine (new_any N W h1 (by omega)).mono ?_
  rintro e w1 ⟨rfl, hs, hm⟩
  have H0 := Lib.hid (show Fl W w1 (W.heap.size + 1) W.heap.size N (.slice none 0 0) 0 b.l [] [] from ⟨hs, World.ownsRow_nil _ _ _ _, by simp, Nat.zero_le _, hm.more (by simp), by simp [Value.ownBlock]⟩)
  clear hs hm
  go_wp2_with fail
  go_loopw [9, 10, 11, 12, 13, 14] (fun ov n i x1 x2 x3 wr => ∃ k n' : Nat, k ≤ len ∧ n' ≤ b.l.length ∧ i = .int .i64 k ∧ n = .int .i64 n' ∧ Hid (∃ O L, Fl W wr (W.heap.size + 1) W.heap.size N ov n' b.l O L)) (fun _ _ i _ _ _ _ => len - (intOf i).toNat)
  case atStart => exact ⟨0, 0, Nat.zero_le _, Nat.zero_le _, rfl, rfl, Lib.hid ⟨_, _, H0.out⟩⟩
  case round =>
    obtain ⟨k, n, hk, hnb, rfl, rfl, hd⟩ := hrel
    obtain ⟨O, L, hfl⟩ := hd.out
    have HFL := Lib.hid hfl
    have HLN := Lib.hid hfl.ring.len
    have HOL := Lib.hid (show O.length + L.length = n by have := congrArg List.length hfl.eq; rw [List.length_append, List.length_take] at this; omega)
    clear hd hfl H0
    by_cases hlt : k < len
    · obtain ⟨bb, off, rfl, hbb, hcell, hI⟩ := HF.out k hlt
      have c0 := cell_mods hcell HFL.out.mods (by simp; omega)
      obtain ⟨p, hp, hp2⟩ : ∃ p : Nat, bits BinOp.and IntKind.i64 (f k) 63 = (p : Int) ∧ p ≤ 63 := and_mask (f k) 63 (by decide)
      generalize f k = fk at *
      obtain ⟨kk, hkk, hk2, hk3⟩ : ∃ kk : Nat, (if (p : Int) < (b.l.length : Int) - (n : Int) then (p : Int) else (b.l.length : Int) - (n : Int)) = (kk : Int) ∧ kk + n ≤ b.l.length ∧ kk ≤ 63 := by
        split
        · exact ⟨p, rfl, by omega, by omega⟩
        · exact ⟨b.l.length - n, by omega, by omega, by omega⟩
      have HKK := Lib.hid hkk
      clear hkk
      go_upto_region 12 with fail
      rw [HKK.out]
      have HBA := Lib.hid (HB.out.mods HFL.out.mods).1
      have HC := Lib.hid hcell
      clear c0 hcell hp
      obtain ⟨nn, hnn⟩ : ∃ nn, nn = min kk (N - L.length) := ⟨_, rfl⟩
      have nn1 : nn ≤ kk := by omega
      have nn2 : nn ≤ 63 := by omega
      have HNN := Lib.hid hnn
      have HC2 := Lib.hid (cell_mods HC.out HFL.out.mods (by simp; omega))
      have HLT : ∀ wr, RingA wr (W.heap.size + 1) W.heap.size N L → ∀ b ∈ [W.heap.size + 1, W.heap.size], b < wr.heap.size := fun wr h => h.lt
      clear hnn
      have HEQ := Lib.hid (show ∀ m, m = nn → O ++ (L ++ ((b.l.drop n).take kk).take (N - L.length)) = b.l.take (n + m) from fun m hm => by
        subst hm
        rw [← List.append_assoc, HFL.out.eq, List.take_take, Nat.min_comm, ← HNN.out, ← List.take_add])
      obtain ⟨q, hq, hq2⟩ : ∃ q : Nat, bits BinOp.and IntKind.i64 (fk / 64) 63 = (q : Int) ∧ q ≤ 63 := and_mask (fk / 64) 63 (by decide)
      by_cases hcat : b.c = n
      · subst hcat
        have HA := Lib.hid (show At wr [W.heap.size + 1, W.heap.size] b.A ((b.l.drop b.c).take kk) by rw [show b.l.drop b.c = [] from List.drop_of_length_le (by omega)]; simpa using At.nil _ _ _)
        have HPL := Lib.hid (show ((b.l.drop b.c).take kk).length = kk by rw [List.length_take, List.length_drop]; omega)
        go_wp2_with fail
        refine (write_as _ _ _ N wr.heap.size nn L (L ++ ((b.l.drop b.c).take kk).take (N - L.length)) [⟨b.A, (b.l.drop b.c).take kk, 0⟩] (HFL.out.ring.mods ((Mods.refl [] _).alloc _) (by simp)) (rows_len _ HPL.out.symm (HLT wr HFL.out.ring) ⟨HA.out, by rw [HPL.out]; show kk ≤ 0; omega, by unfold maxLen; show 0 ≤ _; omega⟩) (by simp) 1 rfl (by simp [flatR]) (by rw [List.length_append, List.length_take, HPL.out]; have := HNN.out; omega)).mono ?_
        rintro e w5 ⟨rfl, hd⟩
        have H5 := Lib.hid hd.out
        have hc5 := cell_mods (cell_alloc HC2.out (.cells #[.slice (b.A) kk (0)] 32)) hd.out.2 (by simp; omega)
        have HE5 := Lib.hid (HEQ.out nn rfl)
        obtain ⟨L1, hL1⟩ : ∃ L1, L1 = L ++ ((b.l.drop b.c).take kk).take (N - L.length) := ⟨_, rfl⟩
        rw [← hL1] at H5 HE5
        have HN1 := Lib.hid H5.out.1.len
        have M5 := Lib.hid ((HFL.out.mods.alloc (.cells #[.slice (b.A) kk (0)] 32)).trans H5.out.2 (fun k hk => .inl hk))
        have hO5 := HFL.out.own.alloc (.cells #[.slice (b.A) kk (0)] 32)
        have HO5 := Lib.hid (own_mods hO5 H5.out.2 (fun k hk => (HFL.out.far k hk).2))
        clear hd hL1 hO5
        go_wp2_with fail
        refine (peek_as w5 _ _ N (min q L1.length) q L1 (L1.take (min q L1.length)) H5.out.1 (by unfold clamp; rw [Int.toNat_natCast]) (by rw [List.length_take]; omega)).mono ?_
        rintro e w6 ⟨A6, c6, rfl, hd⟩
        have H6 := Lib.hid hd.out
        obtain ⟨j, hj⟩ : ∃ j, j = min q L1.length := ⟨_, rfl⟩
        have j1 : j ≤ L1.length := by omega
        rw [← hj] at H6 ⊢
        clear hd hj hc5
        have j2 : j ≤ 300 := by have := HN1.out; omega
        go_wp2_with fail
        refine (skip_as w6 _ _ N j L1 (H5.out.1.mods H6.out.mods (by simp)) j1).mono ?_
        rintro e w7 ⟨rfl, hd⟩
        have H7 := Lib.hid hd.out
        have HO7 := Lib.hid (own_mods (own_mods HO5.out H6.out.mods (by simp)) H7.out.2 (fun k hk => (HFL.out.far k hk).2))
        have HA7 := Lib.hid (show At w7 [] A6 (L1.take j) from (H6.out.at_ H7.out.2 (fun b hb hb2 => by have := H6.out.2.2.2.2.2.2 b hb; have := H5.out.1.lt b hb2; omega)).sub (by simp))
        have M7 := Lib.hid ((M5.out.trans H6.out.mods (by simp)).trans H7.out.2 (fun k hk => .inl hk))
        have HPj := Lib.hid H6.out.2.2.2.2.1
        have HOo := Lib.hid (show O.length + (L1.take j).length ≤ 1000000000 by rw [List.length_take]; have := HOL.out; omega)
        clear hd
        go_wp2_with (at_builtin; refine wpList_append_bytes _ rfl (.tmp 93) (.tmp 94) 32 rfl 5 i0 (.int .u8 0) Try.underlying32 HI.out.1 HI.out.2.1 HI.out.2.2.1 HI.out.2.2.2 rfl u9 O.length O rfl HO7.out [] A6 j c6 (L1.take j) rfl HPj.out.symm HA7.out HOo.out ?_; intro v8 w8 HO8 HM8)
        go_roundw
        case rel =>
          refine ⟨k + 1, b.c + nn, by omega, by omega, by go_num, by go_num, Lib.hid ⟨O ++ L1.take j, L1.drop j, H7.out.1.mods HM8.out.1 ?_, ?_, ?_, by omega, M7.out.trans HM8.out.1 ?_, ?_⟩⟩
          · intro b hb hb2; exact (HFL.out.far b hb2).2 hb
          · rw [show (O ++ L1.take j).length = O.length + j by rw [List.length_append, HPj.out]]; exact HO8.out
          · rw [List.append_assoc, List.take_append_drop]; exact HE5.out
          · intro b hb; exact .inr (HFL.out.far b hb).1
          · intro b hb
            rcases HM8.out.2 with e | e
            · rw [e] at hb; exact HFL.out.far b hb
            · rw [e] at hb
              simp only [Option.toList_some, List.mem_cons, List.mem_nil_iff, or_false] at hb
              subst hb
              have h1 := M7.out.size
              exact ⟨h1, fun h => by have := H7.out.1.lt _ h; omega⟩
        case measure => simp [intOf]; omega
      · have HA := Lib.hid (show At wr [W.heap.size + 1, W.heap.size] (Option.map (fun x => x.add n) b.A) ((b.l.drop n).take kk) from (HBA.out.cut n (.inl rfl)).take kk)
        have HPL := Lib.hid (show ((b.l.drop n).take kk).length = kk by rw [List.length_take, List.length_drop]; omega)
        go_wp2_with fail
        refine (write_as _ _ _ N wr.heap.size nn L (L ++ ((b.l.drop n).take kk).take (N - L.length)) [⟨Option.map (fun x => x.add n) b.A, (b.l.drop n).take kk, b.c - n⟩] (HFL.out.ring.mods ((Mods.refl [] _).alloc _) (by simp)) (rows_len _ HPL.out.symm (HLT wr HFL.out.ring) ⟨HA.out, by rw [HPL.out]; show kk ≤ b.c - n; omega, by unfold maxLen; show b.c - n ≤ _; omega⟩) (by simp) 1 rfl (by simp [flatR]) (by rw [List.length_append, List.length_take, HPL.out]; have := HNN.out; omega)).mono ?_
        rintro e w5 ⟨rfl, hd⟩
        have H5 := Lib.hid hd.out
        have hc5 := cell_mods (cell_alloc HC2.out (.cells #[.slice (Option.map (fun x => x.add n) b.A) kk (b.c - n)] 32)) hd.out.2 (by simp; omega)
        have HE5 := Lib.hid (HEQ.out nn rfl)
        obtain ⟨L1, hL1⟩ : ∃ L1, L1 = L ++ ((b.l.drop n).take kk).take (N - L.length) := ⟨_, rfl⟩
        rw [← hL1] at H5 HE5
        have HN1 := Lib.hid H5.out.1.len
        have M5 := Lib.hid ((HFL.out.mods.alloc (.cells #[.slice (Option.map (fun x => x.add n) b.A) kk (b.c - n)] 32)).trans H5.out.2 (fun k hk => .inl hk))
        have hO5 := HFL.out.own.alloc (.cells #[.slice (Option.map (fun x => x.add n) b.A) kk (b.c - n)] 32)
        have HO5 := Lib.hid (own_mods hO5 H5.out.2 (fun k hk => (HFL.out.far k hk).2))
        clear hd hL1 hO5
        go_wp2_with fail
        refine (peek_as w5 _ _ N (min q L1.length) q L1 (L1.take (min q L1.length)) H5.out.1 (by unfold clamp; rw [Int.toNat_natCast]) (by rw [List.length_take]; omega)).mono ?_
        rintro e w6 ⟨A6, c6, rfl, hd⟩
        have H6 := Lib.hid hd.out
        obtain ⟨j, hj⟩ : ∃ j, j = min q L1.length := ⟨_, rfl⟩
        have j1 : j ≤ L1.length := by omega
        rw [← hj] at H6 ⊢
        clear hd hj hc5
        have j2 : j ≤ 300 := by have := HN1.out; omega
        go_wp2_with fail
        refine (skip_as w6 _ _ N j L1 (H5.out.1.mods H6.out.mods (by simp)) j1).mono ?_
        rintro e w7 ⟨rfl, hd⟩
        have H7 := Lib.hid hd.out
        have HO7 := Lib.hid (own_mods (own_mods HO5.out H6.out.mods (by simp)) H7.out.2 (fun k hk => (HFL.out.far k hk).2))
        have HA7 := Lib.hid (show At w7 [] A6 (L1.take j) from (H6.out.at_ H7.out.2 (fun b hb hb2 => by have := H6.out.2.2.2.2.2.2 b hb; have := H5.out.1.lt b hb2; omega)).sub (by simp))
        have M7 := Lib.hid ((M5.out.trans H6.out.mods (by simp)).trans H7.out.2 (fun k hk => .inl hk))
        have HPj := Lib.hid H6.out.2.2.2.2.1
        have HOo := Lib.hid (show O.length + (L1.take j).length ≤ 1000000000 by rw [List.length_take]; have := HOL.out; omega)
        clear hd
        go_wp2_with (at_builtin; refine wpList_append_bytes _ rfl (.tmp 93) (.tmp 94) 32 rfl 5 i0 (.int .u8 0) Try.underlying32 HI.out.1 HI.out.2.1 HI.out.2.2.1 HI.out.2.2.2 rfl u9 O.length O rfl HO7.out [] A6 j c6 (L1.take j) rfl HPj.out.symm HA7.out HOo.out ?_; intro v8 w8 HO8 HM8)
        go_roundw
        case rel =>
          refine ⟨k + 1, n + nn, by omega, by omega, by go_num, by go_num, Lib.hid ⟨O ++ L1.take j, L1.drop j, H7.out.1.mods HM8.out.1 ?_, ?_, ?_, by omega, M7.out.trans HM8.out.1 ?_, ?_⟩⟩
          · intro b hb hb2; exact (HFL.out.far b hb2).2 hb
          · rw [show (O ++ L1.take j).length = O.length + j by rw [List.length_append, HPj.out]]; exact HO8.out
          · rw [List.append_assoc, List.take_append_drop]; exact HE5.out
          · intro b hb; exact .inr (HFL.out.far b hb).1
          · intro b hb
            rcases HM8.out.2 with e | e
            · rw [e] at hb; exact HFL.out.far b hb
            · rw [e] at hb
              simp only [Option.toList_some, List.mem_cons, List.mem_nil_iff, or_false] at hb
              subst hb
              have h1 := M7.out.size
              exact ⟨h1, fun h => by have := H7.out.1.lt _ h; omega⟩
        case measure => simp [intOf]; omega
    · have b1 : (0 : Int) ≤ (n : Int) := by omega
      have b2 : (n : Int) ≤ (b.c : Int) := by omega
      have HBA := Lib.hid (show At wr u9.ownBlock.toList b.A b.l from by
        have h1 : At W (u9.ownBlock.toList ++ [W.heap.size + 1, W.heap.size]) b.A b.l := HB.out.1.sub (fun k hk => .inr (by
          rcases List.mem_append.1 hk with h | h
          · exact (HFL.out.far k h).1
          · simp at h; omega))
        exact (h1.mods (HFL.out.mods.more (fun k hk => .inl (List.mem_append_right _ hk)))).sub (fun k hk => .inl (List.mem_append_left _ hk)))
      have HTL := Lib.hid (show (b.l.take n).length = n by rw [List.length_take]; omega)
      have HBR := Lib.hid (show ∀ x ∈ b.l.take n, 0 ≤ x ∧ x ≤ 255 from fun x hx => HB.out.1.range x (List.mem_of_mem_take hx))
      have HOo := Lib.hid (show O.length + L.length ≤ 1000000000 by have := HOL.out; omega)
      have HNB := Lib.hid (show n ≤ 1000000000 by omega)
      clear hn cb hcm hlb hnb
      go_wp2_with fail
      go_region_held3 (fun _ => True) (trivial)
        (first
          | (go_at_call 19; refine Calls.mono (peek_as _ _ _ N L.length N L L (HFL.out.ring.keep fun _ _ => rfl) (by unfold clamp; exact List.take_of_length_le (by have := HLN.out; omega)) rfl) ?_; rintro e w6 ⟨A6, c6, rfl, hd⟩; have H6 := Lib.hid (show New wr w6 A6 L.length c6 L from by first | exact hd.out | exact hd.out.drew); clear hd)
          | (refine step_append_bytes rfl (.tmp 96) (.tmp 99) 32 rfl 5 i0 (.int .u8 0) Try.underlying32 HI.out.1 HI.out.2.1 HI.out.2.2.1 HI.out.2.2.2 rfl u9 O.length O rfl (own_mods HFL.out.own H6.out.mods (by simp)) [] A6 L.length c6 L rfl rfl (H6.out.at0 (Mods.refl _ _)) HOo.out ?_; intro v8 w8 HO8 HM8; obtain ⟨A8, c8, rfl, hc8, hd8⟩ := own_slice HO8.out; clear hc8 hd8)
          | (go_at_call 9; refine Calls.mono (known_any _) ?_; rintro e w10 ⟨rfl, hm⟩; have H10 := Lib.hid hm; clear hm)
          | (go_at_call 20; refine Calls.mono (same_yes _ A8 b.A (b.l.take n) (O.length + L.length) n c8 b.c (by rw [HTL.out]; exact HOL.out) HTL.out.symm (by have h := HO8.out; rw [HFL.out.eq] at h; exact At.of_own (F := []) h (by simp) HBR.out) ((((HBA.out.mods (H6.out.mods.more (by simp))).mods HM8.out.1).sub (G := []) (by simp)).take n) (by rw [HTL.out]; exact HNB.out)) ?_; rintro e w9 ⟨rfl, hm⟩; have H9 := Lib.hid hm; clear hm))
      all_goals
        go_wp2
        go_ret
        have hm := (((HFL.out.mods.trans H6.out.mods (by simp)).trans HM8.out.1 (fun k hk => .inr (HFL.out.far k hk).1)).trans H9.out (by simp)).trans H10.out (by simp)
        exact ⟨rfl, hm.below_ (by simp) (Nat.le_refl _)⟩
theorem walk (W : World) (n : Int) (hn : (Lit.int .i64 n).wf = true) (b : Rw) (hb : Came W b) (v : Value) (ho : IsInts W v) :
    Calls Try.prog 4 #[.int .i64 n, .slice b.A b.l.length b.c, v] W fun e w' => e = .returned (.bool true) ∧ Below W.heap.size W w' := by
  obtain ⟨A, len, cap, f, rfl, hl, hlm, hf⟩ : ∃ (A : Option Addr) (len cap : Nat) (f : Nat → Int), v = .slice A len cap ∧ (len ≤ cap ∨ len = 0) ∧ len ≤ maxLen ∧ (cap ≤ maxLen ∨ len = 0) ∧
      ∀ j, j < len → ∃ bb off, A = some ⟨bb, off, none⟩ ∧ bb < W.heap.size ∧ W.cell? ⟨bb, off + j, none⟩ = some (.int .i64 (f j)) ∧ I64 (f j) := by
    rcases ho with ⟨a, cap, rfl⟩ | ⟨bb, off, len, cap, f, rfl, h1, h2, h3, h4, h5⟩
    · exact ⟨a, 0, cap, fun _ => 0, rfl, .inr rfl, Nat.zero_le _, .inr rfl, fun j hj => by omega⟩
    · exact ⟨_, len, cap, f, rfl, .inl h2, by omega, .inl h3, fun j hj => ⟨bb, off, rfl, h4, (h5 j hj).1, (h5 j hj).2⟩⟩
  by_cases h : 1 ≤ n ∧ n ≤ 300 ∧ b.l.length ≤ 6000 ∧ len ≤ 200
  · obtain ⟨N, rfl⟩ := Int.eq_ofNat_of_zero_le (show 0 ≤ n by omega)
    exact main N (by omega) (by omega) W b hb h.2.2.1 A len cap f hlm h.2.2.2 hf.2
  · have hK := fun w => (known_any w).mono fun e w' ⟨he, hm⟩ => (⟨he, hm.below⟩ : e = Ending.returned (.bool true) ∧ Below w.heap.size w w')
    have cb := hb.2
    unfold maxLen at hlm
    have hc : n < 1 ∨ (¬ n < 1 ∧ 300 < n) ∨ (¬ n < 1 ∧ ¬ 300 < n ∧ 6000 < b.l.length) ∨ (¬ n < 1 ∧ ¬ 300 < n ∧ ¬ 6000 < b.l.length ∧ 200 < len) := by omega
    clear h hn hb hf hl
    rcases hc with h1 | ⟨h1, h2⟩ | ⟨h1, h2, h3⟩ | ⟨h1, h2, h3, h4⟩
    all_goals
      go_enter Try.func4, Try.ntmps4
      go_wp2_with fail
      refine (hK W).mono ?_
      rintro e w1 ⟨rfl, hd⟩
      have H1 := Lib.hid hd
      clear hd
      go_wp2
      go_ret
      exact ⟨rfl, H1.out⟩

theorem own : ownKnob Try.prog.godebug = none := by kernel_rfl
theorem laidOut : laidOutB Try.prog = true := by kernel_rfl
set_option maxRecDepth 100000 in
theorem lifted (os : Os) (started : os.Started) (H : Type) (enc : TypeId × Value → H) :
    ReturnsInHanded {} Try.checked os 4 .any (Rows.ringFlowsSpec.pre6 enc Try.prog Try.f4 Rows.ringFlowsRow.domain false) (Rows.ringFlowsSpec.post enc Try.prog Try.f4 false true false false) := by
  refine returnsInHanded_of_change_sized (C := Try.checked) own started (by kernel_rfl) Try.func4
    (ChangeSpec.witness6 (enc := enc) (C := Try.checked) false ⟨#[], #[.int .i64 0, .slice none 0 0, .slice none 0 0], []⟩ 8 (by kernel_rfl) (by kernel_rfl) (by kernel_rfl) (by kernel_rfl)) ?_
  intro W base args ds gs before hval0 hW hcnd hsz0 _
  have hsz : (DataW.weightsEach Try.prog (Try.f4.params.toList ++ Rows.ringFlowsSpec.plain.varTypes Try.prog) (ds ++ gs)).all (· ≤ reachBytes) = true := hsz0
  have hval : ∀ (j : Nat) t v, Try.f4.params[j]? = some t → args[j]? = some v → Value.okWide Try.prog W .any base t v := hval0
  have hW' := hW
  obtain ⟨p, q, hA0, hV, rfl, hfz, hnd⟩ := hW
  have hA : DataW.TrodAll enc Try.prog W 0 (fun _ => true) true Try.f4.params.toList args.toList ds p := hA0
  rw [Try.params4] at hA hval hsz
  obtain ⟨v0, vs0, d0, ds0, p0, q0, hargs, rfl, rfl, h0, r0⟩ := trodAll_cons hA
  obtain ⟨v1, vs1, d1, ds1, p1, q1, rfl, rfl, rfl, h1, r1⟩ := trodAll_cons r0
  obtain ⟨v2, vs2, d2, ds2, p2, q2, rfl, rfl, rfl, h2, r2⟩ := trodAll_cons r1
  obtain ⟨rfl, rfl, rfl⟩ := trodAll_nil r2
  obtain rfl : args = #[v0, v1, v2] := by cases args; simp_all
  obtain ⟨rfl, rfl⟩ := trodVars_none hV
  obtain ⟨a0, rfl, rfl, rfl, w0⟩ := open_int Try.underlying3 (hval 0 3 v0 rfl rfl) h0
  have k1 := h1
  have lt1 : ∀ x ∈ p1, x.block < W.heap.size := by obtain ⟨m, hm⟩ := k1; exact DataW.trod_lt m _ _ _ hm
  obtain ⟨b1, rfl, wb1⟩ := open_bytes (hval 1 32 v1 rfl rfl) k1 (fun n hn => by simpa using List.all_eq_true.1 hsz n (DataW.weights_mem_each (j := 1) (t := 32) rfl rfl n hn))
  have k2 := h2
  have lt2 : ∀ x ∈ p2, x.block < W.heap.size := by obtain ⟨m, hm⟩ := k2; exact DataW.trod_lt m _ _ _ hm
  obtain o2 := open_nums (hval 2 46 v2 rfl rfl) k2
  clear hA0 hval0 hsz0 hsz
  refine (walk W a0 w0 b1 wb1 v2 o2).mono fun e W' ⟨he, bel⟩ => ?_
  subst he
  exact ⟨_, rfl, _, _, _, [], _, [], hW', trodAll_mk1 (shut_bool Try.underlying4 _), (trodAll_cons_mk (shut_int Try.underlying3 w0) (trodAll_cons_mk (Below.trod laidOut (by kernel_rfl) (of_decide_eq_true (by kernel_rfl)) k1 bel lt1) (trodAll_cons_mk (Below.trod laidOut (by kernel_rfl) (of_decide_eq_true (by kernel_rfl)) k2 bel lt2) trodAll_mk0))), rfl, bel.frame _, fun h => by cases h⟩

theorem over : Rows.ringFlowsRow.holds Try.pinned (OpenSpec.ofChange Rows.ringFlowsSpec) :=
  OpenClaim.holds_of_wide 4 Try.f4 rfl rfl rfl rfl rfl rfl rfl ⟨rfl, rfl, rfl, rfl, rfl⟩ rfl rfl rfl rfl rfl (by kernel_rfl) Try.func4 (by kernel_rfl)
    (of_decide_eq_true (by kernel_rfl)) (by unfold Func.isWrapper; first | (rw [if_pos (by decide +kernel)]; kernel_rfl) | (rw [if_neg (by decide +kernel)]; exact ⟨rfl, rfl⟩))
    (fun os started H enc _ => lifted os started H enc)

theorem proved : Rows.RingFlowsSaid := over
end Go.Proofs.Ytfgllfgcgihkoaa.ringFlows
