/- For every two texts and cuts, bytes come in their order in both directions, each once, whatever the portions: the law returns true. Condition: none. -/
import Derived.Test.YtogcfeplfclobaaRows
import Derived.WalkKit
import Derived.ProofKit
import Derived.OpenShut
import Derived.ShutString
import Derived.ChangeOld
import Derived.Below
import Derived.SizedLaws
import Derived.Test.YtogcfeplfclobaaOpenB
import Derived.Test.YtogcfeplfclobaaNs
import Derived.Test.YtogcfeplfclobaaNu
namespace Go.Proofs.Ytogcfeplfclobaa.netFlows
open Go.ChangeShapes Go.WideShapes Go.ChangeAt Go.RowKit
open Go.ChangeMaps (open_string shut_string)
set_option linter.unusedVariables false
set_option maxRecDepth 10000
/-- How the connection of this law stands: a bytes were taken of what is sent, b written of what is to be, T were read. -/
structure Fs (I O : List Int) (a b : Nat) (T : List Int) (s : Cn) : Prop where
  brk : s.brk = false
  opn : s.opn = true
  hlv : s.hlv = false
  sht : s.sht = false
  tak : s.tak = T
  inn : T ++ s.inn = I.take a
  out : s.out = O.take b
  ha : a ≤ I.length
  hb : b ≤ O.length
theorem fs_send {I O T : List Int} {a b : Nat} {s : Cn} (h : Fs I O a b T s) (hi : s.inn.length ≤ 1024) (k : Nat) (hk : a + k ≤ I.length) :
    ∃ m, m ≤ k ∧ (one s).sendE 0 = 0 ∧ (one s).sendK 0 ((I.drop a).take k) = (m : Int) ∧ ∃ s', (one s).send 0 ((I.drop a).take k) = one s' ∧ Fs I O (a + m) b T s' := by
  have hs := one_send h.brk h.opn h.hlv ((I.drop a).take k)
  have hl : ((I.drop a).take k).length = k := by rw [List.length_take, List.length_drop]; omega
  have hf := fill_cut s.inn ((I.drop a).take k) hi
  rw [hl] at hf
  obtain ⟨m, hm⟩ : ∃ m, m = min k (1024 - s.inn.length) := ⟨_, rfl⟩
  rw [← hm] at hf
  have ht : ((I.drop a).take k).take m = (I.drop a).take m := by rw [List.take_take, Nat.min_eq_left (by omega)]
  rw [ht] at hf
  have hml : ((I.drop a).take m).length = m := by rw [List.length_take, List.length_drop]; omega
  refine ⟨m, by omega, hs.1, ?_, _, hs.2.2, ⟨h.brk, h.opn, h.hlv, h.sht, h.tak, ?_, h.out, by omega, h.hb⟩⟩
  · rw [hs.2.1, hf, List.length_append, hml]; omega
  · show T ++ fill s.inn ((I.drop a).take k) = _
    rw [hf, ← List.append_assoc, h.inn, List.take_add]
theorem fs_open {I O T : List Int} {a b : Nat} {s : Cn} (h : Fs I O a b T s) (n : Int) (hn : 0 ≤ n) : (one s).openE 0 n = 0 ∧ ∃ s', (one s).open_ 0 n = one s' ∧ Fs I O a b T s' := by
  have ho := one_open h.brk h.opn n hn
  exact ⟨ho.1, _, ho.2, ⟨h.brk, h.opn, h.hlv, h.sht, h.tak, h.inn, h.out, h.ha, h.hb⟩⟩
theorem fs_write {I O T : List Int} {a b : Nat} {s : Cn} (h : Fs I O a b T s) :
    ∃ (k : Nat) (e : Int), k ≤ O.length - b ∧ (e = 0 ∨ e = 4) ∧ (one s).writeE 0 (O.drop b) = e ∧ (one s).writeK 0 (O.drop b) = k ∧ ∃ s', (one s).write 0 (O.drop b) = one s' ∧ Fs I O a (b + k) T s' := by
  by_cases h0 : (O.drop b).length = 0
  · have hn : O.drop b = [] := List.eq_nil_of_length_eq_zero h0
    have hw := one_write_none h.brk h.opn h.sht
    rw [hn]
    exact ⟨0, 0, by omega, .inl rfl, hw.1, hw.2.1, s, hw.2.2, h⟩
  · by_cases hw0 : s.win = 0
    · have hw := one_write_again h.brk h.opn h.sht (O.drop b) h0 hw0
      exact ⟨0, 4, by omega, .inr rfl, hw.1, hw.2.1, s, hw.2.2, h⟩
    · have hw := one_write h.brk h.opn h.sht (O.drop b) h0 hw0
      rw [List.length_drop] at hw
      obtain ⟨k, hk⟩ : ∃ k, k = min (O.length - b) s.win.toNat := ⟨_, rfl⟩
      rw [← hk] at hw
      have hb := h.hb
      refine ⟨k, 0, by omega, .inl rfl, hw.1, hw.2.1, _, hw.2.2, ⟨h.brk, h.opn, h.hlv, h.sht, h.tak, h.inn, ?_, h.ha, by omega⟩⟩
      show s.out ++ (O.drop b).take k = _
      rw [h.out, List.take_add]
theorem fs_read {I O T : List Int} {a b : Nat} {s : Cn} (h : Fs I O a b T s) (q : Int) (hq : 1 ≤ q) :
    ∃ (B : List Int) (e : Int), (one s).readE 0 q = e ∧ (one s).readB 0 q = B ∧ ∃ s', (one s).read 0 q = one s' ∧ Fs I O a b (T ++ B) s' := by
  by_cases h0 : s.inn.length = 0
  · have hr := one_read_again h.brk h.opn q hq h0 h.hlv
    exact ⟨[], 4, hr.1, hr.2.1, s, hr.2.2, by rw [List.append_nil]; exact h⟩
  · have hr := one_read h.brk h.opn q hq (.inl h0)
    refine ⟨s.inn.take q.toNat, 0, hr.1, hr.2.1, _, hr.2.2, ⟨h.brk, h.opn, h.hlv, h.sht, ?_, ?_, h.out, h.ha, h.hb⟩⟩
    · show s.tak ++ s.inn.take q.toNat = _
      rw [h.tak]
    · show (T ++ s.inn.take q.toNat) ++ s.inn.drop q.toNat = _
      rw [List.append_assoc, List.take_append_drop, h.inn]
theorem NetL.more {W w : World} {g m n : Nat} {S : Nt} {K : List Nat} (h : NetL W w g S m K) (hmn : m ≤ n) (hn : n ≤ 900000000) : NetL W w g S n K := by
  obtain ⟨F, h1, h2⟩ := h
  exact ⟨F, h1.more hmn hn, h2⟩
/-- Bytes of the law's own were appended to. -/
theorem NetL.app {W w w8 : World} {g m : Nat} {S : Nt} {K : List Nat} {v v8 : Value} {xs : List Int} (h : NetL W w g S m K) (hK : ∀ k ∈ v.ownBlock.toList, k ∈ K ∧ W.heap.size ≤ k) (ho : Own w8 5 v8 (bv xs)) (hr : ∀ y ∈ xs, 0 ≤ y ∧ y ≤ 255)
    (hm : Mods v.ownBlock.toList w w8 ∧ (v8.ownBlock = v.ownBlock ∨ v8.ownBlock = some w.heap.size)) : NetL W w8 g S m v8.ownBlock.toList ∧ NewB W w8 v8 xs := by
  obtain ⟨F, h1, h2, h3, h4⟩ := h
  have hv : ∀ k ∈ v8.ownBlock.toList, k ∈ v.ownBlock.toList ∨ k = w.heap.size := fun k hk => by
    rcases hm.2 with e | e
    · rw [e] at hk; exact .inl hk
    · rw [e] at hk; right; simpa [eq_comm] using hk
  refine ⟨⟨F, h1.mods hm.1 fun k hk hk2 => (h3 k hk).2 (hK k hk2).1, h2.trans hm.1 fun k hk => .inr (hK k hk).2, fun k hk => ⟨(h3 k hk).1, fun hk2 => ?_⟩, ho.lt⟩, ho, fun b hb => ?_, hr⟩
  · rcases hv k hk2 with h | h
    · exact (h3 k hk).2 (hK k h).1
    · have := h1.lt k hk; omega
  · rcases hv b hb with h | h
    · exact (hK b h).2
    · rw [h]; exact h2.size
/-- What is kept of round j. -/
def Flow (W wr : World) (g : Nat) (I O : List Int) (j a b : Nat) (A : Option Addr) (n cp : Nat) : Prop :=
  ∃ (s : Cn) (T : List Int), NetL W wr g (one s) (6000 * j) (Value.slice A n cp).ownBlock.toList ∧ Fs I O a b T s ∧ NewB W wr (.slice A n cp) T ∧ n = T.length
theorem Flow.facts {W wr : World} {g : Nat} {I O : List Int} {j a b : Nat} {A : Option Addr} {n cp : Nat} (h : Flow W wr g I O j a b A n cp) : a ≤ I.length ∧ b ≤ O.length ∧ n ≤ a := by
  obtain ⟨s, T, h1, h2, h3, h4⟩ := h
  refine ⟨h2.ha, h2.hb, ?_⟩
  have := congrArg List.length h2.inn
  rw [List.length_append, List.length_take] at this
  omega
set_option maxHeartbeats 8000000 in
theorem good (W : World) (I O : Rw) (hI : Came W I) (hO : Came W O) (A : Option Addr) (len cap : Nat) (f : Nat → Int) (hi : I.l.length ≤ 4000) (ho : O.l.length ≤ 4000) (hl : len ≤ 300)
    (hf : ∀ j, j < len → ∃ b off, A = some ⟨b, off, none⟩ ∧ b < W.heap.size ∧ W.cell? ⟨b, off + j, none⟩ = some (.int .i64 (f j)) ∧ I64 (f j)) :
    Calls Try.prog 4 #[.slice I.A I.l.length I.c, .slice O.A O.l.length O.c, .slice A len cap] W fun e w' => e = .returned (.bool true) ∧ Below W.heap.size W w' := by
  have hnn := eql_nnil
  have HF := Lib.hid hf
  have HI := Lib.hid hI
  have HO := Lib.hid hO
  have hi1 := hI.2.1
  have hi2 := hI.2.2
  have ho1 := hO.2.1
  have ho2 := hO.2.2
  clear hf hI hO
  obtain ⟨ni, hni⟩ : ∃ n, n = I.l.length := ⟨_, rfl⟩
  obtain ⟨no, hno⟩ : ∃ n, n = O.l.length := ⟨_, rfl⟩
  have HNI := Lib.hid hni
  have HNO := Lib.hid hno
  rw [← hni] at hi hi1 ⊢
  rw [← hno] at ho ho1 ⊢
  clear hni hno
  go_enter Try.func4, Try.ntmps4
  go_wp2_with fail
  refine (newL 1 W W (Mods.refl _ _) [] (by simp) (by decide) (by decide)).mono ?_
  rintro e w1 ⟨rfl, hd⟩
  have L1 := Lib.hid hd.out
  clear hd
  go_wp2_with fail
  refine (connL W w1 _ _ _ 0 _ L1.out 0 0 ⟨1, false, 0, [Cn.new 0], 0⟩ rfl rfl rfl).mono ?_
  rintro e w2 ⟨rfl, hd⟩
  have L2 := Lib.hid hd.out.1
  clear hd L1
  go_wp2_with fail
  refine (accL W w2 _ _ _ _ L2.out 0 0 0 (one ⟨0, true, false, false, false, [], 0, [], [], 0, 0⟩) rfl rfl rfl rfl).mono ?_
  rintro e w3 ⟨rfl, hd⟩
  have L3 := Lib.hid (show Flow W w3 W.heap.size I.l O.l 0 0 0 none 0 0 from ⟨_, [], hd.out.1.less (by simp [Value.ownBlock]), ⟨rfl, rfl, rfl, rfl, rfl, by simp, by simp, Nat.zero_le _, Nat.zero_le _⟩, ⟨Own.nil _ _, by simp [Value.ownBlock], by simp⟩, rfl⟩)
  clear hd L2
  go_wp2
  go_loopw [12, 13, 14, 15, 16, 17, 18, 19, 20, 21, 22] (fun xa xb xc i _ _ _ _ _ _ _ wr => ∃ (j a b : Nat) (Ac : Option Addr) (n cp : Nat), j ≤ len ∧ i = .int .i64 j ∧ xa = .int .i64 a ∧ xb = .int .i64 b ∧ xc = .slice Ac n cp ∧ Hid (Flow W wr W.heap.size I.l O.l j a b Ac n cp)) (fun _ _ _ i _ _ _ _ _ _ _ _ => len - (intOf i).toNat)
  case atStart => exact ⟨0, 0, 0, none, 0, 0, Nat.zero_le _, rfl, rfl, rfl, rfl, L3⟩
  case round =>
    obtain ⟨j, a, b, Ac, n, cp, hj, rfl, rfl, rfl, rfl, hd⟩ := hrel
    obtain ⟨fa, fb, fn⟩ := hd.out.facts
    rw [← HNI.out] at fa
    rw [← HNO.out] at fb
    by_cases hlt : j < len
    · obtain ⟨s, T, hL, hS, hB, hT⟩ := hd.out
      obtain ⟨pb, po, rfl, hpb, hpc, hpi⟩ := HF.out j hlt
      have HPC := Lib.hid hpc
      have c1 := cell_mods hpc hL.mods (by simp)
      obtain ⟨y, hy, hy2⟩ : ∃ y : Nat, bits BinOp.and IntKind.i64 (f j) 511 = (y : Int) ∧ y ≤ 511 := and_mask (f j) 511 (by decide)
      obtain ⟨z, hz, hz2⟩ : ∃ z : Nat, bits BinOp.and IntKind.i64 (f j / 512) 63 = (z : Int) ∧ z ≤ 63 := and_mask (f j / 512) 63 (by decide)
      obtain ⟨u, hu, hu2⟩ : ∃ u : Nat, bits BinOp.and IntKind.i64 (f j / 32768) 511 = (u : Int) ∧ u ≤ 511 := and_mask (f j / 32768) 511 (by decide)
      obtain ⟨k, hk⟩ : ∃ k, k = min (ni - a) y := ⟨_, rfl⟩
      have hmn : (if (y : Int) < (ni : Int) - (a : Int) then (y : Int) else (ni : Int) - (a : Int)) = (k : Int) := by subst hk; split <;> omega
      have k1 : a + k ≤ ni := by omega
      have k2 : a + k ≤ I.c := by omega
      have hinn := ((hL.ok).cn s (by simp [one])).2.2.2.2.1
      obtain ⟨m, hm1, hE, hK, s2, hS2, hF2⟩ := fs_send hS hinn k (by rw [← HNI.out]; exact k1)
      have hkl : ((I.l.drop a).take k).length = k := by rw [List.length_take, List.length_drop, ← HNI.out]; omega
      obtain ⟨B1, hB1⟩ : ∃ B, B = (if I.c = a then I.A else Option.map (fun x => x.add a) I.A) := ⟨_, rfl⟩
      have HAT := Lib.hid (fun (F : List Nat) (hF : ∀ k ∈ F, W.heap.size ≤ k) => show At wr F B1 ((I.l.drop a).take k) by
        rw [hB1]
        exact (((HI.out.1.sub (G := F) fun k hk => .inr (hF k hk)).mods (hL.mods.more (by simp))).cutIf a I.c (by rw [← HNI.out]; exact hi1)).take k)
      have HSD := Lib.hid (fun (o : Obj) (ho : o = .cells #[.slice B1 k (I.c - a)] 33) => sendL W wr (wr.alloc o) W.heap.size (6000 * j) (one s) 0 (some ⟨wr.heap.size, 0, none⟩) 1 1 [⟨B1, (I.l.drop a).take k, I.c - a⟩] _ hL ((Mods.refl _ _).alloc _) (by omega) (fun F hF => by
        subst ho
        have := rows_one (w := wr) (F := F) ⟨B1, (I.l.drop a).take k, I.c - a⟩ rfl ⟨HAT.out F fun k hk => (hF k hk).1, by simp only; omega, by simp only; unfold maxLen; omega⟩ (fun hk => by have := (hF _ hk).2; omega)
        simp only [hkl] at this
        exact Parts.of_rows this) rfl (by decide) ((I.l.drop a).take k) m 0 (one s2) (by simp [flatR]) hK hE hS2)
      have HFS2 := Lib.hid hF2
      have HBT := Lib.hid hB
      have HNT := Lib.hid hT
      have hoff := hB1.symm
      have m1 : (m : Int) ≤ (k : Int) := by omega
      clear hd hL hS hB hT hpc hpi hinn hE hK hS2 hF2 hB1 hk hy2 hkl
      go_wp2_with fail
      refine (HSD.out _ rfl).mono ?_
      rintro e w4 ⟨rfl, hd⟩
      have L4 := Lib.hid hd.out.1
      have B4 := Lib.hid (HBT.out.keep hd.out.2 (fun _ h => h))
      have c1 := cell_mods HPC.out hd.out.1.mods (by simp)
      clear hd HSD HBT hoff
      obtain ⟨hE, s3, hS3, hF3⟩ := fs_open HFS2.out (z : Int) (by omega)
      have HOP := Lib.hid (openL W w4 _ _ _ 0 (z : Int) _ L4.out (by omega) 0 _ hE hS3)
      have HFS3 := Lib.hid hF3
      clear hE hS3 hF3
      go_wp2_with fail
      refine HOP.out.mono ?_
      rintro e w5 ⟨rfl, hd⟩
      have L5 := Lib.hid hd.out.1
      have B5 := Lib.hid (B4.out.keep hd.out.2 (fun _ h => h))
      have c1 := cell_mods HPC.out hd.out.1.mods (by simp)
      clear hd HOP L4 B4 HFS2
      obtain ⟨q, e0, hq, he0, hE, hK, s4, hS4, hF4⟩ := fs_write HFS3.out
      obtain ⟨B2, hB2⟩ : ∃ B, B = (if O.c = b then O.A else Option.map (fun x => x.add b) O.A) := ⟨_, rfl⟩
      have HWR := Lib.hid (writeL W w5 w5 _ _ _ 0 B2 (no - b) (O.c - b) (O.l.drop b) _ L5.out (Mods.refl _ _) (by rw [List.length_drop, ← HNO.out]; omega) (fun F hF => by
        rw [hB2]
        exact ((HO.out.1.sub (G := F) fun k hk => .inr (hF k hk).1).mods (L5.out.mods.more (by simp))).cutIf b O.c (by rw [← HNO.out]; exact ho1)) (by rw [List.length_drop, ← HNO.out]) (by omega) (by unfold maxLen; omega) q e0 _ hK hE hS4)
      have HFS4 := Lib.hid hF4
      have HLD := Lib.hid (show (O.l.drop b).length ≤ 4000 by rw [List.length_drop, ← HNO.out]; omega)
      rw [← HNO.out] at hq
      have hoff := hB2.symm
      have q1 : (q : Int) ≤ (no : Int) - (b : Int) := by omega
      clear hE hK hS4 hF4 hB2
      rcases he0 with rfl | rfl
      all_goals
        go_wp2_with fail
        refine HWR.out.mono ?_
        rintro e w6 ⟨rfl, hd⟩
        have L6 := Lib.hid (NetL.more hd.out.1 (n := 6000 * j + 4002) (by have := HLD.out; omega) (by omega))
        have B6 := Lib.hid (B5.out.keep hd.out.2 (fun _ h => h))
        have c1 := cell_mods HPC.out hd.out.1.mods (by simp)
        clear hd HWR L5 B5 HFS3 hoff
        obtain ⟨Bt, e1, hE, hB, s5, hS5, hF5⟩ := fs_read HFS4.out (1 + (u : Int)) (by omega)
        have HRD := Lib.hid (readL W w6 _ _ _ 0 (1 + (u : Int)) _ L6.out (by omega) Bt e1 _ hB hE hS5)
        have HFS5 := Lib.hid hF5
        clear hE hB hS5 hF5
        go_wp2_with fail
        refine HRD.out.mono ?_
        rintro e w7 ⟨A7, n7, c7, rfl, hn7, hd⟩
        have L7 := Lib.hid (NetL.more hd.out.1 (n := 6000 * (j + 1)) (by omega) (by omega))
        have BC := Lib.hid (B6.out.keep hd.out.2.1 (fun _ h => h))
        have BP := Lib.hid hd.out.2.2.1
        have HNP := Lib.hid hn7.out
        have HNK := Lib.hid (show ∀ k ∈ (Value.slice Ac n cp).ownBlock.toList, k ∈ (Value.slice Ac n cp).ownBlock.toList ++ (Value.slice A7 n7 c7).ownBlock.toList ∧ W.heap.size ≤ k from fun k hk => ⟨List.mem_append_left _ hk, BC.out.2.1 k hk⟩)
        have HTB := Lib.hid (show (bv T).length + n7 ≤ 1000000000 by
          have h1 := congrArg List.length HFS5.out.inn
          rw [List.length_append, List.length_append, List.length_take] at h1
          rw [bv_length]
          have := HNP.out.1
          have := HNI.out
          omega)
        obtain ⟨i0, hi0, hz0, hsz, hby⟩ := info_parts u8_info3
        have HIN := Lib.hid (And.intro hi0 (And.intro hz0 (And.intro hsz (show i0.bytes ≤ 8 by omega))))
        clear hd HRD L6 B6 HFS4 hn7 hi0 hz0 hsz hby
        go_wp2_with (at_builtin; refine wpList_append_own2 _ rfl (.tmp 151) (.tmp 152) 33 rfl 5 i0 (.int .u8 0) Try.underlying33 HIN.out.1 HIN.out.2.1 HIN.out.2.2.1 HIN.out.2.2.2 rfl (.slice Ac n cp) (bv T) rfl BC.out.1 A7 n7 c7 (bv Bt) rfl (by rw [bv_length]; exact HNP.out.1) BP.out.1.src (bv_one _) HTB.out ?_; intro v8 w8 HO8 HM8; obtain ⟨h81, h82⟩ := NetL.app L7.out HNK.out (xs := T ++ Bt) (by rw [show bv (T ++ Bt) = bv T ++ bv Bt by simp [bv]]; exact HO8.out) (fun y hy => (List.mem_append.1 hy).elim (BC.out.2.2 y) (BP.out.2.2 y)) HM8.out; obtain ⟨A8, n8, c8, rfl, hn8, -, -⟩ := HO8.out.slice'; have HX8 := Lib.hid (show n8 = (T ++ Bt).length by rw [hn8, List.length_append, bv_length, bv_length, List.length_append]); have H81 := Lib.hid h81; have H82 := Lib.hid h82; clear h81 h82 hn8)
        go_roundw
        case rel => exact ⟨j + 1, a + m, b + q, A8, n8, c8, by omega, by go_num, by go_num, by go_num, rfl, Lib.hid ⟨s5, T ++ Bt, H81.out, HFS5.out, H82.out, HX8.out⟩⟩
        case measure => simp [intOf]; omega
    · obtain ⟨s, T, hL, hS, hB, hT⟩ := hd.out
      have htk : T = I.l.take n := by
        have h1 := congrArg (List.take n) hS.inn
        rw [hT, List.take_left, ← hT, List.take_take, Nat.min_eq_left fn] at h1
        exact h1
      have HT := Lib.hid htk
      have HTN := Lib.hid hT
      have HBT := Lib.hid hB
      have HTL := Lib.hid (show T.length ≤ 4000 by omega)
      have hge : (one s).gotE 0 = false := by simp [Nt.gotE, Nt.at?, one, hS.brk, hS.sht, hS.opn]
      have HG := Lib.hid (gotL W wr _ _ _ 0 _ hL (O.l.take b) false hS.out hge)
      have HTK := Lib.hid (show (one s).taken 0 = T from hS.tak)
      have hbl : (O.l.take b).length = b := by rw [List.length_take, ← HNO.out]; omega
      have HBL := Lib.hid hbl
      have k1 : n ≤ I.c := by omega
      have k2 : b ≤ O.c := by omega
      clear hd hL hS hB hT htk hge hbl L3
      go_wp2_with fail
      refine HG.out.mono ?_
      rintro e w4 ⟨A4, n4, c4, rfl, hn4, hd⟩
      have L4 := Lib.hid hd.out.1
      have B4 := Lib.hid (HBT.out.keep hd.out.2.1 (fun _ h => h))
      have G4 := Lib.hid hd.out.2.2.1
      have HN4 := Lib.hid hn4.out.1
      clear hd HG HBT hn4
      go_wp2_with fail
      refine (same_yes w4 Ac I.A T n n cp I.c HTN.out HTN.out B4.out.at0 (by rw [HT.out]; exact (HI.out.1.mods L4.out.mods).take n) (by have := HTL.out; omega)).mono ?_
      rintro e w5 ⟨rfl, hm5⟩
      have L5 := Lib.hid (L4.out.quiet hm5)
      have B5 := Lib.hid (B4.out.quiet hm5)
      have G5 := Lib.hid (G4.out.quiet hm5)
      clear hm5 L4 B4 G4
      go_wp2_with fail
      refine (takenL W w5 _ _ _ 0 _ L5.out T HTK.out).mono ?_
      rintro e w6 ⟨A6, n6, c6, rfl, hn6, hd⟩
      have L6 := Lib.hid hd.out.1
      have B6 := Lib.hid (B5.out.keep hd.out.2.1 (fun _ h => List.mem_append_left _ h))
      have G6 := Lib.hid (G5.out.keep hd.out.2.1 (fun _ h => List.mem_append_right _ h))
      have T6 := Lib.hid hd.out.2.2.1
      have HN6 := Lib.hid hn6.out.1
      clear hd hn6 L5 B5 G5
      go_wp2_with fail
      refine (same_yes w6 A6 Ac T n6 n c6 cp HN6.out HTN.out T6.out.at0 B6.out.at0 (by have := HTL.out; omega)).mono ?_
      rintro e w7 ⟨rfl, hm7⟩
      have M7 := Lib.hid (L6.out.mods.trans hm7 (by simp))
      have G7 := Lib.hid (G6.out.quiet hm7)
      clear hm7 L6 B6 G6 T6
      go_wp2_with fail
      refine (same_yes w7 A4 O.A (O.l.take b) n4 b c4 O.c HN4.out HBL.out.symm G7.out.at0 ((HO.out.1.mods M7.out).take b) (by rw [HBL.out]; omega)).mono ?_
      rintro e w8 ⟨rfl, hm8⟩
      have M8 := Lib.hid (M7.out.trans hm8 (by simp))
      clear hm8 G7
      go_wp2_with fail
      refine (known_any _).mono ?_
      rintro e w9 ⟨rfl, hm⟩
      go_wp2
      go_ret
      exact ⟨rfl, (M8.out.trans hm (by simp)).below⟩
theorem walk (W : World) (I : Rw) (hI : Came W I) (O : Rw) (hO : Came W O) (v : Value) (o : IsInts W v) :
    Calls Try.prog 4 #[.slice I.A I.l.length I.c, .slice O.A O.l.length O.c, v] W fun e w' => e = .returned (.bool true) ∧ Below W.heap.size W w' := by
  obtain ⟨A, len, cap, f, rfl, hlc, hf⟩ : ∃ (A : Option Addr) (len cap : Nat) (f : Nat → Int), v = .slice A len cap ∧ (len ≤ cap ∧ cap ≤ maxLen ∨ len = 0) ∧ ∀ j, j < len → ∃ b off, A = some ⟨b, off, none⟩ ∧ b < W.heap.size ∧ W.cell? ⟨b, off + j, none⟩ = some (.int .i64 (f j)) ∧ I64 (f j) := by
    rcases o with ⟨a, cap, rfl⟩ | ⟨pb, off, len, cap, f, rfl, h1, h2, h3, h4, h5⟩
    · exact ⟨a, 0, cap, fun _ => 0, rfl, .inr rfl, fun j hj => by omega⟩
    · exact ⟨_, len, cap, f, rfl, .inl ⟨h2, h3⟩, fun j hj => ⟨pb, off, rfl, h4, h5 j hj⟩⟩
  have hlen : len ≤ 9223372036854775807 := by
    rcases hlc with h | h
    · have := h.2; unfold maxLen at this; omega
    · omega
  by_cases h : I.l.length ≤ 4000 ∧ O.l.length ≤ 4000 ∧ len ≤ 300
  · exact good W I O hI hO A len cap f h.1 h.2.1 h.2.2 hf
  · have H := Lib.hid (known_any W)
    have hw : (4000 < I.l.length) ∨ (I.l.length ≤ 4000 ∧ 4000 < O.l.length) ∨ (I.l.length ≤ 4000 ∧ O.l.length ≤ 4000 ∧ 300 < len) := by omega
    have hi := hI.2
    have hoo := hO.2
    clear h hI hO hf hlc o
    rcases hw with h | ⟨h1, h2⟩ | ⟨h1, h2, h3⟩
    all_goals
      go_enter Try.func4, Try.ntmps4
      go_wp2_with fail
      refine H.out.mono ?_
      rintro e w1 ⟨rfl, hm⟩
      go_wp2
      go_ret
      exact ⟨rfl, hm.below⟩

theorem own : ownKnob Try.prog.godebug = none := by kernel_rfl
theorem laidOut : laidOutB Try.prog = true := by kernel_rfl
set_option maxRecDepth 100000 in
theorem lifted (os : Os) (started : os.Started) (H : Type) (enc : TypeId × Value → H) :
    ReturnsInHanded {} Try.checked os 4 .any (Rows.netFlowsSpec.pre6 enc Try.prog Try.f4 Rows.netFlowsRow.domain false) (Rows.netFlowsSpec.post enc Try.prog Try.f4 false true false false) := by
  refine returnsInHanded_of_change_sized (C := Try.checked) own started (by kernel_rfl) Try.func4
    (ChangeSpec.witness6 (enc := enc) (C := Try.checked) false ⟨#[], #[.slice none 0 0, .slice none 0 0, .slice none 0 0], []⟩ 8 (by kernel_rfl) (by kernel_rfl) (by kernel_rfl) (by kernel_rfl)) ?_
  intro W base args ds gs before hval0 hW hcnd hsz0 _
  have hsz : (DataW.weightsEach Try.prog (Try.f4.params.toList ++ Rows.netFlowsSpec.plain.varTypes Try.prog) (ds ++ gs)).all (· ≤ reachBytes) = true := hsz0
  have hval : ∀ (j : Nat) t v, Try.f4.params[j]? = some t → args[j]? = some v → Value.okWide Try.prog W .any base t v := hval0
  have hW' := hW
  obtain ⟨p, q, hA0, hV, rfl, hfz, hnd⟩ := hW
  have hA : DataW.TrodAll enc Try.prog W 0 (fun _ => true) true Try.f4.params.toList args.toList ds p := hA0
  rw [Try.params4] at hA hval hsz
  obtain ⟨v0, vs0, d0, ds0, p0, q0, hargs, rfl, rfl, h0, r0⟩ := trodAll_cons hA
  obtain ⟨v1, vs1, d1, ds1, p1, q1, rfl, rfl, rfl, h1, r1⟩ := trodAll_cons r0
  obtain ⟨v2, vs2, d2, ds2, p2, q2, rfl, rfl, rfl, h2, r2⟩ := trodAll_cons r1
  obtain ⟨rfl, rfl, rfl⟩ := trodAll_nil r2
  obtain rfl : args = #[v0, v1, v2] := by cases args; simp_all
  obtain ⟨rfl, rfl⟩ := trodVars_none hV
  have k0 := h0
  have lt0 : ∀ x ∈ p0, x.block < W.heap.size := by obtain ⟨m, hm⟩ := k0; exact DataW.trod_lt m _ _ _ hm
  obtain ⟨b0, rfl, wb0⟩ := open_bytes (hval 0 33 v0 rfl rfl) k0 (fun n hn => by simpa using List.all_eq_true.1 hsz n (DataW.weights_mem_each (j := 0) (t := 33) rfl rfl n hn))
  have k1 := h1
  have lt1 : ∀ x ∈ p1, x.block < W.heap.size := by obtain ⟨m, hm⟩ := k1; exact DataW.trod_lt m _ _ _ hm
  obtain ⟨b1, rfl, wb1⟩ := open_bytes (hval 1 33 v1 rfl rfl) k1 (fun n hn => by simpa using List.all_eq_true.1 hsz n (DataW.weights_mem_each (j := 1) (t := 33) rfl rfl n hn))
  have k2 := h2
  have lt2 : ∀ x ∈ p2, x.block < W.heap.size := by obtain ⟨m, hm⟩ := k2; exact DataW.trod_lt m _ _ _ hm
  obtain o2 := open_nums (hval 2 40 v2 rfl rfl) k2
  clear hA0 hval0 hsz0 hsz
  refine (walk W b0 wb0 b1 wb1 v2 o2).mono fun e W' ⟨he, bel⟩ => ?_
  subst he
  exact ⟨_, rfl, _, _, _, [], _, [], hW', trodAll_mk1 (shut_bool Try.underlying4 _), (trodAll_cons_mk (Below.trod laidOut (by kernel_rfl) (of_decide_eq_true (by kernel_rfl)) k0 bel lt0) (trodAll_cons_mk (Below.trod laidOut (by kernel_rfl) (of_decide_eq_true (by kernel_rfl)) k1 bel lt1) (trodAll_cons_mk (Below.trod laidOut (by kernel_rfl) (of_decide_eq_true (by kernel_rfl)) k2 bel lt2) trodAll_mk0))), rfl, bel.frame _, fun h => by cases h⟩

theorem over : Rows.netFlowsRow.holds Try.pinned (OpenSpec.ofChange Rows.netFlowsSpec) :=
  OpenClaim.holds_of_wide 4 Try.f4 rfl rfl rfl rfl rfl rfl rfl ⟨rfl, rfl, rfl, rfl, rfl⟩ rfl rfl rfl rfl rfl (by kernel_rfl) Try.func4 (by kernel_rfl)
    (of_decide_eq_true (by kernel_rfl)) (by unfold Func.isWrapper; first | (rw [if_pos (by decide +kernel)]; kernel_rfl) | (rw [if_neg (by decide +kernel)]; exact ⟨rfl, rfl⟩))
    (fun os started H enc _ => lifted os started H enc)

theorem proved : Rows.NetFlowsSaid := over
end Go.Proofs.Ytogcfeplfclobaa.netFlows
