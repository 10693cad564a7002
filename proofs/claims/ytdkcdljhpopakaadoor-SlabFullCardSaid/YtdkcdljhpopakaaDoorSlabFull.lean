/- For every limit and every row of numbers, a new slab takes limit numbers into the slots 0, 1, .. (each Gen 1), refuses one more with ErrFull, and behind any Takes gives the least free slot with Gen 2: the law returns true. Condition: the library's table of 64 is laid as its initialiser lays it (tied). -/
import Derived.Test.YtdkcdljhpopakaaDoorCards
import Derived.Test.YtdkcdljhpopakaaDoorTie
import Derived.Lay
import Derived.LaidOnce
import Derived.MakeChecks
import Derived.SevenTiedAt
import Derived.WalkKit
import Derived.ProofKit
import Derived.OpenShut
import Derived.ShutString
import Derived.ChangeOld
import Derived.Below
import Derived.SizedLaws
import Derived.Carry
import Derived.Test.YtdkcdljhpopakaaDoorFullMath
import Derived.Test.YtdkcdljhpopakaaDoorOpenS
import Derived.Test.YtdkcdljhpopakaaDoorTz2
namespace Go.Proofs.YtdkcdljhpopakaaDoor.slabFull
open Go.ChangeShapes Go.WideShapes Go.ChangeAt Go.RowKit
open Go.ChangeMaps (open_string shut_string)
set_option linter.unusedVariables false
set_option maxRecDepth 10000
set_option linter.unusedSimpArgs false
theorem hd_info : (Tryd.prog.info? 32).map (fun i => (i.zero, i.size, i.bytes)) = some (some (.agg #[.int .i64 0, .int .i64 0]), 2, 16) := by kernel_rfl
/-- What holds ahead of each round of the first loop. -/
def R1 (w wr : World) (g n k : Nat) (l : Value) : Prop :=
  ∃ (S : Slb) (F : List Nat), SlabA wr g F S k ∧ S.Full n k ∧ OwnPairs wr 32 l (ones k) ∧ Mods [] w wr ∧ (∀ b ∈ F, w.heap.size ≤ b) ∧ ∀ b ∈ l.ownBlock.toList, w.heap.size ≤ b ∧ b ∉ F
/-- What holds ahead of each round of the second loop. -/
def R2 (w wr : World) (g n j m : Nat) (l : Value) : Prop :=
  ∃ (S : Slb) (F : List Nat), SlabA wr g F S n ∧ S.Once n ∧ S.least = m ∧ (j = 0 → S.cnt = n) ∧ (0 < j → m < n) ∧ OwnPairs wr 32 l (ones n) ∧ Mods [] w wr ∧ (∀ b ∈ F, w.heap.size ≤ b) ∧ ∀ b ∈ l.ownBlock.toList, w.heap.size ≤ b ∧ b ∉ F
set_option maxHeartbeats 4000000 in
theorem main (n : Nat) (hn : 1 ≤ n) (hn2 : n ≤ 100) (A : Option Addr) (len cap : Nat) (f : Nat → Int) (hl : len ≤ 100) (hlc : len ≤ cap) (w : World) (ht : TzTab w)
    (hf : ∀ j, j < len → ∃ b off, A = some ⟨b, off, none⟩ ∧ b < w.heap.size ∧ w.cell? ⟨b, off + j, none⟩ = some (.int .i64 (f j)) ∧ I64 (f j)) :
    Calls Tryd.prog 6 #[.int .i64 n, .slice A len cap] w fun e w' => e = .returned (.bool true) ∧ Below w.heap.size w w' := by
  obtain ⟨i0, hi0, hz0, hz1, hz2⟩ := info_parts hd_info
  have HT := Lib.hid ht
  have HF := Lib.hid hf
  clear ht hf
  go_enter Tryd.func6, Tryd.ntmps6
  go_wp2_with fail
  refine (new_any n w hn (by omega)).mono ?_
  rintro e w1 ⟨rfl, hs, hm⟩
  have H0 := Lib.hid (show R1 w w1 w.heap.size n 0 (.slice none 0 0) from ⟨_, _, hs, Slb.new_full n, ⟨rfl, .inl ⟨rfl, rfl⟩⟩, hm, by simp, by simp [Value.ownBlock]⟩)
  clear hs hm
  go_wp2_with fail
  go_loopw [7, 8, 9, 10] (fun l i b e wr => ∃ k : Nat, k ≤ n ∧ i = .int .i64 k ∧ Hid (R1 w wr w.heap.size n k l)) (fun _ i _ _ _ => n - (intOf i).toNat)
  case atStart => exact ⟨0, by omega, rfl, H0⟩
  case round =>
    obtain ⟨k, hk, rfl, hr⟩ := hrel
    obtain ⟨S, F, hs, hfull, hown, hm, hF, hlF⟩ := hr.out
    have HS := Lib.hid hs
    have HU := Lib.hid hfull
    have HO := Lib.hid hown
    have HM := Lib.hid hm
    have HB := Lib.hid hF
    have HL := Lib.hid hlF
    have HTr := Lib.hid (HT.out.mods hm (by simp))
    clear hs hfull hown hm hF hlF
    by_cases hlt : k < n
    · go_wp2_with fail
      refine (put_at wr _ k F S k k 1 _ HS.out HTr.out (by rw [HU.out.cnt, HU.out.1]; exact hlt) (by omega) (by rw [HU.out.least]) (by rw [HU.out.gen]; rfl) rfl).mono ?_
      rintro e w2 ⟨rfl, hd⟩
      obtain ⟨F2, hs, hm, hf2⟩ := hd.out
      have HS2 := Lib.hid hs
      have HM2 := Lib.hid hm
      have HF2 := Lib.hid hf2
      clear hs hm hf2 hd
      have HLN := Lib.hid (show ∀ b ∈ u7.ownBlock.toList, b ∉ F2 from fun b hb hb2 => by
        rcases HF2.out b hb2 with h | h
        · exact (HL.out b hb).2 h
        · have := own_lt HO.out b hb; omega)
      have HO2 := Lib.hid (show OwnPairs w2 32 u7 (ones k) from own_mods HO.out HM2.out (fun b hb => (HL.out b hb).2))
      have HB2 := Lib.hid (show ∀ b ∈ F2, w.heap.size ≤ b from fun b hb => by
        rcases HF2.out b hb with h | h
        · exact HB.out b h
        · have := HM.out.size; omega)
      have HM3 := Lib.hid (HM.out.trans HM2.out (fun b hb => .inr (HB.out b hb)))
      have HN := Lib.hid (ones_len k)
      go_wp2_with (at_builtin; refine wpList_append_lies _ rfl (.tmp 60) (.tmp 62) _ rfl 0 32 i0 _ 2 16 Tryd.underlying33 hi0 hz0 hz1 hz2 rfl (by omega) u7 (ones k).length (flat (ones k)) rfl (own_mods HO2.out (((Mods.refl [] w2).alloc _).alloc _) (by simp)) ⟨w2.heap.size + 1, 0, none⟩ 1 1 [.int .i64 k, .int .i64 1] rfl rfl (World.news_of_block (new_at (by simp))) (by simp [Value.oneCell']) (by omega) (by have := HN.out; unfold maxLen; omega) (by have := HN.out; omega) (Nat.zero_le _) (w2.heap.size + 2) (by simp) ?_; intro g1 cap1 w3 hown1 hg1 hat1 hlt1; have HO1 := Lib.hid hown1; have HG1 := Lib.hid hg1; have HT1 := Lib.hid hat1; clear hown1 hg1 hat1)
      go_roundw
      case rel => exact ⟨k + 1, by omega, by go_num, Lib.hid (by
        have hm3 : Mods u7.ownBlock.toList w2 w3 := (((Mods.refl _ w2).alloc _).alloc _).grown HG1.out (fun b hb => .inl (by rw [hb]; simp))
        have hg1 : w.heap.size ≤ g1 ∧ g1 ∉ F2 := by
          rcases HT1.out with h | h
          · have hm : g1 ∈ u7.ownBlock.toList := by rw [h]; simp
            exact ⟨(HL.out g1 hm).1, HLN.out g1 hm⟩
          · have := HM3.out.size
            exact ⟨by omega, fun hb => by have := slabA_lt HS2.out g1 hb; omega⟩
        refine ⟨S.put k, F2, slabA_mods HS2.out hm3 (fun b hb hb2 => HLN.out b hb2 hb), HU.out.put _, ?_, HM3.out.trans hm3 (fun b hb => .inr (HL.out b hb).1), HB2.out, ?_⟩
        · unfold OwnPairs
          rw [ones_succ, flat_append, List.length_append]
          exact HO1.out
        · intro b hb
          have e : b = g1 := by simpa [Value.ownBlock, eq_comm] using hb
          subst e
          exact hg1)⟩
      case measure => simp [intOf]; omega
    · have e : k = n := by omega
      subst e
      clear hlt hk
      go_wp2_with fail
      refine (put_full wr _ 0 F S k HS.out (by rw [HU.out.cnt, HU.out.1]; exact Nat.le_refl _)).mono ?_
      rintro e w2 ⟨rfl, hm⟩
      have H2 := Lib.hid (show R2 w (w2.alloc (.cells #[.int .i64 0, .int .i64 0] 32)) w.heap.size k 0 k u7 from ⟨S, F, slabA_keep (slabA_mods HS.out hm (by simp)) (fun b hb => Below.heap_alloc w2 _ b (slabA_lt (slabA_mods HS.out hm (by simp)) b hb)), HU.out.once, HU.out.least, fun _ => HU.out.cnt, fun h => absurd h (Nat.lt_irrefl _),
        own_mods (own_mods HO.out hm (by simp)) ((Mods.refl [] w2).alloc _) (by simp), (HM.out.trans hm (by simp)).alloc _, HB.out, HL.out⟩)
      obtain ⟨lb, lc, hu7, hlc1, hlc2⟩ : ∃ lb lc, u7 = .slice (some ⟨lb, 0, none⟩) k lc ∧ k ≤ lc ∧ lc ≤ maxLen := by
        obtain ⟨lb, lc, e, _, e1, e2⟩ := own_some HO.out (by rw [ones_len]; omega)
        rw [ones_len] at e e1
        exact ⟨lb, lc, e, e1, e2⟩
      subst hu7
      clear hm HS HU HO HM HB HL HTr hr H0
      go_wp2
      go_loopw [13, 14, 15] (fun m j q wx => ∃ (jj mm : Nat), jj ≤ len ∧ j = .int .i64 jj ∧ m = .int .i64 mm ∧ mm ≤ k ∧ Hid (R2 w wx w.heap.size k jj mm (.slice (some ⟨lb, 0, none⟩) k lc))) (fun _ j _ _ => len - (intOf j).toNat)
      case atStart => exact ⟨0, k, by omega, rfl, rfl, Nat.le_refl _, H2⟩
      case round =>
        obtain ⟨jj, mm, hj, rfl, rfl, hmm, hr⟩ := hrel
        obtain ⟨T, G, hs, hon, hle, hz, hp, hown, hm, hF, hlF⟩ := hr.out
        have HS := Lib.hid hs
        have HU := Lib.hid hon
        have HLe := Lib.hid hle
        have HZ := Lib.hid hz
        have HP := Lib.hid hp
        have HO := Lib.hid hown
        have HM := Lib.hid hm
        have HB := Lib.hid hF
        have HL := Lib.hid hlF
        have HTx := Lib.hid (HT.out.mods hm (by simp))
        clear hs hon hle hz hp hown hm hF hlF H2
        by_cases hlt : jj < len
        · obtain ⟨fb, fo, rfl, hfb, hfc, hfi⟩ := HF.out jj hlt
          have hfc := cell_mods hfc HM.out (by simp)
          obtain ⟨q, hqe, hq⟩ : ∃ q : Nat, bits BinOp.and IntKind.i64 (f jj) 65535 = (q : Int) ∧ q ≤ 65535 := by
            have := and65535 (f jj)
            exact ⟨(bits BinOp.and IntKind.i64 (f jj) 65535).toNat, by omega, by omega⟩
          have hqn : q % k < k := Nat.mod_lt _ (by omega)
          have l1 : lb ∈ (Value.slice (some ⟨lb, 0, none⟩) k lc).ownBlock.toList := by simp [Value.ownBlock]
          have hcc := HO.out
          unfold OwnPairs at hcc
          rw [ones_len] at hcc
          have hfl := flat_at (ones k) (q % k) _ (ones_at k _ hqn)
          have e1 : wr.cell? ⟨lb, q % k * 2, none⟩ = some (.int .i64 ((q : Int) % (k : Int))) := by
            rw [hcc.cellAt _ (by omega), hfl.1]; simp
          have e2 : wr.cell? ⟨lb, q % k * 2 + 1, none⟩ = some (.int .i64 1) := by
            rw [hcc.cellAt _ (by omega), hfl.2]
          clear hcc hfl
          have q1 : (0 : Int) ≤ (q : Int) % (k : Int) := by omega
          have q2 : (q : Int) % (k : Int) < (k : Int) := by omega
          have HQ := Lib.hid (show ((q % k : Nat) : Int) = (q : Int) % (k : Int) by simp)
          have N1 := Lib.hid (fun h => Nat.lt_irrefl _ (slabA_lt HS.out wr.heap.size h))
          go_wp2_with fail
          refine (take_any (wr.alloc _) _ wr.heap.size 1 [((q : Int) % (k : Int), 1)] G T k (slabA_keep HS.out fun b hb => Below.heap_alloc wr _ b (slabA_lt HS.out b hb)) (by simp) (pairs_row (Row.new wr _ _) rfl (by simp; omega)) N1.out).mono ?_
          rintro e w3 ⟨rfl, hs, hm⟩
          have HT3 := Lib.hid (HU.out.take hqn)
          rw [HQ.out] at HT3
          have HS3 := Lib.hid hs
          have HM3 := Lib.hid (((Mods.refl G wr).alloc _).trans hm (fun b hb => .inl hb))
          clear hs hm e1 e2 hfc
          go_wp2
          go_roundw
          case rel => exact ⟨jj + 1, min mm (q % k), by omega, by go_num, by rw [← HQ.out]; go_num, by omega, Lib.hid ⟨_, G, HS3.out, HT3.out.1, by rw [HT3.out.2, HLe.out], fun h => absurd h (by omega), fun _ => by omega,
            own_mods HO.out HM3.out (fun b hb => (HL.out b hb).2), HM.out.trans HM3.out (fun b hb => .inr (HB.out b hb)), HB.out, HL.out⟩⟩
          case measure => simp [intOf]; omega
        · have e : jj = len := by omega
          subst e
          by_cases h0 : jj = 0
          · subst h0
            go_wp2_with fail
            refine (put_full wr _ 7 G T k HS.out (by rw [HZ.out (by simp), HU.out.1]; exact Nat.le_refl _)).mono ?_
            rintro e w3 ⟨rfl, hm⟩
            have HS3 := Lib.hid (slabA_mods HS.out hm (by simp))
            have HM3 := Lib.hid (HM.out.trans hm (by simp))
            have HC := Lib.hid (HZ.out (by simp))
            clear hm
            go_wp2_with fail
            refine (len_any _ _ G T k (slabA_keep HS3.out fun b hb => Below.heap_alloc w3 _ b (slabA_lt HS3.out b hb))).mono ?_
            rw [HC.out]
            rintro e w4 ⟨rfl, rfl⟩
            go_wp2_with fail
            refine (known_any _ (HT.out.mods (HM3.out.alloc _) (by simp))).mono ?_
            rintro e w4 ⟨rfl, hm⟩
            have HM4 := Lib.hid ((HM3.out.alloc _).trans hm (by simp))
            clear hm
            go_wp2
            go_ret
            exact ⟨rfl, HM4.out.below⟩
          · have hmn : mm < k := HP.out (by omega)
            go_wp2_with fail
            refine (put_at wr _ 7 G T k mm 2 _ HS.out HTx.out (by have := cnt_of_least (S := T) (by rw [HLe.out, HU.out.2.1]; exact hmn); rw [HU.out.2.1] at this; rw [HU.out.1]; exact this) (by omega) (by rw [HLe.out]) (by rw [HU.out.gen (by rw [HLe.out]; exact hmn)]; rfl) rfl).mono ?_
            rintro e w3 ⟨rfl, hd⟩
            obtain ⟨F3, hs, hm, hf⟩ := hd.out
            have HM3 := Lib.hid (HM.out.trans hm (fun b hb => .inr (HB.out b hb)))
            clear hs hm hf hd
            go_wp2_with fail
            refine (known_any _ (HT.out.mods (HM3.out.alloc _) (by simp))).mono ?_
            rintro e w4 ⟨rfl, hm⟩
            have HM4 := Lib.hid ((HM3.out.alloc _).trans hm (by simp))
            clear hm
            go_wp2
            go_ret
            exact ⟨rfl, HM4.out.below⟩
theorem out1 (n : Int) (v : Value) (A : Option Addr) (len cap : Nat) (w : World) (ht : TzTab w) (h : n < 1 ∨ 100 < n ∨ 100 < len) :
    Calls Tryd.prog 6 #[.int .i64 n, .slice A len cap] w fun e w' => e = .returned (.bool true) ∧ Below w.heap.size w w' := by
  have HT := Lib.hid ht
  clear ht
  have key : n < 1 ∨ (¬ n < 1 ∧ 100 < n) ∨ (¬ n < 1 ∧ ¬ 100 < n ∧ 100 < len) := by omega
  rcases key with h1 | ⟨h1, h2⟩ | ⟨h1, h2, h3⟩
  all_goals
    clear h
    go_enter Tryd.func6, Tryd.ntmps6
    go_wp2_with fail
    refine (known_any _ HT.out).mono ?_
    rintro e w1 ⟨rfl, hm⟩
    have HM := Lib.hid hm
    clear hm
    go_wp2
    go_ret
    exact ⟨rfl, HM.out.below⟩
theorem both (n : Int) (A : Option Addr) (len cap : Nat) (f : Nat → Int) (hlc : len ≤ cap) (w : World) (ht : TzTab w)
    (hf : ∀ j, j < len → ∃ b off, A = some ⟨b, off, none⟩ ∧ b < w.heap.size ∧ w.cell? ⟨b, off + j, none⟩ = some (.int .i64 (f j)) ∧ I64 (f j)) :
    Calls Tryd.prog 6 #[.int .i64 n, .slice A len cap] w fun e w' => e = .returned (.bool true) ∧ Below w.heap.size w w' := by
  by_cases h : n < 1 ∨ 100 < n ∨ 100 < len
  · exact out1 n (.int .i64 0) A len cap w ht h
  · obtain ⟨m, rfl⟩ := Int.eq_ofNat_of_zero_le (show 0 ≤ n by omega)
    exact main m (by omega) (by omega) A len cap f (by omega) hlc w ht hf
theorem walk (n : Int) (wf : (Lit.int .i64 n).wf = true) (v : Value) (w : World) (o : IsInts w v) (hL : laidMetH Tryd.prog Rows.slabFullRow.laid w) :
    Calls Tryd.prog 6 #[.int .i64 n, v] w fun e w' => e = .returned (.bool true) ∧ Below w.heap.size w w' := by
  rw [MakeChecks.laidMetH_plain _ _ _ (by kernel_rfl)] at hL
  have ht := tz_of hL rfl
  rcases o with ⟨a, cap, rfl⟩ | ⟨b, off, len, cap, f, rfl, h0, hlc, hcm, hb, hf⟩
  · exact both n a 0 cap (fun _ => 0) (Nat.zero_le _) w ht (fun j hj => absurd hj (by omega))
  · exact both n _ len cap f hlc w ht (fun j hj => ⟨b, off, rfl, hb, hf j hj⟩)

theorem own : ownKnob Tryd.prog.godebug = none := by kernel_rfl
theorem laidOut : laidOutB Tryd.prog = true := by kernel_rfl
set_option maxRecDepth 100000 in
theorem lifted (os : Os) (started : os.Started) (H : Type) (enc : TypeId × Value → H) :
    ReturnsInHanded {} Tryd.checked os 6 .any (fun w args => (Rows.slabFullSpec.pre enc Tryd.prog Tryd.f6 [] false w args ∧ laidMetH Tryd.prog Rows.slabFullRow.laid w) ∧ sizedMet enc Tryd.prog Tryd.f6 (OpenSpec.ofChange Rows.slabFullSpec) false w args)
      (Rows.slabFullSpec.post enc Tryd.prog Tryd.f6 false true false false) := by
  refine returnsInHanded_of_change_and (C := Tryd.checked) (X := fun w _ => laidMetH Tryd.prog Rows.slabFullRow.laid w) (fun _ _ _ hh h => h.of_heap hh) own started (by kernel_rfl) Tryd.func6
    (ChangeSpec.witness_shaped (enc := enc) (C := Tryd.checked) (os := os) (X := fun w _ => laidMetH Tryd.prog Rows.slabFullRow.laid w) false (World.laidAll Tryd.prog os Rows.slabFullRow.laid) #[.int .i64 0, .slice none 0 0] 8 (World.laidAll_os _ _ _)
      (World.shaped_of_ZipB (by kernel_rfl) (by kernel_rfl)) (by kernel_rfl) (by kernel_rfl) (by kernel_rfl)
      (by rw [MakeChecks.laidMetH_plain _ _ _ (by kernel_rfl)]; exact laidMet_laidAll _ (by kernel_rfl) (by kernel_rfl))) ?_
  intro W base args ds gs before hval0 hW hcnd hsz0 hL _
  have hsz : (DataW.weightsEach Tryd.prog (Tryd.f6.params.toList ++ Rows.slabFullSpec.plain.varTypes Tryd.prog) (ds ++ gs)).all (· ≤ reachBytes) = true := hsz0
  have hval : ∀ (j : Nat) t v, Tryd.f6.params[j]? = some t → args[j]? = some v → Value.okWide Tryd.prog W .any base t v := hval0
  have hW' := hW
  obtain ⟨p, q, hA0, hV, rfl, hfz, hnd⟩ := hW
  have hA : DataW.TrodAll enc Tryd.prog W 0 (fun _ => true) true Tryd.f6.params.toList args.toList ds p := hA0
  rw [Tryd.params6] at hA hval hsz
  obtain ⟨v0, vs0, d0, ds0, p0, q0, hargs, rfl, rfl, h0, r0⟩ := trodAll_cons hA
  obtain ⟨v1, vs1, d1, ds1, p1, q1, rfl, rfl, rfl, h1, r1⟩ := trodAll_cons r0
  obtain ⟨rfl, rfl, rfl⟩ := trodAll_nil r1
  obtain rfl : args = #[v0, v1] := by cases args; simp_all
  obtain ⟨rfl, rfl⟩ := trodVars_none hV
  obtain ⟨a0, rfl, rfl, rfl, w0⟩ := open_int Tryd.underlying3 (hval 0 3 v0 rfl rfl) h0
  have k1 := h1
  have lt1 : ∀ x ∈ p1, x.block < W.heap.size := by obtain ⟨m, hm⟩ := k1; exact DataW.trod_lt m _ _ _ hm
  obtain o1 := open_nums (hval 1 49 v1 rfl rfl) k1
  clear hA0 hval0 hsz0 hsz
  refine (walk a0 w0 v1 W o1 hL).mono fun e W' ⟨he, bel⟩ => ?_
  subst he
  exact ⟨_, rfl, _, _, _, [], _, [], hW', trodAll_mk1 (shut_bool Tryd.underlying4 _), (trodAll_cons_mk (shut_int Tryd.underlying3 w0) (trodAll_cons_mk (Below.trod laidOut (by kernel_rfl) (of_decide_eq_true (by kernel_rfl)) k1 bel lt1) trodAll_mk0)), rfl, bel.frame _, fun h => by cases h⟩

theorem over : Rows.slabFullRow.holds Tryd.pinned (OpenSpec.ofChange Rows.slabFullSpec) :=
  OpenClaim.holds_of_wide 6 Tryd.f6 rfl rfl rfl rfl rfl rfl rfl ⟨rfl, rfl, rfl, rfl, rfl⟩ rfl rfl rfl rfl rfl (by kernel_rfl) Tryd.func6 (by kernel_rfl)
    (of_decide_eq_true (by kernel_rfl)) (by unfold Func.isWrapper; first | (rw [if_pos (by decide +kernel)]; kernel_rfl) | (rw [if_neg (by decide +kernel)]; exact ⟨rfl, rfl⟩))
    (fun os started H enc _ => lifted os started H enc)

theorem said : Rows.SlabFullSaid := over
theorem plain (f : FuncId) (fn : Func) (hf : Tryd.pinned.checked.prog.funcNamed "usher/usherlaw2.SlabFull" = some f) (hfn : Tryd.pinned.checked.prog.funcs[f]? = some fn) :
    false = Tryd.pinned.checked.prog.looks [] ∧ ∀ (j : Nat) t, fn.params[j]? = some t → Tryd.pinned.checked.prog.wantsStandIn t = false := by
  obtain rfl : f = 6 := Option.some.inj ((show Tryd.prog.funcNamed "usher/usherlaw2.SlabFull" = some 6 by kernel_rfl).symm.trans hf) |>.symm
  obtain rfl : fn = Tryd.f6 := (Option.some.inj (Tryd.func6.symm.trans hfn)).symm
  refine ⟨by kernel_rfl, fun j t ht => ?_⟩
  rw [Tryd.params6] at ht
  have hm : t ∈ [3, 49] := by simpa using Array.mem_of_getElem? ht
  simp only [List.mem_cons, List.mem_nil_iff, or_false] at hm
  rcases hm with rfl | rfl
  · exact (show Tryd.prog.wantsStandIn 3 = false by kernel_rfl)
  · exact (show Tryd.prog.wantsStandIn 49 = false by kernel_rfl)
theorem proved : Rows.SlabFullCardSaid :=
  Claim7.holds_tied_plain_at .later [] _ _ _ _ said (fun _ h => by cases h) (by kernel_rfl) (fun _ h => by cases h) slabFull_row_tie rfl ⟨rfl, rfl⟩ (by kernel_rfl) rfl plain (by kernel_rfl)
end Go.Proofs.YtdkcdljhpopakaaDoor.slabFull
