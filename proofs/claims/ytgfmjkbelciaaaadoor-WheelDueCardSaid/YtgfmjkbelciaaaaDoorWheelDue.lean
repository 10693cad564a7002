/- For every time, number of timers and delays, timers fire in the first step that is not ahead of their time, those of one time by the order in which they were set: the law returns true. Condition: the library's table of 64 is laid as its initialiser lays it. -/
import Derived.Test.YtgfmjkbelciaaaaDoorCards
import Derived.Test.YtgfmjkbelciaaaaDoorTie
import Derived.Lay
import Derived.LaidOnce
import Derived.MakeChecks
import Derived.SevenTiedAt
import Derived.WalkKit
import Derived.ProofKit
import Derived.OpenShut
import Derived.ShutString
import Derived.ChangeOld
import Derived.Below
import Derived.SizedLaws
import Derived.Test.YtgfmjkbelciaaaaDoorWhGv
import Derived.Test.YtgfmjkbelciaaaaDoorTz2
import Derived.Carry

namespace Go.Proofs.YtgfmjkbelciaaaaDoor.wheelDue
open Go.ChangeShapes Go.WideShapes Go.ChangeAt Go.RowKit
open Go.ChangeMaps (open_string shut_string)
set_option linter.unusedVariables false
set_option maxRecDepth 100000
set_option linter.unusedSimpArgs false
/-- All at one time, the first one set anew. -/
def dueP (n T : Nat) : List Tm := anewT (setL (List.replicate n T)) 0 1 T
def dueW (n : Nat) : List Int := (List.range (n - 1)).map (fun i => ((i + 1 : Nat) : Int)) ++ [0]
theorem setL_succ (n T : Nat) : setL (List.replicate (n + 1) T) = ⟨0, 0, 1, T⟩ :: (List.replicate n T).mapIdx fun i a => ⟨0, i + 1, 1, a⟩ := by
  unfold setL
  rw [List.replicate_succ, List.mapIdx_cons]
theorem dueP_eq (n T : Nat) : dueP (n + 1) T = ((List.replicate n T).mapIdx fun i a => (⟨0, i + 1, 1, a⟩ : Tm)) ++ [⟨0, 0, 1, T⟩] := by
  unfold dueP anewT noT
  rw [setL_succ, List.filter_cons, if_neg (by simp), List.filter_eq_self.2 fun m hm => by
    obtain ⟨i, hi, rfl⟩ := List.mem_mapIdx.1 hm
    simp]
theorem dueP_time {n T : Nat} (hn : 1 ≤ n) {m : Tm} (h : m ∈ dueP n T) : m.a = T := by
  obtain ⟨k, rfl⟩ : ∃ k, n = k + 1 := ⟨n - 1, by omega⟩
  rw [dueP_eq] at h
  rcases List.mem_append.1 h with h | h
  · obtain ⟨i, hi, rfl⟩ := List.mem_mapIdx.1 h
    simp
  · rw [List.mem_singleton.1 h]
theorem dueP_len {n T : Nat} (hn : 1 ≤ n) : (dueP n T).length = n := by
  obtain ⟨k, rfl⟩ : ∃ k, n = k + 1 := ⟨n - 1, by omega⟩
  rw [dueP_eq]; simp
theorem dueP_none {n T t : Nat} (hn : 1 ≤ n) (h : t < T) : fireT t (dueP n T) = [] ∧ leftT t (dueP n T) = dueP n T := by
  rw [fire_less, left_rest]
  exact less_none fun m hm => by rw [dueP_time hn hm]; omega
theorem dueP_all {n T : Nat} (hn : 1 ≤ n) : fireT T (dueP n T) = dueP n T ∧ leftT T (dueP n T) = [] := by
  rw [fire_less, left_rest]
  have h := @less_all (T + 1) (dueP n T) fun m hm => by rw [dueP_time hn hm]; omega
  refine ⟨h.1.trans (sortT_self ?_), h.2⟩
  refine List.Pairwise.imp_of_mem (R := fun _ _ => True) (fun {x y} hx hy _ => ?_) (List.pairwise_of_forall fun _ _ => trivial)
  rw [dueP_time hn hx, dueP_time hn hy]; exact Nat.le_refl _
theorem dueP_what {n T : Nat} (hn : 1 ≤ n) : whatT (fullS (upto0 n)) (dueP n T) = dueW n := by
  obtain ⟨k, rfl⟩ : ∃ k, n = k + 1 := ⟨n - 1, by omega⟩
  rw [dueP_eq, what_append]
  unfold dueW
  have e : whatT (fullS (upto0 (k + 1))) [(⟨0, 0, 1, T⟩ : Tm)] = [0] := by
    show [(upto0 (k + 1)).getD 0 0] = [0]
    rw [upto0_at]; simp
  rw [e]
  refine congrArg (· ++ [(0 : Int)]) ?_
  show List.map (fun m : Tm => (fullS (upto0 (k + 1))).vs.getD m.s 0) (List.mapIdx (fun i a => (⟨0, i + 1, 1, a⟩ : Tm)) (List.replicate k T)) = _
  refine List.ext_getElem (by simp) fun i h1 h2 => ?_
  have hi : i < k := by simpa using h1
  rw [List.getElem_map, List.getElem_mapIdx, List.getElem_map, List.getElem_range]
  show (upto0 (k + 1)).getD (i + 1) 0 = _
  rw [upto0_at, if_pos (by omega)]
theorem dueW_len {n : Nat} (hn : 1 ≤ n) : (dueW n).length = n := by unfold dueW; simp; omega
theorem dueW_at {n i : Nat} (h : i + 1 < n) : (iv (dueW n))[i]? = some (.int .i64 ((i : Int) + 1)) := by
  unfold iv dueW
  rw [List.getElem?_map, List.getElem?_append_left (by simp; omega), List.getElem?_map, List.getElem?_range (by omega)]; rfl
theorem dueW_last {n : Nat} (hn : 1 ≤ n) : (iv (dueW n))[n - 1]? = some (.int .i64 0) := by
  unfold iv dueW
  rw [List.getElem?_map, List.getElem?_append_right (by simp)]
  simp
/-- What holds ahead of each round of the first loop. -/
def R1 (w wr : World) (g now T k : Nat) (l : Value) : Prop := ∃ F, Bare w wr g F (fullS (upto0 k)) k now (setL (List.replicate k T)) ∧ OwnPairs wr 32 l (firsts k) ∧ ∀ b ∈ l.ownBlock.toList, w.heap.size ≤ b
set_option maxHeartbeats 4000000 in
theorem main (now n a z : Nat) (h1 : now ≤ 549755813888) (h2 : 1 ≤ a) (h3 : a ≤ 1073741824) (h4 : 1 ≤ n) (h5 : n ≤ 50) (h6 : z < a) (w : World) (ht : TzTab w) :
    Calls Tryd.prog 5 #[.int .i64 (now : Int), .int .i64 (n : Int), .int .i64 (a : Int), .int .i64 (z : Int)] w fun e w' => e = .returned (.bool true) ∧ Below w.heap.size w w' := by
  obtain ⟨i0, hi0, hz0, hz1, hz2⟩ := info_parts hand_info
  have HI := Lib.hid (And.intro hi0 (And.intro hz0 (And.intro hz1 hz2)))
  clear hi0 hz0 hz1 hz2
  have HT := Lib.hid ht
  have he := eql_whl
  clear ht
  have g1 : ¬ (now : Int) < 0 := by omega
  have g2 : ¬ 549755813888 < (now : Int) := by omega
  have g3 : ¬ (a : Int) < 1 := by omega
  have g4 : ¬ 1073741824 < (a : Int) := by omega
  have g5 : ¬ (n : Int) < 1 := by omega
  have g6 : ¬ 50 < (n : Int) := by omega
  have g7 : ¬ (z : Int) < 0 := by omega
  have g8 : ¬ (a : Int) ≤ (z : Int) := by omega
  have p1 : IntKind.i64.wrap ((now : Int) + (a : Int)) = ((now + a : Nat) : Int) := by rw [IntKind.wrap_i64]; omega
  have p2 : IntKind.i64.wrap ((now : Int) + (z : Int)) = ((now + z : Nat) : Int) := by rw [IntKind.wrap_i64]; omega
  have p3 : IntKind.i64.wrap ((n : Int) - 1) = ((n - 1 : Nat) : Int) := by rw [IntKind.wrap_i64]; omega
  go_enter Tryd.func5, Tryd.ntmps5
  go_wp2_with fail
  refine (b_new w now (Mods.refl [] w) (by omega)).mono ?_
  rintro e w1 ⟨g, rfl, hf⟩
  have H1 := Lib.hid (show R1 w w1 g now (now + a) 0 (.slice none 0 0) from by
    obtain ⟨F1, hh, -, -⟩ := hf.out
    exact ⟨F1, hh, ⟨rfl, .inl ⟨rfl, rfl⟩⟩, by simp [Value.ownBlock]⟩)
  clear hf
  go_wp2_with fail
  go_loopw [11, 12, 13, 14] (fun l iv _ _ wr => ∃ k : Nat, k ≤ n ∧ iv = .int .i64 (k : Int) ∧ Hid (R1 w wr g now (now + a) k l)) (fun _ iv _ _ _ => n - (intOf iv).toNat)
  case atStart => exact ⟨0, by omega, rfl, H1⟩
  case round =>
    clear H1
    obtain ⟨k, hk, rfl, hr⟩ := hrel
    obtain ⟨F, hh, ho, hn⟩ := hr.out
    have HH := Lib.hid hh
    have HO := Lib.hid ho
    have HN := Lib.hid hn
    clear hr hh ho hn
    by_cases hlt : k < n
    · have q1 : (k : Int) < (n : Int) := by omega
      have HA := Lib.hid (b_add wr g (now + a) (k : Int) F _ _ now _ (k : Int) 1 HH.out HT.out (by omega) (by rw [fullS_cnt, upto0_len]; omega) (by omega) (by rw [fullS_least, upto0_len]) (by rw [fullS_gen]; rfl))
      go_wp2_with fail
      refine HA.out.mono ?_
      rintro e w2 ⟨rfl, hf2⟩
      have H2 := Lib.hid (show ∃ F2, Bare w w2 g F2 (fullS (upto0 (k + 1))) (k + 1) now (setL (List.replicate (k + 1) (now + a))) ∧ Mods F wr w2 from by
        obtain ⟨F2, q, m, -⟩ := hf2.out
        refine ⟨F2, ?_, m⟩
        rw [fullS_put, fullS_least, fullS_gen, upto0_len, ← upto0_succ] at q
        rw [List.replicate_succ', setL_snoc, List.length_replicate]
        exact q)
      obtain ⟨F2, hb2, m2⟩ := H2.out
      have HB2 := Lib.hid hb2
      have HO2 := Lib.hid (show OwnPairs w2 32 u11 (firsts k) from own_mods HO.out m2 (HH.out.far_pairs HO.out))
      clear hf2 HA hb2 m2 H2
      have HL := Lib.hid (firsts_len k)
      go_wp2_with (at_builtin; refine wpList_append_lies _ rfl (.tmp 76) (.tmp 78) _ rfl 0 32 i0 _ 2 16 Tryd.underlying33 HI.out.1 HI.out.2.1 HI.out.2.2.1 HI.out.2.2.2 rfl (by omega) u11 (firsts k).length (flat (firsts k)) rfl (own_mods HO2.out (((Mods.refl [] w2).alloc _).alloc _) (by simp)) ⟨w2.heap.size + 1, 0, none⟩ 1 1 [.int .i64 k, .int .i64 1] rfl rfl (World.news_of_block (new_at (by simp))) (hand_one _ _) (by omega) (by have := HL.out; unfold maxLen; omega) (by have := HL.out; omega) (Nat.zero_le _) (w2.heap.size + 2) (by simp) ?_; intro g1 cap1 w3 hown1 hg1 hat1 hlt1; have HO1 := Lib.hid hown1; have HG1 := Lib.hid hg1; have HT1 := Lib.hid hat1; clear hown1 hg1 hat1)
      go_roundw
      case rel => exact ⟨k + 1, by omega, by go_num, Lib.hid (by
        have hm3 : Mods u11.ownBlock.toList w2 w3 := (((Mods.refl _ w2).alloc _).alloc _).grown HG1.out (fun b hb => .inl (by rw [hb]; simp))
        have hfar := HB2.out.far_pairs HO2.out
        refine ⟨F2, HB2.out.aside hm3 (fun b hb hb2 => hfar b hb2 hb) HN.out, ?_, ?_⟩
        · unfold OwnPairs
          rw [firsts_succ, flat_append, List.length_append]
          exact HO1.out
        · intro b hb
          have e : b = g1 := by simpa [Value.ownBlock, eq_comm] using hb
          subst e
          rcases HT1.out with h | h
          · exact HN.out b (by rw [h]; simp)
          · have := HB2.out.mods.size; omega)⟩
      case measure => simp [intOf]; omega
    · have e : k = n := by omega
      subst e
      have q1 : ¬ (k : Int) < (k : Int) := by omega
      clear hlt hk
      obtain ⟨lb, lc, hu, hlc1, hlc2⟩ : ∃ lb lc, u11 = .slice (some ⟨lb, 0, none⟩) k lc ∧ k ≤ lc ∧ lc ≤ maxLen := by
        obtain ⟨lb, lc, e, _, e1, e2⟩ := own_some HO.out (by rw [firsts_len]; omega)
        rw [firsts_len] at e e1
        exact ⟨lb, lc, e, e1, e2⟩
      subst hu
      have hP := own_pairs HO.out (firsts_len k) (firsts_in (by omega))
      obtain ⟨c0, c1, -, -⟩ := hP 0 _ (firsts_head h4)
      have c0 : wr.cell? ⟨lb, 0, none⟩ = some (.int .i64 0) := c0
      have c1 : wr.cell? ⟨lb, 1, none⟩ = some (.int .i64 1) := c1
      have HP := Lib.hid hP
      have hlbF : lb ∉ F := HH.out.far_pairs HO.out lb (by simp [Value.ownBlock])
      have HF := Lib.hid hlbF
      clear hP hlbF
      have q2 : (0 : Int) < (k : Int) := by omega
      have HR := Lib.hid (b_reset wr g (now + a) F _ _ now _ 0 1 HH.out (by omega) ⟨⟨0, 0, 1, now + a⟩, by
        obtain ⟨j, rfl⟩ : ∃ j, k = j + 1 := ⟨k - 1, by omega⟩
        rw [setL_succ]; simp, rfl, rfl⟩ 0 1 rfl rfl)
      go_wp2_with fail
      refine HR.out.mono ?_
      rintro e w2 ⟨rfl, hf⟩
      obtain ⟨F2, hb2, m2, s2⟩ := hf.out
      have H2 := Lib.hid (show Bare w w2 g F2 (fullS (upto0 k)) k now (dueP k (now + a)) from hb2)
      have P2 := Lib.hid (show Pairs w2 lb (firsts k) ∧ lb ∉ F2 from ⟨HP.out.mods m2 HF.out, fun h => HF.out ((s2 lb).1 h)⟩)
      clear hf hb2 m2 s2 HR c0 c1 HP HF HH HO HN
      have HA := Lib.hid (b_adv w2 g F2 _ _ now (now + z) ((now + z : Nat) : Int) _ H2.out (by omega) (by omega))
      rw [(dueP_none h4 (by omega : now + z < now + a)).1, (dueP_none h4 (by omega : now + z < now + a)).2] at HA
      go_wp2_with fail
      refine HA.out.mono ?_
      rintro e w3 ⟨v3, rfl, hf⟩
      obtain ⟨F3, hb3, o3, m3, -, s3⟩ := hf.out
      obtain ⟨A3, d3, rfl, -, -⟩ := own_nums (n := 0) o3 rfl
      have H3 := Lib.hid (show Bare w w3 g F3 (fullS (upto0 k)) k (now + z) (dueP k (now + a)) from hb3)
      have P3 := Lib.hid (show Pairs w3 lb (firsts k) ∧ lb ∉ F3 from ⟨P2.out.1.mods m3 P2.out.2, fun h => P2.out.2 (s3 lb h)⟩)
      clear hf hb3 o3 m3 s3 HA P2 H2
      have HA := Lib.hid (b_adv w3 g F3 _ _ (now + z) (now + a) ((now + a : Nat) : Int) _ H3.out (by omega) (by omega))
      rw [(dueP_all h4).1, (dueP_all h4).2, dueP_what h4] at HA
      go_wp2_with fail
      refine HA.out.mono ?_
      rintro e w4 ⟨v4, rfl, hf⟩
      obtain ⟨F4, hb4, o4, m4, -, s4⟩ := hf.out
      have ho4 := o4
      obtain ⟨A4, d4, rfl, hd4, hs4⟩ := own_nums (n := k) o4 (dueW_len h4).symm
      have HS4 := Lib.hid hs4
      have H4 := Lib.hid hb4
      have P4 := Lib.hid (show Pairs w4 lb (firsts k) ∧ lb ∉ F4 from ⟨P3.out.1.mods m4 P3.out.2, fun h => P3.out.2 (s4 lb h)⟩)
      obtain ⟨b4, f4, rfl, c4⟩ := hs4 (k - 1) _ (dueW_last h4)
      clear hf hb4 o4 ho4 m4 s4 HA P3 H3 hs4
      have q3 : ((k - 1 : Nat) : Int) < (k : Int) := by omega
      have q4 : (0 : Int) ≤ ((k - 1 : Nat) : Int) := by omega
      have q5 : ((k : Int) == (k : Int)) = true := by simp
      go_wp2_with fail
      go_loopw [16] (fun iv wr2 => ∃ i : Nat, i < k ∧ iv = .int .i64 (i : Int) ∧ wr2 = w4) (fun iv _ => k - (intOf iv).toNat)
      case atStart => exact ⟨0, by omega, rfl, rfl⟩
      case round =>
        obtain ⟨i, hi, rfl, rfl⟩ := hrel
        have q6 : IntKind.i64.wrap ((i : Int) + 1) = (i : Int) + 1 := by rw [IntKind.wrap_i64]; omega
        by_cases hl2 : i + 1 < k
        · have q7 : (i : Int) + 1 < (k : Int) := by omega
          obtain ⟨b5, f5, e5, c5⟩ := HS4.out i _ (dueW_at hl2)
          injection e5 with e5
          injection e5 with e5 e6
          subst e5 e6
          have q8 : (i : Int) < (k : Int) := by omega
          have q9 : (((i : Int) + 1) == ((i : Int) + 1)) = true := by simp
          go_wp2
          go_roundw
          case rel => exact ⟨i + 1, by omega, by go_num, by first | rfl | trivial⟩
          case measure => simp [intOf]; omega
        · have q7 : ¬ (i : Int) + 1 < (k : Int) := by omega
          have HL := Lib.hid (b_len wr g F4 _ _ (now + a) [] 0 H4.out rfl)
          have hz := taken_none (is_none H4.out.ok) (firsts k)
          have HC := Lib.hid (b_cancel wr g lb lc k (firsts k) F4 _ _ (now + a) [] H4.out (by omega) (by rw [firsts_len]; omega) P4.out.1 P4.out.2 (firsts_len k) 0 (by rw [hz.1]; rfl))
          clear hz
          go_wp2_with fail
          refine HL.out.mono ?_
          rintro e w5 ⟨rfl, rfl⟩
          go_wp2_with fail
          refine HC.out.mono ?_
          rintro e w6 ⟨rfl, hf⟩
          have M6 := Lib.hid (show Mods [] w w6 from by
            obtain ⟨F6, hb6, -, -⟩ := hf.out
            exact hb6.mods)
          clear hf HC HL
          go_wp2_with fail
          refine (known_any _ (HT.out.mods M6.out (by simp))).mono ?_
          rintro e w9 ⟨rfl, hm⟩
          have M9 := Lib.hid (M6.out.trans hm (by simp))
          clear hm
          go_wp2
          go_ret
          exact ⟨rfl, M9.out.below⟩
set_option maxHeartbeats 4000000 in
theorem outer (a b c d : Int) (h : a < 0 ∨ 549755813888 < a ∨ c < 1 ∨ 1073741824 < c ∨ b < 1 ∨ 50 < b ∨ d < 0 ∨ c ≤ d) (w : World) (ht : TzTab w) :
    Calls Tryd.prog 5 #[.int .i64 a, .int .i64 b, .int .i64 c, .int .i64 d] w fun e w' => e = .returned (.bool true) ∧ Below w.heap.size w w' := by
  have HT := Lib.hid (known_any w ht)
  clear ht
  by_cases c1 : a < 0
  all_goals try by_cases c2 : 549755813888 < a
  all_goals try by_cases c3 : c < 1
  all_goals try by_cases c4 : 1073741824 < c
  all_goals try by_cases c5 : b < 1
  all_goals try by_cases c6 : 50 < b
  all_goals try by_cases c7 : d < 0
  all_goals try by_cases c8 : c ≤ d
  all_goals first
    | (exfalso; omega)
    | (clear h
       go_enter Tryd.func5, Tryd.ntmps5
       go_wp2_with fail
       refine HT.out.mono ?_
       rintro e w' ⟨rfl, hm⟩
       go_wp2
       go_ret
       exact ⟨rfl, hm.below⟩)
theorem walk (a : Int) (wa : (Lit.int .i64 a).wf = true) (b : Int) (wb : (Lit.int .i64 b).wf = true) (c : Int) (wc : (Lit.int .i64 c).wf = true) (d : Int) (wd : (Lit.int .i64 d).wf = true) (w : World) (hL : laidMetH Tryd.prog Rows.wheelDueRow.laid w) :
    Calls Tryd.prog 5 #[.int .i64 a, .int .i64 b, .int .i64 c, .int .i64 d] w fun e w' => e = .returned (.bool true) ∧ Below w.heap.size w w' := by
  rw [MakeChecks.laidMetH_plain _ _ _ (by kernel_rfl)] at hL
  have ht := tz_of hL rfl
  by_cases h : a < 0 ∨ 549755813888 < a ∨ c < 1 ∨ 1073741824 < c ∨ b < 1 ∨ 50 < b ∨ d < 0 ∨ c ≤ d
  · exact outer a b c d h w ht
  · obtain ⟨a, rfl⟩ := Int.eq_ofNat_of_zero_le (a := a) (by omega)
    obtain ⟨b, rfl⟩ := Int.eq_ofNat_of_zero_le (a := b) (by omega)
    obtain ⟨c, rfl⟩ := Int.eq_ofNat_of_zero_le (a := c) (by omega)
    obtain ⟨d, rfl⟩ := Int.eq_ofNat_of_zero_le (a := d) (by omega)
    exact main a b c d (by omega) (by omega) (by omega) (by omega) (by omega) (by omega) w ht

theorem own : ownKnob Tryd.prog.godebug = none := by kernel_rfl
theorem laidOut : laidOutB Tryd.prog = true := by kernel_rfl
set_option maxRecDepth 100000 in
theorem lifted (os : Os) (started : os.Started) (H : Type) (enc : TypeId × Value → H) :
    ReturnsInHanded {} Tryd.checked os 5 .any (fun w args => (Rows.wheelDueSpec.pre enc Tryd.prog Tryd.f5 [] false w args ∧ laidMetH Tryd.prog Rows.wheelDueRow.laid w) ∧ sizedMet enc Tryd.prog Tryd.f5 (OpenSpec.ofChange Rows.wheelDueSpec) false w args)
      (Rows.wheelDueSpec.post enc Tryd.prog Tryd.f5 false true false false) := by
  refine returnsInHanded_of_change_and (C := Tryd.checked) (X := fun w _ => laidMetH Tryd.prog Rows.wheelDueRow.laid w) (fun _ _ _ hh h => h.of_heap hh) own started (by kernel_rfl) Tryd.func5
    (ChangeSpec.witness_shaped (enc := enc) (C := Tryd.checked) (os := os) (X := fun w _ => laidMetH Tryd.prog Rows.wheelDueRow.laid w) false (World.laidAll Tryd.prog os Rows.wheelDueRow.laid) #[.int .i64 0, .int .i64 0, .int .i64 0, .int .i64 0] 8 (World.laidAll_os _ _ _)
      (World.shaped_of_ZipB (by kernel_rfl) (by kernel_rfl)) (by kernel_rfl) (by kernel_rfl) (by kernel_rfl)
      (by rw [MakeChecks.laidMetH_plain _ _ _ (by kernel_rfl)]; exact laidMet_laidAll _ (by kernel_rfl) (by kernel_rfl))) ?_
  intro W base args ds gs before hval0 hW hcnd hsz0 hL _
  have hsz : (DataW.weightsEach Tryd.prog (Tryd.f5.params.toList ++ Rows.wheelDueSpec.plain.varTypes Tryd.prog) (ds ++ gs)).all (· ≤ reachBytes) = true := hsz0
  have hval : ∀ (j : Nat) t v, Tryd.f5.params[j]? = some t → args[j]? = some v → Value.okWide Tryd.prog W .any base t v := hval0
  have hW' := hW
  obtain ⟨p, q, hA0, hV, rfl, hfz, hnd⟩ := hW
  have hA : DataW.TrodAll enc Tryd.prog W 0 (fun _ => true) true Tryd.f5.params.toList args.toList ds p := hA0
  rw [Tryd.params5] at hA hval hsz
  obtain ⟨v0, vs0, d0, ds0, p0, q0, hargs, rfl, rfl, h0, r0⟩ := trodAll_cons hA
  obtain ⟨v1, vs1, d1, ds1, p1, q1, rfl, rfl, rfl, h1, r1⟩ := trodAll_cons r0
  obtain ⟨v2, vs2, d2, ds2, p2, q2, rfl, rfl, rfl, h2, r2⟩ := trodAll_cons r1
  obtain ⟨v3, vs3, d3, ds3, p3, q3, rfl, rfl, rfl, h3, r3⟩ := trodAll_cons r2
  obtain ⟨rfl, rfl, rfl⟩ := trodAll_nil r3
  obtain rfl : args = #[v0, v1, v2, v3] := by cases args; simp_all
  obtain ⟨rfl, rfl⟩ := trodVars_none hV
  obtain ⟨a0, rfl, rfl, rfl, w0⟩ := open_int Tryd.underlying3 (hval 0 3 v0 rfl rfl) h0
  obtain ⟨a1, rfl, rfl, rfl, w1⟩ := open_int Tryd.underlying3 (hval 1 3 v1 rfl rfl) h1
  obtain ⟨a2, rfl, rfl, rfl, w2⟩ := open_int Tryd.underlying3 (hval 2 3 v2 rfl rfl) h2
  obtain ⟨a3, rfl, rfl, rfl, w3⟩ := open_int Tryd.underlying3 (hval 3 3 v3 rfl rfl) h3
  clear hA0 hval0 hsz0 hsz
  refine (walk a0 w0 a1 w1 a2 w2 a3 w3 W hL).mono fun e W' ⟨he, bel⟩ => ?_
  subst he
  exact ⟨_, rfl, _, _, _, [], _, [], hW', trodAll_mk1 (shut_bool Tryd.underlying4 _), (trodAll_cons_mk (shut_int Tryd.underlying3 w0) (trodAll_cons_mk (shut_int Tryd.underlying3 w1) (trodAll_cons_mk (shut_int Tryd.underlying3 w2) (trodAll_cons_mk (shut_int Tryd.underlying3 w3) trodAll_mk0)))), rfl, bel.frame _, fun h => by cases h⟩

theorem over : Rows.wheelDueRow.holds Tryd.pinned (OpenSpec.ofChange Rows.wheelDueSpec) :=
  OpenClaim.holds_of_wide 5 Tryd.f5 rfl rfl rfl rfl rfl rfl rfl ⟨rfl, rfl, rfl, rfl, rfl⟩ rfl rfl rfl rfl rfl (by kernel_rfl) Tryd.func5 (by kernel_rfl)
    (of_decide_eq_true (by kernel_rfl)) (by unfold Func.isWrapper; first | (rw [if_pos (by decide +kernel)]; kernel_rfl) | (rw [if_neg (by decide +kernel)]; exact ⟨rfl, rfl⟩))
    (fun os started H enc _ => lifted os started H enc)

theorem said : Rows.WheelDueSaid := over
theorem plain (f : FuncId) (fn : Func) (hf : Tryd.pinned.checked.prog.funcNamed "usher/usherlaw6.WheelDue" = some f) (hfn : Tryd.pinned.checked.prog.funcs[f]? = some fn) :
    false = Tryd.pinned.checked.prog.looks [] ∧ ∀ (j : Nat) t, fn.params[j]? = some t → Tryd.pinned.checked.prog.wantsStandIn t = false := by
  obtain rfl : f = 5 := Option.some.inj ((show Tryd.prog.funcNamed "usher/usherlaw6.WheelDue" = some 5 by kernel_rfl).symm.trans hf) |>.symm
  obtain rfl : fn = Tryd.f5 := (Option.some.inj (Tryd.func5.symm.trans hfn)).symm
  refine ⟨by kernel_rfl, fun j t ht => ?_⟩
  rw [Tryd.params5] at ht
  have hm : t ∈ [3] := by simpa using Array.mem_of_getElem? ht
  simp only [List.mem_cons, List.mem_nil_iff, or_false] at hm
  rcases hm with rfl
  · exact (show Tryd.prog.wantsStandIn 3 = false by kernel_rfl)
theorem proved : Rows.WheelDueCardSaid :=
  Claim7.holds_tied_plain_at .later [] _ _ _ _ said (fun _ h => by cases h) (by kernel_rfl) (fun _ h => by cases h) wheelDue_row_tie rfl ⟨rfl, rfl⟩ (by kernel_rfl) rfl plain (by kernel_rfl)
end Go.Proofs.YtgfmjkbelciaaaaDoor.wheelDue
