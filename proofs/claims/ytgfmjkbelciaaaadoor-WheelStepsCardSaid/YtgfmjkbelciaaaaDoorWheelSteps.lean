/- For every time, list of delays and list of cuts, timers fire the same, in the same order, whether time goes by in one step or in several: the law returns true. Condition: the library's table of 64 is laid as its initialiser lays it. -/
import Derived.Test.YtgfmjkbelciaaaaDoorCards
import Derived.Test.YtgfmjkbelciaaaaDoorTie
import Derived.Lay
import Derived.LaidOnce
import Derived.MakeChecks
import Derived.SevenTiedAt
import Derived.WalkKit
import Derived.ProofKit
import Derived.OpenShut
import Derived.ShutString
import Derived.ChangeOld
import Derived.Below
import Derived.SizedLaws
import Derived.Test.YtgfmjkbelciaaaaDoorWhRn
import Derived.Test.YtgfmjkbelciaaaaDoorOpenH
import Derived.Test.YtgfmjkbelciaaaaDoorTz2
import Derived.Carry
import Derived.Deep.AppendLies
namespace Go.Proofs.YtgfmjkbelciaaaaDoor.wheelSteps
open Go.ChangeShapes Go.WideShapes Go.ChangeAt Go.RowKit
open Go.ChangeMaps (open_string shut_string)
set_option linter.unusedVariables false
set_option maxRecDepth 100000
set_option linter.unusedSimpArgs false
/-- Two wheels in which the same was Added. -/
def Twin (w wr : World) (g1 g2 now : Nat) (L : List Nat) : Prop := ∃ F1 F2, Bare w wr g1 F1 (fullS (upto0 L.length)) L.length now (setL L) ∧ Bare w wr g2 F2 (fullS (upto0 L.length)) L.length now (setL L) ∧ ∀ k ∈ F1, k ∉ F2
theorem bare_next {w w2 : World} {g : Nat} {F2 : List Nat} {L : List Nat} {now a i : Nat} (hL : L.length = i) (q : Bare w w2 g F2 ((fullS (upto0 L.length)).put (i : Int)) (L.length + 1) now (setL L ++ [⟨0, (fullS (upto0 L.length)).least, (fullS (upto0 L.length)).gen, a⟩])) :
    Bare w w2 g F2 (fullS (upto0 (L ++ [a]).length)) (L ++ [a]).length now (setL (L ++ [a])) := by
  subst hL
  rw [fullS_put, fullS_least, fullS_gen, upto0_len, ← upto0_succ] at q
  rw [List.length_append, setL_snoc]
  exact q
/-- The first wheel, what of it is due ahead of u has fired; the second one as it was set. -/
def St (w wr : World) (g1 g2 now t : Nat) (L : List Nat) (u : Nat) (lv : Value) : Prop :=
  ∃ F1 F2, Bare w wr g1 F1 (takeL (fullS (upto0 L.length)) (lessT u (setL L))) L.length t (restT u (setL L)) ∧ Bare w wr g2 F2 (fullS (upto0 L.length)) L.length now (setL L) ∧ (∀ k ∈ F1, k ∉ F2) ∧
    Own wr 3 lv (iv (whatT (fullS (upto0 L.length)) (lessT u (setL L)))) ∧ ∀ b ∈ lv.ownBlock.toList, w.heap.size ≤ b
/-- The same, and what fired last is still to be put behind the rest. -/
def Mid (w wr : World) (g1 g2 now t : Nat) (L : List Nat) (u : Nat) (lv : Value) (xs ys : List Int) (v : Value) : Prop :=
  (∃ F1 F2, Bare w wr g1 F1 (takeL (fullS (upto0 L.length)) (lessT u (setL L))) L.length t (restT u (setL L)) ∧ Bare w wr g2 F2 (fullS (upto0 L.length)) L.length now (setL L) ∧ (∀ k ∈ F1, k ∉ F2)) ∧
    Own wr 3 lv (iv xs) ∧ Own wr 3 v (iv ys) ∧ xs ++ ys = whatT (fullS (upto0 L.length)) (lessT u (setL L)) ∧ xs.length + ys.length ≤ 100 ∧ ∀ b ∈ lv.ownBlock.toList, w.heap.size ≤ b
theorem what_less_len (S : Slb) (u : Nat) (P : List Tm) : (whatT S (lessT u P)).length ≤ P.length := by
  rw [what_len]
  have := @less_len u P
  omega
theorem st_adv {w wr : World} {g1 g2 now t u t' : Nat} {L : List Nat} {lv : Value} (n : Int) (h : St w wr g1 g2 now t L u lv) (hl : L.length ≤ 100) (h1 : t ≤ t') (h2 : u ≤ t + 1) (h3 : t' ≤ 1099511627776) (hn : n = (t' : Int)) :
    Calls Tryd.prog 21 #[ptr g1, .int .i64 n] wr fun e w' => ∃ A m c, e = .returned (.slice A m c) ∧ Hid (∃ xs ys, Mid w w' g1 g2 now t' L (t' + 1) lv xs ys (.slice A m c) ∧ m = (iv ys).length) := by
  obtain ⟨F1, F2, q1, q2, q3, q4, q5⟩ := h
  subst hn
  refine (b_adv wr g1 F1 _ _ t t' (t' : Int) _ q1 (by omega) (by omega)).mono ?_
  rintro e w' ⟨v, rfl, hf⟩
  obtain ⟨F1', k1, k2, k3, k4, k5⟩ := hf.out
  rw [fire_less, ← take_append, less_rest (by omega), left_rest, rest_rest (by omega)] at k1
  rw [what_take, fire_less] at k2
  obtain ⟨A, m, c, rfl, hm, -, -⟩ := k2.slice'
  refine ⟨A, m, c, rfl, Lib.hid ⟨_, _, ⟨⟨F1', F2, k1, q2.aside k3 (fun k hk hk1 => q3 k hk1 hk) q1.new, fun k hk => q3 k (k5 k hk)⟩, q4.mods k3 (q1.far_ints q4), k2, ?_, ?_, q5⟩, hm⟩⟩
  · rw [← what_append, less_rest (by omega)]
  · have e := what_less_len (fullS (upto0 L.length)) (t' + 1) (setL L)
    rw [← less_rest (show u ≤ t' + 1 by omega), what_append, List.length_append, setL_len] at e
    omega
theorem st_put {w wr w' : World} {g1 g2 now t u : Nat} {L : List Nat} {lv v v' : Value} {xs ys : List Int} (h : Mid w wr g1 g2 now t L u lv xs ys v) (ho : Own w' 3 v' (iv xs ++ iv ys)) (hm : Mods lv.ownBlock.toList wr w' ∧ (v'.ownBlock = lv.ownBlock ∨ v'.ownBlock = some wr.heap.size)) : St w w' g1 g2 now t L u v' := by
  obtain ⟨⟨F1, F2, q1, q2, q3⟩, o1, o2, e, -, o3⟩ := h
  rw [← iv_app, e] at ho
  refine ⟨F1, F2, q1.aside hm.1 (fun k hk hk2 => q1.far_ints o1 k hk2 hk) o3, q2.aside hm.1 (fun k hk hk2 => q2.far_ints o1 k hk2 hk) o3, q3, ho, fun b hb => ?_⟩
  rcases hm.2 with h | h
  · exact o3 b (by rw [← h]; exact hb)
  · have : b = wr.heap.size := by rw [h] at hb; simpa [eq_comm] using hb
    have := q1.mods.size
    omega
theorem st_end {w wr : World} {g1 g2 now t la n : Nat} {L : List Nat} {lv : Value} (hn : L.length = n) (h : St w wr g1 g2 now t L (la + 1) lv) (hl : L.length ≤ 100) (h1 : now ≤ la) (h3 : la ≤ 1099511627776) (hL : ∀ a ∈ L, a ≤ la) :
    (∃ A c, lv = .slice A n c) ∧ Calls Tryd.prog 21 #[ptr g2, .int .i64 (la : Int)] wr fun e w' => ∃ B d, e = .returned (.slice B n d) ∧ Hid (∃ F1 S1 xs, Bare w w' g1 F1 S1 n t [] ∧ xs.length = n ∧
      (∀ A c, lv = .slice A n c → Src w' A (iv xs)) ∧ Src w' B (iv xs)) := by
  subst hn
  obtain ⟨F1, F2, q1, q2, q3, q4, q5⟩ := h
  have ha := @less_all (la + 1) (setL L) fun m hm => by have := hL _ (setL_times hm); omega
  have hlen : (whatT (fullS (upto0 L.length)) (lessT (la + 1) (setL L))).length = L.length := by
    rw [what_len, ha.1, sortT_len, setL_len]
  rw [ha.2] at q1
  refine ⟨?_, ?_⟩
  · obtain ⟨A, c, e, -, -⟩ := own_nums q4 hlen.symm
    exact ⟨A, c, e⟩
  refine (b_adv wr g2 F2 _ _ now la (la : Int) _ q2 (by omega) (by omega)).mono ?_
  rintro e w' ⟨v, rfl, hf⟩
  obtain ⟨F2', k1, k2, k3, k4, k5⟩ := hf.out
  rw [fire_less] at k2
  obtain ⟨B, d, rfl, -, hsrc⟩ := own_nums k2 hlen.symm
  refine ⟨B, d, rfl, Lib.hid ⟨F1, _, _, q1.aside k3 (fun k hk hk2 => q3 k hk hk2) q2.new, hlen, fun A c hA => ?_, hsrc⟩⟩
  have q4' := q4.mods k3 (q2.far_ints q4)
  rw [hA] at q4'
  exact q4'.src
set_option maxHeartbeats 4000000 in
theorem main (now : Nat) (h1 : now ≤ 549755813888) (A : Option Addr) (len cap : Nat) (f : Nat → Int) (hl : len ≤ 100) (C : Option Addr) (lenc capc : Nat) (fc : Nat → Int) (hlc : lenc ≤ 100) (w : World) (ht : TzTab w)
    (hf : ∀ j, j < len → ∃ b off, A = some ⟨b, off, none⟩ ∧ b < w.heap.size ∧ w.cell? ⟨b, off + j, none⟩ = some (.int .i64 (f j)) ∧ I64 (f j))
    (hfc : ∀ j, j < lenc → ∃ b off, C = some ⟨b, off, none⟩ ∧ b < w.heap.size ∧ w.cell? ⟨b, off + j, none⟩ = some (.int .i64 (fc j)) ∧ I64 (fc j)) :
    Calls Tryd.prog 4 #[.int .i64 (now : Int), .slice A len cap, .slice C lenc capc] w fun e w' => e = .returned (.bool true) ∧ Below w.heap.size w w' := by
  obtain ⟨i0, hi0, hz0, hz1, hz2⟩ := info_parts int_infoN
  have HI := Lib.hid (And.intro hi0 (And.intro hz0 (And.intro hz1 (show i0.bytes ≤ 8 by omega))))
  clear hi0 hz0 hz1 hz2
  have HT := Lib.hid ht
  have HF := Lib.hid hf
  have HC := Lib.hid hfc
  have he := eql_whl
  clear ht hf hfc
  have g1 : ¬ (now : Int) < 0 := by omega
  have g2 : ¬ 549755813888 < (now : Int) := by omega
  have g3 : ¬ (100 : Int) < (len : Int) := by omega
  have g4 : ¬ (100 : Int) < (lenc : Int) := by omega
  go_enter Tryd.func4, Tryd.ntmps4
  go_wp2_with fail
  refine (b_new w now (Mods.refl [] w) (by omega)).mono ?_
  rintro e w1 ⟨ga, rfl, hf⟩
  obtain ⟨F1, hb1, -, -⟩ := hf.out
  have H1 := Lib.hid hb1
  clear hf hb1
  go_wp2_with fail
  refine (b_new w1 now H1.out.mods (by omega)).mono ?_
  rintro e w2 ⟨gb, rfl, hf⟩
  have H2 := Lib.hid (show ∃ L : List Nat, L.length = 0 ∧ (∀ a ∈ L, a ≤ now) ∧ Twin w w2 ga gb now L from by
    obtain ⟨F2, q, m, n⟩ := hf.out
    exact ⟨[], rfl, by simp, F1, F2, H1.out.step m, q, fun k hk hk2 => by have := H1.out.lt k hk; have := n k hk2; omega⟩)
  clear hf H1
  go_wp2_with fail
  go_loopw [11, 12, 13] (fun lav iv _ wr => ∃ i la : Nat, i ≤ len ∧ lav = .int .i64 (la : Int) ∧ iv = .int .i64 (i : Int) ∧ now ≤ la ∧ la ≤ now + 1073741824 ∧ Hid (∃ L : List Nat, L.length = i ∧ (∀ a ∈ L, a ≤ la) ∧ Twin w wr ga gb now L)) (fun _ iv _ _ => len - (intOf iv).toNat)
  case atStart => exact ⟨0, now, by omega, rfl, rfl, by omega, by omega, H2⟩
  case round =>
    clear H2
    obtain ⟨i, la, hi, rfl, rfl, hla1, hla2, hr⟩ := hrel
    obtain ⟨L, hL, hB, hh⟩ := hr.out
    have HB := Lib.hid hB
    have HE := Lib.hid hL
    have HH := Lib.hid hh
    clear hr hL hB hh
    by_cases hlt : i < len
    · have q1 : (i : Int) < (len : Int) := by omega
      obtain ⟨F1, F2, b1, b2, hd⟩ := HH.out
      have B1 := Lib.hid b1
      have B2 := Lib.hid b2
      have HD := Lib.hid hd
      clear b1 b2 hd HH
      obtain ⟨b, off, rfl, -, hc, -⟩ := HF.out i hlt
      have hc := cell_mods hc B1.out.mods (by simp)
      obtain ⟨n, hn, hn2⟩ := and_30 (f i)
      have q2 : IntKind.i64.wrap ((now : Int) + (n : Int)) = ((now + n : Nat) : Int) := by rw [IntKind.wrap_i64]; omega
      have hcnt : (fullS (upto0 L.length)).cnt < 4096 := by rw [fullS_cnt, upto0_len, HE.out]; omega
      have hls : ((fullS (upto0 L.length)).least : Int) = (i : Int) := by rw [fullS_least, upto0_len, HE.out]
      have hge : ((fullS (upto0 L.length)).gen : Int) = 1 := by rw [fullS_gen]; rfl
      have HA := Lib.hid (b_add wr ga (now + n) (i : Int) F1 _ _ now _ (i : Int) 1 B1.out HT.out (by omega) hcnt (by rw [HE.out]; omega) hls hge)
      have HA2 := Lib.hid (fun W (hW : Bare w W gb F2 _ _ now _) => b_add W gb (now + n) (i : Int) F2 (fullS (upto0 L.length)) L.length now (setL L) (i : Int) 1 hW HT.out (by omega) hcnt (by rw [HE.out]; omega) hls hge)
      clear hcnt hls hge
      go_wp2_with fail
      refine HA.out.mono ?_
      rintro e w3 ⟨rfl, hf⟩
      have H3 := Lib.hid (show ∃ F1', Bare w w3 ga F1' (fullS (upto0 (L ++ [now + n]).length)) (L ++ [now + n]).length now (setL (L ++ [now + n])) ∧ Bare w w3 gb F2 (fullS (upto0 L.length)) L.length now (setL L) ∧ ∀ k ∈ F1', k ∉ F2 from by
        obtain ⟨F1', q, m, s⟩ := hf.out
        refine ⟨F1', bare_next HE.out q, B2.out.aside m (fun k hk hk2 => HD.out k hk2 hk) B1.out.new, fun k hk hk2 => ?_⟩
        rcases s k hk with h | h
        · exact HD.out k h hk2
        · have := B2.out.lt k hk2; omega)
      clear hf HA B1 B2 HD
      obtain ⟨F1', b1, b2, hd⟩ := H3.out
      have B1 := Lib.hid b1
      have B2 := Lib.hid b2
      have HD := Lib.hid hd
      clear b1 b2 hd H3
      go_wp2_with fail
      refine (HA2.out w3 B2.out).mono ?_
      rintro e w4 ⟨rfl, hf⟩
      have H4 := Lib.hid (show Twin w w4 ga gb now (L ++ [now + n]) from by
        obtain ⟨F2', q, m, s⟩ := hf.out
        refine ⟨F1', F2', B1.out.aside m (fun k hk hk2 => HD.out k hk hk2) B2.out.new, bare_next HE.out q, fun k hk hk2 => ?_⟩
        rcases s k hk2 with h | h
        · exact HD.out k hk h
        · have := B1.out.lt k hk; omega)
      clear hf HA2 B1 B2 HD
      go_wp2
      go_roundw
      case rel => exact ⟨i + 1, max la (now + n), by omega, by first | rfl | go_num | (congr 1; omega), by go_num, by omega, by omega, Lib.hid ⟨L ++ [now + n], by rw [List.length_append, HE.out]; rfl, fun a ha => by
        rcases List.mem_append.1 ha with h | h
        · have := HB.out a h; omega
        · have := List.mem_singleton.1 h; omega, H4.out⟩⟩
      case measure => simp [intOf]; omega
    · have q1 : ¬ (i : Int) < (len : Int) := by omega
      have hie : i = len := by omega
      subst hie
      have HLN := Lib.hid (show L.length ≤ 100 by rw [HE.out]; exact hl)
      have H0 := Lib.hid (show St w wr ga gb now now L 0 (.slice none 0 0) from by
        obtain ⟨F1, F2, b1, b2, hd⟩ := HH.out
        exact ⟨F1, F2, by rw [less_zero, rest_zero]; exact b1, b2, hd, by rw [less_zero]; exact Own.nil _ _, by simp [Value.ownBlock]⟩)
      clear HH hi hlt HF
      go_wp2_with fail
      go_loopw [14, 15, 16] (fun lv tv jv wr => ∃ j t u : Nat, j ≤ lenc ∧ tv = .int .i64 (t : Int) ∧ jv = .int .i64 (j : Int) ∧ now ≤ t ∧ t ≤ la ∧ u ≤ t + 1 ∧ Hid (St w wr ga gb now t L u lv)) (fun _ _ jv _ => lenc - (intOf jv).toNat)
      case atStart => exact ⟨0, now, 0, by omega, rfl, rfl, by omega, by omega, by omega, H0⟩
      case round =>
        clear H0
        obtain ⟨j, t, u, hj, rfl, rfl, ht1, ht2, hu, hr⟩ := hrel
        have HR := hr
        clear hr
        by_cases hlt : j < lenc
        · have q1 : (j : Int) < (lenc : Int) := by omega
          obtain ⟨b, off, rfl, -, hc, -⟩ := HC.out j hlt
          have hc : wr.cell? ⟨b, off + j, none⟩ = some (.int .i64 (fc j)) := by
            obtain ⟨F1, F2, b1, _⟩ := HR.out
            exact cell_mods hc b1.mods (by simp)
          obtain ⟨n, hn, hn2⟩ := and_26 (fc j)
          have q2 : IntKind.i64.wrap ((t : Int) + (n : Int)) = ((t + n : Nat) : Int) := by rw [IntKind.wrap_i64]; omega
          have HA := Lib.hid (fun x hx => st_adv (t' := min la (t + n)) x HR.out HLN.out (by omega) hu (by omega) hx)
          go_wp2_with fail
          refine (HA.out _ (by first | rfl | omega | (split <;> omega))).mono ?_
          rintro e w3 ⟨A3, m3, c3, rfl, hf⟩
          obtain ⟨xs, ys, hM, hm3⟩ := hf.out
          have HM := Lib.hid hM
          have HX := Lib.hid hm3
          clear hf hM hm3 HA HR
          go_wp2_with (at_builtin; refine wpList_append_own2 _ rfl (.tmp 99) (.tmp 102) 49 rfl 3 i0 (.int .i64 0) Tryd.underlying49 HI.out.1 HI.out.2.1 HI.out.2.2.1 HI.out.2.2.2 rfl u14 (iv xs) rfl HM.out.2.1 A3 m3 c3 (iv ys) rfl HX.out HM.out.2.2.1.src (iv_one _) (by have := HM.out.2.2.2.2.1; have := HX.out; simp only [iv_len] at *; omega) ?_; intro v4 w4 HO4 HM4)
          go_roundw
          case rel => exact ⟨j + 1, min la (t + n), min la (t + n) + 1, by omega, by first | rfl | go_num | (congr 1; omega), by go_num, by omega, by omega, by omega, Lib.hid (st_put HM.out HO4.out HM4.out)⟩
          case measure => simp [intOf]; omega
        · have q1 : ¬ (j : Int) < (lenc : Int) := by omega
          have HA := Lib.hid (st_adv (t' := la) (la : Int) HR.out HLN.out (by omega) hu (by omega) rfl)
          go_wp2_with fail
          refine HA.out.mono ?_
          rintro e w3 ⟨A3, m3, c3, rfl, hf⟩
          obtain ⟨xs, ys, hM, hm3⟩ := hf.out
          have HM := Lib.hid hM
          have HX := Lib.hid hm3
          clear hf hM hm3 HA HR
          go_wp2_with (at_builtin; refine wpList_append_own2 _ rfl (.tmp 104) (.tmp 107) 49 rfl 3 i0 (.int .i64 0) Tryd.underlying49 HI.out.1 HI.out.2.1 HI.out.2.2.1 HI.out.2.2.2 rfl u14 (iv xs) rfl HM.out.2.1 A3 m3 c3 (iv ys) rfl HX.out HM.out.2.2.1.src (iv_one _) (by have := HM.out.2.2.2.2.1; have := HX.out; simp only [iv_len] at *; omega) ?_; intro v4 w4 HO4 HM4; have HS := Lib.hid (st_put HM.out HO4.out HM4.out); clear HO4 HM4; obtain ⟨⟨A4, c4, rfl⟩, hN⟩ := st_end HE.out HS.out HLN.out (by omega) (by omega) HB.out; have HN := Lib.hid hN; clear hN HS)
          refine HN.out.mono ?_
          rintro e w5 ⟨B5, d5, rfl, hf⟩
          obtain ⟨G1, S1, zs, b5, z1, z2, z3⟩ := hf.out
          have H5 := Lib.hid b5
          have HI5 := Lib.hid (ints_yes w5 A4 B5 i i c4 d5 zs z1.symm z1.symm (by omega) (z2 _ _ rfl) z3)
          clear hf b5 z1 z2 z3 HN HM HX
          have q3 : ((i : Int) == (i : Int)) = true := by simp
          go_wp2_with fail
          refine HI5.out.mono ?_
          rintro e w6 ⟨rfl, k6, rfl⟩
          have H6 := Lib.hid (H5.out.step ((Mods.refl [] w5).drewN k6))
          have HL := Lib.hid (b_len (w5.drewN k6) ga G1 S1 _ la [] 0 H6.out rfl)
          clear HI5 H5
          go_wp2_with fail
          refine HL.out.mono ?_
          rintro e w7 ⟨rfl, rfl⟩
          go_wp2_with fail
          refine (known_any _ (HT.out.mods H6.out.mods (by simp))).mono ?_
          rintro e w9 ⟨rfl, hm⟩
          have M9 := Lib.hid (H6.out.mods.trans hm (by simp))
          clear hm
          go_wp2
          go_ret
          exact ⟨rfl, M9.out.below⟩
theorem long (a : Int) (A C : Option Addr) (len cap lenc capc : Nat) (h : a < 0 ∨ 549755813888 < a ∨ 100 < len ∨ 100 < lenc) (w : World) (ht : TzTab w) :
    Calls Tryd.prog 4 #[.int .i64 a, .slice A len cap, .slice C lenc capc] w fun e w' => e = .returned (.bool true) ∧ Below w.heap.size w w' := by
  have HT := Lib.hid (known_any w ht)
  clear ht
  by_cases c1 : a < 0
  all_goals try by_cases c2 : 549755813888 < a
  all_goals try by_cases c3 : (100 : Int) < (len : Int)
  all_goals try by_cases c4 : (100 : Int) < (lenc : Int)
  all_goals first
    | (exfalso; omega)
    | (clear h
       go_enter Tryd.func4, Tryd.ntmps4
       go_wp2_with fail
       refine HT.out.mono ?_
       rintro e w' ⟨rfl, hm⟩
       go_wp2
       go_ret
       exact ⟨rfl, hm.below⟩)
/-- A row of numbers that came in, as a slice. -/
theorem nums_slice {w : World} {v : Value} (o : IsInts w v) : ∃ (A : Option Addr) (len cap : Nat) (f : Nat → Int), v = .slice A len cap ∧ ∀ j, j < len → ∃ b off, A = some ⟨b, off, none⟩ ∧ b < w.heap.size ∧ w.cell? ⟨b, off + j, none⟩ = some (.int .i64 (f j)) ∧ I64 (f j) := by
  rcases o with ⟨a, cap, rfl⟩ | ⟨b, off, len, cap, f, rfl, h0, hlc, hcm, hb, hf⟩
  · exact ⟨a, 0, cap, fun _ => 0, rfl, fun j hj => absurd hj (by omega)⟩
  · exact ⟨_, len, cap, f, rfl, fun j hj => ⟨b, off, rfl, hb, hf j hj⟩⟩
theorem walk (a : Int) (wa : (Lit.int .i64 a).wf = true) (v1 v2 : Value) (w : World) (o1 : IsInts w v1) (o2 : IsInts w v2) (hL : laidMetH Tryd.prog Rows.wheelStepsRow.laid w) :
    Calls Tryd.prog 4 #[.int .i64 a, v1, v2] w fun e w' => e = .returned (.bool true) ∧ Below w.heap.size w w' := by
  rw [MakeChecks.laidMetH_plain _ _ _ (by kernel_rfl)] at hL
  have ht := tz_of hL rfl
  obtain ⟨A, len, cap, f, rfl, hf⟩ := nums_slice o1
  obtain ⟨C, lenc, capc, fc, rfl, hfc⟩ := nums_slice o2
  by_cases h : a < 0 ∨ 549755813888 < a ∨ 100 < len ∨ 100 < lenc
  · exact long a A C len cap lenc capc h w ht
  · obtain ⟨a, rfl⟩ := Int.eq_ofNat_of_zero_le (a := a) (by omega)
    exact main a (by omega) A len cap f (by omega) C lenc capc fc (by omega) w ht hf hfc

theorem own : ownKnob Tryd.prog.godebug = none := by kernel_rfl
theorem laidOut : laidOutB Tryd.prog = true := by kernel_rfl
set_option maxRecDepth 100000 in
theorem lifted (os : Os) (started : os.Started) (H : Type) (enc : TypeId × Value → H) :
    ReturnsInHanded {} Tryd.checked os 4 .any (fun w args => (Rows.wheelStepsSpec.pre enc Tryd.prog Tryd.f4 [] false w args ∧ laidMetH Tryd.prog Rows.wheelStepsRow.laid w) ∧ sizedMet enc Tryd.prog Tryd.f4 (OpenSpec.ofChange Rows.wheelStepsSpec) false w args)
      (Rows.wheelStepsSpec.post enc Tryd.prog Tryd.f4 false true false false) := by
  refine returnsInHanded_of_change_and (C := Tryd.checked) (X := fun w _ => laidMetH Tryd.prog Rows.wheelStepsRow.laid w) (fun _ _ _ hh h => h.of_heap hh) own started (by kernel_rfl) Tryd.func4
    (ChangeSpec.witness_shaped (enc := enc) (C := Tryd.checked) (os := os) (X := fun w _ => laidMetH Tryd.prog Rows.wheelStepsRow.laid w) false (World.laidAll Tryd.prog os Rows.wheelStepsRow.laid) #[.int .i64 0, .slice none 0 0, .slice none 0 0] 8 (World.laidAll_os _ _ _)
      (World.shaped_of_ZipB (by kernel_rfl) (by kernel_rfl)) (by kernel_rfl) (by kernel_rfl) (by kernel_rfl)
      (by rw [MakeChecks.laidMetH_plain _ _ _ (by kernel_rfl)]; exact laidMet_laidAll _ (by kernel_rfl) (by kernel_rfl))) ?_
  intro W base args ds gs before hval0 hW hcnd hsz0 hL _
  have hsz : (DataW.weightsEach Tryd.prog (Tryd.f4.params.toList ++ Rows.wheelStepsSpec.plain.varTypes Tryd.prog) (ds ++ gs)).all (· ≤ reachBytes) = true := hsz0
  have hval : ∀ (j : Nat) t v, Tryd.f4.params[j]? = some t → args[j]? = some v → Value.okWide Tryd.prog W .any base t v := hval0
  have hW' := hW
  obtain ⟨p, q, hA0, hV, rfl, hfz, hnd⟩ := hW
  have hA : DataW.TrodAll enc Tryd.prog W 0 (fun _ => true) true Tryd.f4.params.toList args.toList ds p := hA0
  rw [Tryd.params4] at hA hval hsz
  obtain ⟨v0, vs0, d0, ds0, p0, q0, hargs, rfl, rfl, h0, r0⟩ := trodAll_cons hA
  obtain ⟨v1, vs1, d1, ds1, p1, q1, rfl, rfl, rfl, h1, r1⟩ := trodAll_cons r0
  obtain ⟨v2, vs2, d2, ds2, p2, q2, rfl, rfl, rfl, h2, r2⟩ := trodAll_cons r1
  obtain ⟨rfl, rfl, rfl⟩ := trodAll_nil r2
  obtain rfl : args = #[v0, v1, v2] := by cases args; simp_all
  obtain ⟨rfl, rfl⟩ := trodVars_none hV
  obtain ⟨a0, rfl, rfl, rfl, w0⟩ := open_int Tryd.underlying3 (hval 0 3 v0 rfl rfl) h0
  have k1 := h1
  have lt1 : ∀ x ∈ p1, x.block < W.heap.size := by obtain ⟨m, hm⟩ := k1; exact DataW.trod_lt m _ _ _ hm
  obtain o1 := open_nums (hval 1 49 v1 rfl rfl) k1
  have k2 := h2
  have lt2 : ∀ x ∈ p2, x.block < W.heap.size := by obtain ⟨m, hm⟩ := k2; exact DataW.trod_lt m _ _ _ hm
  obtain o2 := open_nums (hval 2 49 v2 rfl rfl) k2
  clear hA0 hval0 hsz0 hsz
  refine (walk a0 w0 v1 v2 W o1 o2 hL).mono fun e W' ⟨he, bel⟩ => ?_
  subst he
  exact ⟨_, rfl, _, _, _, [], _, [], hW', trodAll_mk1 (shut_bool Tryd.underlying4 _), (trodAll_cons_mk (shut_int Tryd.underlying3 w0) (trodAll_cons_mk (Below.trod laidOut (by kernel_rfl) (of_decide_eq_true (by kernel_rfl)) k1 bel lt1) (trodAll_cons_mk (Below.trod laidOut (by kernel_rfl) (of_decide_eq_true (by kernel_rfl)) k2 bel lt2) trodAll_mk0))), rfl, bel.frame _, fun h => by cases h⟩

theorem over : Rows.wheelStepsRow.holds Tryd.pinned (OpenSpec.ofChange Rows.wheelStepsSpec) :=
  OpenClaim.holds_of_wide 4 Tryd.f4 rfl rfl rfl rfl rfl rfl rfl ⟨rfl, rfl, rfl, rfl, rfl⟩ rfl rfl rfl rfl rfl (by kernel_rfl) Tryd.func4 (by kernel_rfl)
    (of_decide_eq_true (by kernel_rfl)) (by unfold Func.isWrapper; first | (rw [if_pos (by decide +kernel)]; kernel_rfl) | (rw [if_neg (by decide +kernel)]; exact ⟨rfl, rfl⟩))
    (fun os started H enc _ => lifted os started H enc)

theorem said : Rows.WheelStepsSaid := over
theorem plain (f : FuncId) (fn : Func) (hf : Tryd.pinned.checked.prog.funcNamed "usher/usherlaw6.WheelSteps" = some f) (hfn : Tryd.pinned.checked.prog.funcs[f]? = some fn) :
    false = Tryd.pinned.checked.prog.looks [] ∧ ∀ (j : Nat) t, fn.params[j]? = some t → Tryd.pinned.checked.prog.wantsStandIn t = false := by
  obtain rfl : f = 4 := Option.some.inj ((show Tryd.prog.funcNamed "usher/usherlaw6.WheelSteps" = some 4 by kernel_rfl).symm.trans hf) |>.symm
  obtain rfl : fn = Tryd.f4 := (Option.some.inj (Tryd.func4.symm.trans hfn)).symm
  refine ⟨by kernel_rfl, fun j t ht => ?_⟩
  rw [Tryd.params4] at ht
  have hm : t ∈ [3, 49] := by simpa using Array.mem_of_getElem? ht
  simp only [List.mem_cons, List.mem_nil_iff, or_false] at hm
  rcases hm with rfl | rfl
  · exact (show Tryd.prog.wantsStandIn 3 = false by kernel_rfl)
  · exact (show Tryd.prog.wantsStandIn 49 = false by kernel_rfl)
theorem proved : Rows.WheelStepsCardSaid :=
  Claim7.holds_tied_plain_at .later [] _ _ _ _ said (fun _ h => by cases h) (by kernel_rfl) (fun _ h => by cases h) wheelSteps_row_tie rfl ⟨rfl, rfl⟩ (by kernel_rfl) rfl plain (by kernel_rfl)
end Go.Proofs.YtgfmjkbelciaaaaDoor.wheelSteps
