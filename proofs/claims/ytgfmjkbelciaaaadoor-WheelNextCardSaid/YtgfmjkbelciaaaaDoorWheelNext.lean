/- For every list of numbers, nothing fires ahead of the next time, and something at it: the law returns true. Condition: the library's table of 64 is laid as its initialiser lays it. -/
import Derived.Test.YtgfmjkbelciaaaaDoorCards
import Derived.Test.YtgfmjkbelciaaaaDoorTie
import Derived.Lay
import Derived.LaidOnce
import Derived.MakeChecks
import Derived.SevenTiedAt
import Derived.WalkKit
import Derived.ProofKit
import Derived.OpenShut
import Derived.ShutString
import Derived.ChangeOld
import Derived.Below
import Derived.SizedLaws
import Derived.Test.YtgfmjkbelciaaaaDoorWhRn
import Derived.Test.YtgfmjkbelciaaaaDoorOpenH
import Derived.Test.YtgfmjkbelciaaaaDoorTz2
import Derived.Carry

namespace Go.Proofs.YtgfmjkbelciaaaaDoor.wheelNext
open Go.ChangeShapes Go.WideShapes Go.ChangeAt Go.RowKit
open Go.ChangeMaps (open_string shut_string)
set_option linter.unusedVariables false
set_option maxRecDepth 100000
set_option linter.unusedSimpArgs false
/-- What was Added, and what is left of it. -/
def Ahead (w wr : World) (g : Nat) (L : List Nat) (u now : Nat) : Prop := ∃ F, Bare w wr g F (takeL (fullS (upto0 L.length)) (lessT u (setL L))) L.length now (restT u (setL L))
theorem ahead_adv {w : World} (wr : World) (g : Nat) (L : List Nat) (u now t : Nat) (n : Int) (h : Ahead w wr g L u now) (hl : L.length ≤ 60) (ht : min (max n (now : Int)) 1099511627776 = (t : Int)) (hu : u ≤ t + 1) (c : Nat) (hc : (restT u (setL L)).length = c + (restT (t + 1) (setL L)).length) :
    Calls Tryd.prog 21 #[ptr g, .int .i64 n] wr fun e w' => ∃ A cap, e = .returned (.slice A c cap) ∧ Hid (Ahead w w' g L (t + 1) t ∧ c ≤ cap) := by
  obtain ⟨F, h⟩ := h
  refine (b_adv wr g F _ _ now t n _ h (by omega) ht).mono ?_
  rintro e w' ⟨v, rfl, hf⟩
  obtain ⟨F', h1, h2, -, -, -⟩ := hf.out
  obtain ⟨A, cap, rfl, hcap, -⟩ := own_nums (n := c) h2 (by
    rw [what_len, fire_less]
    have := @less_len (t + 1) (restT u (setL L))
    rw [rest_rest hu] at this
    omega)
  refine ⟨A, cap, rfl, Lib.hid ⟨⟨F', ?_⟩, hcap⟩⟩
  rw [fire_less, ← take_append, less_rest hu, left_rest, rest_rest hu] at h1
  exact h1
theorem min_rest {L : List Nat} {u : Nat} (h : restT u (setL L) ≠ []) (hL : ∀ a ∈ L, 1 ≤ a ∧ a ≤ 1073741824) : u ≤ minT (restT u (setL L)) ∧ 1 ≤ minT (restT u (setL L)) ∧ minT (restT u (setL L)) ≤ 1073741824 ∧
    restT (minT (restT u (setL L))) (setL L) = restT u (setL L) ∧ (restT (minT (restT u (setL L)) + 1) (setL L)).length < (restT u (setL L)).length := by
  obtain ⟨m, hm, e⟩ := minT_mem h
  have h1 := rest_mem.1 hm
  have h2 := hL _ (setL_times h1.1)
  have hle : ∀ x ∈ restT u (setL L), minT (restT u (setL L)) ≤ x.a := minT_le
  have h3 := less_none hle
  have hu : u ≤ minT (restT u (setL L)) := by omega
  rw [rest_rest hu] at h3
  refine ⟨hu, by omega, by omega, h3.2, ?_⟩
  have h4 := @less_len (minT (restT u (setL L)) + 1) (restT u (setL L))
  rw [rest_rest (by omega)] at h4
  have h5 : m ∈ lessT (minT (restT u (setL L)) + 1) (restT u (setL L)) := less_mem.2 ⟨hm, by omega⟩
  have := List.length_pos_of_mem h5
  omega
set_option maxHeartbeats 2000000 in
theorem main (w : World) (ht : TzTab w) (A : Option Addr) (len cap : Nat) (f : Nat → Int) (hl : len ≤ 60)
    (hf : ∀ j, j < len → ∃ b off, A = some ⟨b, off, none⟩ ∧ b < w.heap.size ∧ w.cell? ⟨b, off + j, none⟩ = some (.int .i64 (f j)) ∧ I64 (f j)) :
    Calls Tryd.prog 9 #[.slice A len cap] w fun e w' => e = .returned (.bool true) ∧ Below w.heap.size w w' := by
  have HT := Lib.hid ht
  have HF := Lib.hid hf
  have he := eql_whl
  have hlen : ¬ (60 : Int) < (len : Int) := by omega
  clear ht hf
  go_enter Tryd.func9, Tryd.ntmps9
  go_wp2_with fail
  refine (b_new w 0 (Mods.refl [] w) (by omega)).mono ?_
  rintro e w1 ⟨g, rfl, hf⟩
  have H1 := Lib.hid (show ∃ L : List Nat, L.length = 0 ∧ (∀ a ∈ L, 1 ≤ a ∧ a ≤ 1073741824) ∧ Ahead w w1 g L 0 0 from by
    obtain ⟨F1, hh, -, -⟩ := hf.out
    exact ⟨[], rfl, by simp, F1, by rw [less_zero, rest_zero]; exact hh⟩)
  clear hf
  go_wp2_with fail
  go_loopw [5] (fun iv wr => ∃ i : Nat, i ≤ len ∧ iv = .int .i64 (i : Int) ∧ Hid (∃ L : List Nat, L.length = i ∧ (∀ a ∈ L, 1 ≤ a ∧ a ≤ 1073741824) ∧ Ahead w wr g L 0 0)) (fun iv _ => len - (intOf iv).toNat)
  case atStart => exact ⟨0, by omega, rfl, H1⟩
  case round =>
    clear H1
    obtain ⟨i, hi, rfl, hr⟩ := hrel
    obtain ⟨L, hL, hB, F, hh⟩ := hr.out
    have HB := Lib.hid hB
    have HE := Lib.hid hL
    rw [less_zero, rest_zero] at hh
    have HH := Lib.hid hh
    clear hr hL hB hh
    by_cases hlt : i < len
    · have q1 : (i : Int) < (len : Int) := by omega
      obtain ⟨b, off, rfl, -, hc, -⟩ := HF.out i hlt
      have hc := cell_mods hc HH.out.mods (by simp)
      obtain ⟨n, hn, hn2⟩ := and_30 (f i)
      have q2 : IntKind.i64.wrap (1 + (n : Int)) = ((n + 1 : Nat) : Int) := by rw [IntKind.wrap_i64]; omega
      have HA := Lib.hid (b_add wr g (n + 1) (i : Int) F _ _ 0 _ (i : Int) 1 HH.out HT.out (by omega) (by show (fullS (upto0 L.length)).cnt < 4096; rw [fullS_cnt, upto0_len, HE.out]; omega) (by rw [HE.out]; omega) (by show ((fullS (upto0 L.length)).least : Int) = _; rw [fullS_least, upto0_len, HE.out]) (by show ((fullS (upto0 L.length)).gen : Int) = _; rw [fullS_gen]; rfl))
      go_wp2_with fail
      refine HA.out.mono ?_
      rintro e w2 ⟨rfl, hf2⟩
      have H2 := Lib.hid (show ∃ L : List Nat, L.length = i + 1 ∧ (∀ a ∈ L, 1 ≤ a ∧ a ≤ 1073741824) ∧ Ahead w w2 g L 0 0 from by
        obtain ⟨F2, q, -, -⟩ := hf2.out
        refine ⟨L ++ [n + 1], by rw [List.length_append, HE.out]; rfl, fun a ha => ?_, F2, ?_⟩
        · rcases List.mem_append.1 ha with h | h
          · exact HB.out a h
          · rw [List.mem_singleton.1 h]; omega
        · rw [less_zero, rest_zero, List.length_append, setL_snoc]
          have e1 : (takeL (fullS (upto0 L.length)) []).put (i : Int) = takeL (fullS (upto0 (L.length + [n + 1].length))) [] := by
            show (fullS (upto0 L.length)).put (i : Int) = fullS (upto0 (L.length + 1))
            rw [fullS_put, upto0_succ, HE.out]
          have e2 : (takeL (fullS (upto0 L.length)) []).least = L.length := by
            show (fullS (upto0 L.length)).least = _
            rw [fullS_least, upto0_len]
          have e3 : (takeL (fullS (upto0 L.length)) []).gen = 1 := fullS_gen _
          rw [e1, e2, e3] at q
          exact q)
      clear hf2 HA HH
      go_wp2
      go_roundw
      case rel => exact ⟨i + 1, by omega, by go_num, H2⟩
      case measure => simp [intOf]; omega
    · have q1 : ¬ (i : Int) < (len : Int) := by omega
      have hie : i = len := by omega
      subst hie
      have H0 := Lib.hid (show Ahead w wr g L 0 0 from ⟨F, by rw [less_zero, rest_zero]; exact HH.out⟩)
      clear HH hi hlt HF
      go_wp2_with fail
      go_loopw [6, 7] (fun nv kv wx => ∃ k n u now : Nat, k ≤ i ∧ nv = .int .i64 (n : Int) ∧ kv = .int .i64 (k : Int) ∧ n ≤ i ∧ now = u - 1 ∧ now ≤ 1073741824 ∧ Hid (n + (restT u (setL L)).length = i ∧ (restT u (setL L)).length + k ≤ i ∧ Ahead w wx g L u now)) (fun _ kv _ => i + 1 - (intOf kv).toNat)
      case atStart => exact ⟨0, 0, 0, 0, by omega, rfl, rfl, by omega, rfl, by omega, Lib.hid ⟨by rw [rest_zero, setL_len, HE.out]; omega, by rw [rest_zero, setL_len, HE.out]; omega, H0.out⟩⟩
      case round =>
        clear H0
        obtain ⟨k, n, u, now, hk, rfl, rfl, hn, hnow, hnb, hr⟩ := hrel
        have HR := hr
        clear hr
        have q2 : (k : Int) ≤ (i : Int) := by omega
        by_cases hz : restT u (setL L) = []
        · have hni : n = i := by
            have := HR.out.1
            rw [hz] at this
            simpa using this
          subst hni
          have q3 : ((n : Int) == (n : Int)) = true := by simp
          have HA := Lib.hid (show ∃ F, Bare w wr g F (takeL (fullS (upto0 L.length)) (lessT u (setL L))) L.length now [] from by
            obtain ⟨F, q⟩ := HR.out.2.2
            rw [hz] at q
            exact ⟨F, q⟩)
          obtain ⟨F, hh⟩ := HA.out
          have HH := Lib.hid hh
          have HN := Lib.hid (b_next wr g F _ _ now [] 0 false hh rfl rfl)
          clear hh HA hz HR
          go_wp2_with fail
          refine HN.out.mono ?_
          rintro e w3 ⟨rfl, rfl⟩
          have HL := Lib.hid (b_len wr g F _ _ now [] 0 HH.out rfl)
          go_wp2_with fail
          refine HL.out.mono ?_
          rintro e w3 ⟨rfl, rfl⟩
          go_wp2_with fail
          refine (known_any _ (HT.out.mods HH.out.mods (by simp))).mono ?_
          rintro e w9 ⟨rfl, hm⟩
          have M9 := Lib.hid (HH.out.mods.trans hm (by simp))
          clear hm
          go_wp2
          go_ret
          exact ⟨rfl, M9.out.below⟩
        · obtain ⟨a1, a2, a3, a4, a5⟩ := min_rest hz HB.out
          have HA := Lib.hid (show ∃ F, Bare w wr g F (takeL (fullS (upto0 L.length)) (lessT u (setL L))) L.length now (restT u (setL L)) from HR.out.2.2)
          obtain ⟨F, hh⟩ := HA.out
          obtain ⟨at_, hat⟩ : ∃ a, minT (restT u (setL L)) = a := ⟨_, rfl⟩
          have HN := Lib.hid (b_next wr g F _ _ now _ (at_ : Int) true hh (by rw [hat]) (decide_eq_true hz))
          rw [hat] at a1 a2 a3 a4 a5
          obtain ⟨s, hs⟩ : ∃ s, (restT (at_ + 1) (setL L)).length = s := ⟨_, rfl⟩
          obtain ⟨c, hc⟩ : ∃ c, (restT u (setL L)).length = c + s := ⟨(restT u (setL L)).length - s, by omega⟩
          have hc1 : 1 ≤ c := by omega
          have HC := Lib.hid (And.intro hs hc)
          have hr1 := HR.out.1
          have hr2 := HR.out.2.1
          rw [hc] at hr1 hr2
          have HD1 := Lib.hid (fun W (hW : Ahead w W g L u now) => ahead_adv W g L u now (at_ - 1) ((at_ : Int) - 1) hW (by rw [HE.out]; omega) (by omega) (by omega) 0 (by rw [show at_ - 1 + 1 = at_ by omega, a4]; omega))
          have HD2 := Lib.hid (fun W (hW : Ahead w W g L at_ (at_ - 1)) => ahead_adv W g L at_ (at_ - 1) at_ (at_ : Int) hW (by rw [HE.out]; omega) (by omega) (by omega) c (by rw [a4]; omega))
          have q4 : IntKind.i64.wrap ((at_ : Int) - 1) = (at_ : Int) - 1 := by rw [IntKind.wrap_i64]; omega
          have q5 : ((c : Int) == 0) = false := by simp; omega
          have q6 : IntKind.i64.wrap ((n : Int) + (c : Int)) = ((n + c : Nat) : Int) := by rw [IntKind.wrap_i64]; omega
          clear hh HA hz a4 a5 hat hs hc
          go_wp2_with fail
          refine HN.out.mono ?_
          rintro e w3 ⟨rfl, rfl⟩
          clear HN
          go_wp2_with fail
          refine (HD1.out _ HR.out.2.2).mono ?_
          rintro e w3 ⟨A3, c3, rfl, hf3⟩
          have H3 := Lib.hid (show Ahead w w3 g L at_ (at_ - 1) from by
            have := hf3.out.1
            rw [show at_ - 1 + 1 = at_ by omega] at this
            exact this)
          clear hf3 HD1 HR
          go_wp2_with fail
          refine (HD2.out _ H3.out).mono ?_
          rintro e w4 ⟨A4, c4, rfl, hf4⟩
          clear H3 HD2
          have hcc := hf4.out.2
          go_wp2
          go_roundw
          case rel => exact ⟨k + 1, n + c, at_ + 1, at_, by omega, by go_num, by go_num, by omega, by omega, by omega, Lib.hid ⟨by rw [HC.out.1]; omega, by rw [HC.out.1]; omega, hf4.out.1⟩⟩
          case measure => simp [intOf]; omega
set_option maxHeartbeats 2000000 in
theorem long (w : World) (A : Option Addr) (len cap : Nat) (hl : 60 < len) :
    Calls Tryd.prog 9 #[.slice A len cap] w fun e w' => e = .returned (.bool true) ∧ Below w.heap.size w w' := by
  have hlen : (60 : Int) < (len : Int) := by omega
  go_enter Tryd.func9, Tryd.ntmps9
  go_wp2
  go_ret
  exact ⟨rfl, (Mods.refl [] w).below⟩
theorem walk (v : Value) (w : World) (o : IsInts w v) (hL : laidMetH Tryd.prog Rows.wheelNextRow.laid w) :
    Calls Tryd.prog 9 #[v] w fun e w' => e = .returned (.bool true) ∧ Below w.heap.size w w' := by
  rw [MakeChecks.laidMetH_plain _ _ _ (by kernel_rfl)] at hL
  have ht := tz_of hL rfl
  rcases o with ⟨a, cap, rfl⟩ | ⟨b, off, len, cap, f, rfl, h0, hlc, hcm, hb, hf⟩
  · exact main w ht a 0 cap (fun _ => 0) (Nat.zero_le _) (fun j hj => absurd hj (by omega))
  · by_cases hl : len ≤ 60
    · exact main w ht _ len cap f hl (fun j hj => ⟨b, off, rfl, hb, hf j hj⟩)
    · exact long w _ len cap (by omega)

theorem own : ownKnob Tryd.prog.godebug = none := by kernel_rfl
theorem laidOut : laidOutB Tryd.prog = true := by kernel_rfl
set_option maxRecDepth 100000 in
theorem lifted (os : Os) (started : os.Started) (H : Type) (enc : TypeId × Value → H) :
    ReturnsInHanded {} Tryd.checked os 9 .any (fun w args => (Rows.wheelNextSpec.pre enc Tryd.prog Tryd.f9 [] false w args ∧ laidMetH Tryd.prog Rows.wheelNextRow.laid w) ∧ sizedMet enc Tryd.prog Tryd.f9 (OpenSpec.ofChange Rows.wheelNextSpec) false w args)
      (Rows.wheelNextSpec.post enc Tryd.prog Tryd.f9 false true false false) := by
  refine returnsInHanded_of_change_and (C := Tryd.checked) (X := fun w _ => laidMetH Tryd.prog Rows.wheelNextRow.laid w) (fun _ _ _ hh h => h.of_heap hh) own started (by kernel_rfl) Tryd.func9
    (ChangeSpec.witness_shaped (enc := enc) (C := Tryd.checked) (os := os) (X := fun w _ => laidMetH Tryd.prog Rows.wheelNextRow.laid w) false (World.laidAll Tryd.prog os Rows.wheelNextRow.laid) #[.slice none 0 0] 8 (World.laidAll_os _ _ _)
      (World.shaped_of_ZipB (by kernel_rfl) (by kernel_rfl)) (by kernel_rfl) (by kernel_rfl) (by kernel_rfl)
      (by rw [MakeChecks.laidMetH_plain _ _ _ (by kernel_rfl)]; exact laidMet_laidAll _ (by kernel_rfl) (by kernel_rfl))) ?_
  intro W base args ds gs before hval0 hW hcnd hsz0 hL _
  have hsz : (DataW.weightsEach Tryd.prog (Tryd.f9.params.toList ++ Rows.wheelNextSpec.plain.varTypes Tryd.prog) (ds ++ gs)).all (· ≤ reachBytes) = true := hsz0
  have hval : ∀ (j : Nat) t v, Tryd.f9.params[j]? = some t → args[j]? = some v → Value.okWide Tryd.prog W .any base t v := hval0
  have hW' := hW
  obtain ⟨p, q, hA0, hV, rfl, hfz, hnd⟩ := hW
  have hA : DataW.TrodAll enc Tryd.prog W 0 (fun _ => true) true Tryd.f9.params.toList args.toList ds p := hA0
  rw [Tryd.params9] at hA hval hsz
  obtain ⟨v0, vs0, d0, ds0, p0, q0, hargs, rfl, rfl, h0, r0⟩ := trodAll_cons hA
  obtain ⟨rfl, rfl, rfl⟩ := trodAll_nil r0
  obtain rfl : args = #[v0] := by cases args; simp_all
  obtain ⟨rfl, rfl⟩ := trodVars_none hV
  have k0 := h0
  have lt0 : ∀ x ∈ p0, x.block < W.heap.size := by obtain ⟨m, hm⟩ := k0; exact DataW.trod_lt m _ _ _ hm
  obtain o0 := open_nums (hval 0 49 v0 rfl rfl) k0
  clear hA0 hval0 hsz0 hsz
  refine (walk v0 W o0 hL).mono fun e W' ⟨he, bel⟩ => ?_
  subst he
  exact ⟨_, rfl, _, _, _, [], _, [], hW', trodAll_mk1 (shut_bool Tryd.underlying4 _), (trodAll_cons_mk (Below.trod laidOut (by kernel_rfl) (of_decide_eq_true (by kernel_rfl)) k0 bel lt0) trodAll_mk0), rfl, bel.frame _, fun h => by cases h⟩

theorem over : Rows.wheelNextRow.holds Tryd.pinned (OpenSpec.ofChange Rows.wheelNextSpec) :=
  OpenClaim.holds_of_wide 9 Tryd.f9 rfl rfl rfl rfl rfl rfl rfl ⟨rfl, rfl, rfl, rfl, rfl⟩ rfl rfl rfl rfl rfl (by kernel_rfl) Tryd.func9 (by kernel_rfl)
    (of_decide_eq_true (by kernel_rfl)) (by unfold Func.isWrapper; first | (rw [if_pos (by decide +kernel)]; kernel_rfl) | (rw [if_neg (by decide +kernel)]; exact ⟨rfl, rfl⟩))
    (fun os started H enc _ => lifted os started H enc)

theorem said : Rows.WheelNextSaid := over
theorem plain (f : FuncId) (fn : Func) (hf : Tryd.pinned.checked.prog.funcNamed "usher/usherlaw6.WheelNext" = some f) (hfn : Tryd.pinned.checked.prog.funcs[f]? = some fn) :
    false = Tryd.pinned.checked.prog.looks [] ∧ ∀ (j : Nat) t, fn.params[j]? = some t → Tryd.pinned.checked.prog.wantsStandIn t = false := by
  obtain rfl : f = 9 := Option.some.inj ((show Tryd.prog.funcNamed "usher/usherlaw6.WheelNext" = some 9 by kernel_rfl).symm.trans hf) |>.symm
  obtain rfl : fn = Tryd.f9 := (Option.some.inj (Tryd.func9.symm.trans hfn)).symm
  refine ⟨by kernel_rfl, fun j t ht => ?_⟩
  rw [Tryd.params9] at ht
  have hm : t ∈ [49] := by simpa using Array.mem_of_getElem? ht
  simp only [List.mem_cons, List.mem_nil_iff, or_false] at hm
  rcases hm with rfl
  · exact (show Tryd.prog.wantsStandIn 49 = false by kernel_rfl)
theorem proved : Rows.WheelNextCardSaid :=
  Claim7.holds_tied_plain_at .later [] _ _ _ _ said (fun _ h => by cases h) (by kernel_rfl) (fun _ h => by cases h) wheelNext_row_tie rfl ⟨rfl, rfl⟩ (by kernel_rfl) rfl plain (by kernel_rfl)
end Go.Proofs.YtgfmjkbelciaaaaDoor.wheelNext
