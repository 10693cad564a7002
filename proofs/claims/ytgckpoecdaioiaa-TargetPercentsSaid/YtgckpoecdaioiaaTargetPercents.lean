/- For every bytes, a path of them, each written as a percent, is that path, clean: the law returns true. Condition: none. -/
import Derived.Test.YtgckpoecdaioiaaRows
import Derived.WalkKit
import Derived.ProofKit
import Derived.OpenShut
import Derived.ShutString
import Derived.ChangeOld
import Derived.Below
import Derived.SizedLaws
import Derived.Test.YtgckpoecdaioiaaTr11
import Derived.Test.YtgckpoecdaioiaaUf11
import Derived.Test.YtgckpoecdaioiaaTu11
import Derived.Deep.CutBlock
import Derived.Laws.BytesArg
import Derived.Test.YtgckpoecdaioiaaTy11
namespace Go.Proofs.Ytgckpoecdaioiaa.targetPercents
open Go.ChangeShapes Go.WideShapes Go.ChangeAt Go.RowKit
open Go.ChangeMaps (open_string shut_string)
set_option linter.unusedVariables false

theorem BytesAt.below {w w' : World} {v : Value} {l : List UInt8} (h : BytesAt w v l) (hb : Below w.heap.size w w') : BytesAt w' v l := by
  obtain ⟨A, c, hv, h1, h2, h3⟩ := h
  refine ⟨A, c, hv, h1, h2, fun j hj => ?_⟩
  obtain ⟨b, off, hA, hlt, hc⟩ := h3 j hj
  exact ⟨b, off, hA, Nat.lt_of_lt_of_le hlt hb.size, (hb.cell (p := ⟨b, off + j, none⟩) hlt).trans hc⟩
theorem conv_at {w : World} {A : Option Addr} {c : Nat} {l : List UInt8} (h : BytesAt w (.slice A l.length c) l) : (convert 42 9 (.slice A l.length c)).run Try.prog w = .ok (.string (ofL l)) w := by
  obtain ⟨A', c', hv, h1, h2, h3⟩ := h
  injection hv with e1 e2 e3
  subst e1 e3
  cases A with
  | none =>
    have h0 : l = [] := by
      cases l with
      | nil => rfl
      | cons x r =>
        obtain ⟨b, off, hA, _⟩ := h3 0 (by simp)
        cases hA
    subst h0
    exact run_convert_bytes_nil w 42 5 Try.underlying42 Try.underlying5 0 c 9 Try.underlying9
  | some a =>
    refine run_convert_bytes_back w 42 9 5 a c l Try.underlying42 Try.underlying5 Try.underlying9 fun j hj => ?_
    obtain ⟨b, off, hA, hlt, hc⟩ := h3 j hj
    injection hA with hA
    subst hA
    rw [add_none]; exact hc
theorem back2 (x y : UInt8) (w : World) : (convert 42 9 (.slice (some ⟨w.heap.size, 0, none⟩) 2 2)).run Try.prog (w.alloc (.cells #[.int .u8 (x.toNat : Int), .int .u8 (y.toNat : Int)] 5)) = .ok (.string ⟨#[x, y]⟩) (w.alloc (.cells #[.int .u8 (x.toNat : Int), .int .u8 (y.toNat : Int)] 5)) :=
  run_convert_bytes_back (P := Try.prog) (w.alloc (.cells #[.int .u8 (x.toNat : Int), .int .u8 (y.toNat : Int)] 5)) 42 9 5 ⟨w.heap.size, 0, none⟩ 2 [x, y] Try.underlying42 Try.underlying5 Try.underlying9 (fun j hj => by
    have := cells_new w [.int .u8 (x.toNat : Int), .int .u8 (y.toNat : Int)] 5 j
    rcases (by simp at hj; omega : j = 0 ∨ j = 1) with rfl | rfl
    · exact this _ rfl
    · exact this _ rfl)
theorem lows_all : ∀ n : Fin 16, (⟨#[48, 49, 50, 51, 52, 53, 54, 55, 56, 57, 97, 98, 99, 100, 101, 102]⟩ : ByteArray)[n.1]'(n.2) = lowsL.getD n.1 0 := by decide +kernel
theorem lows_at (i : Int) (n : Nat) (hn : n < 16) (e : i.toNat = n) (hp : i.toNat < (⟨#[48, 49, 50, 51, 52, 53, 54, 55, 56, 57, 97, 98, 99, 100, 101, 102]⟩ : ByteArray).size) : (⟨#[48, 49, 50, 51, 52, 53, 54, 55, 56, 57, 97, 98, 99, 100, 101, 102]⟩ : ByteArray)[i.toNat]'hp = lowsL.getD n 0 := by
  subst e
  exact lows_all ⟨i.toNat, hn⟩
theorem grow_pc (l : List UInt8) (c x y : UInt8) (hx : x = lowsL.getD (c.toNat / 16) 0) (hy : y = capsL.getD (c.toNat % 16) 0) : ofL (47 :: percs l) ++ ⟨#[37]⟩ ++ ⟨#[x, y]⟩ = ofL (47 :: percs (l ++ [c])) := by
  subst hx hy
  apply bytes_ext
  rw [ByteArray.data_append, ByteArray.data_append, Array.toList_append, Array.toList_append, ofL_list, ofL_list, percs_snoc]
  simp [pcL]

set_option maxRecDepth 100000 in
set_option maxHeartbeats 2000000 in
theorem walk (w : World) (v : Value) (l : List UInt8) (o : BytesAt w v l) :
    Calls Try.prog 10 #[v] w fun e w' => e = .returned (.bool true) ∧ Below w.heap.size w w' := by
  have HO := Lib.hid o
  obtain ⟨A, c, rfl, hlc, hcc, hcell⟩ := o
  have HC := Lib.hid hcell
  clear hcell
  by_cases hl : 60 < l.length
  · go_enter Try.func10, Try.ntmps10
    go_wp2
    go_ret
    exact ⟨rfl, Below.refl _ _⟩
  · have hl60 : l.length ≤ 60 := by omega
    clear hl
    have hback := back2
    go_enter Try.func10, Try.ntmps10
    go_wp2
    go_loopw [3, 4] (fun sv i wr => ∃ (k : Nat), k ≤ l.length ∧ i = .int .i64 k ∧ sv = .string (ofL (47 :: percs (l.take k))) ∧ (∀ x ∈ l.take k, x ≠ 0) ∧ Below w.heap.size w wr) (fun _ i _ => l.length - (intOf i).toNat)
    case atStart => exact ⟨0, Nat.zero_le _, rfl, rfl, (fun x hx => by simp at hx), Below.refl _ _⟩
    case round =>
      obtain ⟨k, hk, rfl, rfl, hno, hbel⟩ := hrel
      have HN := Lib.hid hno
      have HB := Lib.hid hbel
      clear hno hbel
      by_cases hlt : k < l.length
      · obtain ⟨b, off, hA, hb, hc0⟩ := HC.out k hlt
        have hcell := (HB.out.cell (p := ⟨b, off + k, none⟩) hb).trans hc0
        subst hA
        have HTK := Lib.hid (show l.take (k + 1) = l.take k ++ [l[k]] from List.take_succ_eq_append_getElem hlt)
        clear hc0
        by_cases h0 : l[k] = 0
        · have e1 : ((l[k].toNat : Int) == 0) = true := by rw [h0]; rfl
          clear h0
          go_wp2_with (go_at_call 13; refine (known_l _).mono ?_; rintro e w5 ⟨rfl, hm⟩; have M5 := Lib.hid (HB.out.trans (hm.below.mono HB.out.size)); clear hm)
          go_ret
          exact ⟨rfl, M5.out⟩
        · have e1 : ((l[k].toNat : Int) == 0) = false := by have := (b_no 0 h0).1; simpa using this
          have HN2 := Lib.hid (show ∀ x ∈ l.take (k + 1), x ≠ 0 from fun x hx => by
            rw [HTK.out] at hx
            rcases List.mem_append.1 hx with hx | hx
            · exact HN.out x hx
            · simp at hx; subst hx; exact h0)
          have hsz : (ofL (47 :: percs (l.take k))).size ≤ 1000 := by rw [ofL_size, List.length_cons, percs_len, List.length_take]; omega
          have HG := Lib.hid (grow_pc (l.take k) l[k])
          clear h0
          obtain ⟨S, hS⟩ : ∃ S, S = ofL (47 :: percs (l.take k)) := ⟨_, rfl⟩
          rw [← hS] at hsz HG ⊢
          clear hS
          obtain ⟨q, hq⟩ : ∃ q, q = l[k] := ⟨_, rfl⟩
          rw [← hq] at hcell e1 HG HTK
          clear hq
          have hb2 := q.toNat_lt
          have i1 : (0 : Int) ≤ (q.toNat : Int) / 16 := by omega
          have i2 : (q.toNat : Int) / 16 < 16 := by omega
          have j3 : (0 : Int) ≤ (q.toNat : Int) % 16 := by omega
          have j4 : (q.toNat : Int) % 16 < 16 := by omega
          have hi1 : q.toNat / 16 < (⟨#[48, 49, 50, 51, 52, 53, 54, 55, 56, 57, 97, 98, 99, 100, 101, 102]⟩ : ByteArray).size := by show _ < 16; omega
          have hi2 : q.toNat % 16 < (⟨#[48, 49, 50, 51, 52, 53, 54, 55, 56, 57, 65, 66, 67, 68, 69, 70]⟩ : ByteArray).size := by show _ < 16; omega
          have hbk := back2 ((⟨#[48, 49, 50, 51, 52, 53, 54, 55, 56, 57, 97, 98, 99, 100, 101, 102]⟩ : ByteArray)[q.toNat / 16]'hi1) ((⟨#[48, 49, 50, 51, 52, 53, 54, 55, 56, 57, 65, 66, 67, 68, 69, 70]⟩ : ByteArray)[q.toNat % 16]'hi2) wr.drew
          simp only [World.size_drew] at hbk
          change Sem.run _ _ (World.drew (World.alloc wr _)) = .ok _ (World.drew (World.alloc wr _)) at hbk
          have HG2 := Lib.hid (HG.out ((⟨#[48, 49, 50, 51, 52, 53, 54, 55, 56, 57, 97, 98, 99, 100, 101, 102]⟩ : ByteArray)[q.toNat / 16]'hi1) ((⟨#[48, 49, 50, 51, 52, 53, 54, 55, 56, 57, 65, 66, 67, 68, 69, 70]⟩ : ByteArray)[q.toNat % 16]'hi2) (lows_all ⟨q.toNat / 16, hi1⟩) (caps_all ⟨q.toNat % 16, hi2⟩))
          clear hback HG
          go_wp2
          go_region
          all_goals
            go_wp2
            go_roundw
            case rel => exact ⟨k + 1, by omega, by go_num, by rw [HTK.out, ← HG2.out], HN2.out, (HB.out.alloc HB.out.size _).drew⟩
            case measure => simp [intOf]; omega
      · obtain rfl : k = l.length := by omega
        have hno := HN.out
        rw [List.take_length] at hno
        rw [List.take_length]
        have hsz : (ofL (47 :: percs l)).size ≤ 900000 := by rw [ofL_size, List.length_cons, percs_len]; omega
        have HP := Lib.hid (fun w => parse_a ⟨#[71, 69, 84]⟩ (ofL (47 :: percs l)) w (by decide) hsz)
        unfold TAns at HP
        rw [ofL_list, show (⟨#[71, 69, 84]⟩ : ByteArray).data.toList = getL from rfl] at HP
        have hcl : (⟨#[47]⟩ ++ ofL l : ByteArray).data.toList = 47 :: l := by rw [ByteArray.data_append, Array.toList_append, ofL_list]; rfl
        have hcs : (⟨#[47]⟩ ++ ofL l : ByteArray).size ≤ 1000000 := by rw [ByteArray.size_append, ofL_size]; show 1 + _ ≤ _; omega
        have hls : (ofL l).size ≤ 1000 := by rw [ofL_size]; omega
        have HCL := Lib.hid (fun w => clean_a (⟨#[47]⟩ ++ ofL l) hcs w)
        rw [hcl] at HCL
        obtain ⟨S, hS⟩ : ∃ S, S = ofL (47 :: percs l) := ⟨_, rfl⟩
        rw [← hS] at HP ⊢
        obtain ⟨L, hL⟩ : ∃ L, L = ofL l := ⟨_, rfl⟩
        have HCV := Lib.hid (fun w2 (hb : Below w.heap.size w w2) => conv_at (BytesAt.below (v := .slice A l.length c) HO.out hb))
        rw [← hL] at HCL HCV hls
        clear hS hL hcl hcs hsz HN hback
        cases hc : clnL (47 :: l) with
        | none =>
          rw [percs_no hno hl60 hc] at HP
          simp only [Tgt.cells, noT, noB] at HP
          rw [clnA_no hc] at HCL
          clear hc hno
          go_upto_region 11 with (go_at_call 11; refine (HP.out _).mono ?_; rintro e w2 ⟨rfl, hm⟩; have B2 := Lib.hid (HB.out.trans (hm.below.mono HB.out.size)); have hcv := HCV.out _ (B2.out.alloc B2.out.size (.cells #[.int .i64 0, .string ⟨#[]⟩, .string ⟨#[]⟩, .string ⟨#[]⟩] 23)); clear hm)
          go_wp2_with (first
            | (go_at_call 18; refine (HCL.out _).mono ?_; rintro e w3 ⟨rfl, hm⟩; have B3 := Lib.hid ((B2.out.alloc B2.out.size _).trans (hm.below.mono (B2.out.alloc B2.out.size _).size)); clear hm)
            | (go_at_call 13; refine (known_l _).mono ?_; rintro e w5 ⟨rfl, hm⟩; have B5 := Lib.hid (B3.out.trans (hm.below.mono B3.out.size)); clear hm))
          go_ret
          exact ⟨rfl, B5.out⟩
        | some p =>
          rw [percs_yes hno hl60 hc] at HP
          rw [clnA_yes hc] at HCL
          obtain ⟨pa, hpa⟩ : ∃ pa, pa = ofL p := ⟨_, rfl⟩
          rw [← hpa] at HP HCL
          simp only [Tgt.cells, noB] at HP
          clear hc hno hpa
          go_upto_region 11 with (go_at_call 11; refine (HP.out _).mono ?_; rintro e w2 ⟨rfl, hm⟩; have B2 := Lib.hid (HB.out.trans (hm.below.mono HB.out.size)); have hcv := HCV.out _ (B2.out.alloc B2.out.size (.cells #[.int .i64 1, .string ⟨#[]⟩, .string pa, .string ⟨#[]⟩] 23)); clear hm)
          go_wp2_with (first
            | (go_at_call 18; refine (HCL.out _).mono ?_; rintro e w3 ⟨rfl, hm⟩; have B3 := Lib.hid ((B2.out.alloc B2.out.size _).trans (hm.below.mono (B2.out.alloc B2.out.size _).size)); have T3 := (Row.new w2 23 #[.int .i64 1, .string ⟨#[]⟩, .string pa, .string ⟨#[]⟩]).mods hm (by simp); obtain ⟨d0, d1, d2, d3⟩ := T3.facts4; have TT := Lib.hid T3; clear T3 hm)
            | (go_at_call 13; refine (known_l _).mono ?_; rintro e w5 ⟨rfl, hm⟩; have B5 := Lib.hid (B3.out.trans (hm.below.mono B3.out.size)); clear hm))
          go_ret
          exact ⟨rfl, B5.out⟩

theorem own : ownKnob Try.prog.godebug = none := by kernel_rfl
theorem laidOut : laidOutB Try.prog = true := by kernel_rfl
set_option maxRecDepth 100000 in
theorem lifted (os : Os) (started : os.Started) (H : Type) (enc : TypeId × Value → H) :
    ReturnsInHanded {} Try.checked os 10 .any (Rows.targetPercentsSpec.pre6 enc Try.prog Try.f10 Rows.targetPercentsRow.domain false) (Rows.targetPercentsSpec.post enc Try.prog Try.f10 false true false false) := by
  refine returnsInHanded_of_change_sized (C := Try.checked) own started (by kernel_rfl) Try.func10
    (ChangeSpec.witness6 (enc := enc) (C := Try.checked) false ⟨#[], #[.slice none 0 0], []⟩ 8 (by kernel_rfl) (by kernel_rfl) (by kernel_rfl) (by kernel_rfl)) ?_
  intro W base args ds gs before hval0 hW hcnd hsz0 _
  have hsz : (DataW.weightsEach Try.prog (Try.f10.params.toList ++ Rows.targetPercentsSpec.plain.varTypes Try.prog) (ds ++ gs)).all (· ≤ reachBytes) = true := hsz0
  have hval : ∀ (j : Nat) t v, Try.f10.params[j]? = some t → args[j]? = some v → Value.okWide Try.prog W .any base t v := hval0
  have hW' := hW
  obtain ⟨p, q, hA0, hV, rfl, hfz, hnd⟩ := hW
  have hA : DataW.TrodAll enc Try.prog W 0 (fun _ => true) true Try.f10.params.toList args.toList ds p := hA0
  rw [Try.params10] at hA hval hsz
  obtain ⟨v0, vs0, d0, ds0, p0, q0, hargs, rfl, rfl, h0, r0⟩ := trodAll_cons hA
  obtain ⟨rfl, rfl, rfl⟩ := trodAll_nil r0
  obtain rfl : args = #[v0] := by cases args; simp_all
  obtain ⟨rfl, rfl⟩ := trodVars_none hV
  have k0 := h0
  have lt0 : ∀ x ∈ p0, x.block < W.heap.size := by obtain ⟨m, hm⟩ := k0; exact DataW.trod_lt m _ _ _ hm
  obtain ⟨l0, o0⟩ := open_bytes11 (hval 0 42 v0 rfl rfl) k0 (fun n hn => by simpa using List.all_eq_true.1 hsz n (DataW.weights_mem_each (j := 0) (t := 42) rfl rfl n hn))
  clear hA0 hval0 hsz0 hsz
  refine (walk W v0 l0 o0).mono fun e W' ⟨he, bel⟩ => ?_
  subst he
  exact ⟨_, rfl, _, _, _, [], _, [], hW', trodAll_mk1 (shut_bool Try.underlying4 _), (trodAll_cons_mk (Below.trod laidOut (by kernel_rfl) (of_decide_eq_true (by kernel_rfl)) k0 bel lt0) trodAll_mk0), rfl, bel.frame _, fun h => by cases h⟩

theorem over : Rows.targetPercentsRow.holds Try.pinned (OpenSpec.ofChange Rows.targetPercentsSpec) :=
  OpenClaim.holds_of_wide 10 Try.f10 rfl rfl rfl rfl rfl rfl rfl ⟨rfl, rfl, rfl, rfl, rfl⟩ rfl rfl rfl rfl rfl (by kernel_rfl) Try.func10 (by kernel_rfl)
    (of_decide_eq_true (by kernel_rfl)) (by unfold Func.isWrapper; first | (rw [if_pos (by decide +kernel)]; kernel_rfl) | (rw [if_neg (by decide +kernel)]; exact ⟨rfl, rfl⟩))
    (fun os started H enc _ => lifted os started H enc)

theorem proved : Rows.TargetPercentsSaid := over
end Go.Proofs.Ytgckpoecdaioiaa.targetPercents
