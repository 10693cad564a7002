/- For every two lists of texts, names and values, written out, are these parameters: the law returns true. Condition: the library's tables are laid as its initialisers lay them. -/
import Derived.Test.YtfnjkkjpffnbiaaDoorCards
import Derived.Test.YtfnjkkjpffnbiaaDoorTie
import Derived.Lay
import Derived.LaidOnce
import Derived.MakeChecks
import Derived.SevenTiedAt
import Derived.WalkKit
import Derived.ProofKit
import Derived.OpenShut
import Derived.ShutString
import Derived.ChangeOld
import Derived.Below
import Derived.SizedLaws
import Derived.Test.YtfnjkkjpffnbiaaDoorLi9
import Derived.Test.YtfnjkkjpffnbiaaDoorOpen9
import Derived.Carry
import Derived.Deep.RegionHeld3
import Derived.Deep.QuietTactic
import Derived.BigQuiet
import Derived.Deep.CutBlock
namespace Go.Proofs.YtfnjkkjpffnbiaaDoor.listBack
open Go.ChangeShapes Go.WideShapes Go.ChangeAt Go.RowKit
open Go.ChangeMaps (open_string shut_string)
set_option linter.unusedVariables false

theorem low_next {w a b : World} (h : Below w.heap.size w a) (k : Below a.heap.size a b) : Below w.heap.size w b := h.trans (k.mono h.size)
theorem esc_snoc (l : List UInt8) (c : UInt8) : escL (l ++ [c]) = escL l ++ (if c = 34 ∨ c = 92 then [92, c] else [c]) := by
  induction l with
  | nil => simp only [List.nil_append, escL]
  | cons d r ih =>
    simp only [List.cons_append, escL]
    by_cases h : d = 34 ∨ d = 92 <;> simp [h, ih]
theorem esc_len (l : List UInt8) : (escL l).length ≤ 2 * l.length := by
  induction l with
  | nil => simp [escL]
  | cons c r ih =>
    simp only [escL]
    split <;> simp only [List.length_cons] <;> omega
theorem quoted_esc (v : List UInt8) : quotedL (34 :: (escL v ++ [34])) = if valL v = true then some (v, (escL v).length + 2) else none := by
  rw [quoted_yes, qscan_esc]
  cases valL v <;> simp
theorem qans_esc {v : List UInt8} (h : valL v = true) : qans (34 :: (escL v ++ [34])) = (v, (escL v).length + 2) := by unfold qans; rw [quoted_esc, if_pos h]; rfl
theorem qans_bad {v : List UInt8} (h : valL v = false) : qans (34 :: (escL v ++ [34])) = ([], 0) := by unfold qans; rw [quoted_esc, if_neg (by rw [h]; simp)]; rfl
/-- One name that is a token in small letters. -/
theorem one_tok {n : ByteArray} (hK : tokK [n] = true) (hM : tokM [n] = [n]) : tokL n.data.toList = true := by
  unfold tokK at hK
  unfold tokM at hM
  cases hL : toksO [n] with
  | none => rw [hL] at hK; cases hK
  | some L =>
    rw [hL] at hM
    simp only [Option.getD_some] at hM
    cases L with
    | nil => simp at hM
    | cons x r =>
      simp only [List.map_cons, List.cons.injEq] at hM
      obtain ⟨t, e, ht⟩ := tokO_mem hL x (by simp)
      have : x = n.data.toList := by rw [← hM.1]; rfl
      rw [← this, e, tokL_low]; exact ht
theorem step_run_app {P : Program} {o : Oper} {a : Act} {w w' : World} {K : Act → World → Prop} {Q : Exit → Act → World → Prop} {s x : Operand} {t : TypeId} {v u v' : Value}
    (ho : o.op = .call { callee := .builtin .append, args := #[s, x], argTypes := #[t, t] }) (hs : a.eval s = v) (hx : a.eval x = u)
    (hr : (Builtin.append_ #[t, t] o.type #[v, u]).run P w = .ok v' w') (hK : K (a.put o.dst v') w') : Oper.wp P o a w K Q := by
  unfold Oper.wp
  simp [execOp, ho, resolve, invoke, builtin, hs, hx, hr, Result.andThen]
  exact hK
/-- What the loop has written and gathered. -/
structure Wrote (w : World) (A B : List ByteArray) (k : Nat) (S : ByteArray) (ps : List PV) (v : Value) (wr : World) : Prop where
  list : S.data.toList = ps.flatMap encP
  len : ps.length = k
  good : ∀ p ∈ ps, tokL p.1 = true ∧ valL p.2 = true
  size : S.size ≤ k * 9006
  row : GP w ps v wr
theorem encP_len (p : PV) : (encP p).length ≤ 6 + p.1.length + 2 * p.2.length := by
  have := esc_len p.2
  unfold encP; simp only [List.length_append, List.length_cons, List.length_nil]; omega
theorem Wrote.more {w wr wr' : World} {A B : List ByteArray} {k : Nat} {S S' : ByteArray} {ps : List PV} {v v' : Value} (h : Wrote w A B k S ps v wr) {n x : ByteArray} (hn : tokL n.data.toList = true) (hx : valL x.data.toList = true) (hns : n.size ≤ 3000) (hxs : x.size ≤ 3000)
    (hS : S'.data.toList = S.data.toList ++ encP (n.data.toList, x.data.toList)) (hg : GP w (ps ++ [(n.data.toList, x.data.toList)]) v' wr') : Wrote w A B (k + 1) S' (ps ++ [(n.data.toList, x.data.toList)]) v' wr' := by
  refine ⟨by rw [hS, h.list, List.flatMap_append]; simp, by rw [List.length_append, h.len]; rfl, fun p hp => ?_, ?_, hg⟩
  · rw [List.mem_append] at hp
    rcases hp with hp | hp
    · exact h.good p hp
    · simp at hp; subst hp; exact ⟨hn, hx⟩
  · have h1 := congrArg List.length hS
    have h2 := encP_len (n.data.toList, x.data.toList)
    have h3 := h.size
    have e1 : S'.data.toList.length = S'.size := rfl
    have e2 : S.data.toList.length = S.size := rfl
    have e3 : n.data.toList.length = n.size := rfl
    have e4 : x.data.toList.length = x.size := rfl
    rw [List.length_append] at h1
    simp only at h2
    omega
theorem at_size {A : List ByteArray} (h : sizes A ≤ 3000) (k : Nat) (hk : k < A.length) : A[k].size ≤ 3000 := by have := sizes_at A k hk; omega

set_option maxRecDepth 100000 in
set_option maxHeartbeats 4000000 in
theorem walk (w : World) (v1 : Value) (o1 : IsStrs9 w v1) (v2 : Value) (o2 : IsStrs9 w v2) :
    Calls Tryd.prog 7 #[v1, v2] w fun e w' => e = .returned (.bool true) ∧ Below w.heap.size w w' := by
  obtain ⟨A, a1, c1, rfl, hc1, hA, hzA, hlA⟩ := o1
  obtain ⟨B, a2, c2, rfl, hc2, hB, hzB, hlB⟩ := o2
  have hhA := heavy_l A _ w hA hzA hlA
  have hhB := heavy_l B _ w hB hzB hlB
  by_cases hbA : 3000 < sizes A
  · rw [decide_eq_true hbA] at hhA
    clear hbA hhB
    go_enter Tryd.func7, Tryd.ntmps7
    go_wp2_with (go_at_call 9; refine hhA.mono ?_; rintro e w' ⟨rfl, rfl⟩)
    go_ret
    exact ⟨rfl, Below.refl _ _⟩
  rw [decide_eq_false hbA] at hhA
  by_cases hbB : 3000 < sizes B
  · rw [decide_eq_true hbB] at hhB
    clear hbB hbA
    go_enter Tryd.func7, Tryd.ntmps7
    go_wp2_with (first
      | (go_at_call 9; refine hhA.mono ?_; rintro e w' ⟨rfl, rfl⟩; clear hhA)
      | (go_at_call 9; refine hhB.mono ?_; rintro e w' ⟨rfl, rfl⟩; clear hhB))
    go_ret
    exact ⟨rfl, Below.refl _ _⟩
  rw [decide_eq_false hbB] at hhB
  by_cases h16 : 16 < A.length
  · clear hbB hbA
    go_enter Tryd.func7, Tryd.ntmps7
    go_wp2_with (first
      | (go_at_call 9; refine hhA.mono ?_; rintro e w' ⟨rfl, rfl⟩; clear hhA)
      | (go_at_call 9; refine hhB.mono ?_; rintro e w' ⟨rfl, rfl⟩; clear hhB))
    go_ret
    exact ⟨rfl, Below.refl _ _⟩
  have HSA := Lib.hid (show sizes A ≤ 3000 by omega)
  have HSB := Lib.hid (show sizes B ≤ 3000 by omega)
  have hA16 : A.length ≤ 16 := by omega
  have hBl : B.length ≤ 3000 := by have := sizes_len B; omega
  clear hbA hbB h16 hzA hzB hlA hlB
  have HA := Lib.hid hA
  have HB := Lib.hid hB
  have HC1 := Lib.hid hc1
  clear hA hB hc1 hc2
  go_enter Tryd.func7, Tryd.ntmps7
  go_wp2_with (first
    | (go_at_call 9; refine hhA.mono ?_; rintro e w' ⟨rfl, rfl⟩; clear hhA)
    | (go_at_call 9; refine hhB.mono ?_; rintro e w' ⟨rfl, rfl⟩; clear hhB))
  go_loopw [5, 6, 7] (fun s x i wr => ∃ (k : Nat) (S : ByteArray) (ps : List PV), k ≤ A.length ∧ k ≤ B.length ∧ s = .string S ∧ i = .int .i64 k ∧ Wrote w A B k S ps x wr) (fun _ _ i _ => A.length - (intOf i).toNat)
  case atStart => exact ⟨0, ⟨#[]⟩, [], Nat.zero_le _, Nat.zero_le _, rfl, rfl, rfl, rfl, (fun p h => by cases h), by decide, World.ownsRow_nil _ _ _ _, Below.refl _ _⟩
  case round =>
    obtain ⟨k, S, ps, hkA, hkB, rfl, rfl, hW⟩ := hrel
    have HW := Lib.hid hW
    obtain ⟨va, vc, hv⟩ := hW.row.form
    have hSz : S.size ≤ 150000 := by have := hW.size; omega
    clear hW
    subst hv
    by_cases hlt : k < A.length ∧ k < B.length
    · obtain ⟨hltA, hltB⟩ := hlt
      have hlow := HW.out.row.low
      have HLO := Lib.hid hlow
      clear hlow
      rcases HA.out with ⟨h0, -⟩ | ⟨b1, p1, d1, hv1, -, hb1, hcA⟩
      · exfalso; rw [h0] at hltA; simp at hltA
      injection hv1 with e1 e2 e3
      subst e1
      rcases HB.out with ⟨h0, -⟩ | ⟨b2, p2, d2, hv2, -, hb2, hcB⟩
      · exfalso; rw [h0] at hltB; simp at hltB
      injection hv2 with e4 e5 e6
      subst e4
      clear e2 e3 e5 e6
      have cA : wr.cell? ⟨b1, p1 + k, none⟩ = some (.string A[k]) := (HLO.out.cell (p := ⟨b1, p1 + k, none⟩) hb1).trans (hcA k hltA)
      have cB : wr.cell? ⟨b2, p2 + k, none⟩ = some (.string B[k]) := (HLO.out.cell (p := ⟨b2, p2 + k, none⟩) hb2).trans (hcB k hltB)
      have hA0 := hcA k hltA
      have hB0 := hcB k hltB
      have hNs := at_size HSA.out k hltA
      have hVs := at_size HSB.out k hltB
      obtain ⟨N, hN⟩ : ∃ N, N = A[k] := ⟨_, rfl⟩
      obtain ⟨V, hV⟩ : ∃ V, V = B[k] := ⟨_, rfl⟩
      rw [← hN] at cA hNs hA0
      rw [← hV] at cB hVs hB0
      have HA0 := Lib.hid hA0
      have HB0 := Lib.hid hB0
      clear hA0 hB0
      have hcap := HC1.out
      have hck : ¬ c1 = k := by omega
      have hk1 : k + 1 ≤ c1 := by omega
      clear hN hV hcA hcB
      obtain ⟨K, hK⟩ : ∃ K, K = tokK [N] := ⟨_, rfl⟩
      obtain ⟨M, hM⟩ : ∃ M, M = tokM [N] := ⟨_, rfl⟩
      have hRT : ∀ (c : Nat) w', w'.cell? ⟨b1, p1 + k, none⟩ = some (.string N) → Calls Tryd.prog 11 #[.slice (some ⟨b1, p1 + k, none⟩) 1 c] w' fun e w2 => ∃ a c, e = .returned (.tuple #[.slice a M.length c, .bool K]) ∧ StrsAt w2 (.slice a M.length c) M ∧ Below w'.heap.size w' w2 := fun c w' hc =>
        (reftok [N] _ w' (.inr ⟨b1, p1 + k, c, rfl, by simp, cell_lt hc, fun j hj => by have : j = 0 := (by simp at hj; exact hj); subst this; exact hc⟩) (by show 1 + N.size + 0 ≤ _; omega)).mono fun e w2 he => by
          rw [hM, hK]; exact tok_ans he
      have hkA1 : k + 1 ≤ A.length := hltA
      have HKE := Lib.hid hK
      have HME := Lib.hid hM
      clear hK hM
      clear hkA hkB
      go_upto_region 9 with (go_at_call 11; refine (hRT _ _ cA).mono ?_; rintro e w2 ⟨a3, c3, rfl, h2, hb2'⟩; have H2 := Lib.hid h2; have HB2 := Lib.hid hb2'; have cA2 := (hb2'.cell (p := ⟨b1, p1 + k, none⟩) (cell_lt cA)).trans cA; have cB2 := (hb2'.cell (p := ⟨b2, p2 + k, none⟩) (cell_lt cB)).trans cB; clear h2 hb2')
      have hlow2 := low_next HLO.out HB2.out
      have HL2 := Lib.hid hlow2
      clear hlow2
      -- the list is none, or not this one name: nothing more is asked
      by_cases hgood : K = true ∧ M = [N]
      · obtain ⟨hKt, hMn⟩ := hgood
        have hNt := one_tok (n := N) (by rw [← HKE.out]; exact hKt) (by rw [← HME.out]; exact hMn)
        have HNT := Lib.hid hNt
        subst hKt
        subst hMn
        rcases H2.out with ⟨h0, -⟩ | ⟨b3, p3, d3, hv3, -, hb3, hc3⟩
        · cases h0
        injection hv3 with e1 e2 e3
        subst e1
        have c3a : w2.cell? ⟨b3, p3, none⟩ = some (.string N) := hc3 0 (by simp)
        have hne := (bytes_eq (rfl : N = N)).1
        clear hNt hc3 e2 e3
        go_quiet (fail)
        obtain ⟨W, hWe⟩ : ∃ W, W = w2.drewN nq := ⟨_, rfl⟩
        have cA4 : W.cell? ⟨b1, p1 + k, none⟩ = some (.string N) := by rw [hWe]; exact cA2
        have cB4 : W.cell? ⟨b2, p2 + k, none⟩ = some (.string V) := by rw [hWe]; exact cB2
        have HLW := Lib.hid (show Below w.heap.size w W by rw [hWe]; exact ⟨HL2.out.os, HL2.out.tape, HL2.out.output, HL2.out.size, HL2.out.block⟩)
        have hbW : Below wr.heap.size wr W := by rw [hWe]; exact ⟨HB2.out.os, HB2.out.tape, HB2.out.output, HB2.out.size, HB2.out.block⟩
        have HGW := Lib.hid (HW.out.row.below hbW)
        rw [← hWe]
        clear hWe cA cB cA2 cB2 c3a hbW
        have HVS := Lib.hid hVs
        go_wp2
        go_loop [10, 11] (fun q i => ∃ (j : Nat) (Q : ByteArray), j ≤ V.size ∧ i = .int .i64 j ∧ q = .string Q ∧ Q.data.toList = 34 :: escL (V.data.toList.take j)) (fun _ i => V.size - (intOf i).toNat)
        case atStart => exact ⟨0, ⟨#[34]⟩, Nat.zero_le _, rfl, rfl, rfl⟩
        case round =>
          obtain ⟨j, Q, hj, rfl, rfl, hQ⟩ := hrel
          have HQ := Lib.hid hQ
          have hQs : Q.size ≤ 2 * j + 1 := by
            have h1 := congrArg List.length hQ
            have h2 := esc_len (V.data.toList.take j)
            rw [List.length_take] at h2
            simp only [List.length_cons] at h1
            have h3 : Q.data.toList.length = Q.size := rfl
            omega
          clear hQ
          by_cases hlt : j < V.size
          · have htk := take_snoc V j hlt
            have hex := ext_one V j hlt
            by_cases hc : V[j] = 34 ∨ V[j] = 92
            · have HN := Lib.hid (show (Q ++ { data := #[92] } ++ V.extract j (j + 1)).data.toList = 34 :: escL (V.data.toList.take (j + 1)) by
                rw [ByteArray.data_append, ByteArray.data_append, Array.toList_append, Array.toList_append, hex, HQ.out, htk, esc_snoc, if_pos hc]; simp)
              clear htk hex
              rcases hc with hc | hc
              · have h1 : ((V[j].toNat : Int) == 34) = true := (byte_yes (c := V[j]) (n := 34) (by decide) hc).1
                clear hc
                go_wp2
                go_round
                case rel => exact ⟨j + 1, _, hlt, by go_num, rfl, HN.out⟩
                case measure => simp [intOf]; omega
              · have h1 : ((V[j].toNat : Int) == 34) = false := (byte_no (c := V[j]) (n := 34) (by decide) (by rw [hc]; decide)).1
                have h2 : ((V[j].toNat : Int) == 92) = true := (byte_yes (c := V[j]) (n := 92) (by decide) hc).1
                clear hc
                go_wp2
                go_round
                case rel => exact ⟨j + 1, _, hlt, by go_num, rfl, HN.out⟩
                case measure => simp [intOf]; omega
            · have HN := Lib.hid (show (Q ++ V.extract j (j + 1)).data.toList = 34 :: escL (V.data.toList.take (j + 1)) by
                rw [ByteArray.data_append, Array.toList_append, hex, HQ.out, htk, esc_snoc, if_neg hc]; simp)
              have h1 : ((V[j].toNat : Int) == 34) = false := (byte_no (c := V[j]) (n := 34) (by decide) (fun e => hc (.inl e))).1
              have h2 : ((V[j].toNat : Int) == 92) = false := (byte_no (c := V[j]) (n := 92) (by decide) (fun e => hc (.inr e))).1
              clear htk hex hc
              go_wp2
              go_round
              case rel => exact ⟨j + 1, _, hlt, by go_num, rfl, HN.out⟩
              case measure => simp [intOf]; omega
          · have hQf : Q.data.toList = 34 :: escL V.data.toList := by have := HQ.out; rw [List.take_of_length_le (by rw [len_data]; omega)] at this; exact this
            have hQl : (Q ++ { data := #[34] }).data.toList = 34 :: (escL V.data.toList ++ [34]) := by rw [ByteArray.data_append, Array.toList_append, hQf]; rfl
            have hQz : (Q ++ { data := #[34] }).size ≤ 1000000 := by rw [ByteArray.size_append]; show Q.size + 1 ≤ _; omega
            have hQn : (escL V.data.toList).length + 2 = Q.size + 1 := by
              have := congrArg List.length hQf
              have h3 : Q.data.toList.length = Q.size := rfl
              simp only [List.length_cons] at this; omega
            have hRQ := fun w' => refquoted (Q ++ { data := #[34] }) w' hQz
            unfold QAns at hRQ
            rw [hQl] at hRQ
            have HQF := Lib.hid hQf
            clear hQl hQz hQf HQ
            cases hvl : valL V.data.toList
            · rw [qans_bad hvl] at hRQ
              have hRQ2 : ∀ w', Calls Tryd.prog 17 #[.string (Q ++ { data := #[34] })] w' fun e w2 => e = .returned (.tuple #[.string ⟨#[]⟩, .int .i64 0]) ∧ Below w'.heap.size w' w2 := fun w' => (hRQ w').mono fun e w2 ⟨h1, h2⟩ => ⟨h1, h2⟩
              have hn0 : ((0 : Int) != (Q.size : Int) + 1) = true := by rw [bne_iff_ne]; omega
              clear hvl hRQ hQn
              go_wp2_with (first
                | (go_at_call 17; refine (hRQ2 _).mono ?_; rintro e w3 ⟨rfl, hb⟩; have HB3 := Lib.hid hb; clear hb)
                | (go_at_call 15; refine (known9 _).mono ?_; rintro e w5 ⟨rfl, hb5⟩; have HB5 := Lib.hid hb5; clear hb5))
              go_ret
              exact ⟨rfl, low_next (low_next HLW.out HB3.out) HB5.out⟩
            · rw [qans_esc hvl] at hRQ
              have hRQ2 : ∀ w', Calls Tryd.prog 17 #[.string (Q ++ { data := #[34] })] w' fun e w2 => e = .returned (.tuple #[.string V, .int .i64 ((Q.size : Int) + 1)]) ∧ Below w'.heap.size w' w2 := fun w' => (hRQ w').mono fun e w2 ⟨h1, h2⟩ => ⟨by
                rw [h1, hQn]; rfl, h2⟩
              have HVL := Lib.hid hvl
              clear hvl hRQ hQn
              have hself : (((Q.size : Int) + 1) != ((Q.size : Int) + 1)) = false := by simp
              go_upto_region 22 with (go_at_call 17; refine (hRQ2 _).mono ?_; rintro e w3 ⟨rfl, hb⟩; have HLQ := Lib.hid (low_next HLW.out hb); have cA5 := (hb.cell (p := ⟨b1, p1 + k, none⟩) (cell_lt cA4)).trans cA4; have cB5 := (hb.cell (p := ⟨b2, p2 + k, none⟩) (cell_lt cB4)).trans cB4; have hgq := HGW.out.below hb; obtain ⟨g, n', c', w4, hrun, hg4⟩ := (GP.below hgq ((Below.refl _ w3).drew)).snoc (by rw [HW.out.len]; omega) N V; have HG4 := Lib.hid hg4; clear hb hgq hg4)
              clear cA4 cB4 hself
              have hSl : (S ++ { data := #[32, 59, 32] } ++ N ++ { data := #[61] } ++ Q ++ { data := #[34] }).data.toList = S.data.toList ++ encP (N.data.toList, V.data.toList) := by
                simp only [ByteArray.data_append, Array.toList_append, HQF.out, List.append_assoc]
                unfold encP
                simp
              have HWN := Lib.hid (HW.out.more HNT.out HVL.out hNs HVS.out hSl HG4.out)
              clear hSl
              simp only [World.size_drew] at hrun
              have cA6 : w4.cell? ⟨b1, p1 + k, none⟩ = some (.string N) := (HG4.out.low.cell (p := ⟨b1, p1 + k, none⟩) hb1).trans HA0.out
              have cB6 : w4.cell? ⟨b2, p2 + k, none⟩ = some (.string V) := (HG4.out.low.cell (p := ⟨b2, p2 + k, none⟩) hb2).trans HB0.out
              go_region_held3 (fun w' => w'.cell? ⟨b1, p1 + k, none⟩ = some (.string N) ∧ w'.cell? ⟨b2, p2 + k, none⟩ = some (.string V)) (go_keep)
                (first
                  | (refine step_run_app rfl rfl rfl hrun ?_))
              all_goals go_wp2
              go_roundw
              case rel => exact ⟨k + 1, _, _, hkA1, hltB, rfl, by go_num, HWN.out⟩
              case measure => simp [intOf]; omega
      · have hbad : K = false ∨ (K = true ∧ M.length ≠ 1) ∨ (K = true ∧ ∃ x, M = [x] ∧ x ≠ N) := by
          cases K with
          | false => exact .inl rfl
          | true =>
            by_cases hl : M.length = 1
            · obtain ⟨x, hx⟩ := List.length_eq_one_iff.1 hl
              exact .inr (.inr ⟨rfl, x, hx, fun e => hgood ⟨rfl, by rw [hx, e]⟩⟩)
            · exact .inr (.inl ⟨rfl, hl⟩)
        clear hgood
        rcases hbad with rfl | ⟨rfl, hl⟩ | ⟨rfl, x, rfl, hx⟩
        · go_quiet (fail)
          go_wp2_with (go_at_call 15; refine (known9 _).mono ?_; rintro e w5 ⟨rfl, hb5⟩; have HB5 := Lib.hid hb5; clear hb5)
          go_ret
          exact ⟨rfl, low_next (b := w5) (a := w2.drewN nq) ⟨HL2.out.os, HL2.out.tape, HL2.out.output, HL2.out.size, HL2.out.block⟩ HB5.out⟩
        · have hl1 : ((M.length : Int) != 1) = true := by rw [bne_iff_ne]; omega
          clear hl
          go_quiet (fail)
          go_wp2_with (go_at_call 15; refine (known9 _).mono ?_; rintro e w5 ⟨rfl, hb5⟩; have HB5 := Lib.hid hb5; clear hb5)
          go_ret
          exact ⟨rfl, low_next (b := w5) (a := w2.drewN nq) ⟨HL2.out.os, HL2.out.tape, HL2.out.output, HL2.out.size, HL2.out.block⟩ HB5.out⟩
        · rcases H2.out with ⟨h0, -⟩ | ⟨b3, p3, d3, hv3, -, hb3, hc3⟩
          · cases h0
          injection hv3 with e1 e2 e3
          subst e1
          have c3a : w2.cell? ⟨b3, p3, none⟩ = some (.string x) := hc3 0 (by simp)
          have hne := (bytes_ne hx).1
          clear hc3 e2 e3 hx
          go_quiet (fail)
          go_wp2_with (go_at_call 15; refine (known9 _).mono ?_; rintro e w5 ⟨rfl, hb5⟩; have HB5 := Lib.hid hb5; clear hb5)
          go_ret
          exact ⟨rfl, low_next (b := w5) (a := w2.drewN nq) ⟨HL2.out.os, HL2.out.tape, HL2.out.output, HL2.out.size, HL2.out.block⟩ HB5.out⟩
    · have hend : (k < A.length → ¬ k < B.length) := fun h1 h2 => hlt ⟨h1, h2⟩
      have hpar := params_a S
      have hpl : parsL S.data.toList = some ps := by
        rw [HW.out.list]; exact pars_enc ps 16 (by rw [HW.out.len]; omega) HW.out.good
      have hM : parM S = ps ∧ parK S = true := by unfold parM parK; rw [hpl]; exact ⟨rfl, rfl⟩
      have hP : ∀ w', Calls Tryd.prog 18 #[.string S] w' fun e w2 => ∃ a c, e = .returned (.tuple #[.slice a ps.length c, .bool true]) ∧ ParAt w2 (.slice a ps.length c) ps ∧ Below w'.heap.size w' w2 := fun w' =>
        (params_a S w' (by omega)).mono fun e w2 he => by
          obtain ⟨a, c, h1, h2, h3⟩ := par_ans he
          rw [hM.1, hM.2] at h1
          rw [hM.1] at h2
          exact ⟨a, c, h1, h2, h3⟩
      have hpsl : ps.length ≤ 1000000 := by rw [HW.out.len]; omega
      have HP := Lib.hid hP
      clear hpar hpl hM hlt hP
      rcases Nat.lt_or_ge k A.length with h1 | h1
      · have h2 := hend h1
        clear hend
        go_wp2_with (first
          | (go_at_call 18; refine (HP.out _).mono ?_; rintro e w2 ⟨a3, c3, rfl, h3, hb3⟩; have H3 := Lib.hid h3; have HB3 := Lib.hid hb3; clear h3 hb3)
          | (go_at_call 20; refine (params_l ps ps _ _ _ H3.out ((row_pars HW.out.row.row).below HB3.out) hpsl hpsl).mono ?_; rintro e w4 ⟨rfl, hd⟩; rw [decide_eq_true (rfl : ps = ps)]; have HB4 := Lib.hid hd.below; clear hd)
          | (go_at_call 15; refine (known9 _).mono ?_; rintro e w5 ⟨rfl, hb5⟩; have HB5 := Lib.hid hb5; clear hb5))
        go_ret
        exact ⟨rfl, low_next (low_next (low_next HW.out.row.low HB3.out) HB4.out) HB5.out⟩
      · clear hend
        go_wp2_with (first
          | (go_at_call 18; refine (HP.out _).mono ?_; rintro e w2 ⟨a3, c3, rfl, h3, hb3⟩; have H3 := Lib.hid h3; have HB3 := Lib.hid hb3; clear h3 hb3)
          | (go_at_call 20; refine (params_l ps ps _ _ _ H3.out ((row_pars HW.out.row.row).below HB3.out) hpsl hpsl).mono ?_; rintro e w4 ⟨rfl, hd⟩; rw [decide_eq_true (rfl : ps = ps)]; have HB4 := Lib.hid hd.below; clear hd)
          | (go_at_call 15; refine (known9 _).mono ?_; rintro e w5 ⟨rfl, hb5⟩; have HB5 := Lib.hid hb5; clear hb5))
        go_ret
        exact ⟨rfl, low_next (low_next (low_next HW.out.row.low HB3.out) HB4.out) HB5.out⟩

theorem own : ownKnob Tryd.prog.godebug = none := by kernel_rfl
theorem laidOut : laidOutB Tryd.prog = true := by kernel_rfl
set_option maxRecDepth 100000 in
theorem lifted (os : Os) (started : os.Started) (H : Type) (enc : TypeId × Value → H) :
    ReturnsInHanded {} Tryd.checked os 7 .any (fun w args => (Rows.listBackSpec.pre enc Tryd.prog Tryd.f7 [] false w args ∧ laidMetH Tryd.prog Rows.listBackRow.laid w) ∧ sizedMet enc Tryd.prog Tryd.f7 (OpenSpec.ofChange Rows.listBackSpec) false w args)
      (Rows.listBackSpec.post enc Tryd.prog Tryd.f7 false true false false) := by
  refine returnsInHanded_of_change_and (C := Tryd.checked) (X := fun w _ => laidMetH Tryd.prog Rows.listBackRow.laid w) (fun _ _ _ hh h => h.of_heap hh) own started (by kernel_rfl) Tryd.func7
    (ChangeSpec.witness_shaped (enc := enc) (C := Tryd.checked) (os := os) (X := fun w _ => laidMetH Tryd.prog Rows.listBackRow.laid w) false (World.laidAll Tryd.prog os Rows.listBackRow.laid) #[.slice none 0 0, .slice none 0 0] 8 (World.laidAll_os _ _ _)
      (World.shaped_of_ZipB (by kernel_rfl) (by kernel_rfl)) (by kernel_rfl) (by kernel_rfl) (by kernel_rfl)
      (by rw [MakeChecks.laidMetH_plain _ _ _ (by kernel_rfl)]; exact laidMet_laidAll _ (by kernel_rfl) (by kernel_rfl))) ?_
  intro W base args ds gs before hval0 hW hcnd hsz0 hL _
  have hsz : (DataW.weightsEach Tryd.prog (Tryd.f7.params.toList ++ Rows.listBackSpec.plain.varTypes Tryd.prog) (ds ++ gs)).all (· ≤ reachBytes) = true := hsz0
  have hval : ∀ (j : Nat) t v, Tryd.f7.params[j]? = some t → args[j]? = some v → Value.okWide Tryd.prog W .any base t v := hval0
  have hW' := hW
  obtain ⟨p, q, hA0, hV, rfl, hfz, hnd⟩ := hW
  have hA : DataW.TrodAll enc Tryd.prog W 0 (fun _ => true) true Tryd.f7.params.toList args.toList ds p := hA0
  rw [Tryd.params7] at hA hval hsz
  obtain ⟨v0, vs0, d0, ds0, p0, q0, hargs, rfl, rfl, h0, r0⟩ := trodAll_cons hA
  obtain ⟨v1, vs1, d1, ds1, p1, q1, rfl, rfl, rfl, h1, r1⟩ := trodAll_cons r0
  obtain ⟨rfl, rfl, rfl⟩ := trodAll_nil r1
  obtain rfl : args = #[v0, v1] := by cases args; simp_all
  obtain ⟨rfl, rfl⟩ := trodVars_none hV
  have k0 := h0
  have lt0 : ∀ x ∈ p0, x.block < W.heap.size := by obtain ⟨m, hm⟩ := k0; exact DataW.trod_lt m _ _ _ hm
  have o0 := open_strs9 Tryd.underlying22 Tryd.underlying9 (by kernel_rfl) (by kernel_rfl) (hval 0 22 v0 rfl rfl) h0 (fun n hn => by simpa using List.all_eq_true.1 hsz n (DataW.weights_mem_each (j := 0) (t := 22) rfl rfl n hn))
  have k1 := h1
  have lt1 : ∀ x ∈ p1, x.block < W.heap.size := by obtain ⟨m, hm⟩ := k1; exact DataW.trod_lt m _ _ _ hm
  have o1 := open_strs9 Tryd.underlying22 Tryd.underlying9 (by kernel_rfl) (by kernel_rfl) (hval 1 22 v1 rfl rfl) h1 (fun n hn => by simpa using List.all_eq_true.1 hsz n (DataW.weights_mem_each (j := 1) (t := 22) rfl rfl n hn))
  clear hA0 hval0 hsz0 hsz
  refine (walk W v0 o0 v1 o1).mono fun e W' ⟨he, bel⟩ => ?_
  subst he
  exact ⟨_, rfl, _, _, _, [], _, [], hW', trodAll_mk1 (shut_bool Tryd.underlying4 _), (trodAll_cons_mk (Below.trod laidOut (by kernel_rfl) (of_decide_eq_true (by kernel_rfl)) k0 bel lt0) (trodAll_cons_mk (Below.trod laidOut (by kernel_rfl) (of_decide_eq_true (by kernel_rfl)) k1 bel lt1) trodAll_mk0)), rfl, bel.frame _, fun h => by cases h⟩

theorem over : Rows.listBackRow.holds Tryd.pinned (OpenSpec.ofChange Rows.listBackSpec) :=
  OpenClaim.holds_of_wide 7 Tryd.f7 rfl rfl rfl rfl rfl rfl rfl ⟨rfl, rfl, rfl, rfl, rfl⟩ rfl rfl rfl rfl rfl (by kernel_rfl) Tryd.func7 (by kernel_rfl)
    (of_decide_eq_true (by kernel_rfl)) (by unfold Func.isWrapper; first | (rw [if_pos (by decide +kernel)]; kernel_rfl) | (rw [if_neg (by decide +kernel)]; exact ⟨rfl, rfl⟩))
    (fun os started H enc _ => lifted os started H enc)

theorem said : Rows.ListBackSaid := over
theorem plain (f : FuncId) (fn : Func) (hf : Tryd.pinned.checked.prog.funcNamed "usher/usherlaw9.ListBack" = some f) (hfn : Tryd.pinned.checked.prog.funcs[f]? = some fn) :
    false = Tryd.pinned.checked.prog.looks [] ∧ ∀ (j : Nat) t, fn.params[j]? = some t → Tryd.pinned.checked.prog.wantsStandIn t = false := by
  obtain rfl : f = 7 := Option.some.inj ((show Tryd.prog.funcNamed "usher/usherlaw9.ListBack" = some 7 by kernel_rfl).symm.trans hf) |>.symm
  obtain rfl : fn = Tryd.f7 := (Option.some.inj (Tryd.func7.symm.trans hfn)).symm
  refine ⟨by kernel_rfl, fun j t ht => ?_⟩
  rw [Tryd.params7] at ht
  have hm : t ∈ [22] := by simpa using Array.mem_of_getElem? ht
  simp only [List.mem_cons, List.mem_nil_iff, or_false] at hm
  rcases hm with rfl
  · exact (show Tryd.prog.wantsStandIn 22 = false by kernel_rfl)
theorem proved : Rows.ListBackCardSaid :=
  Claim7.holds_tied_plain_at .later [] _ _ _ _ said (fun _ h => by cases h) (by kernel_rfl) (fun _ h => by cases h) listBack_row_tie rfl ⟨rfl, rfl⟩ (by kernel_rfl) rfl plain (by kernel_rfl)
end Go.Proofs.YtfnjkkjpffnbiaaDoor.listBack
