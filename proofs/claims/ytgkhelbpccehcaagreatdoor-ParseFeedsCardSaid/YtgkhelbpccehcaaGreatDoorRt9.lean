/- The document's Tokens and Has. Conditions: values of at most a million bytes in all. -/
import Derived.Test.YtgkhelbpccehcaaGreatDoorHs9
import Derived.Test.YtgkhelbpccehcaaGreatDoorLowerR
import Derived.Deep.RegionWith
namespace Go.Proofs.YtgkhelbpccehcaaGreatDoor
open Go.RowKit
set_option linter.unusedVariables false

/-- A row that a function of w0 has gathered. -/
structure Gath (w0 : World) (L : List (List UInt8)) (v : Value) (w : World) : Prop where
  row : w.ownsRow w0.heap.size 9 1 v L.length (strs9 L)
  low : Below w0.heap.size w0 w
theorem Gath.below {w0 w w' : World} {L : List (List UInt8)} {v : Value} (h : Gath w0 L v w) (hb : Below w.heap.size w w') : Gath w0 L v w' :=
  ⟨h.row.kept (row := none) ⟨hb.os, hb.tape, hb.output, hb.size, fun k hk _ => hb.block k hk⟩ (by rcases h.row.2 with ⟨rfl, _⟩ | ⟨g, cap, cur, rfl, _⟩ <;> simp [Value.ownBlock]), h.low.trans (hb.mono h.low.size)⟩
theorem Gath.grown {w0 w w' : World} {L : List (List UInt8)} {v v' : Value} {p : List UInt8} (h : Gath w0 L v w) (o : Obj) (ho : w'.ownsRow w0.heap.size 9 1 v' (L.length + 1) (strs9 L ++ [strV p])) (hg : (w.alloc o).grownBy w' v.ownBlock) : Gath w0 (L ++ [p]) v' w' := by
  refine ⟨?_, (h.low.alloc h.low.size o).grown hg (by have := h.low.size; simp; omega) fun k e => (h.row.lt k e).1⟩
  rw [List.length_append, show strs9 (L ++ [p]) = strs9 L ++ [strV p] by simp [strs9]]; exact ho
/-- append, by how it runs. -/
theorem wpList_run_app {P : Program} {ops : Array Oper} {rest : List Oper} {o : Oper} {a : Act} {w w' : World} {Q : Exit → Act → World → Prop} (hgd : o.guard = none) (s x : Operand) (t : TypeId)
    (ho : o.op = .call { callee := .builtin .append, args := #[s, x], argTypes := #[t, t] }) {v u v' : Value} (hs : a.eval s = v) (hx : a.eval x = u)
    (hr : (Builtin.append_ #[t, t] o.type #[v, u]).run P w = .ok v' w') (h : wpList P ops Q rest (a.put o.dst v') w') : wpList P ops Q (o :: rest) a w := by
  refine wpList_plain hgd fun K hK => ?_
  unfold Oper.wp
  simp [execOp, ho, resolve, invoke, builtin, hs, hx, hr, Result.andThen]
  exact hK _ _ h
theorem app_gath {w0 w : World} {L : List (List UInt8)} {v : Value} (h : Gath w0 L v w) (hroom : L.length + 1 ≤ 1000000) (p : List UInt8) :
    ∃ (g n' c' : Nat) (w' : World), (Builtin.append_ #[112, 112] 112 #[v, .slice (some ⟨w.heap.size, 0, none⟩) 1 1]).run Tryz.prog (w.alloc (.cells #[.string ⟨p.toArray⟩] 9)) = .ok (.slice (some ⟨g, 0, none⟩) n' c') w' ∧
      Gath w0 (L ++ [p]) (.slice (some ⟨g, 0, none⟩) n' c') w' := by
  obtain ⟨i0, hi, hz0, hz1, hz2⟩ := info_parts infoS
  obtain ⟨v', w5, hrun, hown', hgrow, -, -⟩ := run_append_own_at (P := Tryz.prog) (w := w.alloc (.cells #[.string ⟨p.toArray⟩] 9)) w0.heap.size 112 112 9 i0 (.string ByteArray.empty) 1 16 Tryz.underlying112 hi hz0 hz1 hz2 rfl (by decide)
    v L.length (strs9 L) (h.row.alloc _) ⟨w.heap.size, 0, none⟩ 1 1 [strV p] rfl (cell_one_new _ _ _) (by simp [Value.oneCell', strV]) (by unfold maxLen; omega) (by omega) (by have := h.low.size; simp; omega)
  obtain ⟨g, c', rfl⟩ := ownsRow_succ hown'
  exact ⟨g, _, c', w5, hrun, h.grown _ hown' hgrow⟩
theorem Gath.form {w0 w : World} {L : List (List UInt8)} {v : Value} (h : Gath w0 L v w) : ∃ a c, v = .slice a L.length c := by
  rcases h.row.2 with ⟨hv, h0⟩ | ⟨g, cap, cur, rfl, _⟩
  · exact ⟨none, 0, by rw [hv, h0]⟩
  · exact ⟨_, _, rfl⟩
theorem ext_list (s : ByteArray) (f k : Nat) : (s.extract f k).data.toList = (s.data.toList.drop f).take (k - f) := by
  rw [ByteArray.data_extract, Array.toList_extract]
theorem ext_self (s : ByteArray) (k : Nat) : (s.extract k k).data.toList = [] := by rw [ext_list]; simp
theorem ext_snoc (s : ByteArray) (f k : Nat) (h : f ≤ k) (hk : k < s.size) : (s.extract f (k + 1)).data.toList = (s.extract f k).data.toList ++ [s[k]] := by
  rw [ext_list, ext_list, show k + 1 - f = (k - f) + 1 by omega, List.take_succ_eq_append_getElem (by rw [List.length_drop]; show k - f < s.size - f; omega), List.getElem_drop]
  congr 2
  show s.data.toList[f + (k - f)]'_ = _
  simp only [show f + (k - f) = k by omega]; rfl
theorem cut_on {s : ByteArray} {f k : Nat} (h : f ≤ k) (hk : k < s.size) (hc : s[k] ≠ 44) : cutAcc (s.extract f k).data.toList (s.data.toList.drop k) = cutAcc (s.extract f (k + 1)).data.toList (s.data.toList.drop (k + 1)) := by
  rw [drop_cons s k hk]; simp only [cutAcc]; rw [if_neg hc, ext_snoc s f k h hk]
theorem cut_end {s : ByteArray} {f k : Nat} (hk : k < s.size) (hc : s[k] = 44) : cutAcc (s.extract f k).data.toList (s.data.toList.drop k) = (s.extract f k).data.toList :: cutAcc (s.extract (k + 1) (k + 1)).data.toList (s.data.toList.drop (k + 1)) := by
  rw [drop_cons s k hk]; simp only [cutAcc]; rw [if_pos hc, ext_self]
theorem cut_zero (s : ByteArray) : cutAcc (s.extract 0 0).data.toList (s.data.toList.drop 0) = cutAcc [] s.data.toList := by rw [ext_self]; rfl
theorem cut_done (s : ByteArray) (f : Nat) : cutAcc (s.extract f s.size).data.toList (s.data.toList.drop s.size) = [] := by
  rw [List.drop_of_length_le (by rw [len_data]; exact Nat.le_refl _)]; rfl

set_option maxRecDepth 100000 in
set_option maxHeartbeats 4000000 in
theorem reftok_some (b off cap : Nat) (ts : List ByteArray) (w : World) (hb : b < w.heap.size) (hc : ∀ j (h : j < ts.length), w.cell? ⟨b, off + j, none⟩ = some (.string ts[j])) (hs : sizes ts ≤ 1000000) :
    Calls Tryz.prog 77 #[.slice (some ⟨b, off, none⟩) ts.length cap] w (TokAns w ts) := by
  have hlen : ts.length ≤ 1000000 := Nat.le_trans (sizes_len ts) hs
  obtain ⟨i0, hi, hz0, hz1, hz2⟩ := info_parts infoS
  have HC := Lib.hid hc
  have HS := Lib.hid hs
  clear hc hs
  go_enter Tryz.func77, Tryz.ntmps77
  go_wp2
  go_loopw [4, 5] (fun v i wr => ∃ (k : Nat) (L : List (List UInt8)), k ≤ ts.length ∧ i = .int .i64 k ∧ tokO (partsO (ts.take k)) = some L ∧ Gath w L v wr) (fun _ i _ => ts.length - (intOf i).toNat)
  case atStart => exact ⟨0, [], Nat.zero_le _, rfl, rfl, World.ownsRow_nil _ _ _ _, Below.refl _ _⟩
  case round =>
    obtain ⟨k, L, hk, rfl, hL, hG⟩ := hrel
    have HL := Lib.hid hL
    have HG := Lib.hid hG
    clear hL hG
    by_cases hlt : k < ts.length
    · have hcell : wr.cell? ⟨b, off + k, none⟩ = some (.string ts[k]) := (HG.out.low.cell (p := ⟨b, off + k, none⟩) hb).trans (HC.out k hlt)
      have hszk : ts[k].size ≤ 1000000 := by have := sizes_at ts k hlt; have := HS.out; omega
      go_wp2
      obtain ⟨wo, rfl⟩ : ∃ wo : World, wo = wr := ⟨_, rfl⟩
      obtain ⟨s, hs⟩ : ∃ s, s = ts[k] ++ { data := #[44] } := ⟨_, rfl⟩
      rw [← hs]
      have hsl : s.data.toList = ts[k].data.toList ++ [44] := by rw [hs, ByteArray.data_append, Array.toList_append]
      have hsz : s.size = ts[k].size + 1 := by rw [hs, ByteArray.size_append]; rfl
      have hsplit : cutAcc [] s.data.toList = splitC ts[k].data.toList := by rw [hsl]; exact cut_split _ _
      have HSP := Lib.hid hsplit
      clear hs hsl hsplit
      have hss : s.size ≤ 1000001 := by omega
      clear hsz
      go_loopw [4, 7, 8] (fun v f i wr2 => ∃ (m n : Nat) (P L2 : List (List UInt8)), m ≤ n ∧ n ≤ s.size ∧ f = .int .i64 m ∧ i = .int .i64 n ∧ cutAcc [] s.data.toList = P ++ cutAcc (s.extract m n).data.toList (s.data.toList.drop n) ∧ tokO (partsO (ts.take k) ++ P) = some L2 ∧ Gath w L2 v wr2) (fun _ _ i _ => s.size - (intOf i).toNat)
      case atStart => exact ⟨0, 0, [], L, Nat.le_refl _, Nat.zero_le _, rfl, rfl, by rw [cut_zero]; rfl, by rw [List.append_nil]; exact HL.out, HG.out⟩
      case round =>
        obtain ⟨m, n, P, L2, hmn, hns, rfl, rfl, hP, hL2, hG2⟩ := hrel
        have HP := Lib.hid hP
        have HL2 := Lib.hid hL2
        have HG2 := Lib.hid hG2
        clear hP hL2 hG2
        by_cases hn : n < s.size
        · by_cases h44 : s[n] = 44
          · have hc44 : ((s[n].toNat : Int) != 44) = false := by rw [h44]; rfl
            have hcut := cut_end (f := m) hn h44
            have HCU := Lib.hid (HP.out.trans (by rw [hcut] : _ = P ++ ((s.extract m n).data.toList :: cutAcc (s.extract (n + 1) (n + 1)).data.toList (s.data.toList.drop (n + 1)))))
            clear hcut h44
            have hxs : (s.extract m n).size ≤ 140737488351232 := by rw [extract_size _ _ _ hns]; omega
            have hts := trimA_size (s.extract m n)
            have hts3 : (trimA (s.extract m n)).size ≤ 140737488351232 := by omega
            have hts2 : (trimA (s.extract m n)).size ≤ maxLen := by unfold maxLen; omega
            clear hts
            by_cases he : trimL (s.extract m n).data.toList = []
            · have hz2 := emp_yes (show (trimA (s.extract m n)).size = 0 by show (trimL (s.extract m n).data.toList).length = 0; rw [he]; rfl)
              have hz3 : (trimA (s.extract m n)).toList.isEmpty = true := by rw [hz2]; rfl
              have HE := Lib.hid he
              clear he
              go_wp2_with (go_at_call 81; refine (trim_r _ _ hxs).mono ?_; rintro e w2 ⟨rfl, rfl⟩)
              go_roundw
              case rel => exact ⟨n + 1, n + 1, P ++ [(s.extract m n).data.toList], L2, Nat.le_refl _, by omega, by go_num, by go_num, by rw [HCU.out]; simp, by rw [← List.append_assoc]; exact tokO_empty HL2.out HE.out, HG2.out⟩
              case measure => simp [intOf]; omega
            · obtain ⟨hz2, hz3⟩ := emp_no (show 0 < (trimA (s.extract m n)).size by show 0 < (trimL (s.extract m n).data.toList).length; exact List.length_pos_iff.2 he)
              have HE := Lib.hid he
              clear he
              by_cases ht : tokL (trimA (s.extract m n)).data.toList = true
              · have HT2 := Lib.hid ht
                have hroom : L2.length + 1 ≤ 1000000 := by
                  have h1 := tokO_len HL2.out
                  have h2 := partsO_len ts
                  have h3 := congrArg List.length (partsO_take ts k hlt)
                  have h4 := congrArg List.length (HSP.out.symm.trans HCU.out)
                  have h5 := HS.out
                  simp only [List.length_append, List.length_cons] at h1 h3 h4
                  omega
                go_wp2_with (first
                  | (go_at_call 81; refine (trim_r _ _ hxs).mono ?_; rintro e w2 ⟨rfl, rfl⟩)
                  | (go_at_call 70; refine (istok_r _ _ hts2).mono ?_; rintro e w2 ⟨rfl, rfl⟩)
                  | (go_at_call 99; refine (lower_r _ _ hts3).mono ?_; rintro e w2 ⟨rfl, hb2⟩; have hg2 := HG2.out.below hb2; obtain ⟨g, n', c', w3, hrun, hg4⟩ := app_gath hg2 hroom (lowL (trimA (s.extract m n)).data.toList); have HG4 := Lib.hid hg4; clear hg2 hb2 hg4)
                  | (at_builtin; refine wpList_run_app rfl (.tmp 43) (.tmp 46) 112 rfl rfl rfl hrun ?_))
                go_roundw
                case rel => exact ⟨n + 1, n + 1, P ++ [(s.extract m n).data.toList], _, Nat.le_refl _, by omega, by go_num, by go_num, by rw [HCU.out]; simp, by rw [← List.append_assoc]; exact tokO_tok HL2.out HE.out HT2.out, HG4.out⟩
                case measure => simp [intOf]; omega
              · have ht : tokL (trimA (s.extract m n)).data.toList = false := by simpa using ht
                have hnone : toksO ts = none := by
                  unfold toksO
                  rw [partsO_take ts k hlt, ← HSP.out, HCU.out, List.append_assoc, ← List.append_assoc, List.cons_append]
                  exact tokO_bad HE.out ht
                have HN := Lib.hid hnone
                clear hnone
                go_wp2_with (first
                  | (go_at_call 81; refine (trim_r _ _ hxs).mono ?_; rintro e w2 ⟨rfl, rfl⟩)
                  | (go_at_call 70; refine (istok_r _ _ hts2).mono ?_; rintro e w2 ⟨rfl, rfl⟩))
                go_ret2
                exact ⟨HG2.out.low, by rw [HN.out]; rfl⟩
          · have hc44 : ((s[n].toNat : Int) != 44) = true := by
              have : (s[n].toNat : Int) ≠ 44 := fun e => h44 (by have := UInt8.toNat_inj.1 (show s[n].toNat = (44 : UInt8).toNat by simp; omega); exact this)
              simpa using this
            have HCU := Lib.hid (HP.out.trans (by rw [cut_on hmn hn h44] : _ = P ++ cutAcc (s.extract m (n + 1)).data.toList (s.data.toList.drop (n + 1))))
            clear h44
            go_wp2
            go_roundw
            case rel => exact ⟨m, n + 1, P, L2, by omega, by omega, rfl, by go_num, HCU.out, HL2.out, HG2.out⟩
            case measure => simp [intOf]; omega
        · obtain rfl : n = s.size := by omega
          have hend := HP.out
          rw [cut_done, List.append_nil, HSP.out] at hend
          have HEN := Lib.hid hend
          clear hend
          go_wp2
          go_roundw
          case rel => exact ⟨k + 1, L2, by omega, by go_num, by rw [partsO_snoc ts k hlt, HEN.out]; exact HL2.out, HG2.out⟩
          case measure => simp [intOf]; omega
    · obtain rfl : k = ts.length := by omega
      obtain ⟨va, vc, hv⟩ := HG.out.form
      have hall : toksO ts = some L := by have := HL.out; rw [List.take_length] at this; exact this
      have HALL := Lib.hid hall
      clear hall
      go_wp2
      go_ret2
      exact ⟨HG.out.low, by rw [HALL.out]; exact ⟨_, rfl, HG.out.row⟩⟩
theorem reftok_none (a : Option Addr) (cap : Nat) (w : World) : Calls Tryz.prog 77 #[.slice a 0 cap] w (TokAns w []) := by
  go_enter Tryz.func77, Tryz.ntmps77
  go_wp2
  refine wp_loop_rounds 1 ?_
  rw [rounds_succ]
  go_wp2
  go_ret2
  exact ⟨Below.refl _ _, _, rfl, World.ownsRow_nil _ _ _ _⟩
theorem reftok (ts : List ByteArray) (v : Value) (w : World) (h : StrsAt w v ts) (hs : sizes ts ≤ 1000000) : Calls Tryz.prog 77 #[v] w (TokAns w ts) := by
  rcases h with ⟨rfl, a, cap, rfl⟩ | ⟨b, off, cap, rfl, h0, hb, hc⟩
  · exact reftok_none a cap w
  · exact reftok_some b off cap ts w hb hc hs
end Go.Proofs.YtgkhelbpccehcaaGreatDoor
