/- The head that the laws know. Conditions: none. -/
import Derived.Test.YtjoineomkdiekaaGreatDoorMQE
import Derived.Test.YtjoineomkdiekaaGreatDoorMQC
import Derived.Test.YtjoineomkdiekaaGreatDoorMQA
import Derived.Test.YtjoineomkdiekaaGreatDoorMQD
import Derived.Test.YtjoineomkdiekaaGreatDoorFe10
import Derived.Test.YtjoineomkdiekaaGreatDoorFo10
namespace Go.Proofs.YtjoineomkdiekaaGreatDoor
open Go.RowKit
set_option linter.unusedVariables false
set_option linter.unusedSimpArgs false

def g1B : ByteArray := ⟨#[71, 69, 84, 32, 47, 32, 72, 84, 84, 80, 47, 49, 46, 49]⟩
def g2B : ByteArray := ⟨#[72, 111, 115, 116, 58, 32, 97]⟩
theorem g1B_is : g1B = getB true := rfl
theorem g2B_is : lineK nHost aN 1 = g2B := by
  apply bytes_injL
  rw [lineK_list]
  decide +kernel
/-- The three heads. -/
theorem kn_1 : lineP newH g1B = begH true := by rw [g1B_is]; exact get_line true
theorem kn_2 : (lineP (begH true) g2B).whole = false ∧ (lineP (begH true) g2B).status = 0 := by rw [← g2B_is, many_beg 0]; exact ⟨rfl, rfl⟩
theorem kn_3 : lineP (lineP (begH true) g2B) noB = { begH true with bytes := 27, S := [(nHost, aN)], whole := true } := by
  have h := kn_play
  rw [playP_cons, playP_cons, playP_cons, playP_nil, g2B_is, ← g1B_is, kn_1] at h
  exact h
theorem kn_4 : ∃ h3, lineP (lineP (begH true) g2B) noB = h3 ∧ h3.whole = true ∧ h3.status = 0 ∧ h3.meth = ⟨#[71, 69, 84]⟩ ∧ h3.tgt = ⟨1, noB, ⟨#[47]⟩, noB⟩ ∧ h3.minor = 1 ∧ h3.S = [(nHost, aN)] := ⟨_, kn_3, rfl, rfl, rfl, rfl, rfl, rfl⟩
set_option maxRecDepth 10000 in
set_option maxHeartbeats 4000000 in
theorem known_13 (w : World) : Calls Tryz.prog 9 #[] w fun r w' => r = .returned (.bool true) ∧ Mods [] w w' := by
  have HN := Lib.hid (new_h w)
  have K1 := Lib.hid kn_1
  have K2 := Lib.hid kn_2
  obtain ⟨h3, k3, kw, ks, km, kt, kn, kS⟩ := kn_4
  have K3 := Lib.hid k3
  have HHAS := Lib.hid kn_has
  unfold ptr at *
  go_enter Tryz.func9, Tryz.ntmps9
  go_upto_region 2 with (go_at_call 14; refine HN.out.mono ?_; rintro e w1 hk; obtain ⟨hb, F, rfl, ha, hm, hf⟩ := hk.out; have H1 := Lib.hid ha; have M1 := Lib.hid hm; have HF := Lib.hid hf; clear hk ha hm hf)
  obtain ⟨g1, v1, st1, e1, z1, cc1, -, -⟩ := H1.out.ex
  have b0 : w1.cell? ⟨hb, 0, none⟩ = some (.pointer (some ⟨g1, 0, none⟩)) := cc1.row.cell 0
  have HL1 := Lib.hid (line_a g1B (by decide) H1.out)
  rw [K1.out] at HL1
  unfold ptr g1B at HL1
  clear cc1
  go_upto_region 7 with (first
    | (go_at_call 10; (with_reducible show Calls _ _ #[_, .string ⟨#[71, 69, 84, 32, 47, 32, 72, 84, 84, 80, 47, 49, 46, 49]⟩] _ _); refine HL1.out.mono ?_; rintro e w2 ⟨rfl, hq⟩; obtain ⟨F2, ha, hm, hn⟩ := hq.out; have H2 := Lib.hid ha; have M2 := Lib.hid (M1.out.trans hm (fun k hk => .inr (HF.out k hk))); have HF2 := Lib.hid (show ∀ k ∈ F2, w.heap.size ≤ k from fun k hk => (hn k hk).elim (HF.out k) (fun h => Nat.le_trans M1.out.size h)); have HL2 := Lib.hid (line_a g2B (by decide) ha); rw [K2.out.1, K2.out.2] at HL2; unfold ptr g2B at HL2; clear hq ha hm hn)
    | (go_at_call 10; (with_reducible show Calls _ _ #[_, .string ⟨#[72, 111, 115, 116, 58, 32, 97]⟩] _ _); refine HL2.out.mono ?_; rintro e w3 ⟨rfl, hq⟩; obtain ⟨F3, ha, hm, hn⟩ := hq.out; have H3 := Lib.hid ha; have M3 := Lib.hid (M2.out.trans hm (fun k hk => .inr (HF2.out k hk))); have HF3 := Lib.hid (show ∀ k ∈ F3, w.heap.size ≤ k from fun k hk => (hn k hk).elim (HF2.out k) (fun h => Nat.le_trans M2.out.size h)); have HL3 := Lib.hid (line_a (h := lineP (begH true) g2B) noB (by decide) ha); rw [K3.out, kw, ks] at HL3; unfold ptr noB at HL3; clear hq ha hm hn)
    | (go_at_call 10; (with_reducible show Calls _ _ #[_, .string ⟨#[]⟩] _ _); refine HL3.out.mono ?_; rintro e w4 ⟨rfl, hq⟩; obtain ⟨F4, ha, hm, hn⟩ := hq.out; have H4 := Lib.hid ha; have M4 := Lib.hid (M3.out.trans hm (fun k hk => .inr (HF3.out k hk))); clear hq ha hm hn))
  have HS := Lib.hid (start_a H4.out)
  rw [km, kt, kn] at HS
  unfold ptr at HS
  simp only [Tgt.cells, noB] at HS
  clear k3 kw ks b0
  go_upto_region 8 with (go_at_call 11; refine HS.out.mono ?_; rintro e w5 ⟨rfl, hm⟩; have H5 := Lib.hid (H4.out.low (hm.alloc (.cells #[.int .i64 1, .string ⟨#[]⟩, .string ⟨#[47]⟩, .string ⟨#[]⟩] 33))); have M5 := Lib.hid (M4.out.on (hm.alloc (.cells #[.int .i64 1, .string ⟨#[]⟩, .string ⟨#[47]⟩, .string ⟨#[]⟩] 33))); clear hm)
  obtain ⟨g, v, st, e2, z2, cc, -, -⟩ := H5.out.ex
  obtain ⟨W6, hW6⟩ : ∃ W6, W6 = w5.alloc (.cells #[.int .i64 1, .string ⟨#[]⟩, .string ⟨#[47]⟩, .string ⟨#[]⟩] 33) := ⟨_, rfl⟩
  have r6 := Row.new w5 33 #[.int .i64 1, .string ⟨#[]⟩, .string ⟨#[47]⟩, .string ⟨#[]⟩]
  obtain ⟨tb, htb⟩ : ∃ tb, tb = w5.heap.size := ⟨_, rfl⟩
  rw [← hW6] at cc M5 r6
  rw [← htb] at r6
  rw [← hW6, ← htb]
  have t2 : W6.cell? ⟨tb, 2, none⟩ = some (.string ⟨#[47]⟩) := r6.cell 2
  have d0 : W6.cell? ⟨hb, 0, none⟩ = some (.pointer (some ⟨g, 0, none⟩)) := cc.row.cell 0
  have HH := Lib.hid (has_p ⟨#[104, 111, 115, 116]⟩ W6 (FP.of_fld cc.fld) (by decide))
  rw [kS, ← has_vals, HHAS.out] at HH
  unfold ptr at HH
  clear cc r6 H5 hW6 htb
  go_wp2_with (go_at_call 19; refine HH.out.mono ?_; rintro e w7 ⟨rfl, hm⟩; have M7 := Lib.hid (M5.out.on hm); clear hm)
  go_ret
  exact ⟨rfl, M7.out⟩
end Go.Proofs.YtjoineomkdiekaaGreatDoor

/- What stands between blanks, of the document. Conditions: a line of at most a thousand bytes. -/
namespace Go.Proofs.YtjoineomkdiekaaGreatDoor
open Go.RowKit
set_option linter.unusedVariables false
set_option linter.unusedSimpArgs false

def strW (l : List (List UInt8)) : List Value := l.map fun p => .string (ofL p)
theorem strW_app (a : List (List UInt8)) (p : List UInt8) : strW (a ++ [p]) = strW a ++ [.string (ofL p)] := by simp [strW]
/-- What the words are so far: k bytes have been seen, the last word begins at f. -/
def WS (l : List UInt8) (k f : Nat) (ws : List (List UInt8)) : Prop :=
  ws.length ≤ k ∧ f ≤ k ∧ ((k ≤ l.length ∧ wordsL l = ws ++ wAcc ((l.take k).drop f) (l.drop k)) ∨ (k = l.length + 1 ∧ ws = wordsL l))
theorem WS.zero (l : List UInt8) : WS l 0 0 [] := ⟨Nat.le_refl _, Nat.le_refl _, .inl ⟨Nat.zero_le _, rfl⟩⟩
theorem WS.cut {l : List UInt8} {k f : Nat} {ws : List (List UInt8)} (h : WS l k f ws) (hk : k < l.length + 1) (hc : (l ++ [32])[k]'(by simp; omega) = 32) : WS l (k + 1) (k + 1) (ws ++ [(l.take k).drop f]) := by
  obtain ⟨h1, h2, h3 | h3⟩ := h
  · refine ⟨by rw [List.length_append]; simp; omega, Nat.le_refl _, ?_⟩
    by_cases hl : k < l.length
    · refine .inl ⟨hl, ?_⟩
      rw [List.getElem_append_left hl] at hc
      rw [h3.2, List.drop_eq_getElem_cons hl, wAcc, if_pos hc, List.append_assoc]
      have hd : (l.take (k + 1)).drop (k + 1) = [] := List.drop_eq_nil_of_le (by rw [List.length_take]; omega)
      rw [hd]
      rfl
    · obtain rfl : k = l.length := by omega
      refine .inr ⟨rfl, ?_⟩
      rw [h3.2, List.drop_length]
      rfl
  · omega
theorem WS.pass {l : List UInt8} {k f : Nat} {ws : List (List UInt8)} (h : WS l k f ws) (hk : k < l.length + 1) (hc : (l ++ [32])[k]'(by simp; omega) ≠ 32) : WS l (k + 1) f ws := by
  obtain ⟨h1, h2, h3 | h3⟩ := h
  · have hl : k < l.length := by
      rcases Nat.lt_or_ge k l.length with h | h
      · exact h
      · obtain rfl : k = l.length := by omega
        exact absurd (by simp) hc
    rw [List.getElem_append_left hl] at hc
    refine ⟨by omega, by omega, .inl ⟨hl, ?_⟩⟩
    rw [h3.2, List.drop_eq_getElem_cons hl, wAcc, if_neg hc, List.take_succ_eq_append_getElem hl, List.drop_append_of_le_length (by rw [List.length_take]; omega)]
  · omega
theorem WS.last {l : List UInt8} {k f : Nat} {ws : List (List UInt8)} (h : WS l k f ws) (hk : ¬ k < l.length + 1) : ws = wordsL l := by
  obtain ⟨h1, h2, h3 | h3⟩ := h
  · omega
  · exact h3.2
theorem WS.ext {l : List UInt8} {k f : Nat} {ws : List (List UInt8)} {t : ByteArray} (h : WS l k f ws) (hk : k < l.length + 1) (ht : t.data.toList = l ++ [32]) : t.extract f k = ofL ((l.take k).drop f) := by
  obtain ⟨h1, h2, -⟩ := h
  apply bytes_ext
  rw [ofL_list, ByteArray.data_extract, Array.toList_extract, List.extract_eq_take_drop, ht]
  rw [List.take_drop, show f + (k - f) = k by omega, List.take_append_of_le_length (by omega)]
set_option maxRecDepth 10000 in
set_option maxHeartbeats 1000000 in
theorem words_x (s : ByteArray) (hs : s.size ≤ 1000) (w : World) : Calls Tryz.prog 68 #[.string s] w fun e w' => ∃ u, e = .returned u ∧ Gt w 9 1 (wordsL s.data.toList).length (strW (wordsL s.data.toList)) u w' := by
  have hsl : s.data.toList.length = s.size := rfl
  have htl : (s ++ (⟨#[32]⟩ : ByteArray)).data.toList = s.data.toList ++ [32] := app_listL _ _
  have htz : (s ++ (⟨#[32]⟩ : ByteArray)).size = s.size + 1 := app_sizeL _ _
  obtain ⟨t, ht⟩ : ∃ t, t = s ++ (⟨#[32]⟩ : ByteArray) := ⟨_, rfl⟩
  rw [← ht] at htl htz
  have htl2 : t.data.toList.length = t.size := rfl
  obtain ⟨l, hl⟩ : ∃ l, l = s.data.toList := ⟨_, rfl⟩
  rw [← hl] at htl hsl ⊢
  have HTL := Lib.hid htl
  have HNL := Lib.hid (show t.size = l.length + 1 by omega)
  have htb : t.size ≤ 1001 := by omega
  clear hl htl htz htl2 hsl
  go_enter Tryz.func68, Tryz.ntmps68
  go_wp2
  rw [← ht]
  clear ht hs
  go_loopw [3, 4, 5] (fun u fr i wr => ∃ (k f : Nat) (ws : List (List UInt8)), k ≤ t.size ∧ i = .int .i64 k ∧ fr = .int .i64 f ∧ Hid (WS l k f ws) ∧ Gt w 9 1 ws.length (strW ws) u wr) (fun _ _ i _ => t.size - (intOf i).toNat)
  case atStart => exact ⟨0, 0, [], Nat.zero_le _, rfl, rfl, Lib.hid (WS.zero l), Gt.nil _ _ _⟩
  case round =>
    obtain ⟨k, f, ws, hk, rfl, rfl, hW, hG⟩ := hrel
    have HG := Lib.hid hG
    obtain ⟨va, vc, rfl⟩ := hG.form
    clear hG
    by_cases hlt : k < t.size
    · have hkl : k < l.length + 1 := by rw [← HNL.out]; exact hlt
      have hfk : f ≤ k := hW.out.2.1
      have hwk := hW.out.1
      by_cases hc : t[k] = 32
      · have hb : ((t[k].toNat : Int) == 32) = true := by rw [hc]; rfl
        have HX := Lib.hid (hW.out.ext hkl HTL.out)
        have HN := Lib.hid (hW.out.cut hkl (by have : t[k] = t.data.toList[k]'(by exact hlt) := rfl; rw [this] at hc; simpa only [HTL.out] using hc))
        obtain ⟨x, hx⟩ : ∃ x, x = t.extract f k := ⟨_, rfl⟩
        obtain ⟨g5, n5, c5, w3, hrun, hG5⟩ := HG.out.app Tryz.underlying22 infoSt rfl (by decide) (by omega) (by decide) [.string x] rfl (by simp [Value.oneCell'])
        have HG5 := Lib.hid hG5
        have HXX := Lib.hid hx
        have c1 : (0 : Int) ≤ (f : Int) := by omega
        have c2 : (f : Int) ≤ (k : Int) := by omega
        have c3 : (k : Int) ≤ (t.size : Int) := by omega
        rw [hx] at hrun
        clear hc hG5 hx hW
        go_wp2_with (at_builtin; refine wpList_run_appF rfl (.tmp 18) (.tmp 23) 22 rfl rfl rfl hrun ?_)
        go_roundw
        case rel => exact ⟨k + 1, k + 1, _, by omega, by go_num, by go_num, Lib.hid HN.out, by rw [List.length_append, strW_app, ← HX.out, ← HXX.out]; exact HG5.out⟩
        case measure => simp [intOf]; omega
      · have hb : ((t[k].toNat : Int) == 32) = false := by
          rw [beq_eq_false_iff_ne]; intro e
          exact hc (UInt8.toNat_inj.1 (by show t[k].toNat = 32; omega))
        have HN := Lib.hid (hW.out.pass hkl (by have : t[k] = t.data.toList[k]'(by exact hlt) := rfl; rw [this] at hc; simpa only [HTL.out] using hc))
        clear hc hW
        go_wp2
        go_roundw
        case rel => exact ⟨k + 1, f, ws, by omega, by go_num, rfl, Lib.hid HN.out, HG.out⟩
        case measure => simp [intOf]; omega
    · have HE := Lib.hid (hW.out.last (by rw [← HNL.out]; exact hlt))
      clear hW
      go_wp2
      go_ret
      exact ⟨_, rfl, by rw [← HE.out]; exact HG.out⟩
end Go.Proofs.YtjoineomkdiekaaGreatDoor

/- The start line of the document's head. Conditions: lines of at most a thousand bytes. -/
namespace Go.Proofs.YtjoineomkdiekaaGreatDoor
open Go.RowKit
set_option linter.unusedVariables false
set_option linter.unusedSimpArgs false

theorem gt_three {w w' : World} {a b c : List UInt8} {u : Value} (h : Gt w 9 1 ([a, b, c] : List (List UInt8)).length (strW [a, b, c]) u w') :
    ∃ (g cap : Nat), u = .slice (some ⟨g, 0, none⟩) 3 cap ∧ w'.cell? ⟨g, 0, none⟩ = some (.string (ofL a)) ∧ w'.cell? ⟨g, 1, none⟩ = some (.string (ofL b)) ∧ w'.cell? ⟨g, 2, none⟩ = some (.string (ofL c)) ∧ w.heap.size ≤ g ∧ g < w'.heap.size ∧ Mods [] w w' := by
  rcases h.row.2 with ⟨_, h0⟩ | ⟨g, cap, cur, rfl, hb, hg, hcap, _, hsz, ht⟩
  · cases h0
  · have hr : Row w' g 9 cur := hg
    have hk : ∀ j, j < 3 → cur[j]? = (strW [a, b, c])[j]? := fun j hj => by
      rw [← ht, List.getElem?_take_of_lt (by show j < 3 * 1; omega)]
      exact (Array.getElem?_toList).symm
    exact ⟨g, cap, rfl, by rw [hr.cell, hk 0 (by decide)]; rfl, by rw [hr.cell, hk 1 (by decide)]; rfl, by rw [hr.cell, hk 2 (by decide)]; rfl, hb, hr.lt, h.low⟩
theorem words_x3 (s : ByteArray) (hs : s.size ≤ 1000) (w : World) {a b c : List UInt8} (hw : wordsL s.data.toList = [a, b, c]) : Calls Tryz.prog 68 #[.string s] w fun e w' =>
    ∃ (g cap : Nat), e = .returned (.slice (some ⟨g, 0, none⟩) 3 cap) ∧ w'.cell? ⟨g, 0, none⟩ = some (.string (ofL a)) ∧ w'.cell? ⟨g, 1, none⟩ = some (.string (ofL b)) ∧ w'.cell? ⟨g, 2, none⟩ = some (.string (ofL c)) ∧ w.heap.size ≤ g ∧ g < w'.heap.size ∧ Mods [] w w' := by
  refine (words_x s hs w).mono fun e w' ⟨u, he, hg⟩ => ?_
  rw [hw] at hg
  obtain ⟨g, cap, rfl, r⟩ := gt_three hg
  exact ⟨g, cap, he, r⟩
theorem words_xn (s : ByteArray) (hs : s.size ≤ 1000) (w : World) : Calls Tryz.prog 68 #[.string s] w fun e w' => ∃ A cap, e = .returned (.slice A (wordsL s.data.toList).length cap) ∧ Mods [] w w' := by
  refine (words_x s hs w).mono fun e w' ⟨u, he, hg⟩ => ?_
  obtain ⟨A, cap, rfl⟩ := hg.form
  exact ⟨A, cap, he, hg.low⟩
theorem verS_not8 {v : List UInt8} (h : v.length ≠ 8) : verS v = 400 := by unfold verS; rw [if_neg (fun x => h x.1)]
theorem verS_not5 {v : List UInt8} (h : v.take 5 ≠ hvL) : verS v = 400 := by unfold verS; rw [if_neg (fun x => h x.2.1)]
theorem ver_form {v : List UInt8} (h8 : v.length = 8) (h5 : v.take 5 = hvL) : ∃ a b c, v = hvL ++ [a, b, c] := by
  obtain ⟨a, b, c, h⟩ := three_of (r := v.drop 5) (by rw [List.length_drop, h8])
  exact ⟨a, b, c, by rw [← h5, ← h, List.take_append_drop]⟩
/-- What start stores. -/
theorem HdX.begun {xb : Nat} {v : Value} {w : World} {h : HdP} {z e : Int} {m : ByteArray} {f : Int} {x y k : ByteArray} (c : HdX xb v w h z e) :
    HdX xb v ((((((w.setCell ⟨xb, 11, none⟩ (.bool true)).setCell ⟨xb, 1, none⟩ (.string m)).setCell ⟨xb, 2, none⟩ (.int .i64 f)).setCell ⟨xb, 3, none⟩ (.string x)).setCell ⟨xb, 4, none⟩ (.string y)).setCell ⟨xb, 5, none⟩ (.string k)) { h with started := true, meth := m, tgt := ⟨f, x, y, k⟩ } z e := by
  have h1 := c.set 11 (.bool true) (h' := { h with started := true }) (z' := z) (e' := e) rfl rfl
  have h2 := HdX.set h1 1 (.string m) (h' := { h with started := true, meth := m }) (z' := z) (e' := e) rfl rfl
  have h3 := HdX.set h2 2 (.int .i64 f) (h' := { h with started := true, meth := m, tgt := ⟨f, h.tgt.host, h.tgt.path, h.tgt.query⟩ }) (z' := z) (e' := e) rfl rfl
  have h4 := HdX.set h3 3 (.string x) (h' := { h with started := true, meth := m, tgt := ⟨f, x, h.tgt.path, h.tgt.query⟩ }) (z' := z) (e' := e) rfl rfl
  have h5 := HdX.set h4 4 (.string y) (h' := { h with started := true, meth := m, tgt := ⟨f, x, y, h.tgt.query⟩ }) (z' := z) (e' := e) rfl rfl
  exact HdX.set h5 5 (.string k) (h' := { h with started := true, meth := m, tgt := ⟨f, x, y, k⟩ }) (z' := z) (e' := e) rfl rfl
theorem begun_mods {xb : Nat} {w : World} {m : ByteArray} {f : Int} {x y k : ByteArray} :
    Mods [xb] w ((((((w.setCell ⟨xb, 11, none⟩ (.bool true)).setCell ⟨xb, 1, none⟩ (.string m)).setCell ⟨xb, 2, none⟩ (.int .i64 f)).setCell ⟨xb, 3, none⟩ (.string x)).setCell ⟨xb, 4, none⟩ (.string y)).setCell ⟨xb, 5, none⟩ (.string k)) :=
  ((((((Mods.refl [xb] w).setCell (.inl (by simp)) _).setCell (.inl (by simp)) _).setCell (.inl (by simp)) _).setCell (.inl (by simp)) _).setCell (.inl (by simp)) _).setCell (.inl (by simp)) _
set_option maxRecDepth 10000 in
set_option maxHeartbeats 2000000 in
theorem start_x {xb : Nat} {v : Value} {w : World} {h : HdP} {z e : Int} (s : ByteArray) (hs : s.size ≤ 1000) (hmin : h.minor = 0) (c : HdX xb v w h z e) :
    Calls Tryz.prog 52 #[ptr xb, .string s] w fun r w' => r = .returned (.int .i64 (startS s.data.toList)) ∧ Hid (HdX xb v w' (begP h s.data.toList) z e) ∧ Mods [xb] w w' := by
  have hpl := fun p hp => words_parts (l := s.data.toList) (p := p) hp
  have hsl : s.data.toList.length = s.size := rfl
  have HC := Lib.hid (fun W (hm : Mods [] w W) => FldE.low c hm)
  by_cases h3 : (wordsL s.data.toList).length = 3
  · obtain ⟨a, b, v0, hw⟩ := three_of h3
    have HSP := Lib.hid (words_x3 s hs w hw)
    rw [hw] at hpl
    have ha := (hpl a (by simp)).2
    have hb1 := (hpl b (by simp)).2
    have hv1 := (hpl v0 (by simp)).2
    have za : (ofL a).size ≤ 1000 := by rw [ofL_size]; omega
    have zb : (ofL b).size ≤ 1000 := by rw [ofL_size]; omega
    have zv : (ofL v0).size ≤ 1000 := by rw [ofL_size]; omega
    have HI := Lib.hid (fun (t : Bool) (ht : tokL a = t) w => istokR (ofL a) (r := t) (by rw [ofL_list]; exact ht) (by omega) w)
    have HT := Lib.hid (fun w => tparse_r (ofL a) (ofL b) w (by omega) (by omega))
    simp only [ofL_list] at HT
    have hvl := ofL_list v0
    have hvz := ofL_size v0
    obtain ⟨xa, hxa⟩ : ∃ x, x = ofL a := ⟨_, rfl⟩
    obtain ⟨xc, hxb⟩ : ∃ x, x = ofL b := ⟨_, rfl⟩
    obtain ⟨xv, hxv⟩ : ∃ x, x = ofL v0 := ⟨_, rfl⟩
    rw [← hxa] at HI HT HSP
    rw [← hxb] at HT HSP
    rw [← hxv] at HSP hvl hvz zv
    have HXA := Lib.hid hxa
    have HWD := Lib.hid hw
    have HMI := Lib.hid hmin
    have HVL := Lib.hid hvl
    clear hpl ha hb1 hv1 za zb hxa hxb hxv c hs hsl h3 hmin
    unfold ptr at *
    cases ht : tokL a with
    | false =>
      have HX := Lib.hid (start_tok hw ht)
      have HB := Lib.hid (begP_no (h := h) (l := s.data.toList) (by rw [HX.out]; decide))
      have HI := Lib.hid (HI.out false ht)
      have HDA := Lib.hid True.intro
      have HDC := Lib.hid True.intro
      clear ht hw
      go_enter Tryz.func52, Tryz.ntmps52
      go_wp2_with (first
        | (go_at_call 68; refine HSP.out.mono ?_; rintro e w1 ⟨g, cap, rfl, d0, d1, d2, hg1, hg2, hm⟩; have M1 := Lib.hid hm; clear hm)
        | (go_at_call 45; refine (HI.out _).mono ?_; rintro e w2 ⟨rfl, rfl⟩))
      go_ret
      exact ⟨by rw [HX.out]; rfl, Lib.hid (by rw [HB.out]; exact HC.out _ M1.out), M1.out.more (by simp)⟩
    | true =>
      have HI := Lib.hid (HI.out true ht)
      by_cases h8 : v0.length = 8
      · have z8 : xv.size = 8 := by omega
        by_cases h5 : v0.take 5 = hvL
        · obtain ⟨a5, b5, c5, hv5⟩ := ver_form h8 h5
          have hex : ((xv.extract 0 5).toList == [72, 84, 84, 80, 47]) = true := text_eq (by
            rw [ByteArray.data_extract, Array.toList_extract, List.extract_eq_take_drop, hvl]
            simpa [hvL] using h5)
          have x5 : xv[5]'(by rw [z8]; decide) = a5 := by
            have : xv[5]'(by rw [z8]; decide) = xv.data.toList[5]'(by show 5 < xv.size; rw [z8]; decide) := rfl
            rw [this]; simp only [hvl, hv5]; rfl
          have x6 : xv[6]'(by rw [z8]; decide) = b5 := by
            have : xv[6]'(by rw [z8]; decide) = xv.data.toList[6]'(by show 6 < xv.size; rw [z8]; decide) := rfl
            rw [this]; simp only [hvl, hv5]; rfl
          have x7 : xv[7]'(by rw [z8]; decide) = c5 := by
            have : xv[7]'(by rw [z8]; decide) = xv.data.toList[7]'(by show 7 < xv.size; rw [z8]; decide) := rfl
            rw [this]; simp only [hvl, hv5]; rfl
          have e1 : ((b5.toNat : Int) == 46) = decide (b5 = 46) := byte_eq b5 46 (by decide)
          have e2 : ((a5.toNat : Int) == 49) = decide (a5 = 49) := byte_eq a5 49 (by decide)
          have e3 : ((c5.toNat : Int) == 48) = decide (c5 = 48) := byte_eq c5 48 (by decide)
          have n1 : ((b5.toNat : Int) != 46) = !decide (b5 = 46) := by rw [bne, e1]
          have n2 : ((a5.toNat : Int) != 49) = !decide (a5 = 49) := by rw [bne, e2]
          have n3 : ((c5.toNat : Int) != 48) = !decide (c5 = 48) := by rw [bne, e3]
          have hv := ver5 a5 b5 c5
          have hm : verM v0 = if decide (c5 = 48) = true then 0 else 1 := by rw [hv5, verM_three]; simp only [decide_eq_true_eq]
          rw [← hv5] at hv
          have hda := digit_x a5
          have hdc := digit_x c5
          generalize isD a5 = t1 at *
          generalize isD c5 = t3 at *
          generalize decide (b5 = 46) = t2 at *
          generalize decide (a5 = 49) = t4 at *
          generalize decide (c5 = 48) = t5 at *
          have HDA := Lib.hid hda
          have HDC := Lib.hid hdc
          clear e1 e2 e3 hv5 h5 h8 hvl hda hdc hvz
          by_cases hok : t1 = true ∧ t2 = true ∧ t3 = true ∧ t4 = true
          · obtain ⟨rfl, rfl, rfl, rfl⟩ := hok
            have hv : verS v0 = 0 := hv
            simp only [Bool.not_true] at n1 n2
            have hx := start_par hw ht hv
            have HMN := Lib.hid hm
            have HWN := Lib.hid (show wordN s.data.toList 0 = a ∧ wordN s.data.toList 1 = b ∧ wordN s.data.toList 2 = v0 by unfold wordN; rw [hw]; exact ⟨rfl, rfl, rfl⟩)
            unfold TAns at HT
            obtain ⟨r, hr⟩ : ∃ r, r = parT a b := ⟨_, rfl⟩
            rw [← hr] at HT hx
            have HR := Lib.hid hr
            obtain ⟨⟨f, th, tp, tq⟩, n⟩ := r
            simp only [Tgt.cells] at HT hx
            have HX := Lib.hid hx
            clear hx hr hv ht hw hm
            go_enter Tryz.func52, Tryz.ntmps52
            go_upto_region 9 with (first
              | (go_at_call 68; refine HSP.out.mono ?_; rintro e w1 ⟨pb, cap, rfl, d0, d1, d2, hg1, hg2, hm⟩; have M1 := Lib.hid hm; clear hm)
              | (go_at_call 45; refine (HI.out _).mono ?_; rintro e w2 ⟨rfl, rfl⟩)
              | (go_at_call 69; (with_reducible show Calls _ _ #[.int .u8 (a5.toNat : Int)] _ _); refine (HDA.out _).mono ?_; rintro e w2 ⟨rfl, rfl⟩)
              | (go_at_call 69; (with_reducible show Calls _ _ #[.int .u8 (c5.toNat : Int)] _ _); refine (HDC.out _).mono ?_; rintro e w2 ⟨rfl, rfl⟩))
            have np1 : ¬ pb = w1.heap.size := by omega
            have np2 : ¬ w1.heap.size = pb := by omega
            have HPB := Lib.hid hg1
            go_cut [7, 8] (fun t er wx => ∃ tb, t = .pointer (some ⟨tb, 0, none⟩) ∧ er = .int .i64 n ∧ Hid (Row wx tb 33 (⟨f, th, tp, tq⟩ : Tgt).cells ∧ Mods [] w1 wx))
            case first =>
              go_region_held3 (fun w' => w'.cell? ⟨pb, 0, none⟩ = some (.string xa) ∧ w'.cell? ⟨pb, 1, none⟩ = some (.string xc)) (go_keep) (first
                | (go_at_call 70; refine (HT.out _).mono ?_; rintro e w2 ⟨rfl, hm⟩; have hm2 := ((Mods.refl [] w1).drew).trans hm (fun _ h => nomatch h); have M2 := Lib.hid hm2; have q0 := cell_mods d0 hm2 (by simp); have q1 := cell_mods d1 hm2 (by simp); clear hm hm2)
                | (go_at_call 70; refine (HT.out _).mono ?_; rintro e w2 ⟨rfl, hm⟩; have hm2 := (((Mods.refl [] w1).alloc (.cells #[.int .i64 0, .string ⟨#[]⟩, .string ⟨#[]⟩, .string ⟨#[]⟩] 33)).drew).trans hm (fun _ h => nomatch h); have M2 := Lib.hid hm2; have R2 := Lib.hid (show Row w2 w1.heap.size 33 noT.cells from (Row.new w1 _ _).mods (of_drewT hm) (by simp)); obtain ⟨k0, k1, k2, k3, f0, f1, f2, f3⟩ := R2.out.facts; simp only [noT, noB] at k0 k1 k2 k3; have q0 := cell_mods d0 hm2 (by simp); have q1 := cell_mods d1 hm2 (by simp); clear hm hm2))
              · go_wp2
                go_meet
                case rel => exact ⟨_, rfl, rfl, Lib.hid ⟨Row.new _ _ _, M2.out.alloc _⟩⟩
              · go_wp2
                go_meet
                case rel => exact ⟨_, rfl, rfl, Lib.hid ⟨R2.out.put ⟨f, th, tp, tq⟩, M2.out.put (.inr (Nat.le_refl _)) ⟨f, th, tp, tq⟩⟩⟩
            case rest =>
              obtain ⟨tb, rfl, rfl, hq⟩ := hcut
              have RT := Lib.hid hq.out.1
              have MT := Lib.hid (M1.out.on hq.out.2)
              have g0 := cell_mods d0 hq.out.2 (by simp)
              clear hq
              obtain ⟨wx, rfl⟩ : ∃ wx : World, wx = wc := ⟨_, rfl⟩
              have CX := Lib.hid (HC.out _ MT.out)
              clear d0 d1 d2 hg1 hg2
              by_cases n0 : n = 0
              · subst n0
                have h0 : startS s.data.toList = 0 := HX.out
                have HB := Lib.hid (show begP h s.data.toList = { h with started := true, meth := xa, tgt := ⟨f, th, tp, tq⟩, minor := if t5 = true then 0 else 1 } by
                  unfold begP
                  rw [if_pos h0, HWN.out.1, HWN.out.2.1, HWN.out.2.2, ← HXA.out, ← HR.out, HMN.out])
                have H0 := Lib.hid h0
                obtain ⟨s0, s1, s2, s3, -⟩ := RT.out.facts
                simp only at s0 s1 s2 s3
                have hr := HdX.row' CX.out
                obtain ⟨-, p1, p2, p3, p4, p5, p6, -, -, -, -, p11, -⟩ := HdX.facts CX.out
                have f1 := hr.free 1
                have f2 := hr.free 2
                have f3 := hr.free 3
                have f4 := hr.free 4
                have f5 := hr.free 5
                have f6 := hr.free 6
                have f11 := hr.free 11
                have m1 : ¬ xb = tb := Row.type_ne hr RT.out (by decide)
                have m2 : ¬ tb = xb := fun e => m1 e.symm
                have m3 : ¬ xb = pb := by
                  have a1 := HPB.out
                  have a2 := (HdX.row' (HC.out w (Mods.refl [] w))).lt
                  omega
                have m4 : ¬ pb = xb := fun e => m3 e.symm
                clear hr
                go_upto_region 15 with fail
                go_region
                have b0 := FldE.low (HdX.begun CX.out (m := xa) (f := f) (x := th) (y := tp) (k := tq)) ((Mods.refl [] _).drew)
                have b1 := (begun_mods (xb := xb) (w := wx) (m := xa) (f := f) (x := th) (y := tp) (k := tq)).drew
                obtain ⟨W2, hW2⟩ : ∃ W2, W2 = ((((((wx.setCell ⟨xb, 11, none⟩ (.bool true)).setCell ⟨xb, 1, none⟩ (.string xa)).setCell ⟨xb, 2, none⟩ (.int .i64 f)).setCell ⟨xb, 3, none⟩ (.string th)).setCell ⟨xb, 4, none⟩ (.string tp)).setCell ⟨xb, 5, none⟩ (.string tq)).drew := ⟨_, rfl⟩
                rw [← hW2] at b0 b1 ⊢
                have B0 := Lib.hid (show HdX xb v W2 { h with started := true, meth := xa, tgt := ⟨f, th, tp, tq⟩ } z e from b0)
                have B1 := Lib.hid b1
                have r6 : W2.cell? ⟨xb, 6, none⟩ = some (.int .i64 h.minor) := (HdX.row' B0.out).cell 6
                have w6 := (HdX.row' B0.out).free 6
                clear hW2 b0 b1 p1 p2 p3 p4 p5 p6 p11 f1 f2 f3 f4 f5 f6 f11 s0 s1 s2 s3 g0 h0
                have HMF := Lib.hid ((MT.out.more (F2 := [xb]) (by simp)).trans B1.out (fun k hk => .inl hk))
                cases t5 with
                | true =>
                  simp only [Bool.not_true] at n3
                  go_wp2
                  go_ret
                  have he : ({ h with started := true, meth := xa, tgt := ⟨f, th, tp, tq⟩, minor := 0 } : HdP) = { h with started := true, meth := xa, tgt := ⟨f, th, tp, tq⟩ } := by rw [← HMI.out]
                  have hbb := HB.out
                  simp only [if_true] at hbb
                  rw [he] at hbb
                  exact ⟨by rw [H0.out]; rfl, Lib.hid (by rw [hbb]; exact B0.out), HMF.out⟩
                | false =>
                  simp only [Bool.not_false] at n3
                  go_wp2
                  go_ret
                  exact ⟨by rw [H0.out]; rfl, Lib.hid (by rw [HB.out]; exact HdX.set B0.out 6 (.int .i64 1) (h' := { h with started := true, meth := xa, tgt := ⟨f, th, tp, tq⟩, minor := 1 }) rfl rfl), HMF.out.setCell (.inl (by simp)) _⟩
              · have hb0 : (n != 0) = true := by simpa using n0
                have h0 : startS s.data.toList ≠ 0 := by
                  rw [HX.out]
                  by_cases h9 : n = 9
                  · rw [if_pos h9]; decide
                  · rw [if_neg h9, if_pos n0]; decide
                have HB := Lib.hid (begP_no (h := h) h0)
                clear h0
                by_cases h9 : n = 9
                · subst h9
                  have HX2 := Lib.hid (show startS s.data.toList = 414 from HX.out)
                  clear n0 hb0
                  go_wp2_with fail
                  go_ret
                  exact ⟨by rw [HX2.out]; rfl, Lib.hid (by rw [HB.out]; exact CX.out), MT.out.more (by simp)⟩
                · have HX2 := Lib.hid (show startS s.data.toList = 400 by rw [HX.out, if_neg h9, if_pos n0])
                  have hb9 : (n == 9) = false := by simpa using h9
                  clear n0 h9
                  go_wp2_with fail
                  go_ret
                  exact ⟨by rw [HX2.out]; rfl, Lib.hid (by rw [HB.out]; exact CX.out), MT.out.more (by simp)⟩
          · have hne : verS v0 ≠ 0 := by
              rw [hv]
              revert hok
              cases t1 <;> cases t2 <;> cases t3 <;> cases t4 <;> simp
            have hx := start_ver hw ht hne
            rw [hv] at hx
            have HB := Lib.hid (begP_no (h := h) (l := s.data.toList) (by rw [start_ver hw ht hne]; exact hne))
            clear hw ht hne hv hm n3
            cases t1 with
            | false =>
              have HX := Lib.hid (show startS s.data.toList = 400 from hx)
              clear hx hok
              go_enter Tryz.func52, Tryz.ntmps52
              go_wp2_with (first
                | (go_at_call 68; refine HSP.out.mono ?_; rintro e w1 ⟨g, cap, rfl, d0, d1, d2, hg1, hg2, hm⟩; have M1 := Lib.hid hm; clear hm)
                | (go_at_call 45; refine (HI.out _).mono ?_; rintro e w2 ⟨rfl, rfl⟩)
                | (go_at_call 69; (with_reducible show Calls _ _ #[.int .u8 (a5.toNat : Int)] _ _); refine (HDA.out _).mono ?_; rintro e w2 ⟨rfl, rfl⟩)
                | (go_at_call 69; (with_reducible show Calls _ _ #[.int .u8 (c5.toNat : Int)] _ _); refine (HDC.out _).mono ?_; rintro e w2 ⟨rfl, rfl⟩))
              go_ret
              exact ⟨by rw [HX.out]; rfl, Lib.hid (by rw [HB.out]; exact HC.out _ M1.out), M1.out.more (by simp)⟩
            | true => cases t2 with
              | false =>
                have HX := Lib.hid (show startS s.data.toList = 400 from hx)
                simp only [Bool.not_false] at n1
                clear hx hok
                go_enter Tryz.func52, Tryz.ntmps52
                go_wp2_with (first
                  | (go_at_call 68; refine HSP.out.mono ?_; rintro e w1 ⟨g, cap, rfl, d0, d1, d2, hg1, hg2, hm⟩; have M1 := Lib.hid hm; clear hm)
                  | (go_at_call 45; refine (HI.out _).mono ?_; rintro e w2 ⟨rfl, rfl⟩)
                  | (go_at_call 69; (with_reducible show Calls _ _ #[.int .u8 (a5.toNat : Int)] _ _); refine (HDA.out _).mono ?_; rintro e w2 ⟨rfl, rfl⟩)
                  | (go_at_call 69; (with_reducible show Calls _ _ #[.int .u8 (c5.toNat : Int)] _ _); refine (HDC.out _).mono ?_; rintro e w2 ⟨rfl, rfl⟩))
                go_ret
                exact ⟨by rw [HX.out]; rfl, Lib.hid (by rw [HB.out]; exact HC.out _ M1.out), M1.out.more (by simp)⟩
              | true => cases t3 with
                | false =>
                  have HX := Lib.hid (show startS s.data.toList = 400 from hx)
                  simp only [Bool.not_true] at n1
                  clear hx hok
                  go_enter Tryz.func52, Tryz.ntmps52
                  go_wp2_with (first
                    | (go_at_call 68; refine HSP.out.mono ?_; rintro e w1 ⟨g, cap, rfl, d0, d1, d2, hg1, hg2, hm⟩; have M1 := Lib.hid hm; clear hm)
                    | (go_at_call 45; refine (HI.out _).mono ?_; rintro e w2 ⟨rfl, rfl⟩)
                    | (go_at_call 69; (with_reducible show Calls _ _ #[.int .u8 (a5.toNat : Int)] _ _); refine (HDA.out _).mono ?_; rintro e w2 ⟨rfl, rfl⟩)
                    | (go_at_call 69; (with_reducible show Calls _ _ #[.int .u8 (c5.toNat : Int)] _ _); refine (HDC.out _).mono ?_; rintro e w2 ⟨rfl, rfl⟩))
                  go_ret
                  exact ⟨by rw [HX.out]; rfl, Lib.hid (by rw [HB.out]; exact HC.out _ M1.out), M1.out.more (by simp)⟩
                | true => cases t4 with
                  | false =>
                    have HX := Lib.hid (show startS s.data.toList = 505 from hx)
                    simp only [Bool.not_false, Bool.not_true] at n1 n2
                    clear hx hok
                    go_enter Tryz.func52, Tryz.ntmps52
                    go_wp2_with (first
                      | (go_at_call 68; refine HSP.out.mono ?_; rintro e w1 ⟨g, cap, rfl, d0, d1, d2, hg1, hg2, hm⟩; have M1 := Lib.hid hm; clear hm)
                      | (go_at_call 45; refine (HI.out _).mono ?_; rintro e w2 ⟨rfl, rfl⟩)
                      | (go_at_call 69; (with_reducible show Calls _ _ #[.int .u8 (a5.toNat : Int)] _ _); refine (HDA.out _).mono ?_; rintro e w2 ⟨rfl, rfl⟩)
                      | (go_at_call 69; (with_reducible show Calls _ _ #[.int .u8 (c5.toNat : Int)] _ _); refine (HDC.out _).mono ?_; rintro e w2 ⟨rfl, rfl⟩))
                    go_ret
                    exact ⟨by rw [HX.out]; rfl, Lib.hid (by rw [HB.out]; exact HC.out _ M1.out), M1.out.more (by simp)⟩
                  | true => exact absurd ⟨rfl, rfl, rfl, rfl⟩ hok
        · have hv := verS_not5 h5
          have HX := Lib.hid (show startS s.data.toList = 400 by rw [start_ver hw ht (by rw [hv]; decide), hv])
          have HB := Lib.hid (begP_no (h := h) (l := s.data.toList) (by rw [HX.out]; decide))
          have hex : ((xv.extract 0 5).toList == [72, 84, 84, 80, 47]) = false := text_ne (by
            rw [ByteArray.data_extract, Array.toList_extract, List.extract_eq_take_drop, hvl]
            simpa [hvL] using h5)
          clear hw ht hv h5 h8 hvl hvz
          go_enter Tryz.func52, Tryz.ntmps52
          go_wp2_with (first
            | (go_at_call 68; refine HSP.out.mono ?_; rintro e w1 ⟨g, cap, rfl, d0, d1, d2, hg1, hg2, hm⟩; have M1 := Lib.hid hm; clear hm)
            | (go_at_call 45; refine (HI.out _).mono ?_; rintro e w2 ⟨rfl, rfl⟩))
          go_ret
          exact ⟨by rw [HX.out]; rfl, Lib.hid (by rw [HB.out]; exact HC.out _ M1.out), M1.out.more (by simp)⟩
      · have hv := verS_not8 h8
        have HX := Lib.hid (show startS s.data.toList = 400 by rw [start_ver hw ht (by rw [hv]; decide), hv])
        have HB := Lib.hid (begP_no (h := h) (l := s.data.toList) (by rw [HX.out]; decide))
        have z8 : ((xv.size : Int) != 8) = true := by rw [bne_iff_ne]; omega
        clear hw ht hv h8 hvl hvz
        go_enter Tryz.func52, Tryz.ntmps52
        go_wp2_with (first
          | (go_at_call 68; refine HSP.out.mono ?_; rintro e w1 ⟨g, cap, rfl, d0, d1, d2, hg1, hg2, hm⟩; have M1 := Lib.hid hm; clear hm)
          | (go_at_call 45; refine (HI.out _).mono ?_; rintro e w2 ⟨rfl, rfl⟩))
        go_ret
        exact ⟨by rw [HX.out]; rfl, Lib.hid (by rw [HB.out]; exact HC.out _ M1.out), M1.out.more (by simp)⟩
  · have HX := Lib.hid (startS_parts h3)
    have HB := Lib.hid (begP_no (h := h) (l := s.data.toList) (by rw [HX.out]; decide))
    have HSP := Lib.hid (words_xn s hs w)
    obtain ⟨n, hn⟩ : ∃ n, n = (wordsL s.data.toList).length := ⟨_, rfl⟩
    rw [← hn] at h3 HSP
    have n3 : ((n : Int) != 3) = true := by rw [bne_iff_ne]; omega
    clear hn h3 hpl c
    unfold ptr
    go_enter Tryz.func52, Tryz.ntmps52
    go_wp2_with (go_at_call 68; refine HSP.out.mono ?_; rintro e w1 ⟨A, cap, rfl, hm⟩; have M1 := Lib.hid hm; clear hm)
    go_ret
    exact ⟨by rw [HX.out]; rfl, Lib.hid (by rw [HB.out]; exact HC.out _ M1.out), M1.out.more (by simp)⟩
end Go.Proofs.YtjoineomkdiekaaGreatDoor

/- A line of the document's head. Conditions: lines of at most a million bytes. -/
namespace Go.Proofs.YtjoineomkdiekaaGreatDoor
open Go.RowKit
set_option linter.unusedVariables false
set_option linter.unusedSimpArgs false

section
variable {xb : Nat} {v u : Value} {w w' : World} {h h' : HdP} {e z : Int}
theorem HdX.as (c : HdX xb v w h z e) (h1 : h'.S = h.S) (h2 : refCells z e h' = refCells z e h) : HdX xb v w h' z e := by
  show FldE _ (refCells z e h') _ _ _ h'.S
  rw [h1, h2]; exact c
/-- What a line has made, ahead of the storing of its status. -/
def TookX (xb : Nat) (v : Value) (w : World) (h' : HdP) (w' : World) : Prop :=
  ∃ (u : Value) (z' e' : Int), HdX xb u w' { h' with status := 0 } z' e' ∧ (h'.whole = false → h'.status = 0 → e' = (h'.empty : Int) ∧ z' = (h'.bytes : Int)) ∧ Mods (xb :: v.ownBlock.toList) w w' ∧ ∀ k ∈ u.ownBlock.toList, k ∈ v.ownBlock.toList ∨ w.heap.size ≤ k
theorem tookX_long {n : Int} (c : HdX xb v w' h z e) (hm : Mods [xb] w w') (h0 : h.status = 0) (hn : n ≠ 0) : TookX xb v w { h with status := n } w' :=
  ⟨v, z, e, c.as rfl (by unfold refCells; simp only [h0]), fun _ h => absurd h hn, hm.more (by simp), fun k hk => .inl hk⟩
theorem tookX_pass {n b : Nat} (c : HdX xb v w' h z e) (hm : Mods [xb] w w') (h0 : h.status = 0) (hz : z = (b : Int)) (hk : e = (n : Int) + 1) :
    TookX xb v w { h with bytes := b, empty := n + 1, status := if 4 < n + 1 then 400 else 0 } w' :=
  ⟨v, z, e, c.as rfl (by unfold refCells; simp only [h0]), fun _ _ => ⟨hk, hz⟩, hm.more (by simp), fun k hk => .inl hk⟩
theorem tookX_start {b : Nat} {l : List UInt8} (c : HdX xb v w' (begP h l) z (h.empty : Int)) (hm : Mods [xb] w w') (h0 : h.status = 0) (hz : z = (b : Int)) : TookX xb v w (startP { h with bytes := b } l) w' := by
  refine ⟨v, z, h.empty, ?_, ?_, hm.more (by simp), fun k hk => .inl hk⟩
  · by_cases e0 : startS l = 0
    · rw [startP_yes e0]
      unfold begP at c
      rw [if_pos e0] at c
      exact c.as rfl (by unfold refCells; simp only [h0])
    · rw [startP_bad e0]
      rw [begP_no e0] at c
      exact c.as rfl (by unfold refCells; simp only [h0])
  · intro _ hs
    by_cases e0 : startS l = 0
    · rw [startP_yes e0]; exact ⟨rfl, hz⟩
    · rw [startP_bad e0] at hs; exact absurd hs e0
theorem tookX_end {b : Nat} (c : HdX xb v w' (h.end (frm h.minor h.S)) z e) (hm : Mods [xb] w w') (h0 : h.status = 0) :
    TookX xb v w { h with bytes := b, how := (frm h.minor h.S).1, whole := decide ((frm h.minor h.S).2 = 0), status := (frm h.minor h.S).2 } w' := by
  refine ⟨v, z, e, c.as rfl (by unfold refCells HdP.end; simp only [h0]), fun h1 h2 => ?_, hm.more (by simp), fun k hk => .inl hk⟩
  simp only at h1 h2
  rw [h2] at h1; cases h1
theorem tookX_lay {W : World} {b : Nat} {s : ByteArray} (h1 : h.started = true) (h2 : s.size ≠ 0) (hm0 : Mods [xb] w W) (c : HdX xb u w' (layP h s) z (h.empty : Int)) (hm : Mods (xb :: v.ownBlock.toList) W w') (hu : ∀ k ∈ u.ownBlock.toList, k ∈ v.ownBlock.toList ∨ W.heap.size ≤ k) (h0 : h.status = 0) (hz : z = (b : Int)) :
    TookX xb v w (bodyP { h with bytes := b } s) w' := by
  refine ⟨u, z, h.empty, ?_, ?_, (hm0.more (F2 := xb :: v.ownBlock.toList) (by simp)).trans hm (fun k hk => .inl hk), fun k hk => (hu k hk).imp id (Nat.le_trans hm0.size)⟩
  · by_cases e1 : (parR s).2 = 0
    · by_cases e2 : 24 ≤ h.S.length
      · rw [bodyP_full (h := { h with bytes := b }) h1 h2 e1 e2]
        have hl : layS h s = 431 := by unfold layS; rw [if_neg (by simp [e1]), if_pos e2]
        unfold layP at c
        rw [hl, if_neg (by decide)] at c
        exact c.as rfl (by unfold refCells; simp only [h0])
      · rw [bodyP_add (h := { h with bytes := b }) h1 h2 e1 e2]
        have hl : layS h s = 0 := by unfold layS; rw [if_neg (by simp [e1]), if_neg e2]
        unfold layP at c
        rw [hl, if_pos rfl] at c
        exact c.as rfl (by unfold refCells; simp only [h0])
    · rw [bodyP_bad (h := { h with bytes := b }) h1 h2 e1]
      have hl : layS h s = 400 := by unfold layS; rw [if_pos e1]
      unfold layP at c
      rw [hl, if_neg (by decide)] at c
      exact c.as rfl (by unfold refCells; simp only [h0])
  · intro _ hs
    by_cases e1 : (parR s).2 = 0
    · by_cases e2 : 24 ≤ h.S.length
      · rw [bodyP_full (h := { h with bytes := b }) h1 h2 e1 e2] at hs; cases hs
      · rw [bodyP_add (h := { h with bytes := b }) h1 h2 e1 e2]; exact ⟨rfl, hz⟩
    · rw [bodyP_bad (h := { h with bytes := b }) h1 h2 e1] at hs; cases hs
theorem HdX.ends {k l n : Int} {c x : Bool} (a : HdX xb v w h z e) :
    HdX xb v (((((w.setCell ⟨xb, 7, none⟩ (.int .i64 k)).setCell ⟨xb, 8, none⟩ (.int .i64 l)).setCell ⟨xb, 9, none⟩ (.bool c)).setCell ⟨xb, 10, none⟩ (.bool x)).setCell ⟨xb, 12, none⟩ (.bool (n == 0))) (h.end (⟨k, l, c, x⟩, n)) z e := by
  have h1 := a.set 7 (.int .i64 k) (h' := { h with how := ⟨k, h.how.length, h.how.close, h.how.expect⟩ }) (e' := e) (z' := z) rfl rfl
  have h2 := HdX.set h1 8 (.int .i64 l) (h' := { h with how := ⟨k, l, h.how.close, h.how.expect⟩ }) (e' := e) (z' := z) rfl rfl
  have h3 := HdX.set h2 9 (.bool c) (h' := { h with how := ⟨k, l, c, h.how.expect⟩ }) (e' := e) (z' := z) rfl rfl
  have h4 := HdX.set h3 10 (.bool x) (h' := { h with how := ⟨k, l, c, x⟩ }) (e' := e) (z' := z) rfl rfl
  exact HdX.set h4 12 (.bool (n == 0)) (h' := h.end (⟨k, l, c, x⟩, n)) (e' := e) (z' := z) (by rw [beq_dec]; rfl) rfl
theorem endsX_mods {k l n : Int} {c x : Bool} :
    Mods [xb] w (((((w.setCell ⟨xb, 7, none⟩ (.int .i64 k)).setCell ⟨xb, 8, none⟩ (.int .i64 l)).setCell ⟨xb, 9, none⟩ (.bool c)).setCell ⟨xb, 10, none⟩ (.bool x)).setCell ⟨xb, 12, none⟩ (.bool (n == 0))) :=
  (((((Mods.refl [xb] w).setCell (.inl (by simp)) _).setCell (.inl (by simp)) _).setCell (.inl (by simp)) _).setCell (.inl (by simp)) _).setCell (.inl (by simp)) _
theorem res_HR {w w' : World} (h : Mods [] (w.alloc (.cells #[.int .i64 0, .int .i64 0, .bool false, .bool false] 35)) w') : Row w' w.heap.size 35 noH.cells ∧ Mods [] w w' :=
  ⟨(Row.new w _ _).mods h (by simp), ((Mods.refl [] w).alloc _).trans h (fun _ h => nomatch h)⟩
end
theorem FldE.as13 {xb : Nat} {u : Value} {w' : World} {h h' : HdP} {e z : Int} {S' : List FV} (f : FldE 37 (refCells z e h) w' xb u S') (h2 : refCells z e h' = refCells z e h) (h1 : h'.S = S') : HdX xb u w' h' z e := by
  show FldE _ (refCells z e h') _ _ _ h'.S
  rw [h1, h2]; exact f
/-- One field Added, from a row of one. -/
theorem radd_one13 {t : TypeId} {R : List Value} {g b : Nat} {v : Value} {S : List FV} (x y : ByteArray) {w W : World} (h : FldE t R w g v S) (hm : Mods [] w W) (hr : Row W b 49 #[.string x, .string y]) (hb : w.heap.size ≤ b) (h1 : x.size ≤ 1000000) (h2 : y.size ≤ 1000000) (ht : 49 ≠ t) :
    Calls Tryz.prog 13 #[ptr g, .slice (some ⟨b, 0, none⟩) 1 1] W fun e w' =>
      ∃ u, e = .returned (.tuple #[.int .i64 ((addR S.length [(x, y)]).1 : Nat), .int .i64 (addR S.length [(x, y)]).2]) ∧ AddedE t R W g v (addF S [(x, y)]) u w' := by
  refine radd (.slice (some ⟨b, 0, none⟩) 1 1) [(x, y)] _ (h.low hm) (.inr ⟨b, 0, 1, rfl, by simp, hr.lt, fun j hj => ?_⟩) (by simp) ?_ ?_ ht
  · obtain rfl : j = 0 := by (have : j < 1 := hj); omega
    exact ⟨hr.cell 0, hr.cell 1⟩
  · intro p hp; rw [List.mem_singleton] at hp; subst hp; exact ⟨h1, h2⟩
  · intro _ k hk
    have hk2 : k = b := by simpa [Value.ownBlock, eq_comm] using hk
    subst hk2
    exact ⟨fun e => by have := h.row.lt; omega, fun hk3 => by have := h.lt _ hk3; omega⟩
set_option maxRecDepth 10000 in
set_option maxHeartbeats 4000000 in
theorem line_x0 {xb : Nat} {v : Value} {w : World} {h : HdP} (s : ByteArray) (hs : s.size ≤ 1000000) (ok : HdOk h) (h1 : h.whole = false) (h2 : h.status = 0) (c : HdX xb v w h h.bytes h.empty) :
    Calls Tryz.prog 36 #[ptr xb, .string s] w fun r w' => r = .returned (.int .i64 (lineP h s).status) ∧ Hid (TookX xb v w (lineP h s) w') := by
  have hby := ok.bytes
  have hem := ok.low h1 h2
  obtain ⟨b, hb0⟩ : ∃ b, b = h.bytes + (s.size + 2) := ⟨_, rfl⟩
  have hz : (h.bytes : Int) + (s.size : Int) + 2 = (b : Int) := by omega
  obtain ⟨-, -, -, -, -, -, -, -, -, -, -, p11, -, -, p14, p15⟩ := c.facts
  have f14 := c.row'.free 14
  have hwr1 : IntKind.i64.wrap ((h.bytes : Int) + (s.size : Int)) = (h.bytes : Int) + (s.size : Int) := by rw [IntKind.wrap_i64]; omega
  have hwr2 : IntKind.i64.wrap ((h.bytes : Int) + (s.size : Int) + 2) = (b : Int) := by rw [IntKind.wrap_i64]; omega
  have C0 := Lib.hid c
  have H0 := Lib.hid h2
  have HLG := Lib.hid (fun (x : 256 < s.size) => lineP_long (s := s) h1 h2 x)
  have HMU := Lib.hid (fun (x : ¬ 256 < s.size) (y : 1024 < b) => lineP_much (s := s) h1 h2 x (by rw [← hb0]; exact y))
  have HGO := Lib.hid (fun (x : ¬ 256 < s.size) (y : ¬ 1024 < b) => (show lineP h s = bodyP { h with bytes := b } s by rw [hb0]; exact lineP_go (s := s) h1 h2 x (by rw [← hb0]; exact y)))
  unfold ptr at *
  by_cases hl : 256 < s.size
  · have HX := Lib.hid (HLG.out hl)
    have x2 : (256 : Int) < (s.size : Int) := by omega
    clear HLG HMU HGO hl h1 h2 c hem hby hb0 hz
    cases a0 : h.started with
    | false =>
      rw [a0] at p11
      have HL := Lib.hid (longS_n a0)
      clear a0
      go_enter Tryz.func36, Tryz.ntmps36
      go_wp2_with fail
      go_ret
      exact ⟨by rw [HX.out, HL.out]; rfl, Lib.hid (by rw [HX.out, HL.out]; exact tookX_long C0.out (Mods.refl _ _) H0.out (by decide))⟩
    | true =>
      rw [a0] at p11
      have HL := Lib.hid (longS_y a0)
      clear a0
      go_enter Tryz.func36, Tryz.ntmps36
      go_wp2_with fail
      go_ret
      exact ⟨by rw [HX.out, HL.out]; rfl, Lib.hid (by rw [HX.out, HL.out]; exact tookX_long C0.out (Mods.refl _ _) H0.out (by decide))⟩
  · have x2 : decide ((256 : Int) < (s.size : Int)) = false := by simp; omega
    obtain ⟨W1, hW1⟩ : ∃ W1, W1 = w.setCell ⟨xb, 14, none⟩ (.int .i64 (b : Int)) := ⟨_, rfl⟩
    have c1 : HdX xb v W1 h b h.empty := by rw [hW1]; exact c.set 14 _ rfl rfl
    have m1 : Mods [xb] w W1 := by rw [hW1]; exact (Mods.refl _ _).setCell (.inl (by simp)) _
    obtain ⟨-, -, -, -, -, -, q6, -, -, -, -, q11, -, -, q14, q15⟩ := c1.facts
    have C1 := Lib.hid c1
    have M1 := Lib.hid m1
    by_cases hl2 : 1024 < b
    · have HX := Lib.hid (HMU.out hl hl2)
      have y2 : (1024 : Int) < (b : Int) := by omega
      clear HLG HMU HGO hl h1 h2 c hem hby hb0 hz m1 c1 hl2
      cases a0 : h.started with
      | false =>
        rw [a0] at p11 q11
        have HL := Lib.hid (longS_n a0)
        clear a0
        go_enter Tryz.func36, Tryz.ntmps36
        go_upto_region 7 with fail
        rw [← hW1]
        clear hW1 p11 p14 p15 f14
        go_wp2_with fail
        go_ret
        exact ⟨by rw [HX.out, HL.out]; rfl, Lib.hid (by rw [HX.out, HL.out]; exact tookX_long C1.out M1.out H0.out (by decide))⟩
      | true =>
        rw [a0] at p11 q11
        have HL := Lib.hid (longS_y a0)
        clear a0
        go_enter Tryz.func36, Tryz.ntmps36
        go_upto_region 7 with fail
        rw [← hW1]
        clear hW1 p11 p14 p15 f14
        go_wp2_with fail
        go_ret
        exact ⟨by rw [HX.out, HL.out]; rfl, Lib.hid (by rw [HX.out, HL.out]; exact tookX_long C1.out M1.out H0.out (by decide))⟩
    · have hx := HGO.out hl hl2
      have y2 : decide ((1024 : Int) < (b : Int)) = false := by simp; omega
      clear HLG HMU HGO hl2 hb0 hz hby
      cases a0 : h.started with
      | false =>
        rw [a0] at p11 q11
        by_cases z0 : s.size = 0
        · have hem2 := emp_yes z0
          have hx := hx.trans (bodyP_skip (h := { h with bytes := b }) a0 z0)
          simp only at hx
          have f15 := c1.row'.free 15
          have hwe : IntKind.i64.wrap ((h.empty : Int) + 1) = (h.empty : Int) + 1 := by rw [IntKind.wrap_i64]; omega
          have S2 := Lib.hid (c1.set 15 (.int .i64 ((h.empty : Int) + 1)) (h' := h) (z' := (b : Int)) (e' := (h.empty : Int) + 1) rfl rfl)
          have HXX := Lib.hid hx
          by_cases h4 : 4 < h.empty + 1
          · have HX := Lib.hid (show (lineP h s).status = 400 by rw [hx]; exact if_pos h4)
            have g4 : (4 : Int) < (h.empty : Int) + 1 := by omega
            clear hx h1 h2 c m1 c1 a0 z0 hem hl h4
            go_enter Tryz.func36, Tryz.ntmps36
            go_upto_region 7 with fail
            rw [← hW1]
            clear hW1 p11 p14 p15 f14
            go_wp2_with fail
            go_ret
            exact ⟨by rw [HX.out]; rfl, Lib.hid (by rw [HXX.out]; exact tookX_pass S2.out (M1.out.setCell (.inl (by simp)) _) H0.out rfl rfl)⟩
          · have HX := Lib.hid (show (lineP h s).status = 0 by rw [hx]; exact if_neg h4)
            have g4 : decide ((4 : Int) < (h.empty : Int) + 1) = false := by simp; omega
            clear hx h1 h2 c m1 c1 a0 z0 hem hl h4
            go_enter Tryz.func36, Tryz.ntmps36
            go_upto_region 7 with fail
            rw [← hW1]
            clear hW1 p11 p14 p15 f14
            go_wp2_with fail
            go_ret
            exact ⟨by rw [HX.out]; rfl, Lib.hid (by rw [HXX.out]; exact tookX_pass S2.out (M1.out.setCell (.inl (by simp)) _) H0.out rfl rfl)⟩
        · have hem2 := emp_no (s := s) (by omega)
          have HX := Lib.hid (hx.trans (bodyP_start (h := { h with bytes := b }) a0 z0))
          have HB := Lib.hid (start_x s (by omega) (ok.none a0).2.2.1 c1)
          have HS := Lib.hid (start_status (h := { h with bytes := b }) (l := s.data.toList) h2)
          clear hx h1 h2 c m1 c1 a0 z0 hem hl
          unfold ptr at HB
          go_enter Tryz.func36, Tryz.ntmps36
          go_upto_region 7 with fail
          rw [← hW1]
          clear hW1 p11 p14 p15 f14
          go_wp2_with (go_at_call 52; refine HB.out.mono ?_; rintro e w2 ⟨rfl, hk, hm⟩; have HK := Lib.hid hk.out; have M2 := Lib.hid hm; clear hk hm)
          go_ret
          exact ⟨by rw [HX.out, HS.out]; rfl, Lib.hid (by rw [HX.out]; exact tookX_start HK.out (M1.out.trans M2.out (fun k hk => .inl hk)) H0.out rfl)⟩
      | true =>
        rw [a0] at p11 q11
        by_cases z0 : s.size = 0
        · have hem2 := emp_yes z0
          have HX := Lib.hid (hx.trans (bodyP_end (h := { h with bytes := b }) a0 z0))
          have hfm : frm h.minor h.S = frmN h.minor h.S := by
            unfold frm
            rcases ok.minor with e | e <;> rw [e] <;> rfl
          have hmm : max 0 (min 1 h.minor) = h.minor := by rcases ok.minor with e | e <;> rw [e] <;> rfl
          have HO := Lib.hid (fun W (hm : Mods [] W1 W) => of_rfld hmm ok.minor (FldE.low c1 hm) ok.lite)
          unfold HAns at HO
          rw [← hfm] at HO
          have HTE := Lib.hid (fun w' (k : HdX xb v w' (h.end (frm h.minor h.S)) b h.empty) (hm : Mods [xb] w w') => tookX_end (b := b) k hm h2)
          obtain ⟨r, hr⟩ : ∃ r, r = frm h.minor h.S := ⟨_, rfl⟩
          rw [← hr] at HO HTE HX
          obtain ⟨⟨k, l, cl, x⟩, n⟩ := r
          simp only [howV] at HO
          have n1 : ¬ xb = W1.heap.size := Nat.ne_of_lt c1.row'.lt
          have n2 : ¬ W1.heap.size = xb := fun e => n1 e.symm
          have HC := Lib.hid (fun W (hm : Mods [] W1 W) => FldE.low c1 hm)
          clear hx h1 h2 c m1 c1 a0 z0 hem hl hfm hmm hr
          unfold ptr at HO
          go_enter Tryz.func36, Tryz.ntmps36
          go_upto_region 7 with fail
          rw [← hW1]
          clear hW1 p11 p14 p15 f14
          go_upto_region 17 with fail
          go_cut [6, 7] (fun t er wx => ∃ tb, t = .pointer (some ⟨tb, 0, none⟩) ∧ er = .int .i64 n ∧ Hid (Row wx tb 35 (⟨k, l, cl, x⟩ : HowP).cells ∧ Mods [] W1 wx))
          case first =>
            go_region_held3 (fun w' => w'.cell? ⟨xb, 6, none⟩ = some (.int .i64 h.minor)) (go_keep) (first
              | (go_at_call 15; refine (HO.out _ ((Mods.refl [] W1).drew)).mono ?_; rintro e w2 ⟨rfl, hm⟩; have hm2 := ((Mods.refl [] W1).drew).trans hm (fun _ h => nomatch h); have M2 := Lib.hid hm2; have d6 := cell_mods q6 hm2 (by simp); clear hm hm2)
              | (go_at_call 15; refine (HO.out _ (((Mods.refl [] W1).alloc (.cells #[.int .i64 0, .int .i64 0, .bool false, .bool false] 35)).drew)).mono ?_; rintro e w2 ⟨rfl, hm⟩; have hm2 := res_HR (of_drewT hm); have M2 := Lib.hid hm2.2; have R2 := Lib.hid hm2.1; obtain ⟨k0, k1, k2, k3, f0, f1, f2, f3⟩ := R2.out.factsH; simp only [noH] at k0 k1 k2 k3; have d6 := cell_mods q6 hm2.2 (by simp); clear hm hm2))
            · go_wp2
              go_meet
              case rel => exact ⟨_, rfl, rfl, Lib.hid ⟨Row.new _ _ _, M2.out.alloc _⟩⟩
            · go_wp2
              go_meet
              case rel => exact ⟨_, rfl, rfl, Lib.hid ⟨R2.out.putH ⟨k, l, cl, x⟩, M2.out.putH (.inr (Nat.le_refl _)) ⟨k, l, cl, x⟩⟩⟩
          case rest =>
            obtain ⟨tb, rfl, rfl, hq⟩ := hcut
            have MT := Lib.hid hq.out.2
            have hc : HdX xb v wc h b h.empty := HC.out _ hq.out.2
            obtain ⟨k0, k1, k2, k3, -⟩ := hq.out.1.factsH
            simp only at k0 k1 k2 k3
            obtain ⟨-, -, -, -, -, -, -, r7, r8, r9, r10, -, r12, -⟩ := hc.facts
            have f7 := hc.row'.free 7
            have f8 := hc.row'.free 8
            have f9 := hc.row'.free 9
            have f10 := hc.row'.free 10
            have f12 := hc.row'.free 12
            have CX := Lib.hid hc
            clear hq hc q6 q11 q14 q15
            obtain ⟨wx, rfl⟩ : ∃ wx : World, wx = wc := ⟨_, rfl⟩
            go_wp2_with fail
            go_ret
            exact ⟨by rw [HX.out]; rfl, Lib.hid (by rw [HX.out]; exact HTE.out _ (HdX.ends CX.out) ((M1.out.trans (MT.out.more (F2 := [xb]) (by simp)) (fun k hk => .inl hk)).trans endsX_mods (fun k hk => .inl hk)))⟩
        · have hem2 := emp_no (s := s) (by omega)
          have HX := Lib.hid hx
          have HA0 := Lib.hid a0
          have HZ0 := Lib.hid z0
          have HS := Lib.hid (lay_status (b := b) a0 z0 h2)
          have HP := Lib.hid (fparse_r s W1 (by omega))
          have HPO := Lib.hid (par_ok (s := s))
          have HLS := Lib.hid (show layS h s = if (parR s).2 ≠ 0 then 400 else if 24 ≤ h.S.length then 431 else 0 from rfl)
          have HLP := Lib.hid (show layP h s = if layS h s = 0 then { h with S := h.S ++ [(parR s).1] } else h from rfl)
          unfold FPAns at HP
          obtain ⟨r, hr⟩ : ∃ r, r = parR s := ⟨_, rfl⟩
          rw [← hr] at HP HPO HLS HLP
          clear hr
          obtain ⟨⟨x, y⟩, n⟩ := r
          simp only at HP HPO HLS HLP
          have HCM := Lib.hid (fun W (hm : Mods [] W1 W) => FldE.low c1 hm)
          by_cases n0 : n = 0
          · subst n0
            obtain ⟨hok, hx1, hy1⟩ := HPO.out rfl
            have ha := addR_one (n := h.S.length) hok
            have hf := addF_one (S := h.S) hok
            have HL := Lib.hid (show layS h s = if 24 ≤ h.S.length then 431 else 0 by rw [HLS.out]; exact if_neg (by decide))
            have h24 := c1.len
            have HAD := Lib.hid (fun W b (hm : Mods [] W1 W) (hr : Row W b 49 #[.string x, .string y]) (hb : W1.heap.size ≤ b) => radd_one13 x y c1 hm hr hb (by omega) (by omega) (by decide))
            rw [ha, hf] at HAD
            have HLT := Lib.hid (show ∀ k ∈ xb :: v.ownBlock.toList, k < W1.heap.size from fun k hk => by
              rcases List.mem_cons.1 hk with e | e
              · rw [e]; exact c1.row'.lt
              · exact FldE.lt c1 k e)
            obtain ⟨m, hm⟩ : ∃ m, m = h.S.length := ⟨_, rfl⟩
            rw [← hm] at HAD HL h24
            obtain ⟨S', hS'⟩ : ∃ S', S' = (if m = 24 then h.S else h.S ++ [(x, y)]) := ⟨_, rfl⟩
            rw [← hS'] at HAD
            have HS' := Lib.hid hS'
            clear hS' hm HPO HLS hok ha hf hx h1 h2 c m1 c1 a0 z0 hem hl
            unfold ptr at HAD
            by_cases hn : m = 24
            · subst hn
              have HL2 := Lib.hid (show layS h s = 431 from HL.out)
              have HY := Lib.hid (show layP h s = h by rw [HLP.out, HL2.out]; exact if_neg (by decide))
              simp only [if_true] at HAD
              clear HL HLP h24
              go_enter Tryz.func36, Tryz.ntmps36
              go_upto_region 7 with fail
              rw [← hW1]
              clear hW1 p11 p14 p15 f14
              go_upto_region 24 with (go_at_call 53; refine HP.out.mono ?_; rintro e w1 ⟨rfl, hm⟩; have M0 := Lib.hid hm; clear hm)
              obtain ⟨W2, hW2⟩ : ∃ W2, W2 = w1.alloc (.cells #[.string x, .string y] 49) := ⟨_, rfl⟩
              obtain ⟨tb, htb⟩ : ∃ tb, tb = w1.heap.size := ⟨_, rfl⟩
              have m2 : Mods [] W1 W2 := by rw [hW2]; exact M0.out.alloc _
              have r1 : Row W2 tb 49 #[.string x, .string y] := by rw [hW2, htb]; exact Row.new _ _ _
              have htw : W1.heap.size ≤ tb := by rw [htb]; exact M0.out.size
              rw [← hW2, ← htb]
              have t0 : W2.cell? ⟨tb, 0, none⟩ = some (.string x) := r1.cell 0
              have t1 : W2.cell? ⟨tb, 1, none⟩ = some (.string y) := r1.cell 1
              have x3 : ¬ tb = W2.heap.size := Nat.ne_of_lt r1.lt
              have x4 : ¬ W2.heap.size = tb := fun e => x3 e.symm
              have R1 := Lib.hid r1
              have M2 := Lib.hid m2
              have HTW := Lib.hid htw
              clear hW2 htb r1 m2 htw q6 q11 q14 q15
              go_region_held3 (fun w' => w'.cell? ⟨tb, 0, none⟩ = some (.string x) ∧ w'.cell? ⟨tb, 1, none⟩ = some (.string y)) (go_keep) ((go_at_call 13; refine (HAD.out _ W2.heap.size ((M2.out.alloc (.cells #[.string x, .string y] 49)).drew) (Row.new W2 49 #[.string x, .string y]) M2.out.size).mono ?_; rintro e w4 ⟨u, rfl, ha⟩; have HA := Lib.hid ha; have mm := ((Mods.refl _ W2).alloc (.cells #[.string x, .string y] 49)).drew.trans ha.mods (fun k hk => .inl hk); have htg : tb ∉ xb :: v.ownBlock.toList := (fun hk => by (have h1 := HLT.out tb hk; have h2 := HTW.out; omega)); have d1 := cell_mods t0 mm htg; have d2 := cell_mods t1 mm htg; have MM := Lib.hid mm; clear ha mm htg))
              go_wp2
              go_ret
              refine ⟨by rw [HX.out, HS.out, HL2.out]; rfl, Lib.hid (by
                rw [HX.out]
                refine tookX_lay HA0.out HZ0.out M1.out (u := u) ?_ ((M2.out.more (F2 := xb :: v.ownBlock.toList) (by simp)).trans MM.out (fun k hk => .inl hk)) (fun k hk => ?_) H0.out rfl
                · rw [HY.out]
                  exact FldE.as13 HA.out.fld rfl (by rw [HS'.out]; simp)
                · rcases HA.out.news k hk with h1 | h1
                  · exact .inl h1
                  · exact .inr (by have h2 := M2.out.size; simp at h1; omega))⟩
            · have HL2 := Lib.hid (show layS h s = 0 by rw [HL.out]; exact if_neg (by omega))
              have HY := Lib.hid (show layP h s = { h with S := h.S ++ [(x, y)] } by rw [HLP.out, HL2.out]; exact if_pos rfl)
              have HNN := Lib.hid hn
              rw [if_neg hn] at HAD
              clear HL HLP h24 hn
              go_enter Tryz.func36, Tryz.ntmps36
              go_upto_region 7 with fail
              rw [← hW1]
              clear hW1 p11 p14 p15 f14
              go_upto_region 24 with (go_at_call 53; refine HP.out.mono ?_; rintro e w1 ⟨rfl, hm⟩; have M0 := Lib.hid hm; clear hm)
              obtain ⟨W2, hW2⟩ : ∃ W2, W2 = w1.alloc (.cells #[.string x, .string y] 49) := ⟨_, rfl⟩
              obtain ⟨tb, htb⟩ : ∃ tb, tb = w1.heap.size := ⟨_, rfl⟩
              have m2 : Mods [] W1 W2 := by rw [hW2]; exact M0.out.alloc _
              have r1 : Row W2 tb 49 #[.string x, .string y] := by rw [hW2, htb]; exact Row.new _ _ _
              have htw : W1.heap.size ≤ tb := by rw [htb]; exact M0.out.size
              rw [← hW2, ← htb]
              have t0 : W2.cell? ⟨tb, 0, none⟩ = some (.string x) := r1.cell 0
              have t1 : W2.cell? ⟨tb, 1, none⟩ = some (.string y) := r1.cell 1
              have x3 : ¬ tb = W2.heap.size := Nat.ne_of_lt r1.lt
              have x4 : ¬ W2.heap.size = tb := fun e => x3 e.symm
              have R1 := Lib.hid r1
              have M2 := Lib.hid m2
              have HTW := Lib.hid htw
              clear hW2 htb r1 m2 htw q6 q11 q14 q15
              go_region_held3 (fun w' => w'.cell? ⟨tb, 0, none⟩ = some (.string x) ∧ w'.cell? ⟨tb, 1, none⟩ = some (.string y)) (go_keep) ((go_at_call 13; refine (HAD.out _ W2.heap.size ((M2.out.alloc (.cells #[.string x, .string y] 49)).drew) (Row.new W2 49 #[.string x, .string y]) M2.out.size).mono ?_; rintro e w4 ⟨u, rfl, ha⟩; have HA := Lib.hid ha; have mm := ((Mods.refl _ W2).alloc (.cells #[.string x, .string y] 49)).drew.trans ha.mods (fun k hk => .inl hk); have htg : tb ∉ xb :: v.ownBlock.toList := (fun hk => by (have h1 := HLT.out tb hk; have h2 := HTW.out; omega)); have d1 := cell_mods t0 mm htg; have d2 := cell_mods t1 mm htg; have MM := Lib.hid mm; clear ha mm htg))
              go_wp2
              go_ret
              refine ⟨by rw [HX.out, HS.out, HL2.out]; rfl, Lib.hid (by
                rw [HX.out]
                refine tookX_lay HA0.out HZ0.out M1.out (u := u) ?_ ((M2.out.more (F2 := xb :: v.ownBlock.toList) (by simp)).trans MM.out (fun k hk => .inl hk)) (fun k hk => ?_) H0.out rfl
                · rw [HY.out]
                  exact FldE.as13 HA.out.fld rfl (by rw [HS'.out, if_neg HNN.out])
                · rcases HA.out.news k hk with h1 | h1
                  · exact .inl h1
                  · exact .inr (by have h2 := M2.out.size; simp at h1; omega))⟩
          · have hne : (n != 0) = true := by simpa using n0
            have HL2 := Lib.hid (show layS h s = 400 by rw [HLS.out, if_pos n0])
            have HY := Lib.hid (show layP h s = h by rw [HLP.out, HL2.out]; exact if_neg (by decide))
            clear n0 HLS HLP HPO hx h1 h2 c m1 c1 a0 z0 hem hl
            go_enter Tryz.func36, Tryz.ntmps36
            go_upto_region 7 with fail
            rw [← hW1]
            clear hW1 p11 p14 p15 f14
            go_wp2_with (go_at_call 53; refine HP.out.mono ?_; rintro e w1 ⟨rfl, hm⟩; have M0 := Lib.hid hm; clear hm)
            go_ret
            exact ⟨by rw [HX.out, HS.out, HL2.out]; rfl, Lib.hid (by
              rw [HX.out]
              exact tookX_lay HA0.out HZ0.out M1.out (u := v) (by rw [HY.out]; exact HCM.out _ (M0.out.alloc _)) ((M0.out.alloc _).more (by simp)) (fun k hk => .inl hk) H0.out rfl)⟩
end Go.Proofs.YtjoineomkdiekaaGreatDoor

/- Line of the document's head; both heads side by side. Conditions: lines of at most a million bytes. -/
namespace Go.Proofs.YtjoineomkdiekaaGreatDoor
open Go.RowKit
set_option linter.unusedVariables false
set_option linter.unusedSimpArgs false

/-- What a call leaves of the document's head. -/
def LinedX (F : List Nat) (w : World) (xb : Nat) (h' : HdP) (w' : World) : Prop := ∃ F', HdR F' w' xb h' ∧ Mods F w w' ∧ ∀ k ∈ F', k ∈ F ∨ w.heap.size ≤ k
theorem LinedX.of_took {xb : Nat} {v : Value} {w w' : World} {h' : HdP} (t : TookX xb v w h' w') (o : HdOk h') : LinedX (xb :: v.ownBlock.toList) w xb h' (w'.setCell ⟨xb, 13, none⟩ (.int .i64 h'.status)) := by
  obtain ⟨u, z', e', c, hz, hm, hn⟩ := t
  refine ⟨xb :: u.ownBlock.toList, ⟨⟨u, z', e', c.set 13 _ (h' := h') rfl rfl, rfl, hz⟩, o⟩, hm.setCell (.inl (by simp)) _, fun k hk => ?_⟩
  rcases List.mem_cons.1 hk with e | e
  · exact .inl (by rw [e]; simp)
  · exact (hn k e).imp (fun h => by simp [h]) id
theorem LinedX.low {F : List Nat} {w w' w2 : World} {xb : Nat} {h' : HdP} (l : LinedX F w xb h' w') (hm : Mods [] w' w2) : LinedX F w xb h' w2 := by
  obtain ⟨F', a, hm0, hn⟩ := l
  exact ⟨F', a.low hm, hm0.trans hm (fun _ h => nomatch h), hn⟩
set_option maxRecDepth 10000 in
set_option maxHeartbeats 2000000 in
theorem line_x {F : List Nat} {w : World} {xb : Nat} {h : HdP} (s : ByteArray) (hs : s.size ≤ 1000000) (a : HdR F w xb h) :
    Calls Tryz.prog 18 #[ptr xb, .string s] w fun r w' => r = .returned (.tuple #[.bool (lineP h s).whole, .int .i64 (lineP h s).status]) ∧ Hid (LinedX F w xb (lineP h s) w') := by
  obtain ⟨v, z, e, c, rfl, hz⟩ := a.ex
  have ok := a.ok
  have HO := Lib.hid (ok.line s)
  have c8 : w.cell? ⟨xb, 12, none⟩ = some (.bool h.whole) := c.row'.cell 12
  have c9 : w.cell? ⟨xb, 13, none⟩ = some (.int .i64 h.status) := c.row'.cell 13
  unfold ptr
  by_cases he : h.whole = true ∨ h.status ≠ 0
  · have HX := Lib.hid (lineP_end s he)
    have HL := Lib.hid (show LinedX (xb :: v.ownBlock.toList) w xb h w from ⟨_, a, Mods.refl _ _, fun k hk => .inl hk⟩)
    have hcase : h.whole = true ∨ (h.whole = false ∧ (h.status == 0) = false) := by
      cases hw : h.whole with
      | true => exact .inl rfl
      | false => exact .inr ⟨rfl, by rw [beq_eq_false_iff_ne]; exact he.resolve_left (by rw [hw]; simp)⟩
    clear a c he hz ok
    obtain ⟨b0, hb0⟩ : ∃ b0, b0 = h.whole := ⟨_, rfl⟩
    obtain ⟨n0, hn0⟩ : ∃ n0, n0 = h.status := ⟨_, rfl⟩
    rw [← hb0] at c8 hcase
    rw [← hn0] at c9 hcase
    have HB := Lib.hid hb0.symm
    have HN := Lib.hid hn0.symm
    clear hb0 hn0
    rcases hcase with rfl | ⟨rfl, hn⟩
    all_goals
      go_enter Tryz.func18, Tryz.ntmps18
      go_upto_region 3 with fail
      go_quiet (fail)
      go_wp2
      go_ret2
      exact ⟨by rw [HX.out, HB.out, HN.out]; rfl, Lib.hid (by rw [HX.out]; exact HL.out.low (by exact (Mods.refl _ _).drewN _))⟩
  · have h1 : h.whole = false := by cases hw : h.whole with | false => rfl | true => exact absurd (.inl hw) he
    have h2 : h.status = 0 := by
      by_cases e : h.status = 0
      · exact e
      · exact absurd (.inr e) he
    obtain ⟨rfl, rfl⟩ := hz h1 h2
    have HT := Lib.hid (line_x0 s hs ok h1 h2 c)
    rw [h1] at c8
    rw [h2] at c9
    clear a c he hz ok h1 h2
    unfold ptr at HT
    generalize lineP h s = h' at *
    go_enter Tryz.func18, Tryz.ntmps18
    go_upto_region 3 with (go_at_call 36; refine HT.out.mono ?_; rintro e w1 ⟨rfl, hk⟩; have HK := Lib.hid hk.out; obtain ⟨u1, z1, e1, k1, -⟩ := hk.out; have d9 : w1.cell? ⟨xb, 13, none⟩ = some (.int .i64 0) := k1.row'.cell 13; have f9 := k1.row'.free 13; clear hk k1)
    have hl := LinedX.of_took HK.out HO.out
    obtain ⟨W2, hW2⟩ : ∃ W2, W2 = w1.setCell ⟨xb, 13, none⟩ (.int .i64 h'.status) := ⟨_, rfl⟩
    rw [← hW2] at hl ⊢
    clear hW2 d9 f9 c8 c9 u1 e1 z1
    have HL := Lib.hid hl
    obtain ⟨F', a2, -, -⟩ := hl
    obtain ⟨v2, z2, e2, cc, -, -⟩ := a2.ex
    have d8 : W2.cell? ⟨xb, 12, none⟩ = some (.bool h'.whole) := cc.row'.cell 12
    have d9 : W2.cell? ⟨xb, 13, none⟩ = some (.int .i64 h'.status) := cc.row'.cell 13
    clear a2 cc F' v2 e2 z2
    go_quiet (fail)
    go_wp2
    go_ret2
    exact ⟨rfl, Lib.hid (HL.out.low (by exact (Mods.refl _ _).drewN _))⟩

/-- Both heads, as a law holds them; W is the world that the law began with. -/
structure Both (W w : World) (hb xb : Nat) (h : HdP) (F G : List Nat) : Prop where
  a : HdA F w hb h
  x : HdR G w xb h
  ap : ∀ k ∈ F, k ∉ G
  bf : ∀ k ∈ F, W.heap.size ≤ k
  bg : ∀ k ∈ G, W.heap.size ≤ k
  low : Mods [] W w
section
variable {W w w' : World} {hb xb : Nat} {h h' : HdP} {F G : List Nat}
theorem Both.quiet (b : Both W w hb xb h F G) (hm : Mods [] w w') : Both W w' hb xb h F G := ⟨b.a.low hm, b.x.low hm, b.ap, b.bf, b.bg, b.low.trans hm (fun _ h => nomatch h)⟩
/-- Both have been given the same line: the code's first. -/
structure Half (W w : World) (hb xb : Nat) (h' h : HdP) (F G : List Nat) : Prop where
  a : HdA F w hb h'
  x : HdR G w xb h
  ap : ∀ k ∈ F, k ∉ G
  bf : ∀ k ∈ F, W.heap.size ≤ k
  bg : ∀ k ∈ G, W.heap.size ≤ k
  low : Mods [] W w
theorem Both.first (b : Both W w hb xb h F G) (l : Lined F w hb h' w') : ∃ F', Half W w' hb xb h' h F' G := by
  obtain ⟨F', a, hm, hn⟩ := l
  refine ⟨F', a, b.x.mods hm (fun k hk hk2 => b.ap k hk2 hk), fun k hk hk2 => ?_, fun k hk => ?_, b.bg, b.low.trans hm (fun k hk => .inr (b.bf k hk))⟩
  · rcases hn k hk with e | e
    · exact b.ap k e hk2
    · have := b.x.lt k hk2; omega
  · rcases hn k hk with e | e
    · exact b.bf k e
    · exact Nat.le_trans b.low.size e
theorem Half.second (b : Half W w hb xb h' h F G) (l : LinedX G w xb h' w') : ∃ G', Both W w' hb xb h' F G' := by
  obtain ⟨G', a, hm, hn⟩ := l
  refine ⟨G', b.a.mods hm (fun k hk hk2 => b.ap k hk hk2), a, fun k hk hk2 => ?_, b.bf, fun k hk => ?_, b.low.trans hm (fun k hk => .inr (b.bg k hk))⟩
  · rcases hn k hk2 with e | e
    · exact b.ap k hk e
    · have := b.a.lt k hk; omega
  · rcases hn k hk with e | e
    · exact b.bg k e
    · exact Nat.le_trans b.low.size e
end
end Go.Proofs.YtjoineomkdiekaaGreatDoor

/- Lines, in both heads (the law's play). Conditions: lines of at most a million bytes, a million of them. -/
namespace Go.Proofs.YtjoineomkdiekaaGreatDoor
open Go.RowKit
set_option linter.unusedVariables false
set_option linter.unusedSimpArgs false

/-- What the two heads say, cell by cell, at a world. -/
theorem FsAt.of_x {xb : Nat} {v : Value} {w : World} {h : HdP} {z e : Int} (c : HdX xb v w h z e) : FsAt w v h.S := FldE.fs c
theorem Gt.fs13 {w0 w : World} {S : List FV} {v : Value} (h : Gt w0 49 2 S.length (encF S) v w) : FsAt w v S := FsAt.of_row (own_base (w' := w) h.row (Nat.zero_le _))
set_option maxRecDepth 10000 in
set_option maxHeartbeats 4000000 in
theorem play_l (ts : List ByteArray) (vl : Value) (w : World) (hA : SsAt w vl ts) (hl : ts.length ≤ 1000000) (hs : ∀ x ∈ ts, x.size ≤ 1000000) :
    Calls Tryz.prog 8 #[vl] w fun r w' => Hid (∃ hb xb F G, r = .returned (.tuple #[ptr hb, ptr xb, .bool true]) ∧ Both w w' hb xb (playP newH ts) F G) := by
  have HN := Lib.hid (new_h w)
  obtain ⟨n, hn⟩ : ∃ n, n = ts.length := ⟨_, rfl⟩
  have HCE := Lib.hid (fun k (hk : k < n) => show ∃ (s : ByteArray), ts[k]? = some s ∧ s.size ≤ 1000000 ∧ ∀ W, Mods [] w W → ∀ (b off : Nat) cap, vl = .slice (some ⟨b, off, none⟩) n cap → W.cell? ⟨b, off + k, none⟩ = some (.string s) from by
    rw [hn] at hk
    refine ⟨ts[k], List.getElem?_eq_getElem hk, hs _ (List.getElem_mem hk), fun W hm b off cap hv => ?_⟩
    rcases hA with ⟨h1, _⟩ | ⟨b2, o2, c2, hv2, -, -, hb2, hc2⟩
    · rw [h1] at hk; cases hk
    · rw [hv] at hv2
      injection hv2 with e1 e2 e3
      injection e1 with e1
      injection e1 with e4 e5
      subst e4; subst e5
      exact cell_mods (hc2 k hk) hm (by simp))
  have HLEN := Lib.hid hn
  have hform : ∃ a c, vl = .slice a n c := by rw [hn]; exact hA.len
  have hpos : 0 < n → ∃ (b off cap : Nat), vl = .slice (some ⟨b, off, none⟩) n cap ∧ n ≤ cap := fun h0 => by
    rcases hA with ⟨h1, _⟩ | ⟨b2, o2, c2, hv2, -, hcap, -, -⟩
    · rw [h1] at hn; simp at hn; omega
    · exact ⟨b2, o2, c2, by rw [hn]; exact hv2, by omega⟩
  have hnl : n ≤ 1000000 := by omega
  clear hA hl hs hn
  unfold ptr at *
  obtain ⟨va, vc, hvf⟩ := hform
  subst hvf
  go_enter Tryz.func8, Tryz.ntmps8
  go_upto_region 2 with (go_at_call 14; refine HN.out.mono ?_; rintro e w1 hk; obtain ⟨hb, F, rfl, ha, hm, hf⟩ := hk.out; have H1 := Lib.hid ha; have M1 := Lib.hid hm; have HF := Lib.hid hf; clear hk ha hm hf)
  obtain ⟨W2, hW2⟩ : ∃ W2, W2 = w1.alloc (.cells (.slice none 0 0 :: refCells 0 0 newH).toArray 37) := ⟨_, rfl⟩
  change Code.wp _ _ _ _ (w1.alloc (.cells (.slice none 0 0 :: refCells 0 0 newH).toArray 37))
  have B0 : Both w W2 hb w1.heap.size newH F [w1.heap.size] := by
    have hr := Row.new w1 37 (.slice none 0 0 :: refCells 0 0 newH).toArray
    rw [← hW2] at hr
    have hm : Mods [] w1 W2 := by rw [hW2]; exact (Mods.refl _ _).alloc _
    refine ⟨H1.out.low hm, ⟨⟨.slice none 0 0, 0, 0, ⟨hr, World.ownsRow_nil _ _ _ _, by decide, fun p hp => nomatch hp⟩, rfl, fun _ _ => ⟨rfl, rfl⟩⟩, newH_ok⟩, fun k hk hk2 => ?_, HF.out, fun k hk => ?_, M1.out.on hm⟩
    · have := H1.out.lt k hk
      rw [List.mem_singleton] at hk2; omega
    · rw [List.mem_singleton] at hk; rw [hk]; exact M1.out.size
  rw [← hW2]
  obtain ⟨xb, hxb⟩ : ∃ xb, xb = w1.heap.size := ⟨_, rfl⟩
  rw [← hxb] at B0 ⊢
  have HB0 := Lib.hid B0
  obtain ⟨g1, v1, st1, e1, z1, cc1, -, -⟩ := B0.a.ex
  have b0 : W2.cell? ⟨hb, 0, none⟩ = some (.pointer (some ⟨g1, 0, none⟩)) := cc1.row.cell 0
  clear hxb hW2 B0 cc1 H1 HF
  go_wp2_with fail
  clear b0
  go_loopw [7] (fun i wr => ∃ (k : Nat) (F G : List Nat), k ≤ n ∧ i = .int .i64 k ∧ Hid (Both w wr hb xb (playP newH (ts.take k)) F G)) (fun i _ => n - (intOf i).toNat)
  case atStart => exact ⟨0, _, _, Nat.zero_le _, rfl, by rw [List.take_zero]; exact HB0⟩
  case round =>
    obtain ⟨k, F, G, hk, rfl, hG⟩ := hrel
    by_cases hlt : k < n
    · obtain ⟨s, hks, hs, hcs⟩ := HCE.out k hlt
      obtain ⟨b, off, cap, hv, hcap⟩ := hpos (by omega)
      have d0 := hcs wr hG.out.low b off cap hv
      have HSN := Lib.hid (show playP newH (ts.take (k + 1)) = lineP (playP newH (ts.take k)) s by
        rw [List.take_add_one, hks, Option.toList_some, playP_snoc])
      have HBB := Lib.hid hG.out
      have HL1 := Lib.hid (line_a s hs hG.out.a)
      have HCD := Lib.hid (fun W hm => hcs W hm b off cap hv)
      injection hv with hv1 hv2 hv3
      subst hv1; subst hv3
      obtain ⟨h', hh'⟩ : ∃ h', h' = lineP (playP newH (ts.take k)) s := ⟨_, rfl⟩
      rw [← hh'] at HSN HL1
      have HH := Lib.hid hh'
      clear hh' hG hks hcs hv2
      unfold ptr at HL1
      go_upto_region 10 with (first
        | (go_at_call 10; refine HL1.out.mono ?_; rintro e w2 ⟨rfl, hq⟩; obtain ⟨F2, hh⟩ := HBB.out.first hq.out; have HF2 := Lib.hid hh; have HL2 := Lib.hid (line_x s hs hh.x); rw [← HH.out] at HL2; unfold ptr at HL2; have d1 := HCD.out w2 hh.low; clear hq hh)
        | (go_at_call 18; refine HL2.out.mono ?_; rintro e w3 ⟨rfl, hq⟩; obtain ⟨G2, hh⟩ := HF2.out.second hq.out; have HB2 := Lib.hid hh; have HL3 := Lib.hid (start_a hh.a); unfold ptr at HL3; simp only [Tgt.cells] at HL3; clear hq hh)
        | (go_at_call 11; refine HL3.out.mono ?_; rintro e w4 ⟨rfl, hm⟩; have HB3 := Lib.hid (HB2.out.quiet hm); clear hm))
      have HB4 := Lib.hid (HB3.out.quiet ((Mods.refl [] w4).alloc (.cells h'.tgt.cells 33)))
      obtain ⟨W5, hW5⟩ : ∃ W5, W5 = w4.alloc (.cells h'.tgt.cells 33) := ⟨_, rfl⟩
      obtain ⟨tb, htb⟩ : ∃ tb, tb = w4.heap.size := ⟨_, rfl⟩
      have rt : Row W5 tb 33 h'.tgt.cells := by rw [hW5, htb]; exact Row.new _ _ _
      change Code.wp _ _ _ _ (w4.alloc (.cells h'.tgt.cells 33))
      rw [← hW5] at HB4
      rw [← hW5, ← htb]
      clear hW5 htb d0 d1
      obtain ⟨g, v, st, e1, z1, ca, -, -⟩ := HB4.out.a.ex
      obtain ⟨vx, z2, e2, cx, -, -⟩ := HB4.out.x.ex
      obtain ⟨A, c, hvx⟩ := FldE.form cx
      subst hvx
      obtain ⟨t0, t1, t2, t3, -⟩ := rt.facts
      have a0 : W5.cell? ⟨hb, 0, none⟩ = some (.pointer (some ⟨g, 0, none⟩)) := ca.row.cell 0
      obtain ⟨x0, x1, x2, x3, x4, x5, x6, x7, x8, x9, x10, -⟩ := HdX.facts cx
      have HALL := Lib.hid (fun W (hm : Mods [] W5 W) => all_a W (ca.fld.low hm))
      have HFX := Lib.hid (fun W (hm : Mods [] W5 W) => (FldE.low cx hm).fs)
      have HHOW := Lib.hid (fun W (hm : Mods [] W5 W) => how_a (HB4.out.quiet hm).a)
      simp only [howV] at HHOW
      have hlen := cx.len
      have HFL := Lib.hid (fun va vb W (h1 : FsAt W va h'.S) (h2 : FsAt W vb h'.S) => fields_13 h'.S h'.S va vb W h1 h2 (by omega) (by omega))
      obtain ⟨m, hm⟩ : ∃ m, m = h'.S.length := ⟨_, rfl⟩
      rw [← hm] at x0 HFX hlen
      have HMM := Lib.hid hm
      clear ca cx rt hm
      unfold ptr at HALL HHOW
      go_region_held3 (fun w' => w'.cell? ⟨hb, 0, none⟩ = some (.pointer (some ⟨g, 0, none⟩)) ∧ w'.cell? ⟨tb, 0, none⟩ = some (.int .i64 h'.tgt.form) ∧ w'.cell? ⟨tb, 1, none⟩ = some (.string h'.tgt.host) ∧ w'.cell? ⟨tb, 2, none⟩ = some (.string h'.tgt.path) ∧ w'.cell? ⟨tb, 3, none⟩ = some (.string h'.tgt.query) ∧ w'.cell? ⟨xb, 0, none⟩ = some (.slice A m c) ∧ w'.cell? ⟨xb, 1, none⟩ = some (.string h'.meth) ∧ w'.cell? ⟨xb, 2, none⟩ = some (.int .i64 h'.tgt.form) ∧ w'.cell? ⟨xb, 3, none⟩ = some (.string h'.tgt.host) ∧ w'.cell? ⟨xb, 4, none⟩ = some (.string h'.tgt.path) ∧ w'.cell? ⟨xb, 5, none⟩ = some (.string h'.tgt.query) ∧ w'.cell? ⟨xb, 6, none⟩ = some (.int .i64 h'.minor) ∧ w'.cell? ⟨xb, 7, none⟩ = some (.int .i64 h'.how.kind) ∧ w'.cell? ⟨xb, 8, none⟩ = some (.int .i64 h'.how.length) ∧ w'.cell? ⟨xb, 9, none⟩ = some (.bool h'.how.close) ∧ w'.cell? ⟨xb, 10, none⟩ = some (.bool h'.how.expect)) (go_keep) (first
        | (go_at_call 17; refine (HALL.out _ ((Mods.refl [] W5).drew)).mono ?_; rintro e w6 ⟨B, rfl, hg⟩; have M6 := Lib.hid (show Mods [] W5 w6 from ((Mods.refl [] W5).drew).on hg.low); have F6 := Lib.hid hg.fs13; have a0K6 := cell_mods a0 M6.out (by simp); have t0K6 := cell_mods t0 M6.out (by simp); have t1K6 := cell_mods t1 M6.out (by simp); have t2K6 := cell_mods t2 M6.out (by simp); have t3K6 := cell_mods t3 M6.out (by simp); have x0K6 := cell_mods x0 M6.out (by simp); have x1K6 := cell_mods x1 M6.out (by simp); have x2K6 := cell_mods x2 M6.out (by simp); have x3K6 := cell_mods x3 M6.out (by simp); have x4K6 := cell_mods x4 M6.out (by simp); have x5K6 := cell_mods x5 M6.out (by simp); have x6K6 := cell_mods x6 M6.out (by simp); have x7K6 := cell_mods x7 M6.out (by simp); have x8K6 := cell_mods x8 M6.out (by simp); have x9K6 := cell_mods x9 M6.out (by simp); have x10K6 := cell_mods x10 M6.out (by simp); clear hg)
        | (go_at_call 16; refine (HFL.out _ _ _ F6.out (HFX.out _ M6.out)).mono ?_; rintro e w7 ⟨rfl, hd⟩; have M7 := Lib.hid (show Mods [] w6 w7 from by obtain ⟨q, rfl⟩ := hd; exact (Mods.refl _ _).drewN q); have a0K7 := cell_mods a0 (M6.out.on M7.out) (by simp); have t0K7 := cell_mods t0 (M6.out.on M7.out) (by simp); have t1K7 := cell_mods t1 (M6.out.on M7.out) (by simp); have t2K7 := cell_mods t2 (M6.out.on M7.out) (by simp); have t3K7 := cell_mods t3 (M6.out.on M7.out) (by simp); have x0K7 := cell_mods x0 (M6.out.on M7.out) (by simp); have x1K7 := cell_mods x1 (M6.out.on M7.out) (by simp); have x2K7 := cell_mods x2 (M6.out.on M7.out) (by simp); have x3K7 := cell_mods x3 (M6.out.on M7.out) (by simp); have x4K7 := cell_mods x4 (M6.out.on M7.out) (by simp); have x5K7 := cell_mods x5 (M6.out.on M7.out) (by simp); have x6K7 := cell_mods x6 (M6.out.on M7.out) (by simp); have x7K7 := cell_mods x7 (M6.out.on M7.out) (by simp); have x8K7 := cell_mods x8 (M6.out.on M7.out) (by simp); have x9K7 := cell_mods x9 (M6.out.on M7.out) (by simp); have x10K7 := cell_mods x10 (M6.out.on M7.out) (by simp); clear hd)
        | (go_at_call 12; refine (HHOW.out _ (M6.out.on M7.out)).mono ?_; rintro e w8 ⟨rfl, hm⟩; have M8 := Lib.hid hm; have a0K8 := cell_mods a0 ((M6.out.on M7.out).on M8.out) (by simp); have t0K8 := cell_mods t0 ((M6.out.on M7.out).on M8.out) (by simp); have t1K8 := cell_mods t1 ((M6.out.on M7.out).on M8.out) (by simp); have t2K8 := cell_mods t2 ((M6.out.on M7.out).on M8.out) (by simp); have t3K8 := cell_mods t3 ((M6.out.on M7.out).on M8.out) (by simp); have x0K8 := cell_mods x0 ((M6.out.on M7.out).on M8.out) (by simp); have x1K8 := cell_mods x1 ((M6.out.on M7.out).on M8.out) (by simp); have x2K8 := cell_mods x2 ((M6.out.on M7.out).on M8.out) (by simp); have x3K8 := cell_mods x3 ((M6.out.on M7.out).on M8.out) (by simp); have x4K8 := cell_mods x4 ((M6.out.on M7.out).on M8.out) (by simp); have x5K8 := cell_mods x5 ((M6.out.on M7.out).on M8.out) (by simp); have x6K8 := cell_mods x6 ((M6.out.on M7.out).on M8.out) (by simp); have x7K8 := cell_mods x7 ((M6.out.on M7.out).on M8.out) (by simp); have x8K8 := cell_mods x8 ((M6.out.on M7.out).on M8.out) (by simp); have x9K8 := cell_mods x9 ((M6.out.on M7.out).on M8.out) (by simp); have x10K8 := cell_mods x10 ((M6.out.on M7.out).on M8.out) (by simp); clear hm))
      go_wp2
      go_roundw
      case rel => exact ⟨k + 1, _, _, by omega, by go_num, Lib.hid (by rw [HSN.out]; exact HB4.out.quiet ((M6.out.on M7.out).on M8.out))⟩
      case measure => simp [intOf]; omega
    · obtain rfl : k = n := by omega
      have HE := Lib.hid hG.out
      rw [HLEN.out, List.take_length] at HE
      clear hG
      go_wp2
      go_ret3
      exact Lib.hid ⟨hb, xb, F, G, rfl, HE.out⟩
end Go.Proofs.YtjoineomkdiekaaGreatDoor

/- Lines that a law gathers. Conditions: a thousand of them at most. -/
namespace Go.Proofs.YtjoineomkdiekaaGreatDoor
open Go.RowKit
set_option linter.unusedVariables false
set_option linter.unusedSimpArgs false

theorem encS_app (a b : List ByteArray) : encS (a ++ b) = encS a ++ encS b := by simp [encS]
/-- Some texts more behind a row that a function gathers. -/
theorem Gt.appN {w0 w : World} {n : Nat} {l : List ByteArray} {v : Value} (h : Gt w0 9 1 n (encS l) v w) (x : List ByteArray) (m : Nat) (hm : x.length = m) (h0 : 0 < m) (hroom : n + m ≤ 1000000) :
    ∃ (g n' c' : Nat) (w' : World), (Builtin.append_ #[22, 22] 22 #[v, .slice (some ⟨w.heap.size, 0, none⟩) m m]).run Tryz.prog (w.alloc (.cells (encS x).toArray 9)) = .ok (.slice (some ⟨g, 0, none⟩) n' c') w' ∧
      Gt w0 9 1 (n + m) (encS (l ++ x)) (.slice (some ⟨g, 0, none⟩) n' c') w' := by
  obtain ⟨i0, hi, hz0, hz1, hz2⟩ := info_parts infoSt
  obtain ⟨v', w5, hrun, hown', hgrow, -, -⟩ := run_append_own_at (P := Tryz.prog) (w := w.alloc (.cells (encS x).toArray 9)) w0.heap.size 22 22 9 i0 (.string ByteArray.empty) 1 16 Tryz.underlying22 hi hz0 hz1 hz2 rfl (by decide)
    v n (encS l) (own_modsB h.row ((Mods.refl [] w).alloc _) (by simp)) ⟨w.heap.size, 0, none⟩ m m (encS x) (by simp [encS, hm]) (cells_newF w (encS x) _) (fun u hu => by
      unfold encS at hu
      obtain ⟨p, _, rfl⟩ := List.mem_map.1 hu
      simp [Value.oneCell']) (by unfold maxLen; omega) (by have := h.low.size; simp; omega) (by have := h.low.size; simp; omega)
  obtain ⟨g, c', rfl⟩ : ∃ g c', v' = .slice (some ⟨g, 0, none⟩) (n + m) c' := by
    rcases hown'.2 with ⟨_, e0⟩ | ⟨g, cap, cur, rfl, _⟩
    · omega
    · exact ⟨g, cap, rfl⟩
  exact ⟨g, _, c', w5, hrun, by rw [encS_app]; exact hown', (h.low.alloc _).grown hgrow fun k e => .inr (h.news k (by rw [e]; simp))⟩
theorem Gt.lit13 (w : World) (l : List ByteArray) (hl : l.length ≤ 1000) : Gt w 9 1 l.length (encS l) (.slice (some ⟨w.heap.size, 0, none⟩) l.length l.length) (w.alloc (.cells (encS l).toArray 9)) :=
  ⟨World.ownsRow_lit w (encS l).toArray l.length (Nat.le_refl _) (by unfold maxLen; omega) (by simp [encS]), (Mods.refl [] w).alloc _⟩
theorem Gt.ss13 {w0 w : World} {l : List ByteArray} {v : Value} (h : Gt w0 9 1 l.length (encS l) v w) : SsAt w v l := SsAt.of_row (own_base (w' := w) h.row (Nat.zero_le _))
end Go.Proofs.YtjoineomkdiekaaGreatDoor

/- A head beside the document's fields, as a law holds them. Conditions: as each says. -/
namespace Go.Proofs.YtjoineomkdiekaaGreatDoor
open Go.RowKit
set_option linter.unusedVariables false
set_option linter.unusedSimpArgs false

/-- One field more in a new object of a function of W. -/
theorem Made.one {W w w2 : World} {xb : Nat} {v u : Value} {S S' : List FV} {t : TypeId} {o : Obj} (m : Made t W xb v S w) (ha : AddedE t [] (w.alloc o) xb v S' u w2) : Made t W xb u S' w2 := by
  refine ⟨ha.fld, (m.mods.alloc o).trans ha.mods (fun k hk => .inr ?_), m.new, fun k hk => ?_⟩
  · rcases List.mem_cons.1 hk with e | e
    · rw [e]; exact m.new
    · exact m.news k e
  · rcases ha.news k hk with e | e
    · exact m.news k e
    · exact Nat.le_trans (m.mods.alloc o).size e
theorem Made.low13 {W w w2 : World} {xb : Nat} {v : Value} {S : List FV} {t : TypeId} (m : Made t W xb v S w) (hm : Mods [] w w2) : Made t W xb v S w2 := ⟨m.fld.low hm, m.mods.on hm, m.new, m.news⟩
/-- A head of the code, and the document's fields. -/
structure Side (W w : World) (hb : Nat) (h : HdP) (F : List Nat) (xb : Nat) (v : Value) (S : List FV) : Prop where
  a : HdA F w hb h
  x : Made 31 W xb v S w
  ap : ∀ k ∈ F, k ≠ xb ∧ k ∉ v.ownBlock.toList
  bf : ∀ k ∈ F, W.heap.size ≤ k
theorem Side.line {W w w' : World} {hb : Nat} {h h' : HdP} {F : List Nat} {xb : Nat} {v : Value} {S : List FV} (s : Side W w hb h F xb v S) (l : Lined F w hb h' w') : ∃ F', Side W w' hb h' F' xb v S := by
  obtain ⟨F', a, hm, hn⟩ := l
  have hx := s.x.fld.row.lt
  refine ⟨F', a, ⟨s.x.fld.mods hm (fun hk => (s.ap _ hk).1 rfl) (fun k hk hk2 => (s.ap k hk2).2 hk), s.x.mods.trans hm (fun k hk => .inr (s.bf k hk)), s.x.new, s.x.news⟩, fun k hk => ?_, fun k hk => ?_⟩
  · rcases hn k hk with e | e
    · exact s.ap k e
    · exact ⟨by omega, fun hk2 => by have := s.x.fld.lt k hk2; omega⟩
  · rcases hn k hk with e | e
    · exact s.bf k e
    · exact Nat.le_trans s.x.mods.size e
theorem Side.quiet {W w w' : World} {hb : Nat} {h : HdP} {F : List Nat} {xb : Nat} {v : Value} {S : List FV} (s : Side W w hb h F xb v S) (hm : Mods [] w w') : Side W w' hb h F xb v S :=
  ⟨s.a.low hm, s.x.low13 hm, s.ap, s.bf⟩
theorem Side.make {W w w' : World} {hb : Nat} {h : HdP} {F : List Nat} {xb : Nat} {v : Value} {S : List FV} (x : Made 31 W xb v S w) (a : HdA F w' hb h) (hm : Mods [] w w') (hF : ∀ k ∈ F, w.heap.size ≤ k) : Side W w' hb h F xb v S := by
  have hx := x.fld.row.lt
  refine ⟨a, x.low13 hm, fun k hk => ⟨by have := hF k hk; omega, fun hk2 => by have := x.fld.lt k hk2; have := hF k hk; omega⟩, fun k hk => Nat.le_trans x.mods.size (hF k hk)⟩

/-! Plain. -/
def fldH (minor : Bool) (b : Nat) (S : List FV) : HdP := { begH minor with bytes := b, S := S }
theorem fldH_beg (minor : Bool) : fldH minor 16 [] = begH minor := rfl
/-- What the law has looked at. -/
def GoodF (S : List FV) : Prop := ∀ p ∈ S, okF p = true ∧ p.1.size + p.2.size ≤ 254
theorem GoodF.snoc {S : List FV} {p : FV} (h : GoodF S) (h1 : okF p = true) (h2 : p.1.size + p.2.size ≤ 254) : GoodF (S ++ [p]) := fun q hq => by
  rcases List.mem_append.1 hq with hq | hq
  · exact h q hq
  · rw [List.mem_singleton] at hq; subst hq; exact ⟨h1, h2⟩
theorem bytesF_snoc (S : List FV) (p : FV) : bytesF (S ++ [p]) = bytesF S + (p.1.size + p.2.size + 4) := by
  unfold bytesF; rw [List.map_append, List.sum_append]; simp
theorem bytesF_take (S : List FV) (k : Nat) : bytesF (S.take k) ≤ bytesF S := by
  have h : bytesF S = bytesF (S.take k) + bytesF (S.drop k) := by
    conv => lhs; rw [← List.take_append_drop k S]
    unfold bytesF; rw [List.map_append, List.sum_append]
  omega
theorem fldH_line {minor : Bool} {b : Nat} {S : List FV} {p : FV} (h1 : okF p = true) (h2 : p.1.size + p.2.size ≤ 254) (hb : b + (p.1.size + p.2.size + 4) ≤ 1024) (hl : S.length < 24) :
    lineP (fldH minor b S) (lineK p.1 p.2 1) = fldH minor (b + (p.1.size + p.2.size + 4)) (S ++ [p]) := by
  have hz : (lineK p.1 p.2 1).size = p.1.size + p.2.size + 2 := by rw [lineK_size]; omega
  have := fld_line (h := fldH minor b S) (n := p.1) (v := p.2) 1 rfl rfl rfl h1 (by omega) (by show b + _ ≤ 1024; omega) hl
  rw [this, hz]
  rfl
def fldE (minor : Bool) (b : Nat) (S : List FV) (r : HowP × Int) : HdP := { begH minor with bytes := b, S := S, how := r.1, whole := decide (r.2 = 0), status := r.2 }
def minZ (minor : Bool) : Int := if minor = true then 1 else 0
theorem fldH_end {minor : Bool} {b : Nat} {S : List FV} (hb : b + 2 ≤ 1024) : lineP (fldH minor b S) noB = fldE minor (b + 2) S (frm (minZ minor) S) :=
  end_line (h := fldH minor b S) rfl rfl rfl hb
theorem frm_minZ (minor : Bool) (S : List FV) : frm (minZ minor) S = frmN (minZ minor) S := by cases minor <;> rfl
theorem minZ_max (minor : Bool) : max 0 (min 1 (minZ minor)) = minZ minor := by cases minor <;> rfl
theorem minZ_or (minor : Bool) : minZ minor = 0 ∨ minZ minor = 1 := by cases minor <;> simp [minZ]
theorem good_lite {S : List FV} (h : GoodF S) (hl : S.length ≤ 24) : Lite S := by
  have h1 := sizes_le (l := S.map (·.2)) (n := 254) (fun x hx => by
    obtain ⟨p, hp, rfl⟩ := List.mem_map.1 hx
    have := (h p hp).2
    omega)
  have h3 := Nat.mul_le_mul_right (254 + 1) hl
  rw [List.length_map] at h1
  unfold Lite; omega
end Go.Proofs.YtjoineomkdiekaaGreatDoor
