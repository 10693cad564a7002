/- What the laws' same, roomy, stands, spoil do. -/
import Derived.Test.YtogcfeplfclobaaRows2
namespace Go.Proofs.Ytogcfeplfclobaa
open Go.RowKit
set_option maxRecDepth 10000
set_option linter.unusedVariables false
set_option linter.unusedSimpArgs false

theorem same_any (w : World) (A B : Option Addr) (la lb : List Int) (n m ca cb : Nat) (hn : n = la.length) (hm : m = lb.length) (ha : At w [] A la) (hb : At w [] B lb) (hl : la.length ≤ 1000000000) :
    Calls Try.prog 24 #[.slice A n ca, .slice B m cb] w fun e w' => e = .returned (.bool (decide (la = lb))) ∧ ∃ q, w' = w.drewN q := by
  subst hn hm
  by_cases hlen : la.length = lb.length
  · have hB : ((la.length : Int) != (lb.length : Int)) = false := by simp [hlen]
    have hz : la.length ≤ lb.length := by omega
    have HZ := Lib.hid hlen
    have HA := Lib.hid ha
    have HB := Lib.hid hb
    clear hlen ha hb
    go_enter Try.func24, Try.ntmps24
    go_wp2
    go_loopw [5] (fun i wr => ∃ k : Nat, k ≤ la.length ∧ i = .int .i64 k ∧ Hid (∃ q, wr = w.drewN q) ∧ Hid (∀ j, j < k → la[j]? = lb[j]?)) (fun i _ => la.length - (intOf i).toNat)
    case atStart => exact ⟨0, Nat.zero_le _, rfl, Lib.hid ⟨0, rfl⟩, Lib.hid fun j hj => by omega⟩
    case round =>
      obtain ⟨k, hk, rfl, hq, hall⟩ := hrel
      obtain ⟨q, rfl⟩ := hq.out
      by_cases hlt : k < la.length
      · have hltb : k < lb.length := by omega
        obtain ⟨b, o, rfl, _, _, c1, _⟩ := HA.out k la[k] (List.getElem?_eq_getElem hlt)
        obtain ⟨b', o', rfl, _, _, c2, _⟩ := HB.out k lb[k] (List.getElem?_eq_getElem hltb)
        by_cases he : la[k] = lb[k]
        · have HE := Lib.hid he
          have h1 : ((la[k] : Int) != lb[k]) = false := by simp [he]
          obtain ⟨x, hx⟩ : ∃ x, x = la[k] := ⟨_, rfl⟩
          obtain ⟨y, hy⟩ : ∃ y, y = lb[k] := ⟨_, rfl⟩
          rw [← hx] at c1 h1
          rw [← hy] at c2 h1
          clear he hx hy hq
          go_wp2
          go_quiet (fail)
          go_wp2
          go_roundw
          case rel =>
            refine ⟨k + 1, by omega, by go_num, Lib.hid ⟨_, rfl⟩, Lib.hid fun j hj => ?_⟩
            by_cases e : j = k
            · subst e; rw [List.getElem?_eq_getElem hlt, List.getElem?_eq_getElem hltb, HE.out]
            · exact hall.out j (by omega)
          case measure => simp [intOf]; omega
        · have HE := Lib.hid (show decide (la = lb) = false by rw [decide_eq_false_iff_not]; rintro rfl; exact he rfl)
          have h1 : ((la[k] : Int) != lb[k]) = true := by simp [he]
          obtain ⟨x, hx⟩ : ∃ x, x = la[k] := ⟨_, rfl⟩
          obtain ⟨y, hy⟩ : ∃ y, y = lb[k] := ⟨_, rfl⟩
          rw [← hx] at c1 h1
          rw [← hy] at c2 h1
          clear he hx hy hq
          go_wp2
          go_quiet (fail)
          go_wp2
          go_ret
          exact ⟨ret_bool HE.out.symm, by first | exact ⟨_, rfl⟩ | exact ⟨_, World.drewN_drewN ..⟩⟩
      · have HE := Lib.hid (show decide (la = lb) = true by
          rw [decide_eq_true_iff]
          apply List.ext_getElem?
          intro j
          by_cases hj : j < k
          · exact hall.out j hj
          · rw [List.getElem?_eq_none (by omega), List.getElem?_eq_none (by have := HZ.out; omega)])
        go_wp2
        go_ret
        exact ⟨ret_bool HE.out.symm, _, rfl⟩
  · have hB : ((la.length : Int) != (lb.length : Int)) = true := by simp; omega
    have HE := Lib.hid (show decide (la = lb) = false by rw [decide_eq_false_iff_not]; rintro rfl; exact hlen rfl)
    clear hlen
    go_enter Try.func24, Try.ntmps24
    go_wp2
    go_ret
    exact ⟨ret_bool HE.out.symm, 0, rfl⟩
theorem Fresh.alloc {w w1 : World} {v : Value} {l : List Int} (h : Fresh w w1 v l) (o : Obj) : Fresh w (w1.alloc o) v l := ⟨h.1.alloc o, h.2.1.alloc o, h.2.2⟩
theorem Fresh.app {w w1 w2 : World} {v v' : Value} {n : Nat} {xs l : List Int} (h : Fresh w w1 v xs) (hn : n = (xs ++ l).length) (hw : w2.ownsRow 0 5 1 v' n (bv (xs ++ l))) (hm : Mods v.ownBlock.toList w1 w2 ∧ (v'.ownBlock = v.ownBlock ∨ v'.ownBlock = some w1.heap.size)) : Fresh w w2 v' (xs ++ l) := by
  subst hn
  exact h.more hw hm.1 hm.2
/-- What roomy answers: the bytes, and two more behind them. -/
def Roomy (w w' : World) (g c : Nat) (l : List Int) : Prop :=
  w'.ownsRow 0 5 1 (.slice (some ⟨g, 0, none⟩) (l.length + 2) c) (l.length + 2) (bv (l ++ [171, 171])) ∧ Mods [] w w' ∧ w.heap.size ≤ g
theorem roomy_any (w : World) (A : Option Addr) (n c : Nat) (l : List Int) (hn : n = l.length) (ha : At w [] A l) (hl : l.length ≤ 1000000) :
    Calls Try.prog 36 #[.slice A n c] w fun e w' => ∃ g c', e = .returned (.slice (some ⟨g, 0, none⟩) (l.length + 1) c') ∧ Hid (l.length + 2 ≤ c') ∧ Hid (Roomy w w' g c' l) := by
  subst hn
  obtain ⟨i, hi, hz, hs, hb⟩ := info_parts u8_info3
  have HI := Lib.hid (And.intro hi (And.intro hz (And.intro hs hb)))
  have HA := Lib.hid (show At (w.alloc (.cells #[] 5)) [] A l from ha.mods ((Mods.refl _ _).alloc _))
  have HO := Lib.hid (show (w.alloc (.cells #[] 5)).ownsRow 0 5 1 (.slice (some ⟨w.heap.size, 0, none⟩) 0 0) 0 (bv []) from World.ownsRow_lit w #[] 0 (Nat.zero_le _) (by unfold maxLen; omega) rfl)
  clear hi hz hs hb ha
  go_enter Try.func36, Try.ntmps36
  go_wp2_with (first
    | (at_builtin; refine wpList_append_bytes _ rfl (.tmp 3) (.tmp 4) 33 rfl 5 i (.int .u8 0) Try.underlying33 HI.out.1 HI.out.2.1 HI.out.2.2.1 HI.out.2.2.2 rfl (.slice (some ⟨w.heap.size, 0, none⟩) 0 0) 0 [] rfl HO.out [] A l.length c l rfl rfl HA.out (by omega) ?_; intro v1 w1 HO1 HM1)
    | (at_builtin; refine wpList_append_bytes _ rfl (.tmp 5) (.tmp 6) 33 rfl 5 i (.int .u8 0) Try.underlying33 HI.out.1 HI.out.2.1 HI.out.2.2.1 HI.out.2.2.2 rfl v1 (0 + l.length) ([] ++ l) rfl (HO1.out.alloc _) [] (some ⟨w1.heap.size, 0, none⟩) 1 1 [171] rfl rfl (At.lit w1 [] 5 [171] (by simp) (by simp)) (by simp; omega) ?_; intro v2 w2 HO2 HM2)
    | (at_builtin; refine wpList_append_bytes _ rfl (.tmp 7) (.tmp 8) 33 rfl 5 i (.int .u8 0) Try.underlying33 HI.out.1 HI.out.2.1 HI.out.2.2.1 HI.out.2.2.2 rfl v2 (0 + l.length + 1) ([] ++ l ++ [171]) rfl (HO2.out.alloc _) [] (some ⟨w2.heap.size, 0, none⟩) 1 1 [171] rfl rfl (At.lit w2 [] 5 [171] (by simp) (by simp)) (by simp; omega) ?_; intro v3 w3 HO3 HM3; obtain ⟨g3, c3, rfl, hg3, hc3, hm3⟩ := own_some HO3.out (by omega)))
  go_ret
  have f0 : Fresh w (w.alloc (.cells #[] 5)) (.slice (some ⟨w.heap.size, 0, none⟩) 0 0) [] := ⟨HO.out, (Mods.refl _ _).alloc _, by simp [Value.ownBlock]⟩
  have f1 := f0.app (by simp) HO1.out HM1.out
  have f2 := (f1.alloc _).app (by simp) HO2.out HM2.out
  have f3 := (f2.alloc _).app (by simp) HO3.out HM3.out
  refine ⟨g3, c3, rfl, Lib.hid (by omega), Lib.hid ⟨?_, f3.2.1, f3.2.2 g3 (by simp [Value.ownBlock])⟩⟩
  have := HO3.out
  simpa [List.append_assoc] using this
theorem stands_yes (w : World) (A B : Option Addr) (n m ca cb : Nat) (l : List Int) (hn : n = l.length) (hm : m = l.length + 1) (hc : m ≤ ca) (ha : At w [] A (l ++ [171, 171])) (hb : At w [] B l) (hl : l.length ≤ 1000000) :
    Calls Try.prog 38 #[.slice A m ca, .slice B n cb] w fun e w' => e = .returned (.bool true) ∧ ∃ q, w' = w.drewN q := by
  subst hn hm
  have HS := Lib.hid (same_any w A B l l l.length l.length ca cb rfl rfl (by have := ha.take l.length; rwa [List.take_left] at this) hb (by omega))
  obtain ⟨b, o, rfl, _, _, c1, _⟩ := ha l.length 171 (by rw [List.getElem?_append_right (Nat.le_refl _)]; simp)
  clear ha hb
  go_enter Try.func38, Try.ntmps38
  go_wp2_with fail
  refine HS.out.mono ?_
  rintro e w' ⟨rfl, q, rfl⟩
  go_wp2
  go_ret
  exact ⟨rfl, _, rfl⟩
theorem own_less {w : World} {e : TypeId} {A : Option Addr} {n k c : Nat} {xs : List Value} (h : w.ownsRow 0 e 1 (.slice A n c) n xs) (hk : k ≤ n) (h0 : 0 < n) : w.ownsRow 0 e 1 (.slice A k c) k (xs.take k) := by
  rcases h.2 with ⟨_, rfl⟩ | ⟨g, cap, cur, hv, hb, hg, h1, h2, h3, h4⟩
  · omega
  · injection hv with e1 _ e3
    subst e1 e3
    refine ⟨by rw [List.length_take, h.1]; omega, .inr ⟨g, c, cur, rfl, hb, hg, by omega, h2, h3, ?_⟩⟩
    rw [← h4, List.take_take]
    congr 1
    omega
theorem spoil_any (w : World) (v : Value) (n : Nat) (xs : List Int) (hn : n = xs.length) (ho : w.ownsRow 0 5 1 v n (bv xs)) (hl : xs.length ≤ 100000000) :
    Calls Try.prog 39 #[v] w fun e w' => e = .returned (.tuple #[]) ∧ Mods v.ownBlock.toList w w' := by
  subst hn
  obtain ⟨i, hi, hz, hs, hb⟩ := info_parts u8_info3
  obtain ⟨A, c, rfl, hc1, hc2⟩ := own_slice ho
  have HI := Lib.hid (And.intro hi (And.intro hz (And.intro hs hb)))
  have HO := Lib.hid ho
  clear hi hz hs hb ho
  go_enter Try.func39, Try.ntmps39
  go_wp2_with (at_builtin; refine wpList_append_bytes _ rfl (.tmp 4) (.tmp 5) 33 rfl 5 i (.int .u8 0) Try.underlying33 HI.out.1 HI.out.2.1 HI.out.2.2.1 HI.out.2.2.2 rfl (.slice A xs.length c) xs.length xs rfl (HO.out.alloc _) [] (some ⟨w.heap.size, 0, none⟩) 1 1 [99] rfl rfl (At.lit w [] 5 [99] (by simp) (by simp)) (by simp; omega) ?_; intro v1 w1 HO1 HM1; obtain ⟨g1, c1, rfl, hg1, hcc1, hm1⟩ := own_some HO1.out (by omega))
  unfold maxLen at hm1
  go_loopw [3] (fun i wr => ∃ k : Nat, k ≤ xs.length + 1 ∧ i = .int .i64 k ∧ Hid (∃ ys, wr.ownsRow 0 5 1 (.slice (some ⟨g1, 0, none⟩) (xs.length + 1) c1) (xs.length + 1) ys) ∧ Hid (Mods (Value.slice A xs.length c).ownBlock.toList w wr)) (fun i _ => xs.length + 1 - (intOf i).toNat)
  case atStart => exact ⟨0, Nat.zero_le _, rfl, Lib.hid ⟨_, HO1.out⟩, Lib.hid (((Mods.refl _ _).alloc _).trans HM1.out.1 (fun k hk => .inl hk))⟩
  case round =>
    obtain ⟨k, hk, rfl, hd, hmm⟩ := hrel
    obtain ⟨ys, hy⟩ := hd.out
    by_cases hlt : k < xs.length + 1
    · have hfr := hy.frozenAt k
      obtain ⟨u, hce⟩ : ∃ u, wr.cell? ⟨g1, k, none⟩ = some u := ⟨_, (hy.cellAt k (by omega)).trans (List.getElem?_eq_getElem (by have := hy.1; omega))⟩
      have HY := Lib.hid hy
      clear hy
      go_wp2
      go_roundw
      case rel =>
        refine ⟨k + 1, by omega, by go_num, Lib.hid ⟨_, (HY.out.stored k _).1⟩, Lib.hid (hmm.out.setCell ?_ _)⟩
        rcases HM1.out.2 with e | e
        · left
          have : g1 ∈ (Value.slice (some ⟨g1, 0, none⟩) (xs.length + 1) c1).ownBlock.toList := by simp [Value.ownBlock]
          rw [e] at this; exact this
        · right
          have : g1 = (w.alloc (.cells #[.int .u8 99] 5)).heap.size := by simpa [Value.ownBlock] using e
          simp at this
          show w.heap.size ≤ g1
          omega
      case measure => simp [intOf]; omega
    · go_wp2
      go_end0
      exact ⟨rfl, hmm.out⟩
theorem same_yes (w : World) (A B : Option Addr) (l : List Int) (n m ca cb : Nat) (hn : n = l.length) (hm : m = l.length) (ha : At w [] A l) (hb : At w [] B l) (hl : l.length ≤ 1000000000) :
    Calls Try.prog 24 #[.slice A n ca, .slice B m cb] w fun e w' => e = .returned (.bool true) ∧ Mods [] w w' :=
  (same_any w A B l l n m ca cb hn hm ha hb hl).mono fun e w' ⟨he, q, hq⟩ => ⟨he.trans (ret_bool (by simp)), by rw [hq]; exact (Mods.refl _ _).drewN q⟩
theorem and_mask (a : Int) (m : Nat) (hm : m ≤ 65535) : ∃ k : Nat, bits BinOp.and IntKind.i64 a m = (k : Int) ∧ k ≤ m := by
  have e : bits BinOp.and IntKind.i64 a m = IntKind.i64.wrap ((BitVec.ofInt 64 a &&& BitVec.ofInt 64 m).toNat : Int) := rfl
  have h : (BitVec.ofInt 64 a &&& BitVec.ofInt 64 m).toNat ≤ m := by
    rw [BitVec.toNat_and]
    refine Nat.le_trans Nat.and_le_right ?_
    rw [BitVec.toNat_ofInt]
    omega
  refine ⟨(BitVec.ofInt 64 a &&& BitVec.ofInt 64 m).toNat, ?_, h⟩
  rw [e, IntKind.wrap_i64]
  omega
theorem RowsAt.same {w w2 : World} {F : List Nat} {b : Nat} {rs : List Rw} (h : RowsAt w F b rs) (e : w2.heap = w.heap) : RowsAt w2 F b rs := by
  have hc : ∀ p, w2.cell? p = w.cell? p := fun p => World.cell?_of_block (by rw [e])
  refine ⟨by rw [e]; exact h.lt, h.out, fun i r hr => (hc _).trans (h.cell i r hr), fun r hr => ⟨fun i x hx => ?_, (h.at_ r hr).2⟩⟩
  obtain ⟨b, o, h1, h2, h3, h4, h5⟩ := (h.at_ r hr).1 i x hx
  exact ⟨b, o, h1, by rw [e]; exact h2, h3, (hc _).trans h4, h5⟩
theorem RowsAt.sub {w : World} {F G : List Nat} {b : Nat} {rs : List Rw} (h : RowsAt w F b rs) (hs : ∀ k ∈ G, k ∈ F) : RowsAt w G b rs :=
  ⟨h.lt, fun hb => h.out (hs b hb), h.cell, fun r hr => ⟨(h.at_ r hr).1.sub (fun k hk => .inl (hs k hk)), (h.at_ r hr).2⟩⟩
theorem Rw.Ok.sub {w : World} {F G : List Nat} {r : Rw} (h : r.Ok w F) (hs : ∀ k ∈ G, k ∈ F) : r.Ok w G := ⟨h.1.sub (fun k hk => .inl (hs k hk)), h.2⟩
theorem Mods.onto {w w2 w3 wx : World} {F G : List Nat} (hm : Mods G wx w3) (h : Mods F w w2) (h1 : wx.heap = w2.heap) (h2 : wx.os = w2.os) (h3 : wx.tape = w2.tape) (h4 : wx.output = w2.output) (hs : ∀ k ∈ G, k ∈ F) : Mods F w w3 :=
  (h.same h1 h2 h3 h4).trans hm (fun k hk => .inl (hs k hk))
theorem stands_as (w : World) (A B : Option Addr) (n m ca cb : Nat) (l : List Int) (hn : n = l.length) (hm : m = l.length + 1) (hc : m ≤ ca) (ha : At w [] A (l ++ [171, 171])) (hb : At w [] B l) (hl : l.length ≤ 1000000) :
    Calls Try.prog 38 #[.slice A m ca, .slice B n cb] w fun e w' => e = .returned (.bool true) ∧ Mods [] w w' :=
  (stands_yes w A B n m ca cb l hn hm hc ha hb hl).mono fun e w' ⟨he, q, hq⟩ => ⟨he, by rw [hq]; exact (Mods.refl _ _).drewN q⟩
theorem Roomy.drew {w w' : World} {g c : Nat} {l : List Int} (h : Roomy w.drew w' g c l) : Roomy w w' g c l := ⟨h.1, of_drew h.2.1, h.2.2⟩
theorem Roomy.less {w w' : World} {g c : Nat} {l : List Int} (h : Roomy w w' g c l) : w'.ownsRow 0 5 1 (.slice (some ⟨g, 0, none⟩) (l.length + 1) c) (l.length + 1) (bv (l ++ [171])) := by
  have := own_less h.1 (show l.length + 1 ≤ l.length + 2 by omega) (by omega)
  rw [show (bv (l ++ [171, 171])).take (l.length + 1) = bv (l ++ [171]) by
    rw [show bv (l ++ [171, 171]) = bv (l ++ [171]) ++ [.int .u8 171] by simp [bv]]
    exact List.take_left' (by simp [bv])] at this
  exact this
theorem Roomy.lt {w w' : World} {g c : Nat} {l : List Int} (h : Roomy w w' g c l) : g < w'.heap.size := own_lt h.1 g (by simp [Value.ownBlock])
/-- The bytes of a roomy slice, and the marks behind them, later on. -/
theorem Roomy.at_ {w w' w2 : World} {g c : Nat} {l : List Int} {G : List Nat} (h : Roomy w w' g c l) (hm : Mods G w' w2) (hg : g ∉ G) (hr : ∀ x ∈ l, 0 ≤ x ∧ x ≤ 255) : At w2 [] (some ⟨g, 0, none⟩) (l ++ [171, 171]) := by
  have ho := own_mods h.1 hm (fun k hk hk2 => by simp [Value.ownBlock] at hk; subst hk; exact hg hk2)
  refine At.of_own ho (by simp) (fun x hx => ?_)
  rcases List.mem_append.1 hx with hx | hx
  · exact hr x hx
  · simp at hx; subst hx; decide
theorem Roomy.ok {w w' w2 : World} {g c : Nat} {l : List Int} {F : List Nat} (h : Roomy w w' g c l) (hm : Mods [] w' w2) (hg : g ∉ F) (hr : ∀ x ∈ l, 0 ≤ x ∧ x ≤ 255) (hc : l.length + 2 ≤ c) : Rw.Ok w2 F ⟨some ⟨g, 0, none⟩, l, c⟩ := by
  have ho := own_mods h.1 hm (by simp)
  have hcm : c ≤ maxLen := by
    obtain ⟨A, c', e, _, h2⟩ := own_slice ho
    injection e with _ _ e3
    rw [e3]; exact h2
  refine ⟨?_, by show l.length ≤ c; omega, hcm⟩
  have := (At.of_own (F := F) ho (fun k hk hk2 => by simp [Value.ownBlock] at hk; subst hk; exact hg hk2) (fun x hx => by
    rcases List.mem_append.1 hx with hx | hx
    · exact hr x hx
    · simp at hx; subst hx; decide)).take l.length
  rwa [List.take_left] at this
theorem RowsAt.onto {w2 w3 wx : World} {F G : List Nat} {b : Nat} {rs : List Rw} (hm : Mods G wx w3) (h : RowsAt w2 F b rs) (e : wx.heap = w2.heap) (hs : ∀ k ∈ G, k ∈ F) : RowsAt w3 F b rs :=
  (h.same e).mods (hm.more (fun k hk => .inl (hs k hk)))
end Go.Proofs.Ytogcfeplfclobaa
