/- All and Drop of the code, the library's DeleteFunc with the code's closure. Conditions: texts of at most a million bytes, 24 fields. -/
import Derived.Test.YtgkhelbpccehcaaGreatDoorMQA
import Derived.Laws.MakeOwn
import Derived.WalkLawsBesides
import Derived.Deep.RegionWith
import Derived.Lib.IndexLaws
import Derived.Test.YtgkhelbpccehcaaGreatDoorLowerR
import Derived.Deep.RegionLaw
import Derived.Shelf.Strconv.Clone
import Derived.Test.YtgkhelbpccehcaaGreatDoorProg
import Derived.Test.YtgkhelbpccehcaaGreatDoorTokR
import Derived.Test.YtgkhelbpccehcaaGreatDoorMem
import Derived.Test.YtgkhelbpccehcaaGreatDoorJoin
import Derived.Deep.RegionHeld3
import Derived.BigRegion
namespace Go.Proofs.YtgkhelbpccehcaaGreatDoor
open Go.RowKit
set_option linter.unusedVariables false
set_option linter.unusedSimpArgs false

theorem made_f (n : Nat) (h : n ≤ 1000000) (w : World) : (Instr.makeSlice 38 (.int .i64 (n : Int)) (.int .i64 (n : Int))).run Tryz.prog w =
    .ok (.slice (some ⟨w.heap.size, 0, none⟩) n n) (w.alloc (.cells (madeCells #[.string ByteArray.empty, .string ByteArray.empty] (n * 2)) 81)) := by
  obtain ⟨i, hi, hz, hs, hb⟩ := info_parts infoFl
  have := run_make (P := Tryz.prog) w 38 81 i _ Tryz.underlying38 hi hz .i64 .i64 n n (by omega) (by omega) (by rw [hb]; omega) (by omega)
  simpa [hs, Value.cells] using this
theorem made_z (w : World) : (Instr.makeSlice 38 (.int .i64 0) (.int .i64 0)).run Tryz.prog w =
    .ok (.slice (some ⟨w.heap.size, 0, none⟩) 0 0) (w.alloc (.cells (madeCells #[.string ByteArray.empty, .string ByteArray.empty] (0 * 2)) 81)) := made_f 0 (by omega) w
/-- Two cells of an array. -/
theorem set_two (l : List Value) (k : Nat) (x y : Value) (h : k * 2 + 2 ≤ l.length) : ((l.set (k * 2) x).set (k * 2 + 1) y).take ((k + 1) * 2) = l.take (k * 2) ++ [x, y] := by
  rw [show (k + 1) * 2 = k * 2 + 1 + 1 by omega, List.take_succ_eq_append_getElem (by simp; omega), List.take_set_of_le (Nat.le_refl _), List.take_succ_eq_append_getElem (by simp; omega), List.take_set_of_le (Nat.le_refl _)]
  simp
/-- The fields that are being copied. -/
structure Copying (w : World) (S : List FV) (B k : Nat) (wr : World) : Prop where
  ex : ∃ cur : Array Value, Row wr B 81 cur ∧ cur.size = S.length * 2 ∧ cur.toList.take (k * 2) = encF (S.take k)
  base : w.heap.size ≤ B
  low : Mods [] w wr
theorem Copying.cells {w wr : World} {S : List FV} {B k : Nat} (h : Copying w S B k wr) (j : Nat) (hj : j < S.length * 2) : (∃ u, wr.cell? ⟨B, j, none⟩ = some u) ∧ wr.frozen? ⟨B, j, none⟩ = false := by
  obtain ⟨cur, hr, hs, _⟩ := h.ex
  exact ⟨⟨cur[j]'(by omega), by rw [hr.cell]; exact Array.getElem?_eq_getElem _⟩, hr.free j⟩
theorem Copying.mods {w wr w' : World} {S : List FV} {B k : Nat} (h : Copying w S B k wr) (hm : Mods [] wr w') : Copying w S B k w' := by
  obtain ⟨cur, hr, r⟩ := h.ex
  exact ⟨⟨cur, hr.mods hm (by simp), r⟩, h.base, h.low.trans hm (fun _ h => nomatch h)⟩
theorem Copying.next {w wr : World} {S : List FV} {B k : Nat} (h : Copying w S B k wr) (hk : k < S.length) :
    Copying w S B (k + 1) ((wr.setCell ⟨B, k * 2, none⟩ (.string S[k].1)).setCell ⟨B, k * 2 + 1, none⟩ (.string S[k].2)) := by
  obtain ⟨cur, hr, hs, ht⟩ := h.ex
  refine ⟨⟨_, (hr.set _ _).set _ _, by simpa using hs, ?_⟩, h.base, (h.low.setCell (.inr h.base) _).setCell (.inr h.base) _⟩
  rw [Array.toList_setIfInBounds, Array.toList_setIfInBounds, set_two _ _ _ _ (by simp; omega), ht, List.take_succ_eq_append_getElem hk, encF_append]
  rfl
theorem Copying.all {w wr : World} {S : List FV} {B : Nat} (h : Copying w S B S.length wr) (hl : S.length ≤ 1000000) : Gt w 81 2 S.length (encF S) (.slice (some ⟨B, 0, none⟩) S.length S.length) wr := by
  obtain ⟨cur, hr, hs, ht⟩ := h.ex
  exact ⟨⟨encF_len S, .inr ⟨B, S.length, cur, rfl, h.base, hr, Nat.le_refl _, by unfold maxLen; omega, hs, by rw [ht, List.take_length]⟩⟩, h.low⟩
theorem Copying.start {w : World} {S : List FV} : Copying w S w.heap.size 0 (w.alloc (.cells (madeCells #[.string ByteArray.empty, .string ByteArray.empty] (S.length * 2)) 81)) :=
  ⟨⟨_, Row.new _ _ _, by simp [madeCells], by simp [encF]⟩, Nat.le_refl _, (Mods.refl [] w).alloc _⟩

theorem lenE_a {g : Nat} {v : Value} {S : List FV} (w : World) (h : Fld 93 w g v S) : Calls Tryz.prog 37 #[ptr g] w fun e w' => e = .returned (.int .i64 S.length) ∧ w = w' := by
  have hk := fun w' h' => kept_a (g := g) (v := v) (S := S) w' h'
  obtain ⟨a, c, rfl⟩ := h.form
  have H := Lib.hid h
  have HK := Lib.hid hk
  clear h hk
  unfold ptr
  go_enter Tryz.func37, Tryz.ntmps37
  go_wp2_with (go_at_call 38; refine (HK.out _ H.out).mono ?_; rintro e w' ⟨rfl, rfl⟩)
  go_ret
  exact ⟨rfl, rfl⟩
set_option maxRecDepth 10000 in
theorem all_a {g : Nat} {v : Value} {S : List FV} (w : World) (h : Fld 93 w g v S) :
    Calls Tryz.prog 27 #[ptr g] w fun e w' => ∃ B, e = .returned (.slice (some ⟨B, 0, none⟩) S.length S.length) ∧ Gt w 81 2 S.length (encF S) (.slice (some ⟨B, 0, none⟩) S.length S.length) w' := by
  have HK := Lib.hid (fun w' h' => kept_a (g := g) (v := v) (S := S) w' h')
  have HL := Lib.hid (lenE_a w h)
  have hl := h.len
  have hmk := made_f S.length (by omega) w
  have HMK := Lib.hid (Copying.start (w := w) (S := S))
  have H := Lib.hid (h.low ((Mods.refl [] w).alloc (.cells (madeCells #[.string ByteArray.empty, .string ByteArray.empty] (S.length * 2)) 81)))
  obtain ⟨W0, hW0⟩ : ∃ W0, W0 = w.alloc (.cells (madeCells #[.string ByteArray.empty, .string ByteArray.empty] (S.length * 2)) 81) := ⟨_, rfl⟩
  rw [← hW0] at hmk HMK H
  have hmz : S.length = 0 → (Instr.makeSlice 38 (.int .i64 0) (.int .i64 0)).run Tryz.prog w = .ok (.slice (some ⟨w.heap.size, 0, none⟩) 0 0) W0 := fun h0 => by rw [made_z w, hW0, h0]
  clear hW0
  have HS := Lib.hid h.small
  unfold ptr at *
  by_cases h0 : S.length = 0
  · obtain rfl : S = [] := List.eq_nil_of_length_eq_zero h0
    obtain ⟨a, c, rfl⟩ := h.form
    clear h h0
    have hmz := hmz rfl
    clear hmk
    go_enter Tryz.func27, Tryz.ntmps27
    go_wp2_with (first
      | (go_at_call 37; refine HL.out.mono ?_; rintro e w' ⟨rfl, rfl⟩)
      | (go_at_call 38; refine (HK.out _ H.out).mono ?_; rintro e w' ⟨rfl, rfl⟩))
    refine wp_loop_rounds 1 ?_
    rw [rounds_succ]
    go_wp2
    go_ret
    exact ⟨_, rfl, HMK.out.all (by simp)⟩
  · rcases h.fs with ⟨rfl, _⟩ | ⟨b, off, cap, rfl, -, hb, hc⟩
    · exact absurd rfl h0
    have HC := Lib.hid hc
    clear h hc h0 hmz
    obtain ⟨B, hB⟩ : ∃ B, B = w.heap.size := ⟨_, rfl⟩
    rw [← hB] at HMK hmk
    clear hB
    go_enter Tryz.func27, Tryz.ntmps27
    go_wp2_with (first
      | (go_at_call 37; refine HL.out.mono ?_; rintro e w' ⟨rfl, rfl⟩)
      | (go_at_call 38; refine (HK.out _ H.out).mono ?_; rintro e w' ⟨rfl, rfl⟩))
    clear hmk
    go_loopw [12] (fun i wr => ∃ (k : Nat), k ≤ S.length ∧ i = .int .i64 k ∧ Copying w S B k wr) (fun i _ => S.length - (intOf i).toNat)
    case atStart => exact ⟨0, Nat.zero_le _, rfl, HMK.out⟩
    case round =>
      obtain ⟨k, hk, rfl, hG⟩ := hrel
      have HG := Lib.hid hG
      clear hG
      by_cases hlt : k < S.length
      · have c0 : wr.cell? ⟨b, off + k * 2, none⟩ = some (.string S[k].1) := cell_mods (HC.out k hlt).1 HG.out.low (by simp)
        have c1 : wr.cell? ⟨b, off + k * 2 + 1, none⟩ = some (.string S[k].2) := cell_mods (HC.out k hlt).2 HG.out.low (by simp)
        have HCP := Lib.hid (fun w => copied_a S[k] w (HS.out.at k hlt).1 (HS.out.at k hlt).2)
        have HNX := Lib.hid (fun (w2 : World) (hm : Copying w S B k w2) => hm.next hlt)
        obtain ⟨x, hx⟩ : ∃ x, x = S[k].1 := ⟨_, rfl⟩
        obtain ⟨y, hy⟩ : ∃ y, y = S[k].2 := ⟨_, rfl⟩
        rw [← hx] at c0 HNX HCP
        rw [← hy] at c1 HNX HCP
        clear hx hy
        have hz : wr.heap.size < (wr.alloc (.cells #[.string x, .string y] 81)).heap.size := by simp
        go_wp2_with (go_at_call 39; refine (HCP.out _).mono ?_; rintro e w2 ⟨rfl, hm⟩; have hG2 := (HG.out.mods ((Mods.refl [] wr).alloc _)).mods hm; obtain ⟨⟨d0, e0⟩, f0⟩ := hG2.cells (k * 2) (by omega); obtain ⟨⟨d1, e1⟩, f1⟩ := hG2.cells (k * 2 + 1) (by omega); have HG2 := Lib.hid hG2; clear hm hG2)
        go_roundw
        case rel => exact ⟨k + 1, by omega, by go_num, HNX.out _ HG2.out⟩
        case measure => simp [intOf]; omega
      · obtain rfl : k = S.length := by omega
        go_wp2
        go_ret
        exact ⟨_, rfl, HG.out.all (by omega)⟩
end Go.Proofs.YtgkhelbpccehcaaGreatDoor

/- The library's DeleteFunc with the code's closure; Drop of the code. Conditions: texts of at most a million bytes, 24 fields. -/
namespace Go.Proofs.YtgkhelbpccehcaaGreatDoor
open Go.RowKit
set_option linter.unusedVariables false
set_option linter.unusedSimpArgs false

section
variable {w w' : World} {g n m cap k : Nat} {e : TypeId} {A : Option Addr} {xs : List Value}
end
section
variable {p : FV → Bool} {w wr w' : World} {S : List FV} {b cap i j : Nat}
end
end Go.Proofs.YtgkhelbpccehcaaGreatDoor

/- Add and Of of the code. Conditions: texts of at most a million bytes, 24 fields. -/
namespace Go.Proofs.YtgkhelbpccehcaaGreatDoor
open Go.RowKit
set_option linter.unusedVariables false
set_option linter.unusedSimpArgs false

/-- A call of a Go function of one argument, as one step of a region that draws. -/
theorem step_call1 {P : Program} {ops : Array Oper} {o : Oper} {a : Act} {w : World} {K : Act → World → Prop} {Q : Exit → Act → World → Prop} {E : Prop} (hgd : o.guard = none) (f : FuncId) (x : Operand) (t : TypeId) (u : Value)
    (ho : o.op = .call { callee := .value (.func f), args := #[x], argTypes := #[t] }) (hx : a.eval x = u) (eg : ∀ args w, (callFunc f args).run P w = .ok (.enter f args) w) (R : Value → World → Prop)
    (hc : Calls P f #[u] w fun e w' => ∃ v, e = .returned v ∧ R v w') (hk : ∀ v w', R v w' → K (a.put o.dst v) w') : if Region.wanted o (yielded ops a.tmps) = true then Oper.wp P o a w K Q else E := by
  have hw : Region.wanted o (yielded ops a.tmps) = true := by simp [Region.wanted, hgd]
  rw [if_pos hw]
  unfold Oper.wp
  have hf : a.eval (.func f) = .func (.func f) #[] #[] := rfl
  have hr : (execOp a.eval o).run P w = .ok (.enter f #[u]) w := by simp [execOp, ho, resolve, invoke, hx, hf, Deferred.ofValue, eg]
  rw [hr, Oper.upon_enter]
  exact hc.mono (fun e w' ⟨v, he, hr⟩ => by subst he; exact hk v w' hr)
theorem step_appF {P : Program} {ops : Array Oper} {o : Oper} {a : Act} {w w' : World} {K : Act → World → Prop} {Q : Exit → Act → World → Prop} {E : Prop} (hgd : o.guard = none) {s x : Operand} {t : TypeId} {v u v' : Value}
    (ho : o.op = .call { callee := .builtin .append, args := #[s, x], argTypes := #[t, t] }) (hs : a.eval s = v) (hx : a.eval x = u)
    (hr : (Builtin.append_ #[t, t] o.type #[v, u]).run P w = .ok v' w') (hK : K (a.put o.dst v') w') : if Region.wanted o (yielded ops a.tmps) = true then Oper.wp P o a w K Q else E := by
  have hw : Region.wanted o (yielded ops a.tmps) = true := by simp [Region.wanted, hgd]
  rw [if_pos hw]
  exact step_run_app ho hs hx hr hK
/-- One field more behind a row of fields. -/
theorem app_fld {w : World} {u : Value} {S : List FV} (h : w.ownsRow 0 81 2 u S.length (encF S)) (hl : S.length ≤ 1000000) (p : FV) :
    ∃ (b c : Nat) (w' : World), (Builtin.append_ #[38, 38] 38 #[u, .slice (some ⟨w.heap.size, 0, none⟩) 1 1]).run Tryz.prog (w.alloc (.cells #[.string p.1, .string p.2] 81)) = .ok (.slice (some ⟨b, 0, none⟩) (S.length + 1) c) w' ∧
      w'.ownsRow 0 81 2 (.slice (some ⟨b, 0, none⟩) (S.length + 1) c) (S ++ [p]).length (encF (S ++ [p])) ∧ Mods u.ownBlock.toList w w' ∧ (some b = u.ownBlock ∨ w.heap.size ≤ b) := by
  obtain ⟨i0, hi, hz0, hz1, hz2⟩ := info_parts infoFl
  obtain ⟨v', w5, hrun, hown', hgrow, -, hbl⟩ := run_append_own_at (P := Tryz.prog) (w := w.alloc (.cells #[.string p.1, .string p.2] 81)) 0 38 38 81 i0 (.agg #[.string ByteArray.empty, .string ByteArray.empty]) 2 32 Tryz.underlying38 hi hz0 hz1 hz2 rfl (by decide)
    u S.length (encF S) (own_modsB h ((Mods.refl [] w).alloc _) (by simp)) ⟨w.heap.size, 0, none⟩ 1 1 [.string p.1, .string p.2] rfl (cells_newF w [.string p.1, .string p.2] _) (by simp [Value.oneCell']) (by unfold maxLen; omega) (by omega) (Nat.zero_le _)
  obtain ⟨b, c, rfl⟩ := ownsRow_succ hown'
  refine ⟨b, c, w5, hrun, ?_, ((Mods.refl _ w).alloc _).grown hgrow (fun k e => .inl (by rw [e]; simp)), ?_⟩
  · rw [List.length_append, encF_append]; exact hown'
  · rcases hbl with h | h
    · exact .inl h
    · have : b = w.heap.size + 1 := by simpa [Value.ownBlock] using h
      exact .inr (by omega)
/-- What Add leaves: the object, what has turned. -/
structure AddedE (t : TypeId) (R : List Value) (w : World) (g : Nat) (v : Value) (S : List FV) (u : Value) (w' : World) : Prop where
  fld : FldE t R w' g u S
  mods : Mods (g :: v.ownBlock.toList) w w'
  news : ∀ k ∈ u.ownBlock.toList, k ∈ v.ownBlock.toList ∨ w.heap.size ≤ k
abbrev Added (t : TypeId) (w : World) (g : Nat) (v : Value) (S : List FV) (u : Value) (w' : World) : Prop := AddedE t [] w g v S u w'
theorem AddedE.low {t : TypeId} {R : List Value} {w : World} {g : Nat} {v : Value} {S : List FV} {u : Value} {w' w2 : World} (h : AddedE t R w g v S u w') (hm : Mods [] w' w2) : AddedE t R w g v S u w2 :=
  ⟨h.fld.low hm, h.mods.trans hm (fun _ h => nomatch h), h.news⟩
theorem Small.snoc {S : List FV} {p : FV} (h : Small S) (h1 : p.1.size ≤ 1000000) (h2 : p.2.size ≤ 1000000) : Small (S ++ [p]) := by
  intro q hq
  rcases List.mem_append.1 hq with hq | hq
  · exact h q hq
  · rw [List.mem_singleton] at hq; subst hq; exact ⟨h1, h2⟩
theorem AddedE.more {t : TypeId} {R : List Value} {w w2 w4 : World} {g b n c : Nat} {v u : Value} {S : List FV} {p : FV} (h : AddedE t R w g v S u w2) (ht : 81 ≠ t) (hown : w4.ownsRow 0 81 2 (.slice (some ⟨b, 0, none⟩) n c) (S ++ [p]).length (encF (S ++ [p])))
    (hm : Mods u.ownBlock.toList w2 w4) (hb : some b = u.ownBlock ∨ w2.heap.size ≤ b) (hl : (S ++ [p]).length ≤ 24) (h1 : p.1.size ≤ 1000000) (h2 : p.2.size ≤ 1000000) :
    AddedE t R w g v (S ++ [p]) (.slice (some ⟨b, 0, none⟩) n c) (w4.setCell ⟨g, 0, none⟩ (.slice (some ⟨b, 0, none⟩) n c)) := by
  have hng : g ∉ u.ownBlock.toList := fun hk => h.fld.ne ht g hk rfl
  have hr := h.fld.row.mods hm hng
  have hne := own_ne_row hown hr ht
  have hu : ∀ k ∈ u.ownBlock.toList, k ∈ g :: v.ownBlock.toList ∨ w.heap.size ≤ k := fun k hk => by
    rcases h.news k hk with h | h
    · exact .inl (List.mem_cons_of_mem _ h)
    · exact .inr h
  refine ⟨⟨row_put hr, own_mods hown ((Mods.refl [g] w4).setCell (.inl (by simp)) _) (fun k hk => by simpa using hne k hk), hl, h.fld.small.snoc h1 h2⟩, (h.mods.trans hm hu).setCell (.inl (by simp)) _, fun k hk => ?_⟩
  have hkb : k = b := by simpa [Value.ownBlock, eq_comm] using hk
  subst hkb
  rcases hb with e | e
  · exact h.news k (by rw [← e]; simp)
  · exact .inr (Nat.le_trans h.mods.size e)
theorem isfK (p : FV) {r : Bool} (h : okF p = r) (h1 : p.1.size ≤ 1000000) (h2 : p.2.size ≤ 1000000) (w : World) :
    Calls Tryz.prog 104 #[.agg #[.string p.1, .string p.2]] w fun e w' => e = .returned (.bool r) ∧ Mods [] w w' := by subst h; exact isf_a p w h1 h2
theorem isfR (p : FV) {r : Bool} (h : okF p = r) (h1 : p.1.size ≤ 1000000) (h2 : p.2.size ≤ 1000000) (w : World) :
    Calls Tryz.prog 82 #[.agg #[.string p.1, .string p.2]] w fun e w' => e = .returned (.bool r) ∧ Mods [] w w' := by subst h; exact isf_r p w h1 h2

set_option maxRecDepth 10000 in
set_option maxHeartbeats 1000000 in
theorem add_a {g : Nat} {v : Value} {S : List FV} (vl : Value) (l : List FV) (w : World) (h : Fld 93 w g v S) (hA : FsAt w vl l) (hl : l.length ≤ 1000000) (hs : Small l)
    (hd : 0 < l.length → ∀ k ∈ vl.ownBlock.toList, k ≠ g ∧ k ∉ v.ownBlock.toList) :
    Calls Tryz.prog 83 #[ptr g, vl] w fun e w' => ∃ u, e = .returned (.tuple #[.int .i64 ((addR S.length l).1 : Nat), .int .i64 (addR S.length l).2]) ∧ Added 93 w g v (addF S l) u w' := by
  unfold ptr
  rcases hA with ⟨rfl, a, cap, rfl⟩ | ⟨b, off, cap, rfl, hpos, hb, hc⟩
  · go_enter Tryz.func83, Tryz.ntmps83
    go_wp2
    refine wp_loop_rounds 1 ?_
    rw [rounds_succ]
    go_wp2
    go_ret2
    exact ⟨v, rfl, by simpa [addF, addR] using h, Mods.refl _ _, fun k hk => .inl hk⟩
  · have HC := Lib.hid hc
    have HS := Lib.hid hs
    have hbF : b ∉ g :: v.ownBlock.toList := by
      have := hd hpos b (by simp [Value.ownBlock])
      simp only [List.mem_cons, not_or]; exact this
    have HB := Lib.hid hbF
    have HA := Lib.hid (show Added 93 w g v (S ++ l.take 0) v w from ⟨by simpa using h, Mods.refl _ _, fun k hk => .inl hk⟩)
    obtain ⟨n0, hn0⟩ : ∃ n0, n0 = S.length := ⟨_, rfl⟩
    have HN0 := Lib.hid hn0
    have hn24 : n0 ≤ 24 := by rw [hn0]; exact h.len
    rw [← hn0]
    clear h hc hs hd hbF hn0 hpos
    go_enter Tryz.func83, Tryz.ntmps83
    go_wp2
    go_loopw [12] (fun i wr => ∃ (k : Nat) (u : Value), k ≤ l.length ∧ i = .int .i64 k ∧ (∀ j (hj : j < l.length), j < k → okF l[j] = true) ∧ n0 + k ≤ 24 ∧ Added 93 w g v (S ++ l.take k) u wr) (fun i _ => l.length - (intOf i).toNat)
    case atStart => exact ⟨0, v, Nat.zero_le _, rfl, fun j _ h => absurd h (Nat.not_lt_zero _), by omega, HA.out⟩
    case round =>
      obtain ⟨k, u, hk, rfl, hok, hnk, hG⟩ := hrel
      have HK := Lib.hid hok
      have HG := Lib.hid hG
      clear hok hG
      by_cases hlt : k < l.length
      · have c0 : wr.cell? ⟨b, off + k * 2, none⟩ = some (.string l[k].1) := cell_mods (HC.out k hlt).1 HG.out.mods HB.out
        have c1 : wr.cell? ⟨b, off + k * 2 + 1, none⟩ = some (.string l[k].2) := cell_mods (HC.out k hlt).2 HG.out.mods HB.out
        have hs1 := (HS.out.at k hlt).1
        have hs2 := (HS.out.at k hlt).2
        have HTK := Lib.hid (List.take_succ_eq_append_getElem hlt)
        obtain ⟨p, hp⟩ : ∃ p, p = l[k] := ⟨_, rfl⟩
        have HPE := Lib.hid hp
        rw [← hp] at c0 c1 hs1 hs2 HTK
        clear hp
        obtain ⟨x, y⟩ := p
        simp only at c0 c1 hs1 hs2
        have hz : wr.heap.size < (wr.alloc (.cells #[.string x, .string y] 81)).heap.size := by simp
        have hsl : (S ++ l.take k).length = n0 + k := by rw [HN0.out, List.length_append, List.length_take]; omega
        cases hf : okF (x, y) with
        | false =>
          have HR := Lib.hid (addR_bad (k := n0) hlt HK.out hnk (by rw [← HPE.out]; exact hf))
          have HI := Lib.hid (fun w => isfK (x, y) hf hs1 hs2 w)
          have HF := Lib.hid (show addF S l = S ++ l.take k by unfold addF; rw [← HN0.out, HR.out])
          clear hf
          go_wp2_with (go_at_call 104; refine (HI.out _).mono ?_; rintro e w1 ⟨rfl, hm⟩; have HG1 := Lib.hid ((HG.out.low ((Mods.refl [] wr).alloc _)).low hm); clear hm)
          go_ret2
          exact ⟨u, by rw [HR.out]; rfl, by rw [HF.out]; exact HG1.out⟩
        | true =>
          have HI := Lib.hid (fun w => isfK (x, y) hf hs1 hs2 w)
          have HCP := Lib.hid (fun w => copied_a (x, y) w hs1 hs2)
          have HOK := Lib.hid hf
          clear hf
          obtain ⟨a5, d5, hu⟩ := HG.out.fld.form
          obtain ⟨m, hm5⟩ : ∃ m, m = (S ++ l.take k).length := ⟨_, rfl⟩
          rw [← hm5] at hu hsl
          have HM5 := Lib.hid hm5
          subst hu
          clear hm5
          by_cases h24 : n0 + k = 24
          · have HR := Lib.hid (addR_full (k := n0) hlt HK.out h24 (by rw [← HPE.out]; exact HOK.out))
            have HF := Lib.hid (show addF S l = S ++ l.take k by unfold addF; rw [← HN0.out, HR.out])
            have hm24 : ((m : Int) == 24) = true := by rw [beq_iff_eq]; omega
            clear h24 hsl
            go_wp2_with (go_at_call 104; refine (HI.out _).mono ?_; rintro e w1 ⟨rfl, hm⟩; have hg1 := (HG.out.low ((Mods.refl [] wr).alloc _)).low hm; have e0 := hg1.fld.cell; have HG1 := Lib.hid hg1; clear hm hg1)
            go_ret2
            exact ⟨_, by rw [HR.out]; rfl, by rw [HF.out]; exact HG1.out⟩
          · have hm24 : ((m : Int) == 24) = false := by rw [beq_eq_false_iff_ne]; omega
            have HSL := Lib.hid hsl
            have HNK := Lib.hid (show n0 + (k + 1) ≤ 24 by omega)
            clear h24 hsl
            go_wp2_with (go_at_call 104; refine (HI.out _).mono ?_; rintro e w1 ⟨rfl, hm⟩; have hg1 := (HG.out.low ((Mods.refl [] wr).alloc _)).low hm; have e0 := hg1.fld.cell; have HG1 := Lib.hid hg1; have R1 := Lib.hid ((Row.new wr 81 #[.string x, .string y]).mods hm (by simp)); clear hm hg1)
            have k0 := R1.out.cell 0
            have k1 := R1.out.cell 1
            simp only [List.getElem?_toArray, List.getElem?_cons_zero, List.getElem?_cons_succ] at k0 k1
            obtain ⟨bx, hbx⟩ : ∃ bx, bx = wr.heap.size := ⟨_, rfl⟩
            have hnx : bx ∉ (Value.slice a5 m d5).ownBlock.toList := fun hk => by have := HG.out.fld.lt bx hk; omega
            have hng : g ∉ (Value.slice a5 m d5).ownBlock.toList := fun hk => HG.out.fld.ne (by decide) g hk rfl
            have hlm : (S ++ l.take k).length ≤ 1000000 := by have := HG.out.fld.len; omega
            have HNX := Lib.hid hnx
            have HNG := Lib.hid hng
            have HLM := Lib.hid hlm
            rw [← hbx] at k0 k1 ⊢
            clear hbx hnx hng hlm
            have HCC := Lib.hid (show Calls Tryz.prog 39 #[.agg #[.string x, .string y]] w1.drew fun e w' => ∃ v, e = .returned v ∧ (v = .agg #[.string x, .string y] ∧ Mods [] w1 w') from (HCP.out w1.drew).mono fun e w' ⟨h1, h2⟩ => ⟨_, h1, rfl, of_drewF h2⟩)
            go_region_law (first
              | (refine step_call1 rfl 39 (.tmp 33) 81 (.agg #[.string x, .string y]) rfl rfl (enters_of Tryz.func39 (by kernel_rfl) rfl) _ HCC.out ?_; rintro _ w2 ⟨rfl, hm⟩; have hg2 := HG1.out.low hm; have e2 := cell_mods e0 hm (by simp); have e3 := cell_alloc e2 (.cells #[.string x, .string y] 81); obtain ⟨b5, c5, w4, hrun, hown, hm4, hb4⟩ := app_fld hg2.fld.own HLM.out (x, y); rw [← HM5.out] at hrun hown; have R4 := hg2.fld.row.mods hm4 HNG.out; have e4 := R4.cell 0; have f4 := R4.free 0; simp only [List.getElem?_toArray, List.getElem?_cons_zero] at e4; have HR4 := Lib.hid R4; have HO4 := Lib.hid hown; have HM4 := Lib.hid hm4; have HB4 := Lib.hid hb4; have HG2 := Lib.hid hg2; clear hg2 hown hm4 hb4 R4 hm)
              | (refine step_appF rfl rfl rfl rfl hrun ?_))
            all_goals
              have HA9 := Lib.hid (HG2.out.more (by decide) HO4.out HM4.out HB4.out (by have h1 := HSL.out; have h2 := HM5.out; have h3 := HNK.out; rw [List.length_append, ← h2]; simp only [List.length_cons, List.length_nil]; omega) hs1 hs2)
              rw [List.append_assoc, ← HTK.out] at HA9
              have HOKS := Lib.hid (show ∀ j (hj : j < l.length), j < k + 1 → okF l[j] = true from fun j hj hjk => by
                by_cases e : j = k
                · subst e; rw [← HPE.out]; exact HOK.out
                · exact HK.out j hj (by omega))
              clear hrun e2 e3 e4 f4
              go_wp2
              go_roundw
              case rel => exact ⟨k + 1, _, by omega, by go_num, HOKS.out, HNK.out, HA9.out⟩
              case measure => simp [intOf]; omega
      · obtain rfl : k = l.length := by omega
        have HR := Lib.hid (addR_end (l := l) (k := n0) (fun j hj h => HK.out j hj h) hnk)
        have HF := Lib.hid (show addF S l = S ++ l.take l.length by unfold addF; rw [← HN0.out, HR.out])
        go_wp2
        go_ret2
        exact ⟨u, by rw [HR.out]; rfl, by rw [HF.out]; exact HG.out⟩

/-- A new object of a function of w. -/
structure Made (t : TypeId) (w : World) (g : Nat) (u : Value) (S : List FV) (w' : World) : Prop where
  fld : Fld t w' g u S
  mods : Mods [] w w'
  new : w.heap.size ≤ g
  news : ∀ k ∈ u.ownBlock.toList, w.heap.size ≤ k
theorem fld_new (t : TypeId) (w : World) : Fld t (w.alloc (.cells #[.slice none 0 0] t)) w.heap.size (.slice none 0 0) [] :=
  ⟨Row.new _ _ _, World.ownsRow_nil _ _ _ _, by simp, fun p hp => nomatch hp⟩
theorem made_of {t : TypeId} {w : World} {u : Value} {S : List FV} {w' : World} (h : Added t (w.alloc (.cells #[.slice none 0 0] t)) w.heap.size (.slice none 0 0) S u w') : Made t w w.heap.size u S w' := by
  refine ⟨h.fld, (((Mods.refl [] w).alloc _).trans h.mods fun k hk => ?_), Nat.le_refl _, fun k hk => ?_⟩
  · simp only [Value.ownBlock, Option.toList_none, List.mem_singleton] at hk
    exact .inr (by omega)
  · rcases h.news k hk with h | h
    · simp [Value.ownBlock] at h
    · simp at h; omega
set_option maxRecDepth 10000 in
theorem of_a (vl : Value) (l : List FV) (w : World) (hA : FsAt w vl l) (hl : l.length ≤ 1000000) (hs : Small l) :
    Calls Tryz.prog 60 #[vl] w fun e w' => ∃ g u, e = .returned (ptr g) ∧ Made 93 w g u (addF [] l) w' := by
  have hadd := add_a vl l _ (fld_new 93 w) (hA.low ((Mods.refl [] w).alloc _)) hl hs (fun h0 k hk => ⟨fun e => by have := hA.lt h0 k hk; omega, by simp [Value.ownBlock]⟩)
  have HAD := Lib.hid hadd
  clear hadd hs
  obtain ⟨a, c, rfl⟩ := hA.len
  unfold ptr at *
  go_enter Tryz.func60, Tryz.ntmps60
  go_wp2_with (go_at_call 83; refine HAD.out.mono ?_; rintro e w1 ⟨u, rfl, hm⟩; have M1 := Lib.hid (made_of hm); clear hm)
  go_ret
  exact ⟨_, u, rfl, M1.out⟩
end Go.Proofs.YtgkhelbpccehcaaGreatDoor

/- Parse of the code and of the document. Conditions: a line of at most a million bytes. -/
namespace Go.Proofs.YtgkhelbpccehcaaGreatDoor
open Go.RowKit
set_option linter.unusedVariables false
set_option linter.unusedSimpArgs false

/-- Where the first colon stands; -1. -/
def colon (s : ByteArray) : Int := Lib.indexByte s.data.toList 58
theorem at_list (s : ByteArray) (j : Nat) (h : j < s.size) : s.data.toList[j]? = some s[j] := by rw [List.getElem?_eq_getElem (by exact h)]; rfl
theorem colon_none {s : ByteArray} (h : ∀ j (hj : j < s.size), s[j] ≠ 58) : colon s = -1 := by
  unfold colon
  rcases Int.lt_or_le (Lib.indexByte s.data.toList 58) 0 with h1 | h1
  · have := Lib.indexByte_ge s.data.toList 58; omega
  · obtain ⟨o, ho⟩ := Int.eq_ofNat_of_zero_le h1
    have hs := (Lib.indexByte_some ho).1
    obtain ⟨hlt, e⟩ := List.getElem?_eq_some_iff.1 hs
    exact absurd e (h o hlt)
theorem colon_some {s : ByteArray} {i : Nat} (hi : i < s.size) (h : s[i] = 58) (h0 : ∀ j (hj : j < s.size), j < i → s[j] ≠ 58) : colon s = i := by
  unfold colon
  rcases Int.lt_or_le (Lib.indexByte s.data.toList 58) 0 with h1 | h1
  · have h2 := Lib.indexByte_ge s.data.toList 58
    exact absurd (by rw [at_list s i hi, h]) (Lib.indexByte_none (show Lib.indexByte s.data.toList 58 = -1 by omega) i)
  · obtain ⟨o, ho⟩ := Int.eq_ofNat_of_zero_le h1
    have hs := Lib.indexByte_some ho
    obtain ⟨hlt, e⟩ := List.getElem?_eq_some_iff.1 hs.1
    rw [ho]
    rcases Nat.lt_trichotomy o i with hoi | hoi | hoi
    · exact absurd e (h0 o hlt hoi)
    · rw [hoi]
    · exact absurd (by rw [at_list s i hi, h]) (hs.2 i hoi)
theorem colon_cases (s : ByteArray) : (colon s = -1) ∨ ∃ i : Nat, colon s = i ∧ i < s.size := by
  rcases Int.lt_or_le (colon s) 0 with h1 | h1
  · have h2 := Lib.indexByte_ge s.data.toList 58
    unfold colon at h1 ⊢
    exact .inl (by omega)
  · obtain ⟨o, ho⟩ := Int.eq_ofNat_of_zero_le h1
    obtain ⟨hlt, _⟩ := List.getElem?_eq_some_iff.1 (Lib.indexByte_some (show Lib.indexByte s.data.toList 58 = o from ho)).1
    exact .inr ⟨o, ho, hlt⟩
def fldAt (s : ByteArray) (i : Nat) : FV := (s.extract 0 i, trimA (s.extract (i + 1) s.size))
def noF : FV := (⟨#[]⟩, ⟨#[]⟩)
/-- What Parse answers. -/
def parR (s : ByteArray) : FV × Int :=
  if 256 < s.size then (noF, 9)
  else if colon s = -1 then (noF, 8)
  else if okF (fldAt s (colon s).toNat) = true then (fldAt s (colon s).toNat, 0) else (noF, 8)
theorem parR_long {s : ByteArray} (h : 256 < s.size) : parR s = (noF, 9) := by unfold parR; rw [if_pos h]
theorem parR_none {s : ByteArray} (h : ¬ 256 < s.size) (h1 : colon s = -1) : parR s = (noF, 8) := by unfold parR; rw [if_neg h, if_pos h1]
theorem parR_bad {s : ByteArray} {i : Nat} (h : ¬ 256 < s.size) (h1 : colon s = i) (h2 : okF (fldAt s i) = false) : parR s = (noF, 8) := by
  unfold parR; rw [if_neg h, if_neg (by omega), h1, Int.toNat_natCast, if_neg (by rw [h2]; simp)]
theorem parR_yes {s : ByteArray} {i : Nat} (h : ¬ 256 < s.size) (h1 : colon s = i) (h2 : okF (fldAt s i) = true) : parR s = (fldAt s i, 0) := by
  unfold parR; rw [if_neg h, if_neg (by omega), h1, Int.toNat_natCast, if_pos h2]
theorem ext_sizeF (s : ByteArray) (i j : Nat) : (s.extract i j).size ≤ s.size := by
  rw [ByteArray.size_extract]; omega
theorem fldAt_size (s : ByteArray) (i : Nat) : (fldAt s i).1.size ≤ s.size ∧ (fldAt s i).2.size ≤ s.size :=
  ⟨ext_sizeF _ _ _, Nat.le_trans (trimA_size _) (ext_sizeF _ _ _)⟩
def FPAns (w : World) (s : ByteArray) (e : Ending) (w' : World) : Prop :=
  e = .returned (.tuple #[.agg #[.string (parR s).1.1, .string (parR s).1.2], .int .i64 (parR s).2]) ∧ Mods [] w w'
theorem ret_fld2 {fn : Func} {a : Act} {W : World} {R : Ending → World → Prop} {r : Nat} {x y : ByteArray} {t : TypeId} {q q2 : Tmp} {v : Value} (hres : fn.results = #[.cell q t, .tmp q2])
    (c0 : W.cell? ⟨r, 0, none⟩ = some (.string x)) (c1 : W.cell? ⟨r, 1, none⟩ = some (.string y))
    (ha : (isAgg t).run Tryz.prog W = .ok true W) (hs : (Go.sizeOf t).run Tryz.prog W = .ok 2 W)
    (h2 : a.tmps.getD q undef = .pointer (some ⟨r, 0, none⟩)) (h3 : a.tmps.getD q2 undef = v) (hd : a.defers = []) (hR : R (.returned (.tuple #[.agg #[.string x, .string y], v])) W) : bodyPost Tryz.prog fn R .ret a W := by
  refine bodyPost_ret (v := .tuple #[.agg #[.string x, .string y], v]) ?_ hd hR
  have g2 : a.tmps[q]?.getD undef = .pointer (some ⟨r, 0, none⟩) := by simpa using h2
  have g3 : a.tmps[q2]?.getD undef = v := by simpa using h3
  simp [results, hres, go_sem, g2, g3, c0, c1, ha, hs]

set_option maxRecDepth 10000 in
theorem scut_none (s : ByteArray) (h : colon s = -1) (w : World) : Calls Tryz.prog 164 #[.string s, .string { data := #[58] }] w fun e w' => e = .returned (.tuple #[.string s, .string ⟨#[]⟩, .bool false]) ∧ w = w' := by
  have HI := Lib.hid (fun w => sindex_shelf s 58 w)
  rw [show Lib.indexByte s.data.toList 58 = -1 from h] at HI
  clear h
  go_enter Tryz.func164, Tryz.ntmps164
  go_wp2_with (go_at_call 178; refine (HI.out _).mono ?_; rintro e w' ⟨rfl, rfl⟩)
  go_ret3
  exact ⟨rfl, rfl⟩
set_option maxRecDepth 10000 in
theorem scut_some (s : ByteArray) (i : Nat) (hi : i < s.size) (hs : s.size ≤ 1000000) (h : colon s = i) (w : World) : Calls Tryz.prog 164 #[.string s, .string { data := #[58] }] w fun e w' =>
    e = .returned (.tuple #[.string (s.extract 0 i), .string (s.extract (i + 1) s.size), .bool true]) ∧ Mods [] w w' := by
  have HI := Lib.hid (fun w => sindex_shelf s 58 w)
  rw [show Lib.indexByte s.data.toList 58 = i from h] at HI
  clear h
  have c1 : (0 : Int) ≤ (i : Int) := by omega
  have c2 : (i : Int) ≤ (s.size : Int) := by omega
  have c3 : (0 : Int) ≤ (i : Int) + 1 := by omega
  have c4 : (i : Int) + 1 ≤ (s.size : Int) := by omega
  go_enter Tryz.func164, Tryz.ntmps164
  go_wp2_with (go_at_call 178; refine (HI.out _).mono ?_; rintro e w' ⟨rfl, rfl⟩)
  go_quiet (fail)
  go_wp2
  go_ret3
  exact ⟨rfl, (Mods.refl _ _).drewN _⟩
theorem cut_none (s : ByteArray) (h : colon s = -1) (w : World) : Calls Tryz.prog 138 #[.string s, .string { data := #[58] }] w fun e w' => e = .returned (.tuple #[.string s, .string ⟨#[]⟩, .bool false]) ∧ Mods [] w w' := by
  have H := Lib.hid (fun w => scut_none s h w)
  clear h
  go_enter Tryz.func138, Tryz.ntmps138
  go_wp2_with (go_at_call 164; refine (H.out _).mono ?_; rintro e w' ⟨rfl, rfl⟩)
  go_ret3
  exact ⟨rfl, Mods.refl _ _⟩
theorem cut_some (s : ByteArray) (i : Nat) (hi : i < s.size) (hs : s.size ≤ 1000000) (h : colon s = i) (w : World) : Calls Tryz.prog 138 #[.string s, .string { data := #[58] }] w fun e w' =>
    e = .returned (.tuple #[.string (s.extract 0 i), .string (s.extract (i + 1) s.size), .bool true]) ∧ Mods [] w w' := by
  have H := Lib.hid (fun w => scut_some s i hi hs h w)
  clear h
  obtain ⟨x, hx⟩ : ∃ x, x = s.extract 0 i := ⟨_, rfl⟩
  obtain ⟨y, hy⟩ : ∃ y, y = s.extract (i + 1) s.size := ⟨_, rfl⟩
  rw [← hx, ← hy] at H ⊢
  clear hx hy
  go_enter Tryz.func138, Tryz.ntmps138
  go_wp2_with (go_at_call 164; refine (H.out _).mono ?_; rintro e w1 ⟨rfl, hm⟩; have M1 := Lib.hid hm; clear hm)
  go_ret3
  exact ⟨rfl, M1.out⟩
/-- The block of the result, when the world has turned by new memory alone. -/
theorem res_row {w w' : World} (h : Mods [] (w.alloc (.cells #[.string ⟨#[]⟩, .string ⟨#[]⟩] 81)) w') : Row w' w.heap.size 81 #[.string ⟨#[]⟩, .string ⟨#[]⟩] ∧ Mods [] w w' :=
  ⟨(Row.new w _ _).mods h (by simp), ((Mods.refl [] w).alloc _).trans h (fun _ h => nomatch h)⟩
theorem trim_nilK (w : World) : Calls Tryz.prog 124 #[.string { data := #[] }] w fun e w' => e = .returned (.string ⟨#[]⟩) ∧ Mods [] w w' := trimK ⟨#[]⟩ (by decide) w

set_option maxRecDepth 10000 in
set_option maxHeartbeats 1000000 in
theorem fparse_a (s : ByteArray) (w : World) (hs : s.size ≤ 1000000) : Calls Tryz.prog 110 #[.string s] w (FPAns w s) := by
  by_cases hl : 256 < s.size
  · have HR := Lib.hid (parR_long hl)
    go_enter Tryz.func110, Tryz.ntmps110
    go_wp2
    exact ret_fld2 rfl ((Row.new w _ _).cell 0) ((Row.new w _ _).cell 1) (Tryz.isAgg81 _) (Tryz.sizeOf81 _) rfl rfl rfl ⟨by rw [HR.out]; rfl, (Mods.refl [] w).alloc _⟩
  · rcases colon_cases s with hc | ⟨i, hc, hi⟩
    · have HR := Lib.hid (parR_none hl hc)
      have HC := Lib.hid (fun w => cut_none s hc w)
      clear hc
      go_enter Tryz.func110, Tryz.ntmps110
      go_wp2_with (first
        | (go_at_call 138; refine (HC.out _).mono ?_; rintro e w1 ⟨rfl, hm⟩; have M1 := Lib.hid hm; clear hm)
        | (go_at_call 124; refine (trim_nilK _).mono ?_; rintro e w2 ⟨rfl, hm⟩; have r2 := res_row ((M1.out.trans hm (fun _ h => nomatch h)).alloc (.cells #[.string s, .string ⟨#[]⟩] 81)); have k0 := r2.1.cell 0; have k1 := r2.1.cell 1; have f0 := r2.1.free 0; have f1 := r2.1.free 1; have R2 := Lib.hid r2; simp only [List.getElem?_toArray, List.getElem?_cons_zero, List.getElem?_cons_succ] at k0 k1; clear hm r2))
      have R3 := (R2.out.1.set 0 (.string ⟨#[]⟩)).set 1 (.string ⟨#[]⟩)
      exact ret_fld2 rfl (R3.cell 0) (R3.cell 1) (Tryz.isAgg81 _) (Tryz.sizeOf81 _) rfl rfl rfl ⟨by rw [HR.out]; rfl, (R2.out.2.setCell (.inr (Nat.le_refl _)) _).setCell (.inr (Nat.le_refl _)) _⟩
    · have HC := Lib.hid (fun w => cut_some s i hi hs hc w)
      have HT := Lib.hid (fun w => trimK (s.extract (i + 1) s.size) (Nat.le_trans (ext_sizeF _ _ _) hs) w)
      have hz := fldAt_size s i
      have HP := Lib.hid (show (s.extract 0 i, trimA (s.extract (i + 1) s.size)) = fldAt s i from rfl)
      have HB := Lib.hid (fun h2 => parR_bad hl hc h2)
      have HY := Lib.hid (fun h2 => parR_yes hl hc h2)
      rw [← HP.out] at hz HB HY
      simp only at hz
      obtain ⟨x, hx⟩ : ∃ x, x = s.extract 0 i := ⟨_, rfl⟩
      obtain ⟨y0, hy0⟩ : ∃ y, y = s.extract (i + 1) s.size := ⟨_, rfl⟩
      rw [← hx] at hz HC HB HY
      rw [← hy0] at hz HC HT HB HY
      obtain ⟨y, hy⟩ : ∃ y, y = trimA y0 := ⟨_, rfl⟩
      rw [← hy] at hz HT HB HY
      clear hx hy0 hy hc HP
      have hx1 : x.size ≤ 1000000 := Nat.le_trans hz.1 hs
      have hy1 : y.size ≤ 1000000 := Nat.le_trans hz.2 hs
      clear hz
      cases hok : okF (x, y) with
      | false =>
        have HR := Lib.hid (HB.out hok)
        have HI := Lib.hid (fun w => isfK (x, y) hok hx1 hy1 w)
        clear hok HB HY
        go_enter Tryz.func110, Tryz.ntmps110
        go_wp2_with (first
          | (go_at_call 138; refine (HC.out _).mono ?_; rintro e w1 ⟨rfl, hm⟩; have M1 := Lib.hid hm; clear hm)
          | (go_at_call 124; refine (HT.out _).mono ?_; rintro e w2 ⟨rfl, hm⟩; have M2 := Lib.hid (M1.out.trans hm (fun _ h => nomatch h)); clear hm)
          | (go_at_call 104; refine (HI.out _).mono ?_; rintro e w3 ⟨rfl, hm⟩; have r2 := res_row ((M2.out.alloc (.cells #[.string x, .string y] 81)).trans hm (fun _ h => nomatch h)); have k0 := r2.1.cell 0; have k1 := r2.1.cell 1; have f0 := r2.1.free 0; have f1 := r2.1.free 1; have R2 := Lib.hid r2; simp only [List.getElem?_toArray, List.getElem?_cons_zero, List.getElem?_cons_succ] at k0 k1; clear hm r2))
        have R3 := (R2.out.1.set 0 (.string ⟨#[]⟩)).set 1 (.string ⟨#[]⟩)
        exact ret_fld2 rfl (R3.cell 0) (R3.cell 1) (Tryz.isAgg81 _) (Tryz.sizeOf81 _) rfl rfl rfl ⟨by rw [HR.out]; rfl, (R2.out.2.setCell (.inr (Nat.le_refl _)) _).setCell (.inr (Nat.le_refl _)) _⟩
      | true =>
        have HR := Lib.hid (HY.out hok)
        have HI := Lib.hid (fun w => isfK (x, y) hok hx1 hy1 w)
        have HCP := Lib.hid (fun w => copied_a (x, y) w hx1 hy1)
        clear hok HB HY
        go_enter Tryz.func110, Tryz.ntmps110
        go_wp2_with (first
          | (go_at_call 138; refine (HC.out _).mono ?_; rintro e w1 ⟨rfl, hm⟩; have M1 := Lib.hid hm; clear hm)
          | (go_at_call 124; refine (HT.out _).mono ?_; rintro e w2 ⟨rfl, hm⟩; have M2 := Lib.hid (M1.out.trans hm (fun _ h => nomatch h)); clear hm)
          | (go_at_call 104; refine (HI.out _).mono ?_; rintro e w3 ⟨rfl, hm⟩; have M3 := Lib.hid ((M2.out.alloc (.cells #[.string x, .string y] 81)).trans hm (fun _ h => nomatch h)); have r3 := (Row.new w2 81 #[.string x, .string y]).mods hm (by simp); have b0 := r3.cell 0; have b1 := r3.cell 1; simp only [List.getElem?_toArray, List.getElem?_cons_zero, List.getElem?_cons_succ] at b0 b1; clear hm r3)
          | (go_at_call 39; refine (HCP.out _).mono ?_; rintro e w4 ⟨rfl, hm⟩; have r2 := res_row (M3.out.trans hm (fun _ h => nomatch h)); have k0 := r2.1.cell 0; have k1 := r2.1.cell 1; have f0 := r2.1.free 0; have f1 := r2.1.free 1; have R2 := Lib.hid r2; simp only [List.getElem?_toArray, List.getElem?_cons_zero, List.getElem?_cons_succ] at k0 k1; clear hm r2))
        have R3 := (R2.out.1.set 0 (.string x)).set 1 (.string y)
        exact ret_fld2 rfl (R3.cell 0) (R3.cell 1) (Tryz.isAgg81 _) (Tryz.sizeOf81 _) rfl rfl rfl ⟨by rw [HR.out]; rfl, (R2.out.2.setCell (.inr (Nat.le_refl _)) _).setCell (.inr (Nat.le_refl _)) _⟩

set_option maxRecDepth 10000 in
set_option maxHeartbeats 1000000 in
theorem fparse_r (s : ByteArray) (w : World) (hs : s.size ≤ 1000000) : Calls Tryz.prog 58 #[.string s] w (FPAns w s) := by
  by_cases hl : 256 < s.size
  · have HR := Lib.hid (parR_long hl)
    go_enter Tryz.func58, Tryz.ntmps58
    go_wp2
    exact ret_fld2 rfl ((Row.new w _ _).cell 0) ((Row.new w _ _).cell 1) (Tryz.isAgg81 _) (Tryz.sizeOf81 _) rfl rfl rfl ⟨by rw [HR.out]; rfl, (Mods.refl [] w).alloc _⟩
  · have HL := Lib.hid hl
    go_enter Tryz.func58, Tryz.ntmps58
    go_wp2
    clear hl
    go_loopw [4] (fun i wr => ∃ (k : Nat), k ≤ s.size ∧ i = .int .i64 k ∧ wr = w.alloc (.cells #[.string ⟨#[]⟩, .string ⟨#[]⟩] 81) ∧ ∀ j (hj : j < s.size), j < k → s[j] ≠ 58) (fun i _ => s.size - (intOf i).toNat)
    case atStart => exact ⟨0, Nat.zero_le _, rfl, rfl, fun j _ h => absurd h (Nat.not_lt_zero _)⟩
    case round =>
      obtain ⟨k, hk, rfl, rfl, hno⟩ := hrel
      have HN := Lib.hid hno
      clear hno
      by_cases hlt : k < s.size
      · by_cases h58 : s[k] = 58
        · have hc := colon_some hlt h58 HN.out
          have hb58 : ((s[k].toNat : Int) == 58) = true := by rw [h58]; rfl
          have HT := Lib.hid (fun w => trimR (s.extract (k + 1) s.size) (Nat.le_trans (ext_sizeF _ _ _) hs) w)
          have hz := fldAt_size s k
          have HP := Lib.hid (show (s.extract 0 k, trimA (s.extract (k + 1) s.size)) = fldAt s k from rfl)
          have HB := Lib.hid (fun h2 => parR_bad HL.out hc h2)
          have HY := Lib.hid (fun h2 => parR_yes HL.out hc h2)
          rw [← HP.out] at hz HB HY
          simp only at hz
          have c1 : (0 : Int) ≤ (k : Int) := by omega
          have c2 : (k : Int) ≤ (s.size : Int) := by omega
          have c3 : (0 : Int) ≤ (k : Int) + 1 := by omega
          have c4 : (k : Int) + 1 ≤ (s.size : Int) := by omega
          have hwr : IntKind.i64.wrap ((k : Int) + 1) = (k : Int) + 1 := by rw [IntKind.wrap_i64]; omega
          clear h58 hc
          go_wp2_with fail
          go_region_held3 (fun _ => True) (exact trivial) ((go_at_call 81; refine (HT.out _).mono ?_; rintro e w2 ⟨rfl, rfl⟩))
          all_goals
            obtain ⟨x, hx⟩ : ∃ x, x = s.extract 0 k := ⟨_, rfl⟩
            obtain ⟨y, hy⟩ : ∃ y, y = trimA (s.extract (k + 1) s.size) := ⟨_, rfl⟩
            rw [← hx, ← hy] at hz HB HY
            rw [← hx, ← hy]
            clear hx hy HT HP
            have hx1 : x.size ≤ 1000000 := Nat.le_trans hz.1 hs
            have hy1 : y.size ≤ 1000000 := Nat.le_trans hz.2 hs
            obtain ⟨W0, hW0⟩ : ∃ W0, W0 = ((w.alloc (.cells #[.string ⟨#[]⟩, .string ⟨#[]⟩] 81)).alloc (.cells #[.string x, .string y] 81)).drew := ⟨_, rfl⟩
            have q0 : Row W0 (w.heap.size + 1) 81 #[.string x, .string y] := by
              rw [hW0]; have := Row.new (w.alloc (.cells #[.string ⟨#[]⟩, .string ⟨#[]⟩] 81)) 81 #[.string x, .string y]; rw [World.size_alloc] at this; exact this
            have q1 := res_row (show Mods [] (w.alloc (.cells #[.string ⟨#[]⟩, .string ⟨#[]⟩] 81)) W0 by rw [hW0]; exact ((Mods.refl [] _).alloc _).drew)
            rw [← hW0]
            have a0 := q0.cell 0
            have a1 := q0.cell 1
            simp only [List.getElem?_toArray, List.getElem?_cons_zero, List.getElem?_cons_succ] at a0 a1
            have Q0 := Lib.hid q0
            have Q1 := Lib.hid q1
            clear hW0 q0 q1 hz
            cases hok : okF (x, y) with
            | false =>
              have HR := Lib.hid (HB.out hok)
              have HI := Lib.hid (fun w => isfR (x, y) hok hx1 hy1 w)
              clear hok HB HY
              go_wp2_with (go_at_call 82; refine (HI.out _).mono ?_; rintro e w3 ⟨rfl, hm⟩; have r2 := Q1.out.1.mods hm (by simp); have m2 := Q1.out.2.trans hm (fun _ h => nomatch h); have k0 := r2.cell 0; have k1 := r2.cell 1; have f0 := r2.free 0; have f1 := r2.free 1; have R2 := Lib.hid r2; have M2 := Lib.hid m2; simp only [List.getElem?_toArray, List.getElem?_cons_zero, List.getElem?_cons_succ] at k0 k1; clear hm r2 m2)
              have R3 := (R2.out.set 0 (.string ⟨#[]⟩)).set 1 (.string ⟨#[]⟩)
              exact ret_fld2 rfl (R3.cell 0) (R3.cell 1) (Tryz.isAgg81 _) (Tryz.sizeOf81 _) rfl rfl rfl ⟨by rw [HR.out]; rfl, (M2.out.setCell (.inr (Nat.le_refl _)) _).setCell (.inr (Nat.le_refl _)) _⟩
            | true =>
              have HR := Lib.hid (HY.out hok)
              have HI := Lib.hid (fun w => isfR (x, y) hok hx1 hy1 w)
              clear hok HB HY
              go_wp2_with (go_at_call 82; refine (HI.out _).mono ?_; rintro e w3 ⟨rfl, hm⟩; have r2 := Q1.out.1.mods hm (by simp); have r3 := Q0.out.mods hm (by simp); have m2 := Q1.out.2.trans hm (fun _ h => nomatch h); have k0 := r2.cell 0; have k1 := r2.cell 1; have f0 := r2.free 0; have f1 := r2.free 1; have b0 := r3.cell 0; have b1 := r3.cell 1; have R2 := Lib.hid r2; have M2 := Lib.hid m2; simp only [List.getElem?_toArray, List.getElem?_cons_zero, List.getElem?_cons_succ] at k0 k1 b0 b1; clear hm r2 r3 m2)
              have R3 := (R2.out.set 0 (.string x)).set 1 (.string y)
              exact ret_fld2 rfl (R3.cell 0) (R3.cell 1) (Tryz.isAgg81 _) (Tryz.sizeOf81 _) rfl rfl rfl ⟨by rw [HR.out]; rfl, (M2.out.setCell (.inr (Nat.le_refl _)) _).setCell (.inr (Nat.le_refl _)) _⟩
        · have hb58 : ((s[k].toNat : Int) == 58) = false := by
            rw [beq_eq_false_iff_ne]; intro e
            exact h58 (UInt8.toNat_inj.1 (by show s[k].toNat = 58; omega))
          have HNK := Lib.hid (show ∀ j (hj : j < s.size), j < k + 1 → s[j] ≠ 58 from fun j hj hjk => by
            by_cases e : j = k
            · subst e; exact h58
            · exact HN.out j hj (by omega))
          clear h58
          go_wp2
          go_roundw
          case rel => exact ⟨k + 1, by omega, by go_num, trivial, HNK.out⟩
          case measure => simp [intOf]; omega
      · have HR := Lib.hid (parR_none HL.out (colon_none fun j hj => HN.out j hj (by omega)))
        go_wp2
        exact ret_fld2 rfl ((Row.new w _ _).cell 0) ((Row.new w _ _).cell 1) (Tryz.isAgg81 _) (Tryz.sizeOf81 _) rfl rfl rfl ⟨by rw [HR.out]; rfl, (Mods.refl [] w).alloc _⟩
end Go.Proofs.YtgkhelbpccehcaaGreatDoor

/- The law's texts and fields, the document's Same, the law's known line. Conditions: as each says. -/
namespace Go.Proofs.YtgkhelbpccehcaaGreatDoor
open Go.RowKit
set_option linter.unusedVariables false
set_option linter.unusedSimpArgs false

theorem bytes_eqB {a b : ByteArray} (h : a = b) : (a.toList == b.toList) = true ∧ (a.toList != b.toList) = false := by rw [h]; simp
theorem bytes_neB {a b : ByteArray} (h : a ≠ b) : (a.toList == b.toList) = false ∧ (a.toList != b.toList) = true := by
  have := bytes_neF h
  simpa using this
theorem sameL_iff (a b : ByteArray) : sameL a b = ((⟨(lowL a.data.toList).toArray⟩ : ByteArray).toList == (⟨(lowL b.data.toList).toArray⟩ : ByteArray).toList) := by
  unfold sameL
  rw [ByteArray.toList_eq, ByteArray.toList_eq, Bool.eq_iff_iff, decide_eq_true_iff, beq_iff_eq]
theorem same_r (a b : ByteArray) {r : Bool} (h : sameL a b = r) (ha : a.size ≤ 1000000) (hb : b.size ≤ 1000000) (w : World) : Calls Tryz.prog 79 #[.string a, .string b] w fun e w' => e = .returned (.bool r) ∧ Mods [] w w' := by
  subst h
  rw [sameL_iff]
  have HA := Lib.hid (fun w => lower_r a w (by omega))
  have HB := Lib.hid (fun w => lower_r b w (by omega))
  obtain ⟨x, hx⟩ : ∃ x : ByteArray, x = ⟨(lowL a.data.toList).toArray⟩ := ⟨_, rfl⟩
  obtain ⟨y, hy⟩ : ∃ y : ByteArray, y = ⟨(lowL b.data.toList).toArray⟩ := ⟨_, rfl⟩
  rw [← hx] at HA ⊢
  rw [← hy] at HB ⊢
  clear hx hy
  go_enter Tryz.func79, Tryz.ntmps79
  go_wp2_with fail
  refine (HA.out _).mono ?_
  rintro e w1 ⟨rfl, hm⟩
  have M1 := Lib.hid (Mods.of_below (F := []) hm)
  clear hm
  go_wp2_with fail
  refine (HB.out _).mono ?_
  rintro e w2 ⟨rfl, hm⟩
  have M2 := Lib.hid (M1.out.trans (Mods.of_below (F := []) hm) (fun _ h => nomatch h))
  clear hm
  go_wp2
  go_ret
  exact ⟨rfl, M2.out⟩

end Go.Proofs.YtgkhelbpccehcaaGreatDoor

/- Add, Values, Get and Drop of the document. Conditions: texts of at most a million bytes, 24 fields. -/
namespace Go.Proofs.YtgkhelbpccehcaaGreatDoor
open Go.RowKit
set_option linter.unusedVariables false
set_option linter.unusedSimpArgs false

set_option maxRecDepth 10000 in
set_option maxHeartbeats 1000000 in
theorem radd {t : TypeId} {R : List Value} {g : Nat} {v : Value} {S : List FV} (vl : Value) (l : List FV) (w : World) (h : FldE t R w g v S) (hA : FsAt w vl l) (hl : l.length ≤ 1000000) (hs : Small l)
    (hd : 0 < l.length → ∀ k ∈ vl.ownBlock.toList, k ≠ g ∧ k ∉ v.ownBlock.toList) (ht : 81 ≠ t := by decide) :
    Calls Tryz.prog 59 #[ptr g, vl] w fun e w' => ∃ u, e = .returned (.tuple #[.int .i64 ((addR S.length l).1 : Nat), .int .i64 (addR S.length l).2]) ∧ AddedE t R w g v (addF S l) u w' := by
  unfold ptr
  rcases hA with ⟨rfl, a, cap, rfl⟩ | ⟨b, off, cap, rfl, hpos, hb, hc⟩
  · go_enter Tryz.func59, Tryz.ntmps59
    go_wp2
    refine wp_loop_rounds 1 ?_
    rw [rounds_succ]
    go_wp2
    go_ret2
    exact ⟨v, rfl, by simpa [addF, addR] using h, Mods.refl _ _, fun k hk => .inl hk⟩
  · have HC := Lib.hid hc
    have HS := Lib.hid hs
    have hbF : b ∉ g :: v.ownBlock.toList := by
      have := hd hpos b (by simp [Value.ownBlock])
      simp only [List.mem_cons, not_or]; exact this
    have HB := Lib.hid hbF
    have HA := Lib.hid (show AddedE t R w g v (S ++ l.take 0) v w from ⟨by simpa using h, Mods.refl _ _, fun k hk => .inl hk⟩)
    obtain ⟨n0, hn0⟩ : ∃ n0, n0 = S.length := ⟨_, rfl⟩
    have HN0 := Lib.hid hn0
    have hn24 : n0 ≤ 24 := by rw [hn0]; exact h.len
    rw [← hn0]
    clear h hc hs hd hbF hn0 hpos
    go_enter Tryz.func59, Tryz.ntmps59
    go_wp2
    go_loopw [6] (fun i wr => ∃ (k : Nat) (u : Value), k ≤ l.length ∧ i = .int .i64 k ∧ (∀ j (hj : j < l.length), j < k → okF l[j] = true) ∧ n0 + k ≤ 24 ∧ AddedE t R w g v (S ++ l.take k) u wr) (fun i _ => l.length - (intOf i).toNat)
    case atStart => exact ⟨0, v, Nat.zero_le _, rfl, fun j _ h => absurd h (Nat.not_lt_zero _), by omega, HA.out⟩
    case round =>
      obtain ⟨k, u, hk, rfl, hok, hnk, hG⟩ := hrel
      have HK := Lib.hid hok
      have HG := Lib.hid hG
      clear hok hG
      by_cases hlt : k < l.length
      · have c0 : wr.cell? ⟨b, off + k * 2, none⟩ = some (.string l[k].1) := cell_mods (HC.out k hlt).1 HG.out.mods HB.out
        have c1 : wr.cell? ⟨b, off + k * 2 + 1, none⟩ = some (.string l[k].2) := cell_mods (HC.out k hlt).2 HG.out.mods HB.out
        have hs1 := (HS.out.at k hlt).1
        have hs2 := (HS.out.at k hlt).2
        have HTK := Lib.hid (List.take_succ_eq_append_getElem hlt)
        obtain ⟨p, hp⟩ : ∃ p, p = l[k] := ⟨_, rfl⟩
        have HPE := Lib.hid hp
        rw [← hp] at c0 c1 hs1 hs2 HTK
        clear hp
        obtain ⟨x, y⟩ := p
        simp only at c0 c1 hs1 hs2
        have hsl : (S ++ l.take k).length = n0 + k := by rw [HN0.out, List.length_append, List.length_take]; omega
        cases hf : okF (x, y) with
        | false =>
          have HR := Lib.hid (addR_bad (k := n0) hlt HK.out hnk (by rw [← HPE.out]; exact hf))
          have HI := Lib.hid (fun w => isfR (x, y) hf hs1 hs2 w)
          have HF := Lib.hid (show addF S l = S ++ l.take k by unfold addF; rw [← HN0.out, HR.out])
          clear hf
          go_wp2_with (go_at_call 82; refine (HI.out _).mono ?_; rintro e w1 ⟨rfl, hm⟩; have HG1 := Lib.hid (HG.out.low hm); clear hm)
          go_ret2
          exact ⟨u, by rw [HR.out]; rfl, by rw [HF.out]; exact HG1.out⟩
        | true =>
          have HI := Lib.hid (fun w => isfR (x, y) hf hs1 hs2 w)
          have HOK := Lib.hid hf
          clear hf
          obtain ⟨a5, d5, hu⟩ := HG.out.fld.form
          obtain ⟨m, hm5⟩ : ∃ m, m = (S ++ l.take k).length := ⟨_, rfl⟩
          rw [← hm5] at hu hsl
          have HM5 := Lib.hid hm5
          subst hu
          clear hm5
          by_cases h24 : n0 + k = 24
          · have HR := Lib.hid (addR_full (k := n0) hlt HK.out h24 (by rw [← HPE.out]; exact HOK.out))
            have HF := Lib.hid (show addF S l = S ++ l.take k by unfold addF; rw [← HN0.out, HR.out])
            have hm24 : (24 : Int) ≤ (m : Int) := by omega
            clear h24 hsl
            go_wp2_with (go_at_call 82; refine (HI.out _).mono ?_; rintro e w1 ⟨rfl, hm⟩; have hg1 := HG.out.low hm; have e0 := hg1.fld.cell; have HG1 := Lib.hid hg1; clear hm hg1)
            go_ret2
            exact ⟨_, by rw [HR.out]; rfl, by rw [HF.out]; exact HG1.out⟩
          · have hm24 : ¬ (24 : Int) ≤ (m : Int) := by omega
            have HSL := Lib.hid hsl
            have HNK := Lib.hid (show n0 + (k + 1) ≤ 24 by omega)
            clear h24 hsl
            go_wp2_with (go_at_call 82; refine (HI.out _).mono ?_; rintro e w1 ⟨rfl, hm⟩; have hg1 := HG.out.low hm; have e0 := hg1.fld.cell; have k0 := cell_mods c0 hm (by simp); have k1 := cell_mods c1 hm (by simp); have HG1 := Lib.hid hg1; clear hm hg1)
            have hng : g ∉ (Value.slice a5 m d5).ownBlock.toList := fun hk => HG1.out.fld.ne ht g hk rfl
            have hlm : (S ++ l.take k).length ≤ 1000000 := by have := HG1.out.fld.len; omega
            have hg2 := HG1.out.low ((Mods.refl [] w1).drew)
            obtain ⟨b5, c5, w4, hrun, hown, hm4, hb4⟩ := app_fld hg2.fld.own hlm (x, y)
            rw [← HM5.out] at hrun hown
            have e3 := cell_alloc e0 (.cells #[.string x, .string y] 81)
            have R4 := hg2.fld.row.mods hm4 hng
            have e4 := R4.cell 0
            have f4 := R4.free 0
            simp only [List.getElem?_toArray, List.getElem?_cons_zero] at e4
            have HO4 := Lib.hid hown
            have HM4 := Lib.hid hm4
            have HB4 := Lib.hid hb4
            have HG2 := Lib.hid hg2
            simp only [World.size_drew] at hrun
            change Sem.run _ _ (World.drew (World.alloc w1 _)) = _ at hrun
            clear hg2 hown hm4 hb4 R4 hng hlm
            go_region_law (refine step_appF rfl rfl rfl rfl hrun ?_)
            all_goals
              have HA9 := Lib.hid (HG2.out.more ht HO4.out HM4.out HB4.out (by have h1 := HSL.out; have h2 := HM5.out; have h3 := HNK.out; rw [List.length_append, ← h2]; simp only [List.length_cons, List.length_nil]; omega) hs1 hs2)
              rw [List.append_assoc, ← HTK.out] at HA9
              have HOKS := Lib.hid (show ∀ j (hj : j < l.length), j < k + 1 → okF l[j] = true from fun j hj hjk => by
                by_cases e : j = k
                · subst e; rw [← HPE.out]; exact HOK.out
                · exact HK.out j hj (by omega))
              clear hrun e3 e4 f4
              go_wp2
              go_roundw
              case rel => exact ⟨k + 1, _, by omega, by go_num, HOKS.out, HNK.out, HA9.out⟩
              case measure => simp [intOf]; omega
      · obtain rfl : k = l.length := by omega
        have HR := Lib.hid (addR_end (l := l) (k := n0) (fun j hj h => HK.out j hj h) hnk)
        have HF := Lib.hid (show addF S l = S ++ l.take l.length by unfold addF; rw [← HN0.out, HR.out])
        go_wp2
        go_ret2
        exact ⟨u, by rw [HR.out]; rfl, by rw [HF.out]; exact HG.out⟩
end Go.Proofs.YtgkhelbpccehcaaGreatDoor

/- Values, Get and Drop of the document. Conditions: texts of at most a million bytes, 24 fields. -/
namespace Go.Proofs.YtgkhelbpccehcaaGreatDoor
open Go.RowKit
set_option linter.unusedVariables false
set_option linter.unusedSimpArgs false

set_option maxRecDepth 10000 in
theorem rvals {t : TypeId} {R : List Value} {g : Nat} {v : Value} {S : List FV} (n : ByteArray) (w : World) (h : FldE t R w g v S) (hn : n.size ≤ 1000000) :
    Calls Tryz.prog 74 #[ptr g, .string n] w fun e w' => ∃ u, e = .returned u ∧ Gt w 9 1 (valsF S n).length (encS (valsF S n)) u w' := by
  have hl := h.len
  have HF := Lib.hid h.fs
  have HS := Lib.hid h.small
  have HC0 := Lib.hid (fun (w' : World) (hm : Mods [] w w') => cell_mods h.cell hm (by simp))
  have hc0 := h.cell
  unfold ptr
  by_cases h0 : S.length = 0
  · obtain rfl : S = [] := List.eq_nil_of_length_eq_zero h0
    obtain ⟨a, c, rfl⟩ := h.form
    clear h h0
    simp only [List.length_nil] at hc0
    go_enter Tryz.func74, Tryz.ntmps74
    go_wp2
    refine wp_loop_rounds 1 ?_
    rw [rounds_succ]
    go_wp2
    go_ret
    exact ⟨_, rfl, Gt.nil _ _ _⟩
  · rcases HF.out with ⟨rfl, _⟩ | ⟨b, off, cap, rfl, -, hb, hc⟩
    · exact absurd rfl h0
    have HC := Lib.hid hc
    clear h hc h0 hc0
    go_enter Tryz.func74, Tryz.ntmps74
    go_wp2
    go_loopw [5, 6] (fun u i wr => ∃ (k : Nat), k ≤ S.length ∧ i = .int .i64 k ∧ Gt w 9 1 (valsF (S.take k) n).length (encS (valsF (S.take k) n)) u wr) (fun _ i _ => S.length - (intOf i).toNat)
    case atStart => exact ⟨0, Nat.zero_le _, rfl, Gt.nil _ _ _⟩
    case round =>
      obtain ⟨k, hk, rfl, hG⟩ := hrel
      have HG := Lib.hid hG
      have q0 := HC0.out wr hG.low
      clear hG
      by_cases hlt : k < S.length
      · have c0 : wr.cell? ⟨b, off + k * 2, none⟩ = some (.string S[k].1) := cell_mods (HC.out k hlt).1 HG.out.low (by simp)
        have c1 : wr.cell? ⟨b, off + k * 2 + 1, none⟩ = some (.string S[k].2) := cell_mods (HC.out k hlt).2 HG.out.low (by simp)
        have HT := Lib.hid (valsF_snoc (S.take k) S[k] n)
        have HTK := Lib.hid (List.take_succ_eq_append_getElem hlt)
        have hs1 := (HS.out.at k hlt).1
        have hs2 := (HS.out.at k hlt).2
        have HLN := Lib.hid (valsF_len (S.take k) n)
        obtain ⟨x, hx⟩ : ∃ x, x = S[k].1 := ⟨_, rfl⟩
        obtain ⟨y, hy⟩ : ∃ y, y = S[k].2 := ⟨_, rfl⟩
        rw [← hx] at c0 HT hs1
        rw [← hy] at c1 HT hs2
        clear hx hy
        cases hsm : sameL x n with
        | true =>
          have HSM := Lib.hid (fun w => same_r x n hsm hs1 hn w)
          rw [hsm, if_pos rfl] at HT
          clear hsm
          obtain ⟨va, vc, rfl⟩ := HG.out.form
          have hroom : (valsF (S.take k) n).length + 1 ≤ 1000000 := by have := HLN.out; rw [List.length_take] at this; omega
          go_wp2_with (first
            | (go_at_call 79; refine (HSM.out _).mono ?_; rintro e w1 ⟨rfl, hm⟩; have q1 := cell_mods q0 hm (by simp); have d1 := cell_mods c1 hm (by simp); obtain ⟨g5, n5, c5, w3, hrun, hG5⟩ := (HG.out.mods hm).app Tryz.underlying112 infoSt rfl (by decide) hroom (by decide) [.string y] rfl (by simp [Value.oneCell']); have HG5 := Lib.hid hG5; clear hm hG5)
            | (at_builtin; refine wpList_run_appF rfl (.tmp 26) (.tmp 35) 112 rfl rfl rfl hrun ?_))
          go_roundw
          case rel => exact ⟨k + 1, by omega, by go_num, by rw [HTK.out, HT.out, List.length_append, show encS (valsF (S.take k) n ++ [y]) = encS (valsF (S.take k) n) ++ [.string y] by simp [encS]]; exact HG5.out⟩
          case measure => simp [intOf]; omega
        | false =>
          have HSM := Lib.hid (fun w => same_r x n hsm hs1 hn w)
          rw [hsm, if_neg (by simp), List.append_nil] at HT
          clear hsm
          go_wp2_with (go_at_call 79; refine (HSM.out _).mono ?_; rintro e w1 ⟨rfl, hm⟩; have HG1 := Lib.hid (HG.out.mods hm); clear hm)
          go_roundw
          case rel => exact ⟨k + 1, by omega, by go_num, by rw [HTK.out, HT.out]; exact HG1.out⟩
          case measure => simp [intOf]; omega
      · obtain rfl : k = S.length := by omega
        obtain ⟨va, vc, hv⟩ := HG.out.form
        have HE := HG.out
        rw [List.take_length] at HE
        have HE := Lib.hid HE
        go_wp2
        go_ret
        exact ⟨_, rfl, HE.out⟩

theorem get_zero {S : List FV} {n : ByteArray} (h : valsF S n = []) : getF S n = ⟨#[]⟩ := by unfold getF getL; rw [h]; rfl
/-- The text behind k values. -/
def joinK (l : List ByteArray) (k : Nat) : List UInt8 := Lib.join ((l.take k).map (·.data.toList)) sepF.data.toList
theorem joinK_step (l : List ByteArray) (k : Nat) (h : k < l.length) : joinK l (k + 1) = joinK l k ++ (if k = 0 then [] else [44, 32]) ++ l[k].data.toList := by
  unfold joinK
  rw [List.take_succ_eq_append_getElem h, List.map_append, List.map_cons, List.map_nil, join_snoc]
  by_cases h0 : k = 0
  · subst h0; simp
  · rw [if_neg (fun e => by have := congrArg List.length e; rw [List.length_map, List.length_take] at this; simp only [List.length_nil] at this; omega), if_neg h0]
    show _ ++ (sepF.data.toList ++ _) = _
    rw [← List.append_assoc]; rfl
theorem joinK_len {l : List ByteArray} (h : SmallS l) (k : Nat) : (joinK l k).length ≤ l.length * 1000002 := join_take h k
set_option maxRecDepth 10000 in
theorem rget {t : TypeId} {R : List Value} {g : Nat} {v : Value} {S : List FV} (n : ByteArray) (w : World) (h : FldE t R w g v S) (hn : n.size ≤ 1000000) :
    Calls Tryz.prog 80 #[ptr g, .string n] w fun e w' => e = .returned (.string (getF S n)) ∧ Mods [] w w' := by
  have HV := Lib.hid (rvals n w h hn)
  have hl := valsF_len S n
  have hl2 := h.len
  have HSM := Lib.hid (valsF_small h.small n)
  have HGE := Lib.hid (show getL S n = joinK (valsF S n) (valsF S n).length by unfold getL joinK; rw [List.take_length])
  obtain ⟨L, hL⟩ : ∃ L, L = valsF S n := ⟨_, rfl⟩
  rw [← hL] at HV hl HSM HGE
  clear h
  unfold ptr at *
  have HZ := Lib.hid (fun (h : valsF S n = []) => get_zero h)
  rw [← hL] at HZ
  clear hL
  by_cases h0 : L.length = 0
  · obtain rfl : L = [] := List.eq_nil_of_length_eq_zero h0
    have HE := Lib.hid (HZ.out rfl)
    simp only [List.length_nil] at HV
    clear h0 hl hl2
    go_enter Tryz.func80, Tryz.ntmps80
    go_wp2_with (go_at_call 74; refine HV.out.mono ?_; rintro e w1 ⟨u, rfl, hG⟩; obtain ⟨a, c, rfl⟩ := hG.form; have M1 := Lib.hid hG.low; clear hG)
    refine wp_loop_rounds 1 ?_
    rw [rounds_succ]
    go_wp2
    go_ret
    exact ⟨by rw [HE.out]; rfl, M1.out⟩
  · go_enter Tryz.func80, Tryz.ntmps80
    go_wp2_with (go_at_call 74; refine HV.out.mono ?_; rintro e w1 ⟨u, rfl, hG⟩)
    rcases SsAt.of_row hG.row with ⟨h1, _⟩ | ⟨b, off, cap, rfl, -, hcap, hb, hc⟩
    · exact absurd (congrArg List.length h1) h0
    have M1 := Lib.hid hG.low
    have HC := Lib.hid hc
    clear hG hc h0
    go_wp2
    go_loopw [6, 7] (fun t i wr => ∃ (k : Nat) (s : ByteArray), k ≤ L.length ∧ t = .string s ∧ i = .int .i64 k ∧ s.data.toList = joinK L k ∧ wr = w1) (fun _ i _ => L.length - (intOf i).toNat)
    case atStart => exact ⟨0, ⟨#[]⟩, Nat.zero_le _, rfl, rfl, rfl, rfl⟩
    case round =>
      obtain ⟨k, s, hk, rfl, rfl, hs, rfl⟩ := hrel
      have hsz : s.size ≤ 24 * 1000002 := by
        have h1 := joinK_len HSM.out k
        rw [← hs] at h1
        have h2 : s.data.toList.length = s.size := rfl
        have h3 := Nat.mul_le_mul_right 1000002 (show L.length ≤ 24 by omega)
        omega
      have HJ := Lib.hid hs
      clear hs
      by_cases hlt : k < L.length
      · have c0 := HC.out k hlt
        have hy := HSM.out L[k] (List.getElem_mem hlt)
        have HST := Lib.hid (joinK_step L k hlt)
        obtain ⟨y, hy0⟩ : ∃ y, y = L[k] := ⟨_, rfl⟩
        rw [← hy0] at c0 hy HST
        clear hy0
        by_cases h0 : k = 0
        · subst h0
          rw [if_pos rfl, List.append_nil] at HST
          simp only [Nat.add_zero] at c0
          go_wp2
          go_roundw
          case rel => exact ⟨1, s ++ y, by omega, rfl, rfl, by rw [HST.out, ByteArray.data_append, Array.toList_append, HJ.out], trivial⟩
          case measure => simp [intOf]; omega
        · rw [if_neg h0] at HST
          have hk0 : (0 : Int) < (k : Int) := by omega
          clear h0
          go_wp2
          go_roundw
          case rel => exact ⟨k + 1, s ++ ⟨#[44, 32]⟩ ++ y, by omega, rfl, by go_num, by rw [HST.out, ByteArray.data_append, ByteArray.data_append, Array.toList_append, Array.toList_append, HJ.out], trivial⟩
          case measure => simp [intOf]; omega
      · obtain rfl : k = L.length := by omega
        have HE := Lib.hid (show s = getF S n from Go.WideShapes.bytes_inj (by rw [HJ.out]; show _ = getL S n; rw [HGE.out]))
        go_wp2
        go_ret
        exact ⟨by rw [← HE.out]; rfl, M1.out⟩
end Go.Proofs.YtgkhelbpccehcaaGreatDoor

/- The contract of the library's Clone at this program. Conditions: a text within the reach. -/
namespace Go.Proofs.YtgkhelbpccehcaaGreatDoor
open Go.Shelf
def lM316_renT : Go.Shelf.Ren := ⟨fun | 316 => 47 | n => n, fun | 0 => 0 | 3 => 3 | 4 => 4 | 5 => 5 | 9 => 9 | 37 => 22 | 127 => 104 | n => n, fun | n => n⟩
theorem lM316T : Go.Proofs.LaysM.n316 Tryz.prog lM316_renT := {
  mixed := by kernel_rfl
  f316 := Tryz.func47.trans (congrArg some (by kernel_rfl))
  t0 := Tryz.underlying0
  a0 := Tryz.isAgg0
  z0 := Tryz.sizeOf0
  v0 := Tryz.zeroValue0
  t3 := Tryz.underlying3
  a3 := Tryz.isAgg3
  z3 := Tryz.sizeOf3
  v3 := Tryz.zeroValue3
  t4 := Tryz.underlying4
  a4 := Tryz.isAgg4
  z4 := Tryz.sizeOf4
  v4 := Tryz.zeroValue4
  t9 := Tryz.underlying9
  a9 := Tryz.isAgg9
  z9 := Tryz.sizeOf9
  v9 := Tryz.zeroValue9
  t37 := Tryz.underlying22
  a37 := Tryz.isAgg22
  z37 := Tryz.sizeOf22
  v37 := Tryz.zeroValue22
  t127 := Tryz.underlying104
  a127 := Tryz.isAgg104
  z127 := Tryz.sizeOf104
  v127 := Tryz.zeroValue104
  t5 := Tryz.underlying5
  a5 := Tryz.isAgg5
  z5 := Tryz.sizeOf5
  v5 := Tryz.zeroValue5
  i0 := by kernel_rfl
  i3 := by kernel_rfl
  i4 := by kernel_rfl
  i5 := by kernel_rfl
  i9 := by kernel_rfl
  i37 := by kernel_rfl
  i127 := by kernel_rfl }

open Go.RowKit in
theorem clone_shelfT (s : ByteArray) (w : World) (hs : s.size ≤ 140737488351232) :
    Calls Tryz.prog 47 #[.string s] w fun e w' => e = .returned (.string s) ∧ Below w.heap.size w w' := Any.stringslite_Clone lM316T s w (by omega)
end Go.Proofs.YtgkhelbpccehcaaGreatDoor

/- Plain functions of chapter 11: hosts, percents, parts of paths, targets. No program. -/
namespace Go.Proofs.YtgkhelbpccehcaaGreatDoor
open Go.RowKit
set_option linter.unusedVariables false

/-- Bytes as a text. -/
def ofL (l : List UInt8) : ByteArray := ⟨l.toArray⟩
theorem ofL_list (l : List UInt8) : (ofL l).data.toList = l := by simp [ofL]
theorem ofL_size (l : List UInt8) : (ofL l).size = l.length := by show l.toArray.size = _; simp
theorem ofL_data (s : ByteArray) : ofL s.data.toList = s := by cases s; rfl
theorem ofL_inj {a b : List UInt8} (h : ofL a = ofL b) : a = b := by rw [← ofL_list a, h, ofL_list]
theorem bytes_ext {a b : ByteArray} (h : a.data.toList = b.data.toList) : a = b := by rw [← ofL_data a, h, ofL_data]

theorem take_len (s : ByteArray) {k : Nat} (h : k ≤ s.size) : (s.data.toList.take k).length = k := by rw [List.length_take, len_data]; omega
/-! What stands ahead of a byte. -/
/-- What stands ahead of the first byte of a kind. -/
def upL (p : UInt8 → Bool) (l : List UInt8) : List UInt8 := l.takeWhile fun c => !p c
theorem upL_len (p : UInt8 → Bool) : ∀ l : List UInt8, (upL p l).length ≤ l.length
  | [] => Nat.le_refl _
  | c :: r => by
    unfold upL; rw [List.takeWhile_cons]
    split
    · have := upL_len p r; unfold upL at this; simp only [List.length_cons]; omega
    · simp
theorem upL_take (p : UInt8 → Bool) : ∀ l : List UInt8, upL p l = l.take (upL p l).length
  | [] => rfl
  | c :: r => by
    unfold upL; rw [List.takeWhile_cons]
    split
    · have := upL_take p r; unfold upL at this
      rw [List.length_cons, List.take_succ_cons, ← this]
    · simp
theorem upL_no (p : UInt8 → Bool) (l : List UInt8) : ∀ x ∈ upL p l, p x = false := by
  induction l with
  | nil => intro x h; cases h
  | cons c r ih =>
    intro x h
    unfold upL at h; rw [List.takeWhile_cons] at h
    split at h
    · rename_i hc
      rcases List.mem_cons.1 h with rfl | h
      · simpa using hc
      · exact ih x h
    · cases h
/-- Where it ends: at the end, or at such a byte. -/
theorem upL_end (p : UInt8 → Bool) : ∀ (l : List UInt8), (upL p l).length < l.length → ∃ c, l[(upL p l).length]? = some c ∧ p c = true
  | [], h => absurd h (Nat.not_lt_zero _)
  | c :: r, h => by
    by_cases hc : p c = true
    · have e : upL p (c :: r) = [] := by unfold upL; rw [List.takeWhile_cons]; simp [hc]
      rw [e]; exact ⟨c, rfl, hc⟩
    · have e : upL p (c :: r) = c :: upL p r := by unfold upL; rw [List.takeWhile_cons]; simp [hc]
      rw [e] at h ⊢
      obtain ⟨d, hd, hp⟩ := upL_end p r (by simpa using h)
      exact ⟨d, by simpa using hd, hp⟩
theorem upL_all {p : UInt8 → Bool} : ∀ {l : List UInt8}, (∀ x ∈ l, p x = false) → upL p l = l
  | [], _ => rfl
  | c :: r, h => by
    unfold upL; rw [List.takeWhile_cons, if_pos (by simp [h c (by simp)])]
    exact congrArg _ (upL_all fun x hx => h x (by simp [hx]))
theorem upL_at {p : UInt8 → Bool} {a : List UInt8} {c : UInt8} {b : List UInt8} (h : ∀ x ∈ a, p x = false) (hc : p c = true) : upL p (a ++ c :: b) = a := by
  induction a with
  | nil => unfold upL; rw [List.nil_append, List.takeWhile_cons]; simp [hc]
  | cons d r ih =>
    unfold upL; rw [List.cons_append, List.takeWhile_cons, if_pos (by simp [h d (by simp)])]
    exact congrArg _ (ih fun x hx => h x (by simp [hx]))
theorem upL_full {p : UInt8 → Bool} {l : List UInt8} : (upL p l = l) ↔ ∀ x ∈ l, p x = false :=
  ⟨fun h => h ▸ upL_no p l, upL_all⟩
theorem upL_drop (p : UInt8 → Bool) (l : List UInt8) : l = upL p l ++ l.drop (upL p l).length := by
  conv => lhs; rw [← List.take_append_drop (upL p l).length l, ← upL_take]
theorem upL_len_full {p : UInt8 → Bool} {l : List UInt8} (h : (upL p l).length = l.length) : upL p l = l := by
  have := upL_take p l; rw [h, List.take_length] at this; exact this

/-! Hosts. -/
def nameB (c : UInt8) : Bool := alB c || inL [45, 46] c
def nameL (l : List UInt8) : Bool := l.all nameB && !l.isEmpty && decide (l.length ≤ 100)
def portL (l : List UInt8) : Bool := (numB 10 15 l).2 && decide (l.length ≤ 5) && decide ((numB 10 15 l).1 ≤ 65535)
def isC (d c : UInt8) : Bool := c == d
/-- Whether a text is a host. -/
def hostL (l : List UInt8) : Bool := nameL (upL (isC 58) l) && (decide ((upL (isC 58) l).length = l.length) || portL (l.drop ((upL (isC 58) l).length + 1)))
/-- What stands ahead of the first byte that is none of a name. -/
def nmL (l : List UInt8) : List UInt8 := upL (fun c => !nameB c) l
theorem name_58 : nameB 58 = false := by decide +kernel
theorem host_split {l : List UInt8} (h : hostL l = true) : upL (isC 58) l = nmL l := by
  unfold hostL at h
  rw [Bool.and_eq_true] at h
  have hn := h.1
  unfold nameL at hn
  rw [Bool.and_eq_true, Bool.and_eq_true] at hn
  have hall := List.all_eq_true.1 hn.1.1
  rcases Nat.lt_or_ge (upL (isC 58) l).length l.length with hlt | hge
  · obtain ⟨c, hc, hp⟩ := upL_end (isC 58) l hlt
    have hd : l.drop (upL (isC 58) l).length = c :: l.drop ((upL (isC 58) l).length + 1) := by
      obtain ⟨h1, h2⟩ := List.getElem?_eq_some_iff.1 hc
      rw [List.drop_eq_getElem_cons h1, h2]
    have he : l = upL (isC 58) l ++ c :: l.drop ((upL (isC 58) l).length + 1) := by rw [← hd]; exact upL_drop _ _
    have : nmL (upL (isC 58) l ++ c :: l.drop ((upL (isC 58) l).length + 1)) = upL (isC 58) l := upL_at (fun x hx => by simp [hall x hx]) (by
      have : c = 58 := by simpa [isC] using hp
      rw [this]; simp [name_58])
    rw [← he] at this; exact this.symm
  · have := upL_len_full (p := isC 58) (l := l) (Nat.le_antisymm (upL_len _ _) hge)
    rw [this] at hall ⊢
    exact (upL_all fun x hx => by simp [hall x hx]).symm
theorem nm_name (l : List UInt8) : (nmL l).all nameB = true := by
  rw [List.all_eq_true]; intro x hx
  have := upL_no _ _ x hx
  simpa using this
theorem nm_no58 (l : List UInt8) : ∀ x ∈ nmL l, isC 58 x = false := by
  intro x hx
  have h1 := List.all_eq_true.1 (nm_name l) x hx
  cases h2 : isC 58 x with
  | false => rfl
  | true =>
    have : x = 58 := by simpa [isC] using h2
    rw [this, name_58] at h1; cases h1
theorem host_short {l : List UInt8} (h : (nmL l).length < 1 ∨ 100 < (nmL l).length) : hostL l = false := by
  cases hh : hostL l with
  | false => rfl
  | true =>
    have e := host_split hh
    unfold hostL nameL at hh
    simp only [Bool.and_eq_true, e] at hh
    obtain ⟨⟨⟨_, h1⟩, h2⟩, _⟩ := hh
    have h2 := of_decide_eq_true h2
    have h1 : nmL l ≠ [] := by simpa using h1
    have := List.length_pos_iff.2 h1
    omega
theorem host_bare {l : List UInt8} (h1 : 1 ≤ (nmL l).length) (h2 : (nmL l).length ≤ 100) (h3 : (nmL l).length = l.length) : hostL l = true := by
  have e : nmL l = l := upL_len_full h3
  have e2 : upL (isC 58) l = l := upL_all fun x hx => nm_no58 l x (by rw [e]; exact hx)
  have hall := nm_name l
  rw [e] at h1 h2 hall
  unfold hostL nameL
  rw [e2, hall, decide_eq_true h2]
  have : l.isEmpty = false := by cases l with | nil => simp at h1 | cons => rfl
  simp [this]
theorem host_else {l : List UInt8} {c : UInt8} (hc : l[(nmL l).length]? = some c) (h : c ≠ 58) : hostL l = false := by
  cases hh : hostL l with
  | false => rfl
  | true =>
    have e := host_split hh
    have hlt := (List.getElem?_eq_some_iff.1 hc).1
    obtain ⟨d, hd, hp⟩ := upL_end (isC 58) l (by rw [e]; exact hlt)
    rw [e, hc] at hd
    injection hd with hd
    have : d = 58 := by simpa [isC] using hp
    exact absurd (hd.trans this) h
theorem host_port {l : List UInt8} (h1 : 1 ≤ (nmL l).length) (h2 : (nmL l).length ≤ 100) (hc : l[(nmL l).length]? = some 58) : hostL l = portL (l.drop ((nmL l).length + 1)) := by
  obtain ⟨hlt, hat⟩ := List.getElem?_eq_some_iff.1 hc
  have hd : l.drop (nmL l).length = 58 :: l.drop ((nmL l).length + 1) := by rw [List.drop_eq_getElem_cons hlt, hat]
  have he : l = nmL l ++ 58 :: l.drop ((nmL l).length + 1) := by rw [← hd]; exact upL_drop _ _
  have e2 : upL (isC 58) l = nmL l := by
    have := upL_at (p := isC 58) (a := nmL l) (c := 58) (b := l.drop ((nmL l).length + 1)) (nm_no58 l) rfl
    rw [← he] at this; exact this
  have hall := nm_name l
  unfold hostL nameL
  rw [e2, hall, decide_eq_true h2, decide_eq_false (by omega)]
  have : (nmL l).isEmpty = false := by cases hn : nmL l with | nil => rw [hn] at h1; simp at h1 | cons => rfl
  simp [this]
theorem port_long {l : List UInt8} (h : 5 < l.length) : portL l = false := by unfold portL; rw [decide_eq_false (show ¬ l.length ≤ 5 by omega)]; simp
theorem port_short {l : List UInt8} (h : l.length ≤ 5) : portL l = ((numB 10 15 l).2 && decide ((numB 10 15 l).1 ≤ 65535)) := by unfold portL; rw [decide_eq_true h]; simp

/-! Percents. -/
/-- The byte of two digits; 0: it is none. -/
def hxB (a b : UInt8) : UInt8 := if digB a = 16 ∨ digB b = 16 then 0 else UInt8.ofNat ((digB a).toNat * 16 + (digB b).toNat)
def hexL : List UInt8 → UInt8
  | a :: b :: _ => hxB a b
  | _ => 0
/-- A text with its percents. -/
def decL : List UInt8 → Option (List UInt8)
  | [] => some []
  | [c] => if c = 37 then none else some [c]
  | [c, d] => if c = 37 then none else (decL [d]).map (c :: ·)
  | c :: a :: b :: r => if c = 37 then (if hxB a b = 0 then none else (decL r).map (hxB a b :: ·)) else (decL (a :: b :: r)).map (c :: ·)
theorem decL_nil : decL [] = some [] := by simp [decL]
theorem decL_plain {c : UInt8} {l : List UInt8} (h : c ≠ 37) : decL (c :: l) = (decL l).map (c :: ·) := by
  match l with
  | [] => simp only [decL, if_neg h, Option.map_some]
  | [d] => simp only [decL, if_neg h]
  | a :: b :: r => rw [decL, if_neg h]
theorem decL_hex {a b : UInt8} {r : List UInt8} (h : hxB a b ≠ 0) : decL (37 :: a :: b :: r) = (decL r).map (hxB a b :: ·) := by rw [decL, if_pos rfl, if_neg h]
theorem decL_bad {l : List UInt8} (h : hexL l = 0) : decL (37 :: l) = none := by
  match l with
  | [] => rw [decL, if_pos rfl]
  | [_] => rw [decL, if_pos rfl]
  | a :: b :: r => rw [decL, if_pos rfl, if_pos (show hxB a b = 0 from h)]
theorem decL_len : ∀ (l : List UInt8) (d : List UInt8), decL l = some d → d.length ≤ l.length
  | [], d, h => by simp [decL] at h; subst h; simp
  | c :: l, d, h => by
    by_cases hc : c = 37
    · subst hc
      match l, h with
      | [], h => rw [decL_bad rfl] at h; cases h
      | [_], h => rw [decL_bad rfl] at h; cases h
      | a :: b :: r, h =>
        by_cases hz : hxB a b = 0
        · rw [decL_bad (show hexL (a :: b :: r) = 0 from hz)] at h; cases h
        · rw [decL_hex hz] at h
          cases hr : decL r with
          | none => rw [hr] at h; cases h
          | some x =>
            rw [hr] at h; simp at h; subst h
            have := decL_len r x hr
            simp only [List.length_cons]; omega
    · rw [decL_plain hc] at h
      cases hr : decL l with
      | none => rw [hr] at h; cases h
      | some x =>
        rw [hr] at h; simp at h; subst h
        have := decL_len l x hr
        simp only [List.length_cons]; omega
/-- What the rest gives behind what is there. -/
def decT (acc l : List UInt8) : Option (List UInt8) := (decL l).map (acc ++ ·)
theorem decT_nil (acc : List UInt8) : decT acc [] = some acc := by simp [decT, decL_nil]
theorem decT_start (l : List UInt8) : decT [] l = decL l := by unfold decT; cases decL l <;> simp
theorem decT_plain {acc l : List UInt8} {c : UInt8} (h : c ≠ 37) : decT acc (c :: l) = decT (acc ++ [c]) l := by
  unfold decT; rw [decL_plain h]; cases decL l <;> simp
theorem decT_hex {acc r : List UInt8} {a b : UInt8} (h : hxB a b ≠ 0) : decT acc (37 :: a :: b :: r) = decT (acc ++ [hxB a b]) r := by
  unfold decT; rw [decL_hex h]; cases decL r <;> simp
theorem decT_bad {acc l : List UInt8} (h : hexL l = 0) : decT acc (37 :: l) = none := by unfold decT; rw [decL_bad h]; rfl

/-! Parts of paths. -/
def splitAt : List UInt8 → List UInt8 → List (List UInt8)
  | cur, [] => [cur]
  | cur, c :: r => if c = 47 then cur :: splitAt [] r else splitAt (cur ++ [c]) r
/-- The parts of a text, at each slash. -/
def splitS (l : List UInt8) : List (List UInt8) := splitAt [] l
/-- The parts that a slash ends. -/
def cutS : List UInt8 → List UInt8 → List (List UInt8)
  | cur, [] => []
  | cur, c :: r => if c = 47 then cur :: cutS [] r else cutS (cur ++ [c]) r
theorem cutS_split : ∀ (l cur : List UInt8), cutS cur (l ++ [47]) = splitAt cur l
  | [], cur => by simp [cutS, splitAt]
  | c :: r, cur => by
    simp only [List.cons_append, cutS, splitAt]
    by_cases h : c = 47
    · rw [if_pos h, if_pos h, cutS_split]
    · rw [if_neg h, if_neg h, cutS_split]
theorem splitAt_no : ∀ (l cur : List UInt8), (∀ x ∈ l, x ≠ 47) → splitAt cur l = [cur ++ l]
  | [], cur, _ => by simp [splitAt]
  | c :: r, cur, h => by
    simp only [splitAt]
    rw [if_neg (h c (by simp)), splitAt_no r _ (fun x hx => h x (by simp [hx]))]
    simp
theorem splitAt_at : ∀ (a b cur : List UInt8), (∀ x ∈ a, x ≠ 47) → splitAt cur (a ++ 47 :: b) = (cur ++ a) :: splitS b
  | [], b, cur, _ => by simp [splitAt, splitS]
  | c :: r, b, cur, h => by
    simp only [List.cons_append, splitAt]
    rw [if_neg (h c (by simp)), splitAt_at r b _ (fun x hx => h x (by simp [hx]))]
    simp
theorem splitS_no {l : List UInt8} (h : ∀ x ∈ l, x ≠ 47) : splitS l = [l] := splitAt_no l [] h
theorem splitS_at {a b : List UInt8} (h : ∀ x ∈ a, x ≠ 47) : splitS (a ++ 47 :: b) = a :: splitS b := splitAt_at a b [] h
theorem splitAt_ne : ∀ (l cur : List UInt8), splitAt cur l ≠ []
  | [], cur => by simp [splitAt]
  | c :: r, cur => by
    simp only [splitAt]; split
    · simp
    · exact splitAt_ne r _
theorem splitS_ne (l : List UInt8) : splitS l ≠ [] := splitAt_ne l []
/-- Whether a part never stays. -/
def dotsL (p : List UInt8) : Bool := decide (p = [] ∨ p = [46] ∨ p = [46, 46])
/-- What is left of parts; none: they lead out. -/
def clnS : List (List UInt8) → List (List UInt8) → Option (List (List UInt8))
  | st, [] => some st
  | st, p :: r => if p = [46, 46] then (if st = [] then none else clnS st.dropLast r) else if dotsL p = true then clnS st r else clnS (st ++ [p]) r
theorem clnS_nil (st : List (List UInt8)) : clnS st [] = some st := rfl
theorem clnS_out (r : List (List UInt8)) : clnS [] ([46, 46] :: r) = none := by simp [clnS]
theorem clnS_up {st : List (List UInt8)} (h : st ≠ []) (r : List (List UInt8)) : clnS st ([46, 46] :: r) = clnS st.dropLast r := by simp [clnS, h]
theorem clnS_dot {p : List UInt8} (h : p ≠ [46, 46]) (hd : dotsL p = true) (st r : List (List UInt8)) : clnS st (p :: r) = clnS st r := by simp [clnS, h, hd]
theorem clnS_part {p : List UInt8} (hd : dotsL p = false) (st r : List (List UInt8)) : clnS st (p :: r) = clnS (st ++ [p]) r := by
  have h : p ≠ [46, 46] := by intro e; subst e; revert hd; decide
  simp [clnS, h, hd]
/-- Parts, each with a slash ahead. -/
def joinS : List (List UInt8) → List UInt8
  | [] => []
  | p :: r => 47 :: p ++ joinS r
theorem joinS_snoc : ∀ (st : List (List UInt8)) (p : List UInt8), joinS (st ++ [p]) = joinS st ++ 47 :: p
  | [], p => by simp [joinS]
  | q :: r, p => by simp [joinS, joinS_snoc r p]
def lastP (ps : List (List UInt8)) : List UInt8 := ps.getLastD []
theorem lastP_cons (p : List UInt8) {r : List (List UInt8)} (h : r ≠ []) : lastP (p :: r) = lastP r := by
  unfold lastP
  cases r with
  | nil => exact absurd rfl h
  | cons q r => simp [List.getLastD]
/-- The end that a path has. -/
def tailP (p : List UInt8) : List UInt8 := if dotsL p = true then [47] else []
def slashL (l : List UInt8) : Bool := match l with | 47 :: _ => true | _ => false
/-- A path without dots. -/
def clnL (l : List UInt8) : Option (List UInt8) := if slashL l = true then (clnS [] (splitS l.tail)).map fun st => joinS st ++ tailP (lastP (splitS l.tail)) else none
theorem clnL_no {l : List UInt8} (h : slashL l = false) : clnL l = none := by unfold clnL; rw [h]; rfl
theorem clnL_yes {l : List UInt8} (h : slashL l = true) : clnL l = (clnS [] (splitS l.tail)).map fun st => joinS st ++ tailP (lastP (splitS l.tail)) := by unfold clnL; rw [if_pos h]
/-- The last part of parts that leave nothing never stays. -/
theorem clnS_last : ∀ (ps st : List (List UInt8)), clnS st ps = some [] → ps ≠ [] → dotsL (lastP ps) = true := by
  intro ps
  induction ps with
  | nil => intro st _ h; exact absurd rfl h
  | cons p r ih =>
    intro st h _
    by_cases hr : r = []
    · subst hr
      show dotsL p = true
      cases hd : dotsL p with
      | true => rfl
      | false => rw [clnS_part hd, clnS_nil] at h; simp at h
    · rw [lastP_cons p hr]
      by_cases h2 : p = [46, 46]
      · subst h2
        by_cases hs : st = []
        · subst hs; rw [clnS_out] at h; cases h
        · rw [clnS_up hs] at h; exact ih _ h hr
      · cases hd : dotsL p with
        | true => rw [clnS_dot h2 hd] at h; exact ih _ h hr
        | false => rw [clnS_part hd] at h; exact ih _ h hr
/-- What is left are ordinary parts without a slash. -/
def OrdS (st : List (List UInt8)) : Prop := ∀ p ∈ st, dotsL p = false ∧ ∀ x ∈ p, x ≠ 47
theorem OrdS.drop {st : List (List UInt8)} (h : OrdS st) : OrdS st.dropLast := fun p hp => h p (List.dropLast_subset st hp)
theorem OrdS.snoc {st : List (List UInt8)} (h : OrdS st) {p : List UInt8} (h1 : dotsL p = false) (h2 : ∀ x ∈ p, x ≠ 47) : OrdS (st ++ [p]) := fun q hq => by
  rcases List.mem_append.1 hq with hq | hq
  · exact h q hq
  · simp at hq; subst hq; exact ⟨h1, h2⟩
end Go.Proofs.YtgkhelbpccehcaaGreatDoor

/- Tests of bytes and of texts of the code: letters and digits, marks, what stands ahead of a byte. Conditions: texts that can be read. -/
namespace Go.Proofs.YtgkhelbpccehcaaGreatDoor
open Go.RowKit
set_option linter.unusedVariables false
set_option linter.unusedSimpArgs false

def inI (m : List UInt8) (c : UInt8) : Bool := decide (0 ≤ Lib.indexByte m c)
theorem ix_byte (m : List UInt8) (c : UInt8) (w : World) :
    Calls Tryz.prog 146 #[.string ⟨m.toArray⟩, .int .u8 (c.toNat : Int)] w fun e w' => e = .returned (.int .i64 (Lib.indexByte m c)) ∧ w = w' :=
  (index_byte _ _ _).mono fun e w' ⟨he, hw⟩ => ⟨by rw [he, Int.toNat_natCast, show c.toNat.toUInt8 = c from UInt8.ofNat_toNat], hw.symm⟩
theorem ix_text (s : ByteArray) (c : UInt8) (w : World) :
    Calls Tryz.prog 146 #[.string s, .int .u8 (c.toNat : Int)] w fun e w' => e = .returned (.int .i64 (Lib.indexByte s.data.toList c)) ∧ w = w' :=
  (index_byte _ _ _).mono fun e w' ⟨he, hw⟩ => ⟨by rw [he, Int.toNat_natCast, show c.toNat.toUInt8 = c from UInt8.ofNat_toNat], hw.symm⟩

set_option maxRecDepth 10000 in
set_option maxHeartbeats 1000000 in
theorem alnum_a (c : UInt8) (w : World) : Calls Tryz.prog 183 #[.int .u8 (c.toNat : Int)] w fun e w' => e = .returned (.bool (alB c)) ∧ w = w' := by
  have hb : (c.toNat : Int) < 256 := by have := c.toNat_lt; omega
  have h0 : (0 : Int) ≤ (c.toNat : Int) := by omega
  rcases (by omega : (c.toNat : Int) < 48 ∨ (48 ≤ (c.toNat : Int) ∧ (c.toNat : Int) ≤ 57) ∨ (57 < (c.toNat : Int) ∧ (c.toNat : Int) < 65) ∨ (65 ≤ (c.toNat : Int) ∧ (c.toNat : Int) ≤ 90) ∨ (90 < (c.toNat : Int) ∧ (c.toNat : Int) < 97) ∨ (97 ≤ (c.toNat : Int) ∧ (c.toNat : Int) ≤ 122) ∨ 122 < (c.toNat : Int)) with h | ⟨h, h2⟩ | ⟨h, h2⟩ | ⟨h, h2⟩ | ⟨h, h2⟩ | ⟨h, h2⟩ | h
  all_goals
    first
      | (have HA := Lib.hid (show alB c = false by unfold alB; simp; omega)
         go_enter Tryz.func183, Tryz.ntmps183
         go_wp2
         go_ret
         exact ⟨ret_bool (by rw [HA.out]; try (simp; omega)), rfl⟩)
      | (have HA := Lib.hid (show alB c = true by unfold alB; simp; omega)
         go_enter Tryz.func183, Tryz.ntmps183
         go_wp2
         go_ret
         exact ⟨ret_bool (by rw [HA.out]; try (simp; omega)), rfl⟩)

def pmarks : List UInt8 := [45, 46, 95, 126, 33, 36, 38, 39, 40, 41, 42, 43, 44, 59, 61, 58, 64, 47]
/-- A byte that is written as it is. -/
def plainB (c : UInt8) : Bool := alB c || inL pmarks c
theorem plain_i (c : UInt8) : inI pmarks c = inL pmarks c := by
  have := by_byte (fun c => inI pmarks c == inL pmarks c) (by decide +kernel) c
  simpa using this
theorem hmark_i (c : UInt8) : inI [45, 46] c = inL [45, 46] c := by
  have := by_byte (fun c => inI [45, 46] c == inL [45, 46] c) (by decide +kernel) c
  simpa using this
theorem one_i (d c : UInt8) (h : (List.range 256).all (fun n => inI [d] (UInt8.ofNat n) == isC d (UInt8.ofNat n)) = true) : inI [d] c = isC d c := by
  have := by_byte (fun c => inI [d] c == isC d c) h c
  simpa using this

set_option maxRecDepth 10000 in
theorem plain_aT (c : UInt8) (w : World) : Calls Tryz.prog 151 #[.int .u8 (c.toNat : Int)] w fun e w' => e = .returned (.bool (plainB c)) ∧ w = w' := by
  cases ha : alB c with
  | true =>
    have HP := Lib.hid (show plainB c = true by unfold plainB; rw [ha]; rfl)
    have HA := Lib.hid (fun w => ha ▸ alnum_a c w)
    clear ha
    go_enter Tryz.func151, Tryz.ntmps151
    go_wp2_with (go_at_call 183; refine (HA.out _).mono ?_; rintro e w' ⟨rfl, rfl⟩)
    go_ret
    exact ⟨ret_bool HP.out.symm, rfl⟩
  | false =>
    have HP := Lib.hid (show plainB c = inI pmarks c by unfold plainB; rw [ha, plain_i]; rfl)
    have HA := Lib.hid (fun w => ha ▸ alnum_a c w)
    clear ha
    go_enter Tryz.func151, Tryz.ntmps151
    go_wp2_with (first
      | (go_at_call 183; refine (HA.out _).mono ?_; rintro e w' ⟨rfl, rfl⟩)
      | (go_at_call 146; refine (ix_byte pmarks c _).mono ?_; rintro e w' ⟨rfl, rfl⟩))
    go_ret
    exact ⟨ret_bool (by rw [HP.out]; rfl), rfl⟩

/-- What stands ahead of the first of these ends. -/
def upA (ends s : ByteArray) : ByteArray := s.extract 0 (upL (inI ends.data.toList) s.data.toList).length
theorem upA_list (ends s : ByteArray) : (upA ends s).data.toList = upL (inI ends.data.toList) s.data.toList := by
  unfold upA
  rw [ByteArray.data_extract, Array.toList_extract]
  show (s.data.toList.drop 0).take ((upL (inI ends.data.toList) s.data.toList).length - 0) = _
  rw [List.drop_zero, Nat.sub_zero, ← upL_take]
theorem upA_size (ends s : ByteArray) : (upA ends s).size ≤ s.size := by
  show (upA ends s).data.toList.length ≤ s.data.toList.length
  rw [upA_list]; exact upL_len _ _
theorem at_listT (s : ByteArray) (j : Nat) (h : j < s.size) : s.data.toList[j]? = some s[j] := by rw [List.getElem?_eq_getElem (by exact h)]; rfl
theorem upL_first {p : UInt8 → Bool} {s : ByteArray} {k : Nat} (hk : k < s.size) (h0 : (s.data.toList.take k).all (fun c => !p c) = true) (h : p s[k] = true) : (upL p s.data.toList).length = k := by
  have e : s.data.toList = s.data.toList.take k ++ s[k] :: s.data.toList.drop (k + 1) := by
    rw [← drop_cons s k hk, List.take_append_drop]
  have := upL_at (p := p) (a := s.data.toList.take k) (c := s[k]) (b := s.data.toList.drop (k + 1)) (fun x hx => by simpa using List.all_eq_true.1 h0 x hx) h
  rw [← e] at this
  rw [this, List.length_take, len_data]; omega
theorem upL_none {p : UInt8 → Bool} {s : ByteArray} (h0 : s.data.toList.all (fun c => !p c) = true) : upL p s.data.toList = s.data.toList :=
  upL_all fun x hx => by simpa using List.all_eq_true.1 h0 x hx
theorem ext_all (s : ByteArray) : s.extract 0 s.size = s := by
  apply bytes_ext
  rw [ByteArray.data_extract, Array.toList_extract]
  exact (List.take_of_length_le (l := s.data.toList) (i := s.data.toList.length) (Nat.le_refl _))
theorem take_all {p : UInt8 → Bool} {s : ByteArray} {k : Nat} (hk : k < s.size) (h : (s.data.toList.take k).all p = true) (h2 : p s[k] = true) : (s.data.toList.take (k + 1)).all p = true := by
  rw [take_snoc s k hk, List.all_append, h]; simp [h2]
theorem take_end {p : UInt8 → Bool} {s : ByteArray} {k : Nat} (hk : ¬ k < s.size) (h : (s.data.toList.take k).all p = true) : s.data.toList.all p = true := by
  rw [List.take_of_length_le (by rw [len_data]; omega)] at h; exact h

set_option maxRecDepth 10000 in
theorem upto_a (s ends : ByteArray) (hs : s.size ≤ 1000000) (w : World) :
    Calls Tryz.prog 149 #[.string s, .string ends] w fun e w' => e = .returned (.string (upA ends s)) ∧ w = w' := by
  go_enter Tryz.func149, Tryz.ntmps149
  go_wp2
  go_loop [8] (fun i => ∃ (k : Nat), k ≤ s.size ∧ i = .int .i64 k ∧ (s.data.toList.take k).all (fun c => !inI ends.data.toList c) = true) (fun i => s.size - (intOf i).toNat)
  case atStart => exact ⟨0, Nat.zero_le _, rfl, rfl⟩
  case round =>
    obtain ⟨k, hk, rfl, hall⟩ := hrel
    have HA := Lib.hid hall
    clear hall
    by_cases hlt : k < s.size
    · by_cases ht : 0 ≤ Lib.indexByte ends.data.toList s[k]
      · have HT := Lib.hid (show upA ends s = s.extract 0 k by unfold upA; rw [upL_first hlt HA.out (decide_eq_true ht)])
        obtain ⟨u, hu⟩ : ∃ u, u = s.extract 0 k := ⟨_, rfl⟩
        go_wp2_with (go_at_call 146; refine (ix_text _ _ _).mono ?_; rintro e w' ⟨rfl, rfl⟩)
        go_ret
        exact ⟨ret_str HT.out.symm, rfl⟩
      · have HT := Lib.hid (take_all hlt HA.out (by simp [inI, ht]))
        go_wp2_with (go_at_call 146; refine (ix_text _ _ _).mono ?_; rintro e w' ⟨rfl, rfl⟩)
        go_round
        case rel => exact ⟨k + 1, by omega, by go_num, HT.out⟩
        case measure => simp [intOf]; omega
    · have HE := Lib.hid (show upA ends s = s by unfold upA; rw [upL_none (take_end hlt HA.out), len_data, ext_all])
      go_wp2
      go_ret
      exact ⟨ret_str HE.out.symm, rfl⟩
end Go.Proofs.YtgkhelbpccehcaaGreatDoor

/- Host of the code, whether a text begins with a slash or with http, what a part is. Conditions: texts of at most a million bytes. -/
namespace Go.Proofs.YtgkhelbpccehcaaGreatDoor
open Go.RowKit
set_option linter.unusedVariables false
set_option linter.unusedSimpArgs false

theorem pw10 : pw 10 15 ≤ 9007199254740992 := by unfold pw; decide
theorem pw16 : pw 16 12 ≤ 9007199254740992 := by unfold pw; decide
def NumIs (b : Int) (m : Nat) (l : List UInt8) (w : World) (e : Ending) (w' : World) : Prop :=
  e = .returned (.tuple #[.int .i64 (numB b m l).1, .bool (numB b m l).2]) ∧ w = w'
theorem hex_a (s : ByteArray) (w : World) (hs : s.size ≤ 1000000) : Calls Tryz.prog 166 #[.string s] w (NumIs 16 12 s.data.toList w) := by
  go_enter Tryz.func166, Tryz.ntmps166
  go_wp2_with (go_at_call 196; refine (num_a _ 16 12 _ (by unfold maxLen; omega) (by decide) (by decide) pw16 (by decide)).mono ?_; rintro e w' ⟨rfl, rfl⟩)
  go_ret2
  exact ⟨rfl, rfl⟩
theorem num_A (s : ByteArray) (w : World) (hs : s.size ≤ 1000000) : Calls Tryz.prog 192 #[.string s] w (NumIs 10 15 s.data.toList w) := by
  go_enter Tryz.func192, Tryz.ntmps192
  go_wp2_with (go_at_call 196; refine (num_a _ 10 15 _ (by unfold maxLen; omega) (by decide) (by decide) pw10 (by decide)).mono ?_; rintro e w' ⟨rfl, rfl⟩)
  go_ret2
  exact ⟨rfl, rfl⟩
theorem num_R (s : ByteArray) (w : World) (hs : s.size ≤ 1000000) : Calls Tryz.prog 102 #[.string s] w (NumIs 10 15 s.data.toList w) := by
  go_enter Tryz.func102, Tryz.ntmps102
  go_wp2_with (go_at_call 114; refine (num_r _ 10 15 _ (by unfold maxLen; omega) (by decide) (by decide) pw10 (by decide)).mono ?_; rintro e w' ⟨rfl, rfl⟩)
  go_ret2
  exact ⟨rfl, rfl⟩
theorem text_ne {s : ByteArray} {l : List UInt8} (h : s.data.toList ≠ l) : (s.toList == l) = false := by
  rw [beq_eq_false_iff_ne, ByteArray.toList_eq]; exact h
theorem text_eq {s : ByteArray} {l : List UInt8} (h : s.data.toList = l) : (s.toList == l) = true := by
  rw [ByteArray.toList_eq, h]; simp
theorem size_pos {s : ByteArray} (h : s.data.toList ≠ []) : 0 < s.size := List.length_pos_iff.2 h

theorem slash_cons {c : UInt8} {r : List UInt8} (h : c ≠ 47) : slashL (c :: r) = false := by
  unfold slashL; split <;> simp_all
set_option maxRecDepth 10000 in
theorem slash_a (s : ByteArray) (w : World) (hs : s.size ≤ 1000000) : Calls Tryz.prog 130 #[.string s] w fun e w' => e = .returned (.bool (slashL s.data.toList)) ∧ w = w' := by
  by_cases h0 : s.size = 0
  · have H := Lib.hid (show slashL s.data.toList = false by rw [nil_data h0]; rfl)
    have h1 := emp_yes h0
    clear h0
    go_enter Tryz.func130, Tryz.ntmps130
    go_wp2
    go_ret
    exact ⟨ret_bool H.out.symm, rfl⟩
  · have hp : 0 < s.size := by omega
    obtain ⟨h1, h2⟩ := emp_no hp
    have hd := drop_cons s 0 hp
    rw [List.drop_zero] at hd
    by_cases hc : s[0] = 47
    · have H := Lib.hid (show slashL s.data.toList = true by rw [hd, hc]; rfl)
      have e1 : ((s[0].toNat : Int) == 47) = true := by rw [hc]; rfl
      clear hc hd
      go_enter Tryz.func130, Tryz.ntmps130
      go_wp2
      go_ret
      exact ⟨ret_bool H.out.symm, rfl⟩
    · have H := Lib.hid (show slashL s.data.toList = false by rw [hd]; exact slash_cons hc)
      have e1 : ((s[0].toNat : Int) == 47) = false := by
        have := (ne_int (x := s[0]) (y := 47) hc).1; simpa using this
      clear hc hd
      go_enter Tryz.func130, Tryz.ntmps130
      go_wp2
      go_ret
      exact ⟨ret_bool H.out.symm, rfl⟩

set_option maxRecDepth 10000 in
theorem dots_a (s : ByteArray) (w : World) : Calls Tryz.prog 186 #[.string s] w fun e w' => e = .returned (.bool (dotsL s.data.toList)) ∧ w = w' := by
  by_cases h0 : s.data.toList = []
  · obtain rfl : s = ⟨#[]⟩ := bytes_ext h0
    go_enter Tryz.func186, Tryz.ntmps186
    go_wp2
    go_ret
    exact ⟨ret_bool (by decide), rfl⟩
  · by_cases h1 : s.data.toList = [46]
    · obtain rfl : s = ⟨#[46]⟩ := bytes_ext h1
      go_enter Tryz.func186, Tryz.ntmps186
      go_wp2
      go_ret
      exact ⟨ret_bool (by decide), rfl⟩
    · by_cases h2 : s.data.toList = [46, 46]
      · obtain rfl : s = ⟨#[46, 46]⟩ := bytes_ext h2
        go_enter Tryz.func186, Tryz.ntmps186
        go_wp2
        go_ret
        exact ⟨ret_bool (by decide), rfl⟩
      · have H := Lib.hid (show dotsL s.data.toList = false by unfold dotsL; simp [h0, h1, h2])
        obtain ⟨e1, e2⟩ := emp_no (size_pos h0)
        have e3 := text_ne h1
        have e4 := text_ne h2
        clear h0 h1 h2
        go_enter Tryz.func186, Tryz.ntmps186
        go_wp2
        go_ret
        exact ⟨ret_bool H.out.symm, rfl⟩

set_option maxRecDepth 10000 in
theorem name_a (s : ByteArray) (w : World) (hs : s.size ≤ 1000000) : Calls Tryz.prog 181 #[.string s] w fun e w' => e = .returned (.bool (nameL s.data.toList)) ∧ w = w' := by
  go_enter Tryz.func181, Tryz.ntmps181
  go_wp2
  go_loop [6] (fun i => ∃ (k : Nat), k ≤ s.size ∧ i = .int .i64 k ∧ (s.data.toList.take k).all nameB = true) (fun i => s.size - (intOf i).toNat)
  case atStart => exact ⟨0, Nat.zero_le _, rfl, rfl⟩
  case round =>
    obtain ⟨k, hk, rfl, hall⟩ := hrel
    have HA := Lib.hid hall
    clear hall
    by_cases hlt : k < s.size
    · cases ha : alB s[k] with
      | true =>
        have HN := Lib.hid (take_all hlt HA.out (show nameB s[k] = true by unfold nameB; rw [ha]; rfl))
        have HC := Lib.hid (fun w => ha ▸ alnum_a s[k] w)
        clear ha
        go_wp2_with (go_at_call 183; refine (HC.out _).mono ?_; rintro e w' ⟨rfl, rfl⟩)
        go_round
        case rel => exact ⟨k + 1, by omega, by go_num, HN.out⟩
        case measure => simp [intOf]; omega
      | false =>
        have HC := Lib.hid (fun w => ha ▸ alnum_a s[k] w)
        by_cases hm : 0 ≤ Lib.indexByte [45, 46] s[k]
        · have HN := Lib.hid (take_all hlt HA.out (show nameB s[k] = true by unfold nameB; rw [← hmark_i]; simp [inI, hm]))
          clear ha
          go_wp2_with (first
            | (go_at_call 183; refine (HC.out _).mono ?_; rintro e w' ⟨rfl, rfl⟩)
            | (go_at_call 146; refine (ix_byte [45, 46] _ _).mono ?_; rintro e w' ⟨rfl, rfl⟩))
          go_round
          case rel => exact ⟨k + 1, by omega, by go_num, HN.out⟩
          case measure => simp [intOf]; omega
        · have HN := Lib.hid (show nameL s.data.toList = false by
            have : s.data.toList.all nameB = false := by
              rw [List.all_eq_false]
              exact ⟨s[k], List.getElem_mem (by exact hlt), by unfold nameB; rw [ha, ← hmark_i]; simp [inI, hm]⟩
            unfold nameL; rw [this]; rfl)
          clear ha
          go_wp2_with (first
            | (go_at_call 183; refine (HC.out _).mono ?_; rintro e w' ⟨rfl, rfl⟩)
            | (go_at_call 146; refine (ix_byte [45, 46] _ _).mono ?_; rintro e w' ⟨rfl, rfl⟩))
          go_ret
          exact ⟨ret_bool HN.out.symm, rfl⟩
    · have hal := take_end hlt HA.out
      by_cases h0 : s.size = 0
      · have HN := Lib.hid (show nameL s.data.toList = false by rw [nil_data h0]; rfl)
        have h1 := emp_yes h0
        clear h0 hal
        go_wp2
        go_ret
        exact ⟨ret_bool HN.out.symm, rfl⟩
      · obtain ⟨h1, h2⟩ := emp_no (s := s) (by omega)
        have HN := Lib.hid (show nameL s.data.toList = decide (s.size ≤ 100) by
          unfold nameL; rw [hal, len_data, ← ByteArray.toList_eq, h1]; rfl)
        clear h0 hal
        go_wp2
        go_ret
        exact ⟨ret_bool (by rw [HN.out]; try (simp; omega)), rfl⟩

set_option maxRecDepth 10000 in
theorem port_a (s : ByteArray) (w : World) (hs : s.size ≤ 1000000) : Calls Tryz.prog 182 #[.string s] w fun e w' => e = .returned (.bool (portL s.data.toList)) ∧ w = w' := by
  have HP := Lib.hid (show portL s.data.toList = ((numB 10 15 s.data.toList).2 && decide (s.size ≤ 5) && decide ((numB 10 15 s.data.toList).1 ≤ 65535)) by unfold portL; rw [len_data])
  have HA := Lib.hid (fun w => num_A s w hs)
  unfold NumIs at HA
  obtain ⟨n, hn⟩ : ∃ n, n = (numB 10 15 s.data.toList).1 := ⟨_, rfl⟩
  obtain ⟨ok, hok⟩ : ∃ ok, ok = (numB 10 15 s.data.toList).2 := ⟨_, rfl⟩
  rw [← hn, ← hok] at HA HP
  clear hn hok
  cases ok with
  | false =>
    go_enter Tryz.func182, Tryz.ntmps182
    go_wp2_with (go_at_call 192; refine (HA.out _).mono ?_; rintro e w' ⟨rfl, rfl⟩)
    go_ret
    exact ⟨ret_bool (by rw [HP.out]; rfl), rfl⟩
  | true =>
    by_cases h5 : s.size ≤ 5
    · have h6 : decide (s.size ≤ 5) = true := by simpa using h5
      rw [h6] at HP
      go_enter Tryz.func182, Tryz.ntmps182
      go_wp2_with (go_at_call 192; refine (HA.out _).mono ?_; rintro e w' ⟨rfl, rfl⟩)
      go_ret
      exact ⟨ret_bool (by rw [HP.out]; simp), rfl⟩
    · have h6 : decide (s.size ≤ 5) = false := by simpa using h5
      rw [h6] at HP
      go_enter Tryz.func182, Tryz.ntmps182
      go_wp2_with (go_at_call 192; refine (HA.out _).mono ?_; rintro e w' ⟨rfl, rfl⟩)
      go_ret
      exact ⟨ret_bool (by rw [HP.out]; simp), rfl⟩

theorem up_one (d : UInt8) (h : (List.range 256).all (fun n => inI [d] (UInt8.ofNat n) == isC d (UInt8.ofNat n)) = true) (s : ByteArray) : (upA ⟨#[d]⟩ s).data.toList = upL (isC d) s.data.toList := by
  rw [upA_list, show inI (⟨#[d]⟩ : ByteArray).data.toList = isC d from funext fun c => one_i d c h]
theorem up_58 (s : ByteArray) : (upA ⟨#[58]⟩ s).data.toList = upL (isC 58) s.data.toList := up_one 58 (by decide +kernel) s
theorem up_63 (s : ByteArray) : (upA ⟨#[63]⟩ s).data.toList = upL (isC 63) s.data.toList := up_one 63 (by decide +kernel) s
theorem up_47 (s : ByteArray) : (upA ⟨#[47]⟩ s).data.toList = upL (isC 47) s.data.toList := up_one 47 (by decide +kernel) s
theorem ext_from (s : ByteArray) (k : Nat) : (s.extract k s.size).data.toList = s.data.toList.drop k := by
  rw [ByteArray.data_extract, Array.toList_extract]
  show (s.data.toList.drop k).take (s.data.toList.length - k) = _
  exact List.take_of_length_le (by rw [List.length_drop]; exact Nat.le_refl _)
theorem ext_le (s : ByteArray) (i j : Nat) : (s.extract i j).size ≤ s.size := by
  rw [ByteArray.size_extract]; omega

set_option maxRecDepth 10000 in
theorem host_a (s : ByteArray) (w : World) (hs : s.size ≤ 1000000) : Calls Tryz.prog 148 #[.string s] w fun e w' => e = .returned (.bool (hostL s.data.toList)) ∧ w = w' := by
  have HU := Lib.hid (fun w => upto_a s ⟨#[58]⟩ hs w)
  have hz := upA_size ⟨#[58]⟩ s
  have hl := up_58 s
  obtain ⟨u, hu⟩ : ∃ u, u = upA ⟨#[58]⟩ s := ⟨_, rfl⟩
  rw [← hu] at HU hz hl
  clear hu
  have HH := Lib.hid (show hostL s.data.toList = (nameL u.data.toList && (decide (u.size = s.size) || portL (s.data.toList.drop (u.size + 1)))) by
    unfold hostL; rw [← hl]; rfl)
  clear hl
  have HN := Lib.hid (fun w => name_a u w (by omega))
  cases hn : nameL u.data.toList with
  | false =>
    rw [hn] at HN HH
    clear hn
    go_enter Tryz.func148, Tryz.ntmps148
    go_wp2_with (first
      | (go_at_call 149; refine (HU.out _).mono ?_; rintro e w' ⟨rfl, rfl⟩)
      | (go_at_call 181; refine (HN.out _).mono ?_; rintro e w' ⟨rfl, rfl⟩))
    go_ret
    exact ⟨ret_bool (by rw [HH.out]; rfl), rfl⟩
  | true =>
    rw [hn] at HN HH
    clear hn
    by_cases he : u.size = s.size
    · have e1 : ((u.size : Int) == (s.size : Int)) = true := by rw [he]; simp
      rw [decide_eq_true he] at HH
      have HE := Lib.hid he
      clear he
      go_enter Tryz.func148, Tryz.ntmps148
      go_wp2_with (first
        | (go_at_call 149; refine (HU.out _).mono ?_; rintro e w' ⟨rfl, rfl⟩)
        | (go_at_call 181; refine (HN.out _).mono ?_; rintro e w' ⟨rfl, rfl⟩))
      go_ret
      exact ⟨ret_bool (by rw [HH.out]; rfl), rfl⟩
    · have e1 : ((u.size : Int) == (s.size : Int)) = false := by
        rw [beq_eq_false_iff_ne]; omega
      rw [decide_eq_false he] at HH
      have c1 : (0 : Int) ≤ (u.size : Int) + 1 := by omega
      have c2 : (u.size : Int) + 1 ≤ (s.size : Int) := by omega
      clear he
      have hp := ext_from s (u.size + 1)
      have hps := ext_le s (u.size + 1) s.size
      obtain ⟨p, hpp⟩ : ∃ p, p = s.extract (u.size + 1) s.size := ⟨_, rfl⟩
      rw [← hpp] at hp hps
      rw [← hp] at HH
      have HP := Lib.hid (fun w => port_a p w (by omega))
      have HQ := Lib.hid hpp
      clear hp hpp
      go_enter Tryz.func148, Tryz.ntmps148
      go_wp2_with (first
        | (go_at_call 149; refine (HU.out _).mono ?_; rintro e w' ⟨rfl, rfl⟩)
        | (go_at_call 181; refine (HN.out _).mono ?_; rintro e w' ⟨rfl, rfl⟩)
        | (go_at_call 182; try rw [← HQ.out]; refine (HP.out _).mono ?_; rintro e w' ⟨rfl, rfl⟩))
      go_ret
      exact ⟨ret_bool (by rw [HH.out]; rfl), rfl⟩
end Go.Proofs.YtgkhelbpccehcaaGreatDoor
