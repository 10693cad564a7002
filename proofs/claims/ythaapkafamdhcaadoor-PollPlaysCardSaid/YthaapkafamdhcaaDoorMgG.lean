/- slices.Delete of one event, in a row of the call's own. -/
import Derived.Test.YthaapkafamdhcaaDoorProg
import Derived.Test.YthaapkafamdhcaaDoorMgE
import Derived.Test.YthaapkafamdhcaaDoorMem
import Derived.WalkKit
import Derived.ProofKit
import Derived.Deep.RegionLaw
import Derived.Deep.Upon
import Derived.Lib.SliceRun
import Derived.BigQuiet
import Derived.WalkSpells
import Derived.WalkLawsBesides
import Derived.Test.YthaapkafamdhcaaDoorNums
import Derived.Test.YthaapkafamdhcaaDoorApn
import Derived.Test.YthaapkafamdhcaaDoorNc
import Derived.OwnWalk
import Derived.Deep.AppendLies
import Derived.Test.YthaapkafamdhcaaDoorSlabO
import Derived.Test.YthaapkafamdhcaaDoorMgF
import Derived.Laws.StructEq
import Derived.Test.YthaapkafamdhcaaDoorRows2
import Derived.Test.YthaapkafamdhcaaDoorChecked
import Derived.OpenShut
import Derived.Deep.Slices
import Derived.Deep.Fields
import Derived.Lib.SmallJoins
import Derived.ChangeSlices
import Derived.Test.YthaapkafamdhcaaDoorRows
import Derived.Test.YthaapkafamdhcaaDoorTz
import Derived.LaidSub
import Derived.Lib.LaidTab
namespace Go.Proofs.YthaapkafamdhcaaDoor
open Go.RowKit
set_option maxRecDepth 10000
set_option linter.unusedVariables false
set_option linter.unusedSimpArgs false

/-- Events in a row of the call's own. -/
def EvAt (w : World) (b cap : Nat) (l : List Ev) : Prop := w.ownsRow 0 74 5 (.slice (some ⟨b, 0, none⟩) l.length cap) l.length (fl Ev.cs l)
section
variable {w w' : World} {g n m cap k : Nat} {e : TypeId} {A : Option Addr} {xs : List Value}
theorem own_setCells (h : w.ownsRow 0 e k (.slice (some ⟨g, 0, none⟩) n cap) n xs) (vs : List Value) (o : Nat) (ho : o + vs.length ≤ xs.length) :
    (w.setCells g o vs).ownsRow 0 e k (.slice (some ⟨g, 0, none⟩) n cap) n (xs.take o ++ vs ++ xs.drop (o + vs.length)) ∧ Mods [g] w (w.setCells g o vs) := by
  induction vs generalizing w o xs with
  | nil => simp only [World.setCells, List.append_nil, List.length_nil, Nat.add_zero, List.take_append_drop]; exact ⟨h, Mods.refl _ _⟩
  | cons v vs ih =>
    simp only [List.length_cons] at ho
    obtain ⟨h1, h2⟩ := World.ownsRow.stored h o v
    obtain ⟨h3, h4⟩ := ih h1 (o + 1) (by simp; omega)
    refine ⟨?_, ((Mods.refl [g] w).setCell (.inl (by simp)) v).trans h4 fun k hk => .inl hk⟩
    have e1 : (xs.set o v).take (o + 1) = xs.take o ++ [v] := by
      rw [List.take_set, List.take_succ_eq_append_getElem (by omega), List.set_append_right _ _ (by simp; omega)]
      simp [Nat.min_eq_left (show o ≤ xs.length by omega)]
    have e2 : (xs.set o v).drop (o + 1 + vs.length) = xs.drop (o + (vs.length + 1)) := by
      rw [List.drop_set_of_lt (by omega), show o + 1 + vs.length = o + (vs.length + 1) by omega]
    rw [e1, e2] at h3
    simp only [World.setCells, List.length_cons]
    simpa [List.append_assoc] using h3
theorem own_less5 (h : w.ownsRow 0 e k (.slice A n cap) n xs) (hm : m ≤ n) (h0 : 0 < n) : w.ownsRow 0 e k (.slice A m cap) m (xs.take (m * k)) := by
  have hmk : m * k ≤ n * k := Nat.mul_le_mul_right k hm
  rcases h.2 with ⟨_, rfl⟩ | ⟨g, cap', cur, hv, hb, hg, h1, h2, h3, h4⟩
  · omega
  · injection hv with e1 e2 e3
    subst e1 e3
    refine ⟨by rw [List.length_take, h.1]; omega, .inr ⟨g, cap, cur, rfl, hb, hg, by omega, h2, h3, ?_⟩⟩
    rw [← h4, List.take_take, Nat.min_eq_left hmk]
end
theorem ev_info : (Tryd.prog.info? 74).map (fun i => (i.zero, i.size, i.bytes)) = some (some (.agg #[.int .i64 0, .int .i64 0, .int .i64 0, .bool false, .bool false]), 5, 32) := by kernel_rfl
def zev : List Value := [.int .i64 0, .int .i64 0, .int .i64 0, .bool false, .bool false]
theorem zero_ev (w : World) : (zeroValue 74).run Tryd.prog w = .ok (.agg zev.toArray) w := by kernel_rfl
theorem clear_ev (w : World) (ty : TypeId) (b o c : Nat) (hc : ∀ j, j < 5 → (w.cell? ⟨b, o + j, none⟩).isSome = true) (hf : ∀ j, j < 5 → w.frozen? ⟨b, o + j, none⟩ = false) :
    (Builtin.clear_ #[62] ty #[.slice (some ⟨b, o, none⟩) 1 c]).run Tryd.prog w = .ok (.tuple #[]) (w.setCells b o zev) := by
  have hst := run_storeCells_cells (P := Tryd.prog) b o zev 0 w (by simpa [zev] using hc) (by simpa [zev] using hf) (by intro v hv; simp [zev] at hv; rcases hv with rfl | rfl <;> rfl)
  simp only [Nat.add_zero] at hst
  have hzc : (Builtin.zeroCells (Value.agg zev.toArray).cells 1).toList = zev := by kernel_rfl
  have ht := run_underlying (P := Tryd.prog) (w := w) Tryd.underlying62
  have hz := zero_ev w
  simp [Builtin.clear_, ht, hz, hzc, hst]
set_option maxHeartbeats 1000000 in
theorem del_any (w : World) (b cap i r : Nat) (l : List Ev) (hl : l.length = i + 1 + r) (h : EvAt w b cap l) (hm : l.length ≤ 1000000) :
    Calls Tryd.prog 79 #[.slice (some ⟨b, 0, none⟩) (i + 1 + r) cap, .int .i64 i, .int .i64 ((i : Int) + 1)] w fun e w' => e = .returned (.slice (some ⟨b, 0, none⟩) (i + r) cap) ∧ Hid (EvAt w' b cap (l.eraseIdx i) ∧ Mods [b] w w') := by
  obtain ⟨i0, hi0, hz0, hz1, hz2⟩ := info_parts ev_info
  have hcap : l.length ≤ cap ∧ cap ≤ maxLen := by
    obtain ⟨g', cap', e, _, h1, h2⟩ := own_some h (by omega)
    injection e with e1 e2 e3
    subst e3
    exact ⟨h1, h2⟩
  obtain ⟨hc1, hc2⟩ := hcap
  rw [hl] at hc1
  have hc2 : cap ≤ 9223372036854775807 := by unfold maxLen at hc2; omega
  have hx : l.length * 5 = (fl Ev.cs l).length := (fl_len Ev.cs_len l).symm
  obtain ⟨news, hnews⟩ : ∃ news, news = fl Ev.cs (l.drop (i + 1)) := ⟨_, rfl⟩
  have hlen : news.length = r * 5 := by rw [hnews, fl_len Ev.cs_len, List.length_drop, hl]; omega
  obtain ⟨A, hA, hsrc⟩ : ∃ A : Addr, (if cap = i + 1 then (some ⟨b, 0, none⟩ : Option Addr) else some ⟨b, (i + 1) * 5, none⟩) = some A ∧ Hid (∀ t u, news[t]? = some u → w.drew.cell? (A.add t) = some u) := by
    by_cases h0 : cap = i + 1
    · refine ⟨⟨b, 0, none⟩, by simp [h0], Lib.hid fun t u hu => ?_⟩
      have h0 : news.length = 0 := by rw [hlen]; omega
      rw [List.length_eq_zero_iff.1 h0] at hu
      simp at hu
    · refine ⟨⟨b, (i + 1) * 5, none⟩, by simp [h0], Lib.hid fun t u hu => ?_⟩
      have ht : t < r * 5 := by rw [← hlen]; exact (List.getElem?_eq_some_iff.1 hu).1
      have e : (⟨b, (i + 1) * 5, none⟩ : Addr).add t = ⟨b, (i + 1) * 5 + t, none⟩ := by unfold Addr.add; split <;> simp_all
      rw [e]
      refine (World.ownsRow.cellAt h ((i + 1) * 5 + t) (by omega)).trans ?_
      rw [hnews, ← fl_drop Ev.cs_len, List.getElem?_drop] at hu
      exact hu
  have s1 : Hid (news.length = r * 5) := Lib.hid hlen
  have s2 : Hid (∀ u ∈ news, u.oneCell' = true) := Lib.hid (by
    intro u hu
    rw [hnews] at hu
    obtain ⟨x, _, hx⟩ := List.mem_flatMap.1 hu
    simp only [Ev.cs, List.mem_cons, List.mem_nil_iff, or_false] at hx
    rcases hx with rfl | rfl | rfl | rfl | rfl <;> rfl)
  have s3 : Hid (∀ t, t < news.length → (w.drew.cell? ⟨b, 0 + i * 5 + t, none⟩).isSome = true ∧ w.drew.frozen? ⟨b, 0 + i * 5 + t, none⟩ = false) := Lib.hid (by
    intro t ht
    rw [hlen] at ht
    rw [Nat.zero_add]
    refine ⟨?_, World.ownsRow.frozenAt h _⟩
    show (w.cell? _).isSome = true
    rw [World.ownsRow.cellAt h (i * 5 + t) (by omega), List.getElem?_eq_getElem (by rw [← hx]; omega)]
    rfl)
  obtain ⟨W1, hW1⟩ : ∃ W1, W1 = w.drew.setCells b (0 + i * 5) news := ⟨_, rfl⟩
  obtain ⟨o1, m1⟩ := own_setCells (show w.drew.ownsRow 0 74 5 (.slice (some ⟨b, 0, none⟩) l.length cap) l.length (fl Ev.cs l) from h) news (0 + i * 5) (by rw [← hx, hlen]; omega)
  rw [← hW1] at o1 m1
  have hcl : ∀ ty c, (Builtin.clear_ #[62] ty #[.slice (some ⟨b, (i + r) * 5, none⟩) 1 c]).run Tryd.prog W1 = .ok (.tuple #[]) (W1.setCells b ((i + r) * 5) zev) := fun ty c =>
    clear_ev W1 ty b ((i + r) * 5) c (fun j hj => by
      rw [World.ownsRow.cellAt o1 ((i + r) * 5 + j) (by omega), List.getElem?_eq_getElem (by have := o1.1; omega)]
      rfl) (fun j hj => World.ownsRow.frozenAt o1 _)
  have hic : i ≤ cap := by omega
  have hjc : i + 1 ≤ cap := by omega
  have ej : i + 1 + r - (i + 1) = r := by omega
  have k1 : (0 : Int) ≤ (i : Int) + 1 := by omega
  have k2 : (i : Int) + 1 ≤ (i : Int) + 1 + (r : Int) := by omega
  have ej2 : i + 1 + r - (i + r) = 1 := by omega
  have hne : ¬ cap = i + r := by omega
  have k3 : (i : Int) + (r : Int) ≤ (i : Int) + 1 + (r : Int) := by omega
  have k4 : (0 : Int) ≤ (i : Int) + (r : Int) := by omega
  have HO := Lib.hid o1
  have HM1 := Lib.hid m1
  have hW : Hid (W1 = w.drew.setCells b (0 + i * 5) news) := Lib.hid hW1
  have HN := Lib.hid hnews
  have HH := Lib.hid h
  have HL := Lib.hid hl
  have HM := Lib.hid hm
  clear h hl hx hm hnews hlen hW1 o1 m1
  go_enter Tryd.func79, Tryd.ntmps79
  go_wp2_with fail
  go_region_law (refine step_append_room rfl (.tmp 22) (.tmp 25) 62 rfl 74 i0 5 Tryd.underlying62 hi0 hz1 b 0 i cap (by simp [Act.eval, Act.put]) A r (cap - (i + 1)) news (by simp [Act.eval, Act.put]) s1.out hsrc.out s2.out (by omega) s3.out ?_; rw [← hW.out])
  go_wp2
  go_ret
  refine ⟨rfl, Lib.hid ⟨?_, ?_⟩⟩
  · have hl := HL.out
    have ho := HO.out.1
    have h2 := (own_setCells HO.out zev ((i + r) * 5) (by rw [ho, hl]; simp [zev]; omega)).1
    have h3 := own_less5 h2 (m := i + r) (by omega) (by omega)
    have e1 : (l.eraseIdx i).length = i + r := by rw [List.length_eraseIdx, if_pos (by omega)]; omega
    have hxl := fl_len Ev.cs_len l
    have hnl : news.length = r * 5 := s1.out
    unfold EvAt
    rw [e1]
    refine cast (congrArg _ ?_) h3
    rw [List.append_assoc, List.take_append_of_le_length (by rw [List.length_take, ho, hl]; omega), List.take_take, Nat.min_self, List.append_assoc, Nat.zero_add, fl_take Ev.cs_len]
    have e2 : (fl Ev.cs (l.take i)).length = i * 5 := by rw [fl_len Ev.cs_len, List.length_take, Nat.min_eq_left (by omega)]
    rw [← List.append_assoc, List.take_append_of_le_length (by rw [List.length_append, e2, hnl]; omega), List.take_of_length_le (by rw [List.length_append, e2, hnl]; omega), HN.out, ← fl_append, ← List.eraseIdx_eq_take_drop_succ]
  · have hl := HL.out
    have ho := HO.out.1
    exact (HM1.out.trans (own_setCells HO.out zev ((i + r) * 5) (by rw [ho, hl]; simp [zev]; omega)).2 fun k hk => .inl hk) |> fun h => ⟨h.os, h.tape, h.output, h.size, h.block⟩
#print axioms del_any
end Go.Proofs.YthaapkafamdhcaaDoor

/- What inOrder of the poller answers: events in the order that picks say. -/
namespace Go.Proofs.YthaapkafamdhcaaDoor
open Go.RowKit
set_option maxRecDepth 10000
set_option linter.unusedVariables false
set_option linter.unusedSimpArgs false

/-- A slice of events of the call's own. -/
def EvS (w : World) (v : Value) (l : List Ev) : Prop := w.ownsRow 0 74 5 v l.length (fl Ev.cs l)
theorem EvS.nil (w : World) : EvS w (.slice none 0 0) [] := World.ownsRow_nil _ _ _ _
theorem EvS.mods {w w' : World} {F : List Nat} {v : Value} {l : List Ev} (h : EvS w v l) (hm : Mods F w w') (hn : ∀ k ∈ v.ownBlock.toList, k ∉ F) : EvS w' v l := own_mods h hm hn
theorem EvS.at_ {w : World} {b cap n : Nat} {l : List Ev} (h : EvS w (.slice (some ⟨b, 0, none⟩) n cap) l) : n = l.length ∧ EvAt w b cap l := by
  rcases h.2 with ⟨h', _⟩ | ⟨g', cap', cur, h', r⟩
  · cases h'
  · injection h' with e1 e2 e3
    injection e1 with e1
    injection e1 with e1
    subst e1 e2 e3
    exact ⟨rfl, h.1, .inr ⟨_, _, cur, rfl, r⟩⟩
theorem EvAt.cell {w : World} {b cap i j : Nat} {l : List Ev} {x : Ev} (h : EvAt w b cap l) (hx : l[i]? = some x) (hj : j < 5) : w.cell? ⟨b, i * 5 + j, none⟩ = x.cs[j]? := by
  have hi := (List.getElem?_eq_some_iff.1 hx).1
  rw [World.ownsRow.cellAt h (i * 5 + j) (by omega)]
  exact fl_at Ev.cs_len hx hj
theorem run_append_zero {P : Program} (t ty e : TypeId) (i : TypeInfo) (ht : P.underlying t = some (.slice e)) (hi : P.info? e = some i) (w : World) (A : Option Addr) (n c : Nat) (B : Option Addr) (m : Nat) (hn : n ≤ c) : (Builtin.append_ #[t, t] ty #[.slice A n c, .slice B 0 m]).run P w = .ok (.slice A n c) w := by
  cases A <;> cases B <;> simp [Builtin.append_, run_underlying ht, sizeOf, typeInfo, hi, Builtin.lenOf, Builtin.firstCells, loadCells, loadCellsFrom, hn, storeCells]
/-- Nothing is appended. -/
theorem wpList_append_zero {P : Program} {w : World} {ops : Array Oper} {rest : List Oper} {o : Oper} {a : Act} {Q : Exit → Act → World → Prop} (hgd : o.guard = none) (s x : Operand) (t : TypeId)
    (ho : o.op = .call { callee := .builtin .append, args := #[s, x], argTypes := #[t, t] }) (e : TypeId) (i : TypeInfo) (ht : P.underlying t = some (.slice e)) (hi : P.info? e = some i)
    (A : Option Addr) (n c : Nat) (B : Option Addr) (m : Nat) (hs : a.eval s = .slice A n c) (hx : a.eval x = .slice B 0 m) (hn : n ≤ c) (hk : wpList P ops Q rest (a.put o.dst (.slice A n c)) w) : wpList P ops Q (o :: rest) a w := by
  refine wpList_plain hgd fun K hK => ?_
  have hr := run_append_zero (P := P) t o.type e i ht hi w A n c B m hn
  unfold Oper.wp execOp
  simp only [ho, resolve, invoke, builtin, Sem.run_bind, Sem.run_pure, Result.andThen_ok, List.map_toArray, List.map_cons, List.map_nil, hs, hx, hr]
  exact hK _ _ hk
/-- The loop's relation. -/
structure OrdSt (w wr : World) (vl lv ev : Value) (l : List Ev) (ps : List Int) (k : Nat) : Prop where
  lo : EvS wr lv (ordTo l (ps.take k)).2
  eo : EvS wr ev (ordTo l (ps.take k)).1
  lb : ∀ b ∈ lv.ownBlock.toList, b ∈ vl.ownBlock.toList
  en : ∀ b ∈ ev.ownBlock.toList, w.heap.size ≤ b
  m : Mods vl.ownBlock.toList w wr
theorem EvS.slice {w : World} {v : Value} {l : List Ev} (h : EvS w v l) : ∃ A n c, v = .slice A n c ∧ n = l.length ∧ n ≤ c ∧ c ≤ maxLen := by
  obtain ⟨A, c, e1, e2, e3⟩ := own_slice h
  exact ⟨A, _, c, e1, rfl, e2, e3⟩
theorem tmod_pick (p : Int) {n : Nat} (h : 0 < n) : (max p 0).tmod (n : Int) = ((pick p n : Nat) : Int) := by
  rw [pick_cast p h, Int.tmod_eq_emod_of_nonneg (by omega)]
set_option maxHeartbeats 2000000 in
theorem inord_any (w : World) (vl : Value) (l : List Ev) (A : Option Addr) (pn pc : Nat) (ps : List Int) (hl : EvS w vl l) (hll : l.length ≤ 100000) (hp : NumsAt w vl.ownBlock.toList A ps) (hpn : pn = ps.length) (hpl : ps.length ≤ 1000000) :
    Calls Tryd.prog 52 #[vl, .slice A pn pc] w fun e w' => ∃ v, e = .returned v ∧ Hid (EvS w' v (ord l ps) ∧ (∀ k ∈ v.ownBlock.toList, w.heap.size ≤ k) ∧ Mods vl.ownBlock.toList w w') := by
  obtain ⟨i0, hi0, hz0, hz1, hz2⟩ := info_parts ev_info
  have HI := Lib.hid (And.intro hi0 (And.intro hz0 (And.intro hz1 hz2)))
  obtain ⟨Al, nl, cl, rfl, hnl, hc1, hc2⟩ := hl.slice
  have HH := Lib.hid hl
  have HP := Lib.hid hp
  have HL := Lib.hid (And.intro hll hpl)
  have hnl2 : nl ≤ 100000 := by omega
  have HNL := Lib.hid hnl
  have HPN := Lib.hid hpn
  have hpn2 : pn ≤ 1000000 := by omega
  clear hl hp hll hpl hnl hi0 hz0 hz1 hz2 hpn hc1 hc2
  go_enter Tryd.func52, Tryd.ntmps52
  go_wp2_with (at_make; refine wpList_make_own _ rfl _ _ 62 rfl 0 74 i0 _ 5 Tryd.underlying62 HI.out.1 HI.out.2.1 HI.out.2.2.1 .i64 .i64 _ nl rfl rfl rfl (by rw [HI.out.2.2.2]; omega) (by unfold maxLen; omega) (Nat.zero_le _) ?_; intro w0 hown0 hg0; have hm0 := Lib.hid ((Mods.refl [] w).grown hg0 (by simp)); have hO0 := Lib.hid hown0; clear hown0 hg0)
  have HS0 := Lib.hid (show OrdSt w w0 (.slice Al nl cl) (.slice Al nl cl) (.slice (some ⟨w.heap.size, 0, none⟩) 0 nl) l ps 0 from
    ⟨by simpa [ordTo] using HH.out.mods hm0.out (by simp), by simpa [ordTo, EvS, fl] using hO0.out, fun b hb => hb, by simp [Value.ownBlock], hm0.out.more (by simp)⟩)
  clear hm0 hO0
  go_loopw [0, 5, 7, 8, 14] (fun lv ev pk ix i wr => ∃ k : Nat, k ≤ pn ∧ i = .int .i64 k ∧ Hid (OrdSt w wr (.slice Al nl cl) lv ev l ps k)) (fun _ _ _ _ i _ => pn - (intOf i).toNat)
  case atStart => exact ⟨0, by omega, rfl, HS0⟩
  case round =>
    obtain ⟨k, hk, rfl, hr⟩ := hrel
    by_cases hlt : k < pn
    · have hq : ps[k]? = some (ps[k]'(by rw [← HPN.out]; exact hlt)) := List.getElem?_eq_getElem _
      have hnx := take_next ps k (by rw [← HPN.out]; exact hlt)
      generalize ps[k]'(by rw [← HPN.out]; exact hlt) = p at hq hnx
      obtain ⟨pb, po, rfl, hpb, hpF, hcp⟩ := (HP.out.mods hr.out.m) k p hq
      obtain ⟨An, nn, cn, rfl, hnn, hn1, hn2⟩ := hr.out.lo.slice
      obtain ⟨A5, n5, c5, rfl, hn5, hc51, hc52⟩ := hr.out.eo.slice
      have hlen := ordTo_len l (ps.take k)
      have hn5b : n5 + nn ≤ 100000 := by have := HL.out.1; omega
      have HN5 := Lib.hid hn5
      have HNN := Lib.hid hnn
      have HQ := Lib.hid hnx
      have HR := Lib.hid hr.out
      by_cases h0 : nn = 0
      · subst h0
        clear hr hq hnx hn5 hnn hlen hpb hpF hn1 hn2 hc52
        go_wp2_with (at_builtin; refine wpList_append_zero rfl (.tmp 39) (.tmp 40) 62 rfl 74 i0 Tryd.underlying62 HI.out.1 A5 n5 c5 An cn rfl rfl hc51 ?_)
        go_ret
        refine ⟨_, rfl, Lib.hid ⟨?_, HR.out.en, HR.out.m⟩⟩
        have e1 : ps = ps.take k ++ ps.drop k := (List.take_append_drop k ps).symm
        have e2 : ordTo l ps = ordTo l (ps.take k) := by
          have := ordTo_stop l (ps.take k) (ps.drop k) HNN.out.symm
          rw [List.take_append_drop] at this
          exact this
        have e3 : ord l ps = (ordTo l (ps.take k)).1 := by
          unfold ord
          rw [e2, List.eq_nil_of_length_eq_zero (l := (ordTo l (ps.take k)).2) HNN.out.symm, List.append_nil]
        rw [e3]
        exact HR.out.eo
      · obtain ⟨lb, rfl⟩ : ∃ lb, An = some ⟨lb, 0, none⟩ := by
          obtain ⟨g', c', e', _⟩ := own_some hr.out.lo (by rw [← hnn]; omega)
          injection e' with e1 e2 e3
          exact ⟨g', e1⟩
        obtain ⟨-, hE⟩ := hr.out.lo.at_
        have hbl : lb ∈ (Value.slice Al nl cl).ownBlock.toList := hr.out.lb lb (by simp [Value.ownBlock])
        have hbw : lb < w.heap.size := own_lt HH.out lb hbl
        have hpk := pick_lt p (n := nn) (by omega)
        have hpc := tmod_pick p (n := nn) (by omega)
        have hpe := pick_cast p (n := nn) (by omega)
        obtain ⟨x, hx⟩ : ∃ x, (ordTo l (ps.take k)).2[pick p nn]? = some x := ⟨_, List.getElem?_eq_getElem (by rw [← hnn]; exact hpk)⟩
        have hsn := ordTo_snoc l (ps.take k) p x (by rw [← hnn]; omega) (by rw [← hnn]; exact hx)
        rw [← hnn, ← hnx] at hsn
        obtain ⟨q, hqd⟩ : ∃ q, q = pick p nn := ⟨_, rfl⟩
        rw [← hqd] at hpk hpc hpe hx hsn
        obtain ⟨r, hr0⟩ : ∃ r, r = nn - (q + 1) := ⟨_, rfl⟩
        have hnq : nn = q + 1 + r := by omega
        have HE := Lib.hid hE
        have HX := Lib.hid hx
        have HSN := Lib.hid hsn
        have HB := Lib.hid (And.intro hbl hbw)
        have x0 : wr.cell? ⟨lb, q * 5, none⟩ = some (.int .i64 x.s) := hE.cell hx (j := 0) (by omega)
        have x1 : wr.cell? ⟨lb, q * 5 + 1, none⟩ = some (.int .i64 x.g) := hE.cell hx (j := 1) (by omega)
        have x2 : wr.cell? ⟨lb, q * 5 + 2, none⟩ = some (.int .i64 x.c) := hE.cell hx (j := 2) (by omega)
        have x3 : wr.cell? ⟨lb, q * 5 + 3, none⟩ = some (.bool x.r) := hE.cell hx (j := 3) (by omega)
        have x4 : wr.cell? ⟨lb, q * 5 + 4, none⟩ = some (.bool x.w) := hE.cell hx (j := 4) (by omega)
        obtain ⟨p0, hp0⟩ : ∃ p0, p0 = max p 0 := ⟨_, rfl⟩
        rw [← hp0] at hpe
        have hmx : (if p < 0 then 0 else p) = p0 := by subst hp0; split <;> omega
        have hrem : p0 % (nn : Int) = (q : Int) := hpe.symm
        have g1 : (q : Int) < (nn : Int) := by omega
        have g0 : (0 : Int) ≤ (q : Int) := by omega
        have HNQ := Lib.hid hnq
        have hn52 : n5 ≤ 100000 := by omega
        clear hr hq hnx hn5 hnn hlen hpb hpF hc52 hE hbl hbw hpk hpc hpe hx hsn hqd hr0 hnq hp0 hn1
        have hz : ((nn : Int) == 0) = false := by simp; omega
        go_wp2_with (at_builtin; refine wpList_append_n rfl (.tmp 26) (.tmp 31) 62 rfl 74 i0 _ 5 32 Tryd.underlying62 HI.out.1 HI.out.2.1 HI.out.2.2.1 HI.out.2.2.2 rfl (by omega) (.slice A5 n5 c5) n5 (fl Ev.cs (ordTo l (ps.take k)).1) rfl (by have := HR.out.eo; unfold EvS at this; rw [← HN5.out] at this; exact own_mods this ((Mods.refl [] wr).alloc _) (by simp)) ⟨wr.heap.size, 0, none⟩ 1 1 [.int .i64 x.s, .int .i64 x.g, .int .i64 x.c, .bool x.r, .bool x.w] rfl rfl (World.news_of_block (new_at rfl)) (by simp [Value.oneCell']) (by unfold maxLen; omega) (by omega) ?_; intro v5 w5 HO5 HM5; obtain ⟨A6, c6, rfl, -, -⟩ := own_slice HO5.out)
        have HEV := Lib.hid (show ∀ b ∈ (Value.slice A6 (n5 + 1) c6).ownBlock.toList, w.heap.size ≤ b by
          intro b hb
          rcases HM5.out.2 with e | e
          · rw [e] at hb; exact HR.out.en b hb
          · rw [e] at hb
            have := HR.out.m.size
            simp at hb
            omega)
        have hlb5 : lb ∉ (Value.slice A5 n5 c5).ownBlock.toList := fun hk => by have := HR.out.en lb hk; have := HB.out.2; omega
        have hd := del_any w5 lb cn q r _ (by rw [← HNN.out]; exact HNQ.out) (own_mods (HE.out) (((Mods.refl _ wr).alloc _).trans HM5.out.1 fun k hk => .inl hk) (by simpa [Value.ownBlock] using hlb5)) (by rw [← HNN.out]; omega)
        rw [← HNQ.out] at hd
        refine Calls.mono hd ?_
        rintro e w6 ⟨rfl, hd6⟩
        have H6 := Lib.hid hd6.out
        clear hd hd6 hlb5 x0 x1 x2 x3 x4
        go_wp2
        go_roundw
        case rel =>
          refine ⟨k + 1, by omega, by go_num, Lib.hid ?_⟩
          have hsn := HSN.out
          have hlb6 : lb ∉ (Value.slice A6 (n5 + 1) c6).ownBlock.toList := fun hk => by have := HEV.out lb hk; have := HB.out.2; omega
          have hel : ((ordTo l (ps.take k)).2.eraseIdx q).length = q + r := by have hnq := HNQ.out; rw [List.length_eraseIdx, if_pos (by rw [← HNN.out]; omega), ← HNN.out]; omega
          refine ⟨?_, ?_, fun b hb => ?_, HEV.out, ?_⟩
          · rw [hsn]
            have := H6.out.1
            unfold EvAt at this
            unfold EvS
            simp only
            rw [hel] at this ⊢
            exact this
          · rw [hsn]
            unfold EvS
            simp only
            rw [fl_append, fl_one, List.length_append, List.length_singleton, ← HN5.out]
            exact own_mods HO5.out H6.out.2 fun b hb hb2 => hlb6 (by rw [← List.mem_singleton.1 hb2]; exact hb)
          · have : b = lb := by simpa [Value.ownBlock, eq_comm] using hb
            subst this
            exact HB.out.1
          · refine ((HR.out.m.alloc _).trans HM5.out.1 fun b hb => .inr (HR.out.en b hb)).trans H6.out.2 fun b hb => .inl ?_
            rw [List.mem_singleton.1 hb]
            exact HB.out.1
        case measure => simp [intOf]; omega
    · have e : k = pn := by omega
      subst e
      have HR := Lib.hid hr.out
      obtain ⟨An, nn, cn, rfl, hnn, hn1, hn2⟩ := hr.out.lo.slice
      obtain ⟨A5, n5, c5, rfl, hn5, hc51, hc52⟩ := hr.out.eo.slice
      have e1 : ps.take k = ps := by rw [HPN.out, List.take_length]
      have hlen := ordTo_len l (ps.take k)
      have hn5b : n5 + nn ≤ 100000 := by have := HL.out.1; omega
      have HN5 := Lib.hid hn5
      have HNN := Lib.hid hnn
      have HE1 := Lib.hid e1
      by_cases h0 : nn = 0
      · subst h0
        clear hr hnn hn1 hn2 hn5 hc52 e1 hlen
        go_wp2_with (at_builtin; refine wpList_append_zero rfl (.tmp 39) (.tmp 40) 62 rfl 74 i0 Tryd.underlying62 HI.out.1 A5 n5 c5 An cn rfl rfl hc51 ?_)
        go_ret
        refine ⟨_, rfl, Lib.hid ⟨?_, HR.out.en, HR.out.m⟩⟩
        have e3 : ord l ps = (ordTo l (ps.take k)).1 := by
          unfold ord
          rw [HE1.out, List.eq_nil_of_length_eq_zero (l := (ordTo l ps).2) (by have := HNN.out.symm; rw [HE1.out] at this; exact this), List.append_nil]
        rw [e3]
        exact HR.out.eo
      · obtain ⟨lb, rfl⟩ : ∃ lb, An = some ⟨lb, 0, none⟩ := by
          obtain ⟨g', c', e', _⟩ := own_some hr.out.lo (by rw [← hnn]; omega)
          injection e' with e1 e2 e3
          exact ⟨g', e1⟩
        obtain ⟨-, hE⟩ := hr.out.lo.at_
        have HE := Lib.hid hE
        have HB := Lib.hid (own_lt HH.out lb (hr.out.lb lb (by simp [Value.ownBlock])))
        have HSR := Lib.hid (show ∀ j u, (fl Ev.cs (ordTo l (ps.take k)).2)[j]? = some u → wr.cell? ((⟨lb, 0, none⟩ : Addr).add j) = some u from fun j u hu => by
          have hj : j < (ordTo l (ps.take k)).2.length * 5 := by rw [← fl_len Ev.cs_len]; exact (List.getElem?_eq_some_iff.1 hu).1
          have e : (⟨lb, 0, none⟩ : Addr).add j = ⟨lb, j, none⟩ := by unfold Addr.add; split <;> simp_all
          rw [e, World.ownsRow.cellAt HE.out j hj]
          exact hu)
        have HON := Lib.hid (show ∀ u ∈ fl Ev.cs (ordTo l (ps.take k)).2, u.oneCell' = true by
          intro u hu
          obtain ⟨x, _, hx⟩ := List.mem_flatMap.1 hu
          simp only [Ev.cs, List.mem_cons, List.mem_nil_iff, or_false] at hx
          rcases hx with rfl | rfl | rfl | rfl | rfl <;> rfl)
        clear hr hnn hn1 hn2 hn5 hc52 e1 hlen hE
        go_wp2_with (at_builtin; refine wpList_append_n rfl (.tmp 39) (.tmp 40) 62 rfl 74 i0 _ 5 32 Tryd.underlying62 HI.out.1 HI.out.2.1 HI.out.2.2.1 HI.out.2.2.2 rfl (by omega) (.slice A5 n5 c5) n5 (fl Ev.cs (ordTo l (ps.take k)).1) rfl (by have := HR.out.eo; unfold EvS at this; rw [← HN5.out] at this; exact this) ⟨lb, 0, none⟩ nn cn (fl Ev.cs (ordTo l (ps.take k)).2) rfl (by rw [fl_len Ev.cs_len, ← HNN.out]) HSR.out HON.out (by unfold maxLen; omega) (by omega) ?_; intro v5 w5 HO5 HM5; obtain ⟨A6, c6, rfl, -, -⟩ := own_slice HO5.out)
        go_ret
        have hb : ∀ b ∈ (Value.slice A6 (n5 + nn) c6).ownBlock.toList, w.heap.size ≤ b := by
          intro b hb
          rcases HM5.out.2 with e | e
          · rw [e] at hb; exact HR.out.en b hb
          · rw [e] at hb
            have := HR.out.m.size
            simp at hb
            omega
        refine ⟨_, rfl, Lib.hid ⟨?_, hb, HR.out.m.trans HM5.out.1 fun b hb => .inr (HR.out.en b hb)⟩⟩
        have e3 : ord l ps = (ordTo l (ps.take k)).1 ++ (ordTo l (ps.take k)).2 := by
          unfold ord
          rw [HE1.out]
        rw [e3]
        unfold EvS
        rw [fl_append, List.length_append, ← HN5.out, ← HNN.out]
        exact HO5.out
#print axioms inord_any
end Go.Proofs.YthaapkafamdhcaaDoor

/- What Wait of the program's poller answers. -/
namespace Go.Proofs.YthaapkafamdhcaaDoor
open Go.RowKit
set_option maxRecDepth 10000
set_option linter.unusedVariables false
set_option linter.unusedSimpArgs false

theorem wait_nil (w : World) (v : Value) : Calls Tryd.prog 17 #[.pointer none, v] w fun e w' => e = .returned (.slice none 0 0) ∧ w = w' := by
  have hn := eql_ppol
  go_enter Tryd.func17, Tryd.ntmps17
  go_wp2
  go_ret
  exact ⟨rfl, rfl⟩
/-- The loop's relation. -/
structure WaitSt (w wr : World) (p g m K : Nat) (F : List Nat) (P : Plr) (hv tv : Value) (k : Nat) : Prop where
  pol : PolA wr p g F (P.tells (P.sl.all.take k)) m K
  mods : Mods F w wr
  hnd : OwnPairs wr 47 hv P.sl.all
  hb : ∀ b ∈ hv.ownBlock.toList, w.heap.size ≤ b
  evs : EvS wr tv (P.evs (P.sl.all.take k))
  tb : ∀ b ∈ tv.ownBlock.toList, w.heap.size ≤ b
theorem OwnPairs.cell {w : World} {b cap i n : Nat} {t : TypeId} {l : List (Int × Int)} {q : Int × Int} (h : OwnPairs w t (.slice (some ⟨b, 0, none⟩) n cap) l) (hn : n = l.length) (hq : l[i]? = some q) : w.cell? ⟨b, i * 2, none⟩ = some (.int .i64 q.1) ∧ w.cell? ⟨b, i * 2 + 1, none⟩ = some (.int .i64 q.2) := by
  have hi := (List.getElem?_eq_some_iff.1 hq).1
  have hf := flat_at l i q hq
  unfold OwnPairs at h
  rw [← hn] at h
  exact ⟨(World.ownsRow.cellAt h (i * 2) (by omega)).trans hf.1, (World.ownsRow.cellAt h (i * 2 + 1) (by omega)).trans hf.2⟩
theorem EvS.own_n {w w' : World} {F : List Nat} {v : Value} {n : Nat} {l : List Ev} (h : EvS w v l) (hn : n = l.length) (hm : Mods F w w') (hd : ∀ k ∈ v.ownBlock.toList, k ∉ F) : w'.ownsRow 0 74 5 v n (fl Ev.cs l) := by subst hn; exact h.mods hm hd
/-- Rows of unlike kinds lie apart. -/
theorem own_ne_ev {w : World} {v v' : Value} {l : List (Int × Int)} {l' : List Ev} (h : OwnPairs w 47 v l) (h' : EvS w v' l') : ∀ b ∈ v.ownBlock.toList, b ∉ v'.ownBlock.toList := by
  intro b hb hb2
  rcases h'.2 with ⟨rfl, _⟩ | ⟨g', cap', cur, rfl, _, hg, _⟩
  · simp [Value.ownBlock] at hb2
  · have : b = g' := by simpa [Value.ownBlock, eq_comm] using hb2
    subst this
    exact own_ne_row h (show Row w b 74 cur from hg) (by decide) b hb rfl
set_option maxHeartbeats 2000000 in
theorem wait_any (w : World) (p g m K : Nat) (F : List Nat) (P : Plr) (h : PolA w p g F P m K) (A : Option Addr) (pn pc : Nat) (ps : List Int) (hp : NumsAt w F A ps) (hpn : pn = ps.length) (hpl : ps.length ≤ 1000000) :
    Calls Tryd.prog 17 #[.pointer (some ⟨p, 0, none⟩), .slice A pn pc] w fun e w' => ∃ v, e = .returned v ∧ Hid (EvS w' v (ord P.told ps) ∧ (∀ k ∈ v.ownBlock.toList, w.heap.size ≤ k) ∧ PolA w' p g F P.waited m K ∧ Mods F w w') := by
  have hnp := eql_ppol
  obtain ⟨i0, hi0, hz0, hz1, hz2⟩ := info_parts ev_info
  have HI := Lib.hid (And.intro hi0 (And.intro hz0 (And.intro hz1 hz2)))
  have hsl : ∃ hs, w.cell? ⟨p, 1, none⟩ = some (.pointer (some ⟨hs, 0, none⟩)) ∧ ∃ G, SlabA w hs G P.sl K := by
    obtain ⟨x, hs, mb, vw, rfl, H⟩ := h
    exact ⟨hs, H.row.cell 1, _, H.slb⟩
  obtain ⟨hs, c1, G, hG⟩ := hsl
  have hok := h.ok
  have HFL := Lib.hid h.lt
  have HA := Lib.hid h
  have HG := Lib.hid hG
  have HP := Lib.hid (And.intro hp (And.intro hpn hpl))
  have HAL := Lib.hid (show P.sl.all.length ≤ 4096 from by
    have := P.sl.allTo_len P.sl.us.length
    have := hok.sl.len
    have := hok.sl.hi
    unfold Slb.all
    omega)
  have HOK := Lib.hid hok
  clear h hG hp hpn hpl hok hi0 hz0 hz1 hz2
  go_enter Tryd.func17, Tryd.ntmps17
  go_wp2_with fail
  refine (all_any w hs G P.sl K HG.out).mono ?_
  rintro e w1 ⟨hv, rfl, hd⟩
  obtain ⟨Ah, ch, rfl, hch1, hch2⟩ := own_slice hd.out.1
  obtain ⟨hn, hnn⟩ : ∃ hn, hn = P.sl.all.length := ⟨_, rfl⟩
  have HHN := Lib.hid hnn
  rw [← hnn] at hd hch1 ⊢
  have hnb : hn ≤ 4096 := by have := HAL.out; omega
  have HS0 := Lib.hid (show WaitSt w w1 p g m K F P (.slice Ah hn ch) (.slice none 0 0) 0 from
    ⟨by simpa [Plr.tells] using HA.out.quiet hd.out.2.2, hd.out.2.2.more (by simp), hd.out.1, hd.out.2.1, by simpa [Plr.evs] using EvS.nil w1, by simp [Value.ownBlock]⟩)
  clear hd hnn c1 hch1 hch2
  go_wp2
  go_loopw [5, 7, 8, 17] (fun tv a b i wr => ∃ k : Nat, k ≤ hn ∧ i = .int .i64 k ∧ Hid (WaitSt w wr p g m K F P (.slice Ah hn ch) tv k)) (fun _ _ _ i _ => hn - (intOf i).toNat)
  case atStart => exact ⟨0, by omega, rfl, HS0⟩
  case round =>
    obtain ⟨k, hk, rfl, hr⟩ := hrel
    by_cases hlt : k < hn
    · have hlt2 : k < P.sl.all.length := by rw [← HHN.out]; exact hlt
      have hq : P.sl.all[k]? = some (P.sl.all[k]'hlt2) := List.getElem?_eq_getElem _
      have hnx := take_next P.sl.all k hlt2
      generalize P.sl.all[k]'hlt2 = q at hq hnx
      obtain ⟨i, hi, rfl, hu, his⟩ := Slb.all_at hq
      obtain ⟨hbk, rfl⟩ : ∃ b, Ah = some ⟨b, 0, none⟩ := by
        obtain ⟨g', c', e', _⟩ := own_some hr.out.hnd (by omega)
        injection e' with e1 e2 e3
        exact ⟨g', e1⟩
      obtain ⟨h0, h1⟩ := hr.out.hnd.cell HHN.out hq
      simp only at h0 h1
      obtain ⟨At, nt, ct, rfl, hnt, ht1, ht2⟩ := hr.out.evs.slice
      have hts := (P.tells_sl (P.sl.all.take k))
      have htl := P.evs_len (P.sl.all.take k)
      have hT1 : P.tells (P.sl.all.take (k + 1)) = (P.tells (P.sl.all.take k)).tell i := by rw [hnx, Plr.tells_snoc]; simp
      have hE1 : P.evs (P.sl.all.take (k + 1)) = P.evs (P.sl.all.take k) ++ (P.tells (P.sl.all.take k)).one ((i : Int), ((P.sl.gs.getD i 0 : Nat) : Int)) := by rw [hnx, Plr.evs_snoc]
      obtain ⟨gg, hgg⟩ : ∃ gg : Int, gg = ((P.sl.gs.getD i 0 : Nat) : Int) := ⟨_, rfl⟩
      rw [← hgg] at h1 hE1 his
      have HTL := Lib.hid (tell_any ((wr.alloc (.cells #[.int .i64 i, .int .i64 gg] 47))) p g m K i F (P.tells (P.sl.all.take k)) (hr.out.pol.quiet ((Mods.refl [] wr).alloc _)) gg (by rw [hts.1]; exact his))
      have HNT := Lib.hid hnt
      have hnt2 : nt ≤ 4096 := by
        rw [List.length_take] at htl
        omega
      have HT1 := Lib.hid hT1
      have HE1 := Lib.hid hE1
      have HR := Lib.hid hr.out
      generalize hP2 : P.tells (P.sl.all.take k) = P2 at *
      obtain ⟨z, hz⟩ : ∃ z, P2.id i = z := ⟨_, rfl⟩
      obtain ⟨tr, htr⟩ : ∃ t, P2.tR i = t := ⟨_, rfl⟩
      obtain ⟨tw, htw⟩ : ∃ t, P2.tW i = t := ⟨_, rfl⟩
      have hev : P2.ev ((i : Int), gg) = ⟨i, gg, z, tr, tw⟩ := by unfold Plr.ev; simp only [Int.toNat_natCast, hz, htr, htw]
      have hone : P2.one ((i : Int), gg) = if (tr || tw) = true then [⟨i, gg, z, tr, tw⟩] else [] := by unfold Plr.one; rw [hev]; simp only [Int.toNat_natCast, htr, htw]
      rw [hone] at HE1
      rw [hev] at HTL
      have HTL2 := Lib.hid (show Calls Tryd.prog 51 #[.pointer (some ⟨p, 0, none⟩), .agg #[.int .i64 i, .int .i64 gg]] (wr.alloc (.cells #[.int .i64 i, .int .i64 gg] 47)) (fun e w' => e = .returned (.agg #[.int .i64 i, .int .i64 gg, .int .i64 z, .bool tr, .bool tw]) ∧ Hid (PolA w' p g F (P2.tell i) m K ∧ Mods F (wr.alloc (.cells #[.int .i64 i, .int .i64 gg] 47)) w')) from HTL.out)
      have HE := Lib.hid HE1.out
      clear hr hq hnx hi hu his hnt ht2 hts htl hT1 hE1 hgg hP2 hz htr htw hev hone hlt2 HE1 HTL
      go_wp2_with fail
      refine HTL2.out.mono ?_
      rintro e w2 ⟨rfl, hd⟩
      have H2 := Lib.hid hd.out
      clear hd h0 h1
      have HM2 := Lib.hid (((Mods.refl F wr).alloc (.cells #[.int .i64 i, .int .i64 gg] 47)).trans H2.out.2 fun b hb => .inl hb)
      have HFH := Lib.hid (show ∀ b ∈ (Value.slice (some ⟨hbk, 0, none⟩) hn ch).ownBlock.toList, b ∉ F from fun b hb hb2 => by have := HR.out.hb b hb; have := HFL.out b hb2; omega)
      have HFT := Lib.hid (show ∀ b ∈ (Value.slice At nt ct).ownBlock.toList, b ∉ F from fun b hb hb2 => by have := HR.out.tb b hb; have := HFL.out b hb2; omega)
      cases tr <;> cases tw
      · go_wp2
        go_roundw
        case rel =>
          refine ⟨k + 1, by omega, by go_num, Lib.hid ⟨?_, ?_, ?_, HR.out.hb, ?_, HR.out.tb⟩⟩
          · rw [HT1.out]; exact H2.out.1.quiet ((Mods.refl [] w2).alloc _)
          · exact (HR.out.mods.trans HM2.out fun b hb => .inl hb).alloc _
          · exact own_mods HR.out.hnd (HM2.out.alloc _) HFH.out
          · rw [HE.out]
            simpa using HR.out.evs.mods (HM2.out.alloc _) HFT.out
        case measure => simp [intOf]; omega
      · go_wp2_with (at_builtin; refine wpList_append_n rfl (.tmp 30) (.tmp 32) 62 rfl 74 i0 _ 5 32 Tryd.underlying62 HI.out.1 HI.out.2.1 HI.out.2.2.1 HI.out.2.2.2 rfl (by omega) (.slice At nt ct) nt (fl Ev.cs (P.evs (P.sl.all.take k))) rfl (HR.out.evs.own_n HNT.out ((HM2.out.alloc _).alloc _) HFT.out) ⟨w2.heap.size + 1, 0, none⟩ 1 1 [.int .i64 i, .int .i64 gg, .int .i64 z, .bool false, .bool true] rfl rfl (World.news_of_block (new_at (by simp))) (by simp [Value.oneCell']) (by unfold maxLen; omega) (by omega) ?_; intro v5 w5 HO5 HM5; obtain ⟨A6, c6, rfl, -, -⟩ := own_slice HO5.out)
        have HQ := Lib.hid (show Mods (Value.slice At nt ct).ownBlock.toList w2 w5 from (((Mods.refl _ w2).alloc _).alloc _).trans HM5.out.1 fun b hb => .inl hb)
        go_roundw
        case rel =>
          refine ⟨k + 1, by omega, by go_num, Lib.hid ⟨?_, ?_, ?_, HR.out.hb, ?_, ?_⟩⟩
          · rw [HT1.out]; exact H2.out.1.mods HQ.out fun b hb hb2 => HFT.out b hb2 hb
          · exact (HR.out.mods.trans HM2.out fun b hb => .inl hb).trans HQ.out fun b hb => .inr (HR.out.tb b hb)
          · refine own_mods (own_mods HR.out.hnd HM2.out HFH.out) HQ.out fun b hb hb2 => ?_
            exact own_ne_ev (own_mods HR.out.hnd HM2.out HFH.out) (HR.out.evs.mods HM2.out HFT.out) b hb hb2
          · rw [HE.out]
            simp only [Bool.or_false, Bool.or_true, Bool.false_or, Bool.true_or, if_true]
            unfold EvS
            rw [fl_append, fl_one, List.length_append, List.length_singleton, ← HNT.out]
            exact HO5.out
          · intro b hb
            rcases HM5.out.2 with e | e
            · rw [e] at hb; exact HR.out.tb b hb
            · rw [e] at hb
              have := HR.out.mods.size
              have := HM2.out.size
              simp at hb
              omega
        case measure => simp [intOf]; omega
      · go_wp2_with (at_builtin; refine wpList_append_n rfl (.tmp 30) (.tmp 32) 62 rfl 74 i0 _ 5 32 Tryd.underlying62 HI.out.1 HI.out.2.1 HI.out.2.2.1 HI.out.2.2.2 rfl (by omega) (.slice At nt ct) nt (fl Ev.cs (P.evs (P.sl.all.take k))) rfl (HR.out.evs.own_n HNT.out ((HM2.out.alloc _).alloc _) HFT.out) ⟨w2.heap.size + 1, 0, none⟩ 1 1 [.int .i64 i, .int .i64 gg, .int .i64 z, .bool true, .bool false] rfl rfl (World.news_of_block (new_at (by simp))) (by simp [Value.oneCell']) (by unfold maxLen; omega) (by omega) ?_; intro v5 w5 HO5 HM5; obtain ⟨A6, c6, rfl, -, -⟩ := own_slice HO5.out)
        have HQ := Lib.hid (show Mods (Value.slice At nt ct).ownBlock.toList w2 w5 from (((Mods.refl _ w2).alloc _).alloc _).trans HM5.out.1 fun b hb => .inl hb)
        go_roundw
        case rel =>
          refine ⟨k + 1, by omega, by go_num, Lib.hid ⟨?_, ?_, ?_, HR.out.hb, ?_, ?_⟩⟩
          · rw [HT1.out]; exact H2.out.1.mods HQ.out fun b hb hb2 => HFT.out b hb2 hb
          · exact (HR.out.mods.trans HM2.out fun b hb => .inl hb).trans HQ.out fun b hb => .inr (HR.out.tb b hb)
          · refine own_mods (own_mods HR.out.hnd HM2.out HFH.out) HQ.out fun b hb hb2 => ?_
            exact own_ne_ev (own_mods HR.out.hnd HM2.out HFH.out) (HR.out.evs.mods HM2.out HFT.out) b hb hb2
          · rw [HE.out]
            simp only [Bool.or_false, Bool.or_true, Bool.false_or, Bool.true_or, if_true]
            unfold EvS
            rw [fl_append, fl_one, List.length_append, List.length_singleton, ← HNT.out]
            exact HO5.out
          · intro b hb
            rcases HM5.out.2 with e | e
            · rw [e] at hb; exact HR.out.tb b hb
            · rw [e] at hb
              have := HR.out.mods.size
              have := HM2.out.size
              simp at hb
              omega
        case measure => simp [intOf]; omega
      · go_wp2_with (at_builtin; refine wpList_append_n rfl (.tmp 30) (.tmp 32) 62 rfl 74 i0 _ 5 32 Tryd.underlying62 HI.out.1 HI.out.2.1 HI.out.2.2.1 HI.out.2.2.2 rfl (by omega) (.slice At nt ct) nt (fl Ev.cs (P.evs (P.sl.all.take k))) rfl (HR.out.evs.own_n HNT.out ((HM2.out.alloc _).alloc _) HFT.out) ⟨w2.heap.size + 1, 0, none⟩ 1 1 [.int .i64 i, .int .i64 gg, .int .i64 z, .bool true, .bool true] rfl rfl (World.news_of_block (new_at (by simp))) (by simp [Value.oneCell']) (by unfold maxLen; omega) (by omega) ?_; intro v5 w5 HO5 HM5; obtain ⟨A6, c6, rfl, -, -⟩ := own_slice HO5.out)
        have HQ := Lib.hid (show Mods (Value.slice At nt ct).ownBlock.toList w2 w5 from (((Mods.refl _ w2).alloc _).alloc _).trans HM5.out.1 fun b hb => .inl hb)
        go_roundw
        case rel =>
          refine ⟨k + 1, by omega, by go_num, Lib.hid ⟨?_, ?_, ?_, HR.out.hb, ?_, ?_⟩⟩
          · rw [HT1.out]; exact H2.out.1.mods HQ.out fun b hb hb2 => HFT.out b hb2 hb
          · exact (HR.out.mods.trans HM2.out fun b hb => .inl hb).trans HQ.out fun b hb => .inr (HR.out.tb b hb)
          · refine own_mods (own_mods HR.out.hnd HM2.out HFH.out) HQ.out fun b hb hb2 => ?_
            exact own_ne_ev (own_mods HR.out.hnd HM2.out HFH.out) (HR.out.evs.mods HM2.out HFT.out) b hb hb2
          · rw [HE.out]
            simp only [Bool.or_false, Bool.or_true, Bool.false_or, Bool.true_or, if_true]
            unfold EvS
            rw [fl_append, fl_one, List.length_append, List.length_singleton, ← HNT.out]
            exact HO5.out
          · intro b hb
            rcases HM5.out.2 with e | e
            · rw [e] at hb; exact HR.out.tb b hb
            · rw [e] at hb
              have := HR.out.mods.size
              have := HM2.out.size
              simp at hb
              omega
        case measure => simp [intOf]; omega
    · have e : k = hn := by omega
      subst e
      have HR := Lib.hid hr.out
      obtain ⟨At, nt, ct, rfl, hnt, ht1, ht2⟩ := hr.out.evs.slice
      have e1 : P.sl.all.take k = P.sl.all := by rw [HHN.out, List.take_length]
      have HE1 := Lib.hid e1
      have htl := P.evs_len (P.sl.all.take k)
      have HTL := Lib.hid (show (P.evs (P.sl.all.take k)).length ≤ 100000 by rw [List.length_take] at htl; omega)
      have HC := Lib.hid (inord_any wr (.slice At nt ct) _ A pn pc ps hr.out.evs HTL.out (fun j y hy => by
        obtain ⟨b, o, e, h1, h2, h3⟩ := HP.out.1 j y hy
        exact ⟨b, o, e, Nat.lt_of_lt_of_le h1 hr.out.mods.size, fun hk => by have := hr.out.tb b hk; omega, cell_mods h3 hr.out.mods h2⟩) HP.out.2.1 HP.out.2.2)
      clear hr hnt ht1 ht2 e1 htl
      go_wp2_with fail
      refine HC.out.mono ?_
      rintro e w5 ⟨v5, rfl, hd⟩
      have HD := Lib.hid hd.out
      clear hd
      go_wp2
      go_ret
      have h1 := HR.out.evs
      have hp := HR.out.pol
      rw [HE1.out] at hp
      have hd := HD.out
      rw [HE1.out] at hd
      refine ⟨_, rfl, Lib.hid ⟨hd.1, fun b hb => Nat.le_trans HR.out.mods.size (hd.2.1 b hb), hp.mods hd.2.2 fun b hb hb2 => ?_, HR.out.mods.trans hd.2.2 fun b hb => .inr (HR.out.tb b hb)⟩⟩
      have := HR.out.tb b hb2
      have := HFL.out b hb
      omega
#print axioms wait_any
end Go.Proofs.YthaapkafamdhcaaDoor

/- What events of stage 8's law answers. -/
namespace Go.Proofs.YthaapkafamdhcaaDoor
open Go.RowKit
set_option maxRecDepth 10000
set_option linter.unusedVariables false
set_option linter.unusedSimpArgs false

def Ev.same (x y : Ev) : Bool := ((x.s == y.s && x.g == y.g) && x.c == y.c && x.r == y.r) && x.w == y.w
theorem Ev.same_iff (x y : Ev) : x.same y = true ↔ x = y := by
  cases x; cases y
  simp [Ev.same]
  constructor
  · rintro ⟨⟨⟨⟨h1, h2⟩, h3⟩, h4⟩, h5⟩; exact ⟨h1, h2, h3, h4, h5⟩
  · rintro ⟨h1, h2, h3, h4, h5⟩; exact ⟨⟨⟨⟨h1, h2⟩, h3⟩, h4⟩, h5⟩
theorem eqi_hand (a b d e : Int) (w : World) : (Op.equalIn 9999 47 (.agg #[.int .i64 a, .int .i64 b]) (.agg #[.int .i64 d, .int .i64 e])).run Tryd.prog w = .ok (a == d && b == e) w := by
  have u3 := Tryd.underlying3
  have a3 := Tryd.isAgg3
  have z3 := Tryd.sizeOf3
  have hS : Tryd.prog.underlying 47 = some (.struct (Tryd.prog.fieldsOf 47)) := by kernel_rfl
  have hp : Tryd.prog.stoodInHeld 47 = false := by kernel_rfl
  rw [show (9999 : Nat) = 9998 + 1 from rfl, run_equalIn_agg w 9998 47 _ _ hS hp]
  simp only [Program.fieldsOf, Tryd.underlying47]
  go_simp
  by_cases h1 : a = d <;> by_cases h2 : b = e <;> simp [h1, h2]
theorem neq_ev (a b c d e f : Int) (r s u v : Bool) (w : World) : (binOp .neq 74 (.agg #[.int .i64 a, .int .i64 b, .int .i64 c, .bool r, .bool s]) (.agg #[.int .i64 d, .int .i64 e, .int .i64 f, .bool u, .bool v])).run Tryd.prog w = .ok (.bool (!(Ev.same ⟨a, b, c, r, s⟩ ⟨d, e, f, u, v⟩))) w := by
  have u3 := Tryd.underlying3
  have a3 := Tryd.isAgg3
  have z3 := Tryd.sizeOf3
  have u4 := Tryd.underlying4
  have a4 := Tryd.isAgg4
  have z4 := Tryd.sizeOf4
  have a47 := Tryd.isAgg47
  have z47 := Tryd.sizeOf47
  have hh := eqi_hand a b d e
  have hS : Tryd.prog.underlying 74 = some (.struct (Tryd.prog.fieldsOf 74)) := by kernel_rfl
  have hp : Tryd.prog.stoodInHeld 74 = false := by kernel_rfl
  rw [run_neq_struct, show (10000 : Nat) = 9999 + 1 from rfl, run_equalIn_agg w 9999 74 _ _ hS hp]
  simp only [Program.fieldsOf, Tryd.underlying74]
  go_simp
  by_cases h1 : a = d <;> by_cases h2 : b = e <;> by_cases h3 : c = f <;> by_cases h4 : r = u <;> by_cases h5 : s = v <;> simp [Ev.same, h1, h2, h3, h4, h5]
theorem eqg_ev : Tryd.prog.eqGuardType Tryd.prog.depth 74 = false := by kernel_rfl
set_option maxHeartbeats 1000000 in
theorem events_any (w : World) (va vb : Value) (la lb : List Ev) (ha : EvS w va la) (hb : EvS w vb lb) (hl : la.length ≤ 100000) :
    Calls Tryd.prog 16 #[va, vb] w fun e w' => ∃ r, e = .returned (.bool r) ∧ (r = true ↔ la = lb) ∧ Mods [] w w' := by
  have hq := neq_ev
  have hg := eqg_ev
  obtain ⟨A, n, ca, rfl, hn, ha1, ha2⟩ := ha.slice
  obtain ⟨B, m, cb, rfl, hm, hb1, hb2⟩ := hb.slice
  have HA := Lib.hid ha
  have HB := Lib.hid hb
  have HN := Lib.hid (And.intro hn hm)
  by_cases hlen : n = m
  · subst hlen
    have hz : ((n : Int) != (n : Int)) = false := by simp
    have hn5 : n ≤ 100000 := by omega
    clear ha hb hn hm ha1 ha2 hb1 hb2 hl
    go_enter Tryd.func16, Tryd.ntmps16
    go_wp2
    go_loopw [5] (fun i wr => ∃ k : Nat, k ≤ n ∧ i = .int .i64 k ∧ Hid (Mods [] w wr ∧ la.take k = lb.take k)) (fun i _ => n - (intOf i).toNat)
    case atStart => exact ⟨0, Nat.zero_le _, rfl, Lib.hid ⟨Mods.refl _ _, rfl⟩⟩
    case round =>
      obtain ⟨k, hk, rfl, hr⟩ := hrel
      by_cases hlt : k < n
      · obtain ⟨x, hx⟩ : ∃ x, la[k]? = some x := ⟨_, List.getElem?_eq_getElem (by rw [← HN.out.1]; exact hlt)⟩
        obtain ⟨y, hy⟩ : ∃ y, lb[k]? = some y := ⟨_, List.getElem?_eq_getElem (by rw [← HN.out.2]; exact hlt)⟩
        have hea := HA.out.mods hr.out.1 (by simp)
        have heb := HB.out.mods hr.out.1 (by simp)
        obtain ⟨ab, rfl⟩ : ∃ b, A = some ⟨b, 0, none⟩ := by
          obtain ⟨g', c', e', _⟩ := own_some hea (by rw [← HN.out.1]; omega)
          injection e' with e1 e2 e3
          exact ⟨g', e1⟩
        obtain ⟨bb, rfl⟩ : ∃ b, B = some ⟨b, 0, none⟩ := by
          obtain ⟨g', c', e', _⟩ := own_some heb (by rw [← HN.out.2]; omega)
          injection e' with e1 e2 e3
          exact ⟨g', e1⟩
        have HX := Lib.hid (And.intro hx hy)
        have x0 : wr.cell? ⟨ab, k * 5, none⟩ = some (.int .i64 x.s) := hea.at_.2.cell hx (j := 0) (by omega)
        have x1 : wr.cell? ⟨ab, k * 5 + 1, none⟩ = some (.int .i64 x.g) := hea.at_.2.cell hx (j := 1) (by omega)
        have x2 : wr.cell? ⟨ab, k * 5 + 2, none⟩ = some (.int .i64 x.c) := hea.at_.2.cell hx (j := 2) (by omega)
        have x3 : wr.cell? ⟨ab, k * 5 + 3, none⟩ = some (.bool x.r) := hea.at_.2.cell hx (j := 3) (by omega)
        have x4 : wr.cell? ⟨ab, k * 5 + 4, none⟩ = some (.bool x.w) := hea.at_.2.cell hx (j := 4) (by omega)
        have y0 : wr.cell? ⟨bb, k * 5, none⟩ = some (.int .i64 y.s) := heb.at_.2.cell hy (j := 0) (by omega)
        have y1 : wr.cell? ⟨bb, k * 5 + 1, none⟩ = some (.int .i64 y.g) := heb.at_.2.cell hy (j := 1) (by omega)
        have y2 : wr.cell? ⟨bb, k * 5 + 2, none⟩ = some (.int .i64 y.c) := heb.at_.2.cell hy (j := 2) (by omega)
        have y3 : wr.cell? ⟨bb, k * 5 + 3, none⟩ = some (.bool y.r) := heb.at_.2.cell hy (j := 3) (by omega)
        have y4 : wr.cell? ⟨bb, k * 5 + 4, none⟩ = some (.bool y.w) := heb.at_.2.cell hy (j := 4) (by omega)
        have HR := Lib.hid hr.out
        clear hr hea heb hx hy
        by_cases he : x = y
        · have hs : Ev.same ⟨x.s, x.g, x.c, x.r, x.w⟩ ⟨y.s, y.g, y.c, y.r, y.w⟩ = true := (Ev.same_iff _ _).2 he
          have HE := Lib.hid he
          clear he
          go_wp2
          go_quiet (fail)
          go_wp2
          go_roundw
          case rel =>
            refine ⟨k + 1, by omega, by go_num, Lib.hid ⟨by first | exact HR.out.1.drewN _ | exact HR.out.1.drew, ?_⟩⟩
            rw [List.take_add_one, List.take_add_one, HX.out.1, HX.out.2, HE.out, HR.out.2]
          case measure => simp [intOf]; omega
        · have hs : Ev.same ⟨x.s, x.g, x.c, x.r, x.w⟩ ⟨y.s, y.g, y.c, y.r, y.w⟩ = false := by
            rw [Bool.eq_false_iff]
            exact fun h => he ((Ev.same_iff _ _).1 h)
          have HE := Lib.hid he
          clear he
          go_wp2
          go_quiet (fail)
          go_wp2
          go_ret
          refine ⟨_, rfl, ⟨fun h => (by cases h), fun h => ?_⟩, by first | exact HR.out.1.drewN _ | exact HR.out.1.drew⟩
          subst h
          exact absurd (Option.some.inj (HX.out.1.symm.trans HX.out.2)) HE.out
      · have e : k = n := by omega
        subst e
        have HR := Lib.hid hr.out
        clear hr
        go_wp2
        go_ret
        refine ⟨_, rfl, ⟨fun _ => ?_, fun _ => rfl⟩, HR.out.1⟩
        have := HR.out.2
        rwa [List.take_of_length_le (by rw [← HN.out.1]; exact Nat.le_refl _), List.take_of_length_le (by rw [← HN.out.2]; exact Nat.le_refl _)] at this
  · have hz : ((n : Int) != (m : Int)) = true := by simp; omega
    clear ha hb hn hm ha1 ha2 hb1 hb2 hl
    go_enter Tryd.func16, Tryd.ntmps16
    go_wp2
    go_ret
    refine ⟨_, rfl, ⟨fun h => (by cases h), fun h => ?_⟩, Mods.refl _ _⟩
    subst h
    exact absurd (HN.out.1.trans HN.out.2.symm) hlen
#print axioms events_any
end Go.Proofs.YthaapkafamdhcaaDoor

/- The poller's contracts in the words that the laws' walks take. -/
namespace Go.Proofs.YthaapkafamdhcaaDoor
open Go.RowKit
set_option maxRecDepth 10000
set_option linter.unusedVariables false
set_option linter.unusedSimpArgs false

/-- The poller of a law: all of it is newer than the law's own world, in which nothing has turned; nothing of it lies in the blocks Kb. -/
def PolL (W w : World) (p g : Nat) (P : Plr) (m K : Nat) (Kb : List Nat) : Prop := ∃ F, PolA w p g F P m K ∧ Mods [] W w ∧ (∀ k ∈ F, W.heap.size ≤ k ∧ k ∉ Kb) ∧ ∀ k ∈ Kb, k < w.heap.size
def KeepP (Kb : List Nat) (w w' : World) : Prop := ∀ k ∈ Kb, w'.heap[k]? = w.heap[k]?
section
variable {W w w' w0 w1 w2 : World} {p g m K m' K' : Nat} {F Kb Kc : List Nat} {P P' : Plr} {S : Nt}
theorem PolL.step (hA : PolA w p g F P m K) (hM : Mods [] W w) (hF : ∀ k ∈ F, W.heap.size ≤ k ∧ k ∉ Kb) (hK : ∀ k ∈ Kb, k < w.heap.size) (h : PolTo w w' p g F P' m' K') : PolL W w' p g P' m' K' Kb ∧ KeepP Kb w w' := by
  obtain ⟨F', h1, h2, h3⟩ := h
  refine ⟨⟨F', h1, hM.trans h2 fun k hk => .inr (hF k hk).1, fun k hk => ?_, fun k hk => Nat.lt_of_lt_of_le (hK k hk) h2.size⟩, fun k hk => h2.block k (hK k hk) fun hk2 => (hF k hk2).2 hk⟩
  rcases h3 k hk with h | h
  · exact hF k h
  · exact ⟨Nat.le_trans hM.size h, fun hk2 => by have := hK k hk2; omega⟩
theorem PolL.quiet (h : PolL W w p g P m K Kb) (hm : Mods [] w w') : PolL W w' p g P m K Kb := by
  obtain ⟨F, h1, h2, h3, h4⟩ := h
  exact ⟨F, h1.quiet hm, h2.trans hm (by simp), h3, fun k hk => Nat.lt_of_lt_of_le (h4 k hk) hm.size⟩
theorem PolL.mods (h : PolL W w p g P m K Kb) : Mods [] W w := by obtain ⟨F, h1, h2, h3⟩ := h; exact h2
theorem PolL.less (h : PolL W w p g P m K Kb) (hs : ∀ k ∈ Kc, k ∈ Kb) : PolL W w p g P m K Kc := by
  obtain ⟨F, h1, h2, h3, h4⟩ := h
  exact ⟨F, h1, h2, fun k hk => ⟨(h3 k hk).1, fun hk2 => (h3 k hk).2 (hs k hk2)⟩, fun k hk => h4 k (hs k hk)⟩
theorem PolL.more (h : PolL W w p g P m K Kb) (hm : m ≤ m') (hm' : m' ≤ 900000000) : PolL W w p g P m' K Kb := by
  obtain ⟨F, h1, h2, h3, h4⟩ := h
  exact ⟨F, h1.more hm hm', h2, h3, h4⟩
theorem PolL.cell (h : PolL W w p g P m K Kb) : w.cell? ⟨p, 0, none⟩ = some (.pointer (some ⟨g, 0, none⟩)) := by obtain ⟨F, h1, h2, h3⟩ := h; exact h1.cell
theorem PolL.ok (h : PolL W w p g P m K Kb) : P.Ok K := by obtain ⟨F, h1, h2, h3⟩ := h; exact h1.ok
theorem PolL.new (hw : Mods [] W w) (hK : ∀ k ∈ Kb, k < w.heap.size) (hm : Mods [] w w1) (hp : ∃ F, PolA w2 p g F (Plr.new S) m 0 ∧ Mods [] w1 w2 ∧ ∀ k ∈ F, k ∈ [w.heap.size] ∨ w1.heap.size ≤ k) : PolL W w2 p g (Plr.new S) m 0 Kb := by
  obtain ⟨F, h1, h2, h3⟩ := hp
  have hs := hw.size
  have hs1 := hm.size
  have hs2 := h2.size
  refine ⟨F, h1, (hw.trans hm (by simp)).trans h2 (by simp), fun k hk => ?_, fun k hk => by have := hK k hk; omega⟩
  rcases h3 k hk with h | h
  · simp at h; subst h; exact ⟨hs, fun hk2 => Nat.lt_irrefl _ (hK _ hk2)⟩
  · exact ⟨by omega, fun hk2 => by have := hK k hk2; omega⟩
/-- Blocks that are new to a quiet world join those that are kept. -/
theorem PolL.add (h : PolL W w p g P m K Kb) (hm : Mods [] w w') {l : List Nat} (hl : ∀ k ∈ l, w.heap.size ≤ k ∧ k < w'.heap.size) : PolL W w' p g P m K (Kb ++ l) := by
  obtain ⟨F, h1, h2, h3, h4⟩ := h
  refine ⟨F, h1.quiet hm, h2.trans hm (by simp), fun k hk => ⟨(h3 k hk).1, fun hk2 => ?_⟩, fun k hk => ?_⟩
  · rcases List.mem_append.1 hk2 with h | h
    · exact (h3 k hk).2 h
    · have := h1.lt k hk; have := hl k h; omega
  · rcases List.mem_append.1 hk with h | h
    · exact Nat.lt_of_lt_of_le (h4 k h) hm.size
    · exact (hl k h).2
theorem KeepP.quiet (hm : Mods [] w w') (hK : ∀ k ∈ Kb, k < w.heap.size) : KeepP Kb w w' := fun k hk => hm.block k (hK k hk) (by simp)
theorem KeepP.trans (h1 : KeepP Kb w w1) (h2 : KeepP Kb w1 w2) : KeepP Kb w w2 := fun k hk => (h2 k hk).trans (h1 k hk)
end
theorem EvS.keepP {w w' : World} {Kb : List Nat} {v : Value} {l : List Ev} (h : EvS w v l) (hk : KeepP Kb w w') (hs : ∀ b ∈ v.ownBlock.toList, b ∈ Kb) : EvS w' v l := own_keep h fun b hb => hk b (hs b hb)
theorem Row.keepP {w w' : World} {Kb : List Nat} {b : Nat} {t : TypeId} {cs : Array Value} (h : Row w b t cs) (hk : KeepP Kb w w') (hs : b ∈ Kb) : Row w' b t cs := h.keep (hk b hs)
theorem watchL (W w : World) (p g m K : Nat) (P : Plr) (Kb : List Nat) (c : Int) (r s e : Bool) (h : PolL W w p g P m K Kb) (hT : TzTab W) (hE : P.watchE c = 0) (hcnt : P.sl.cnt < 4096) (hK : K ≤ 4000000000000) (a b : Int) (P' : Plr) (ha : (P.sl.least : Int) = a) (hb : (P.sl.gen : Int) = b) (hP : P.watch c r s e = P') :
    Calls Tryd.prog 21 #[.pointer (some ⟨p, 0, none⟩), .int .i64 c, .bool r, .bool s, .bool e] w fun e' w' => e' = .returned (.tuple #[.agg #[.int .i64 a, .int .i64 b], .int .i64 0]) ∧ Hid (PolL W w' p g P' m (K + 1) Kb ∧ KeepP Kb w w') := by
  subst ha hb hP
  obtain ⟨F, h1, h2, h3, h4⟩ := h
  have h5 : c = -1 ∨ P.net.isO c = true := by
    unfold Plr.watchE at hE
    split at hE
    · cases hE
    · rename_i hn
      by_cases hc : c = -1
      · exact .inl hc
      · right
        cases hb : P.net.isO c with
        | true => rfl
        | false => exact absurd ⟨hc, hb⟩ hn
  have h6 : P.sl.hasV c = false := by
    unfold Plr.watchE at hE
    split at hE
    · cases hE
    · split at hE
      · cases hE
      · exact Bool.eq_false_iff.mpr ‹_›
  exact (watch_yes w p g m K F P h1 c r s e h5 h6 (hT.mods h2 (by simp)) hcnt hK).mono fun e w' ⟨h, hd⟩ => ⟨h, Lib.hid (PolL.step h1 h2 h3 h4 hd.out)⟩
theorem waitL (W w0 w : World) (p g m K : Nat) (P : Plr) (Kb : List Nat) (h : PolL W w0 p g P m K Kb) (hq : Mods [] w0 w) (A : Option Addr) (pn pc : Nat) (ps : List Int) (hp : ∀ F, (∀ k ∈ F, W.heap.size ≤ k ∧ k < w0.heap.size) → NumsAt w F A ps) (hpn : pn = ps.length) (hpl : ps.length ≤ 1000000) (l : List Ev) (P' : Plr) (hl : ord P.told ps = l) (hP : P.waited = P') :
    Calls Tryd.prog 17 #[.pointer (some ⟨p, 0, none⟩), .slice A pn pc] w fun e w' => ∃ B n c, e = .returned (.slice B n c) ∧ Hid (n = l.length ∧ n ≤ c ∧ c ≤ maxLen) ∧ Hid (PolL W w' p g P' m K (Kb ++ (Value.slice B n c).ownBlock.toList) ∧ KeepP Kb w0 w' ∧ EvS w' (.slice B n c) l) := by
  subst hl hP
  obtain ⟨F, h1, h2, h3, h4⟩ := h
  refine (wait_any w p g m K F P (h1.quiet hq) A pn pc ps (hp F fun k hk => ⟨(h3 k hk).1, h1.lt k hk⟩) hpn hpl).mono fun e w' ⟨v, h, hd⟩ => ?_
  obtain ⟨d1, d2, d3, d4⟩ := hd.out
  obtain ⟨B, n, c, rfl, hn, hc1, hc2⟩ := d1.slice
  have hs := hq.size
  refine ⟨B, n, c, h, Lib.hid ⟨hn, hc1, hc2⟩, Lib.hid ⟨⟨F, d3, (h2.trans hq (by simp)).trans d4 fun k hk => .inr (h3 k hk).1, fun k hk => ⟨(h3 k hk).1, fun hk2 => ?_⟩, fun k hk => ?_⟩, fun k hk => ?_, d1⟩⟩
  · rcases List.mem_append.1 hk2 with h | h
    · exact (h3 k hk).2 h
    · have := d2 k h; have := h1.lt k hk; omega
  · rcases List.mem_append.1 hk with h | h
    · have := h4 k h; have := d4.size; omega
    · exact own_lt d1 k h
  · exact (d4.block k (Nat.lt_of_lt_of_le (h4 k hk) hs) fun hk2 => (h3 k hk2).2 hk).trans (hq.block k (h4 k hk) (by simp))
theorem changeL_no (W w : World) (p g m K : Nat) (P : Plr) (Kb : List Nat) (h : PolL W w p g P m K Kb) (a b : Int) (r s : Bool) (ha : -9223372036854775808 ≤ a ∧ a ≤ 9223372036854775807) (hi : P.sl.is a b = false) :
    Calls Tryd.prog 24 #[.pointer (some ⟨p, 0, none⟩), .agg #[.int .i64 a, .int .i64 b], .bool r, .bool s] w fun e w' => e = .returned (.int .i64 10) ∧ Mods [] w w' := by
  obtain ⟨F, h1, h2, h3, h4⟩ := h
  exact change_no w p g m K F P h1 a b r s ha hi
theorem watchedL (W w : World) (p g m K : Nat) (P : Plr) (Kb : List Nat) (h : PolL W w p g P m K Kb) (n : Int) (hn : (P.sl.cnt : Int) = n) : Calls Tryd.prog 15 #[.pointer (some ⟨p, 0, none⟩)] w fun e w' => e = .returned (.int .i64 n) ∧ w = w' := by
  subst hn
  obtain ⟨F, h1, h2, h3, h4⟩ := h
  exact watched_any w p g m K F P h1
theorem dropL (W w0 w : World) (p g m K hb cc : Nat) (P : Plr) (Kb : List Nat) (l : List (Int × Int)) (h : PolL W w0 p g P m K Kb) (hq : Mods [] w0 w) (hl : l.length ≤ 1000) (hp : Pairs w hb l) (hb0 : w0.heap.size ≤ hb) (hb1 : hb < w.heap.size) (ll : Nat) (hll : ll = l.length) (n : Int) (P' : Plr) (hn : (P.sl.taken l : Int) = n) (hP : P.drop l = P') :
    Calls Tryd.prog 25 #[.pointer (some ⟨p, 0, none⟩), .slice (some ⟨hb, 0, none⟩) ll cc] w fun e w' => e = .returned (.int .i64 n) ∧ Hid (PolL W w' p g P' m K Kb ∧ KeepP Kb w0 w') := by
  subst hn hP hll
  obtain ⟨F, h1, h2, h3, h4⟩ := h
  refine (drop_any w p g m K hb cc F P l (h1.quiet hq) hl hp (fun hk => by have := h1.lt _ hk; omega) hb1).mono fun e w' ⟨h, hd⟩ => ⟨h, Lib.hid ?_⟩
  obtain ⟨q1, q2⟩ := PolL.step (h1.quiet hq) (h2.trans hq (by simp)) h3 (fun k hk => Nat.lt_of_lt_of_le (h4 k hk) hq.size) hd.out
  exact ⟨q1, fun k hk => (q2 k hk).trans (hq.block k (h4 k hk) (by simp))⟩
/-! The net that is embedded. -/
theorem pconnL (W w : World) (p g m K : Nat) (P : Plr) (Kb : List Nat) (h : PolL W w p g P m K Kb) (c : Int) (S' : Nt) (hS : P.net.conn c = S') :
    Calls Tryd.prog 19 #[.pointer (some ⟨g, 0, none⟩), .int .i64 c] w fun e w' => e = .returned (.tuple #[.int .i64 (P.net.connN c), .int .i64 (P.net.connE c)]) ∧ Hid (PolL W w' p g { P with net := S' } m K Kb ∧ KeepP Kb w w') := by
  subst hS
  obtain ⟨F, h1, h2, h3, h4⟩ := h
  obtain ⟨N, n1, n2, n3⟩ := h1.open_
  exact (conn_any w g m N P.net c n1).mono fun e w' ⟨h, hd⟩ => ⟨h, Lib.hid (PolL.step h1 h2 h3 h4 (n3 _ _ _ hd.out))⟩
theorem paccL (W w : World) (p g m K : Nat) (P : Plr) (Kb : List Nat) (h : PolL W w p g P m K Kb) (C Q E : Int) (S' : Nt) (hC : P.net.accC = C) (hQ : P.net.accP = Q) (hE : P.net.accE = E) (hS : P.net.acc = S') :
    Calls Tryd.prog 20 #[.pointer (some ⟨g, 0, none⟩)] w fun e w' => e = .returned (.tuple #[.int .i64 C, .int .i64 Q, .int .i64 E]) ∧ Hid (PolL W w' p g { P with net := S' } m K Kb ∧ KeepP Kb w w') := by
  subst hC hQ hE hS
  obtain ⟨F, h1, h2, h3, h4⟩ := h
  obtain ⟨N, n1, n2, n3⟩ := h1.open_
  exact (acc_any w g m N P.net n1).mono fun e w' ⟨h, hd⟩ => ⟨h, Lib.hid (PolL.step h1 h2 h3 h4 (n3 _ _ _ hd.out))⟩
theorem popenL (W w : World) (p g m K : Nat) (P : Plr) (Kb : List Nat) (h : PolL W w p g P m K Kb) (hm : m + 1 ≤ 900000000) (c n : Int) (S' : Nt) (hS : P.net.open_ c n = S') :
    Calls Tryd.prog 26 #[.pointer (some ⟨g, 0, none⟩), .int .i64 c, .int .i64 n] w fun e w' => e = .returned (.int .i64 (P.net.openE c n)) ∧ Hid (PolL W w' p g { P with net := S' } (m + 1) K Kb ∧ KeepP Kb w w') := by
  subst hS
  obtain ⟨F, h1, h2, h3, h4⟩ := h
  obtain ⟨N, n1, n2, n3⟩ := h1.open_
  exact (open_any w g m N P.net c n n1 hm).mono fun e w' ⟨h, hd⟩ => ⟨h, Lib.hid (PolL.step h1 h2 h3 h4 (n3 _ _ _ hd.out))⟩
/-- One byte is Sent, out of rows that the law has just made. -/
theorem psendL (W w : World) (p g m K : Nat) (P : Plr) (Kb : List Nat) (h : PolL W w p g P m K Kb) (hm : m + 1 ≤ 900000000) (c y : Int) (hy : 0 ≤ y ∧ y ≤ 255) (N E : Int) (S' : Nt) (hN : P.net.sendK c [y] = N) (hE : P.net.sendE c = E) (hS : P.net.send c [y] = S') :
    Calls Tryd.prog 22 #[.pointer (some ⟨g, 0, none⟩), .int .i64 c, .slice (some ⟨w.heap.size + 1, 0, none⟩) 1 1] ((w.alloc (.cells #[.int .u8 y] 5)).alloc (.cells #[.slice (some ⟨w.heap.size, 0, none⟩) 1 1] 72)) fun e w' => e = .returned (.tuple #[.int .i64 N, .int .i64 E]) ∧ Hid (PolL W w' p g { P with net := S' } (m + 1) K Kb ∧ KeepP Kb w w') := by
  subst hN hE hS
  obtain ⟨F, h1, h2, h3, h4⟩ := h
  have hq : Mods [] w ((w.alloc (.cells #[.int .u8 y] 5)).alloc (.cells #[.slice (some ⟨w.heap.size, 0, none⟩) 1 1] 72)) := ((Mods.refl [] w).alloc _).alloc _
  have h1q := h1.quiet hq
  obtain ⟨N, n1, n2, n3⟩ := h1q.open_
  have hlt : ∀ k ∈ N, k < w.heap.size := fun k hk => h1.lt k (n2 k hk)
  have hrow := rows_one (w := w.alloc (.cells #[.int .u8 y] 5)) (F := N) (b := w.heap.size + 1) ⟨some ⟨w.heap.size, 0, none⟩, [y], 1⟩ (by simp)
    (rw_lit w N [y] w.heap.size 1 rfl rfl (fun hk => Nat.lt_irrefl _ (hlt _ hk)) (by simpa using hy) (by omega)) (fun hk => by have := hlt _ hk; omega)
  refine (send_any _ g m N P.net c (some ⟨w.heap.size + 1, 0, none⟩) 1 1 [⟨some ⟨w.heap.size, 0, none⟩, [y], 1⟩] n1 hm (Parts.of_rows hrow) rfl (by unfold maxLen; omega)).mono fun e w' ⟨h, hd⟩ => ⟨?_, Lib.hid ?_⟩
  · rw [h]; simp [flatR]
  · have hd' := hd.out
    rw [show flatR [⟨some ⟨w.heap.size, 0, none⟩, [y], 1⟩] = [y] by simp [flatR]] at hd'
    obtain ⟨q1, q2⟩ := PolL.step h1q (h2.trans hq (by simp)) h3 (fun k hk => Nat.lt_of_lt_of_le (h4 k hk) hq.size) (n3 _ _ _ hd')
    exact ⟨q1, fun k hk => (q2 k hk).trans (hq.block k (h4 k hk) (by simp))⟩
theorem preadL (W w : World) (p g m K : Nat) (P : Plr) (Kb : List Nat) (h : PolL W w p g P m K Kb) (hm : m + 1024 ≤ 900000000) (c k : Int) (S' : Nt) (hS : P.net.read c k = S') :
    Calls Tryd.prog 23 #[.pointer (some ⟨g, 0, none⟩), .int .i64 c, .int .i64 k] w fun e w' => ∃ v, e = .returned (.tuple #[v, .int .i64 (P.net.readE c k)]) ∧ Hid (PolL W w' p g { P with net := S' } (m + 1024) K Kb ∧ KeepP Kb w w') := by
  subst hS
  obtain ⟨F, h1, h2, h3, h4⟩ := h
  obtain ⟨N, n1, n2, n3⟩ := h1.open_
  refine (read_any w g m N P.net c k n1 hm).mono fun e w' ⟨v, h, hd⟩ => ⟨v, h, Lib.hid ?_⟩
  obtain ⟨F', g1, g2, g3, g4⟩ := hd.out
  exact PolL.step h1 h2 h3 h4 (n3 _ _ _ ⟨F', g1, g2, g3⟩)
#print axioms preadL
end Go.Proofs.YthaapkafamdhcaaDoor

/- The known example of stage 8's laws. -/
namespace Go.Proofs.YthaapkafamdhcaaDoor
open Go.RowKit
set_option maxRecDepth 10000
set_option linter.unusedVariables false
set_option linter.unusedSimpArgs false

theorem events_yes (w : World) (va vb : Value) (la lb : List Ev) (ha : EvS w va la) (hb : EvS w vb lb) (hl : la.length ≤ 100000) (he : la = lb) :
    Calls Tryd.prog 16 #[va, vb] w fun e w' => e = .returned (.bool true) ∧ Mods [] w w' :=
  (events_any w va vb la lb ha hb hl).mono fun e w' ⟨r, h1, h2, h3⟩ => ⟨by rw [h1, h2.2 he], h3⟩
def q1 : Plr := (Plr.new (Nt.new 2)).watch (-1) true false false
def q2 : Plr := { q1 with net := (Nt.new 2).conn 1 }
def qe : List Ev := [⟨0, 1, -1, true, false⟩]
theorem q2_told : ord q2.told [] = qe := by rfl
theorem q3_told : ord q2.waited.told [5, -1] = qe := by rfl
theorem EvS.lit (w : World) (x : Ev) (n : Nat) (hn : n = w.heap.size) : EvS (w.alloc (.cells x.cs.toArray 74)) (.slice (some ⟨n, 0, none⟩) 1 1) [x] := by
  subst hn
  have := World.ownsRow_lit (base := 0) (e := 74) (size := 5) w x.cs.toArray 1 (Nat.zero_le _) (by unfold maxLen; omega) rfl
  unfold EvS
  rw [fl_one]
  simpa using this
set_option maxHeartbeats 2000000 in
theorem known_any (w : World) (hT : TzTab w) : Calls Tryd.prog 8 #[] w fun e w' => e = .returned (.bool true) ∧ Mods [] w w' := by
  have hnp := eql_ppol
  have hnn := eql_pnet
  have HT := Lib.hid hT
  clear hT
  go_enter Tryd.func8, Tryd.ntmps8
  go_wp2_with fail
  refine (nnew_any 2 w (by omega) (by omega)).mono ?_
  rintro e w1 ⟨rfl, hn, hm⟩
  have HN := Lib.hid hn
  have HM := Lib.hid hm
  clear hn hm
  go_wp2_with fail
  refine (pnew_any w1 w.heap.size 0 _ _ HN.out).mono ?_
  rintro e w2 ⟨p, rfl, hd⟩
  have H2 := Lib.hid (PolL.new (Kb := []) (Mods.refl [] w) (by simp) HM.out hd.out)
  have c0 := H2.out.cell
  clear hd
  go_wp2_with fail
  refine (watchL w w2 p w.heap.size 0 0 _ [] (-1) true false false H2.out HT.out (by rfl) (by decide) (by omega) 0 1 q1 rfl rfl rfl).mono ?_
  rintro e w3 ⟨rfl, hd⟩
  have H3 := Lib.hid (hd.out.1.add (l := [w3.heap.size]) ((Mods.refl [] w3).alloc (.cells #[.int .i64 0, .int .i64 1] 47)) (fun k hk => by simp at hk; subst hk; simp))
  have R3 := Lib.hid (Row.new w3 47 #[.int .i64 0, .int .i64 1])
  have c3 := H3.out.cell
  clear hd c0 H2
  go_wp2_with fail
  refine (pconnL w _ p w.heap.size 0 1 q1 _ H3.out 1 ((Nt.new 2).conn 1) rfl).mono ?_
  rintro e w4 ⟨rfl, hd⟩
  have H4 := Lib.hid (show PolL w w4 p w.heap.size q2 0 1 [w3.heap.size] from hd.out.1)
  have R4 := Lib.hid (R3.out.keepP hd.out.2 (by simp))
  clear hd c3 H3 R3
  go_wp2_with fail
  refine (waitL w w4 w4 p w.heap.size 0 1 q2 _ H4.out (Mods.refl _ _) none 0 0 [] (fun F hF i x h => by simp at h) rfl (by decide) qe q2.waited q2_told rfl).mono ?_
  rintro e w5 ⟨B, n, c, rfl, hn, hd⟩
  have H5 := Lib.hid hd.out.1
  have R5 := Lib.hid (R4.out.keepP hd.out.2.1 (by simp))
  have E5 := Lib.hid hd.out.2.2
  clear hd H4 R4
  go_wp2_with fail
  refine (waitL w w5 (w5.alloc (.cells #[.int .i64 5, .int .i64 (-1)] 3)) p w.heap.size 0 1 q2.waited _ H5.out ((Mods.refl _ _).alloc _) (some ⟨w5.heap.size, 0, none⟩) 2 2 [5, -1] (fun F hF => NumsAt.new w5 F 3 [5, -1] (fun hk => Nat.lt_irrefl _ (hF _ hk).2)) rfl (by decide) qe q2.waited.waited q3_told rfl).mono ?_
  rintro e w6 ⟨B6, n6, c6, rfl, hn6, hd⟩
  have R6 := Lib.hid (R5.out.keepP hd.out.2.1 (by simp))
  have E6a := Lib.hid (E5.out.keepP hd.out.2.1 (fun b hb => List.mem_append_right _ hb))
  have E6 := Lib.hid hd.out.2.2
  have M6 := Lib.hid hd.out.1.mods
  have x0 : w6.cell? ⟨w3.heap.size, 0, none⟩ = some (.int .i64 0) := R6.out.cell 0
  have x1 : w6.cell? ⟨w3.heap.size, 1, none⟩ = some (.int .i64 1) := R6.out.cell 1
  clear hd H5 R5 E5
  go_wp2_with fail
  have Q6 := Lib.hid ((Mods.refl [] w6).alloc (.cells #[.int .i64 0, .int .i64 1, .int .i64 (-1), .bool true, .bool false] 74))
  have W6 := Lib.hid (EvS.lit w6 ⟨0, 1, -1, true, false⟩ w6.heap.size rfl)
  refine (events_yes _ _ _ qe qe (E6a.out.mods Q6.out (by simp)) W6.out (by decide) rfl).mono ?_
  rintro e w7 ⟨rfl, h7⟩
  have Q7 := Lib.hid (Q6.out.trans h7 (by simp))
  have W7 := Lib.hid (W6.out.mods h7 (by simp))
  clear h7
  go_wp2_with fail
  refine (events_yes _ _ _ qe qe (E6.out.mods Q7.out (by simp)) W7.out (by decide) rfl).mono ?_
  rintro e w8 ⟨rfl, h8⟩
  have Q8 := Lib.hid (Q7.out.trans h8 (by simp))
  clear h8
  go_wp2
  go_ret
  exact ⟨rfl, M6.out.trans Q8.out (by simp)⟩
#print axioms known_any
end Go.Proofs.YthaapkafamdhcaaDoor

/- Handles and rows of numbers that came in. -/
namespace Go.Proofs.YthaapkafamdhcaaDoor
open Go.ChangeShapes Go.WideShapes Go.ChangeAt Go.RowKit Go.Deep
set_option linter.unusedVariables false
set_option linter.unusedSimpArgs false
set_option maxRecDepth 10000

def I64 (n : Int) : Prop := -9223372036854775808 ≤ n ∧ n ≤ 9223372036854775807
theorem i64_wf {n : Int} (h : (Lit.int .i64 n).wf = true) : I64 n := by simpa [I64, Lit.wf, IntKind.min, IntKind.max, IntKind.signed, IntKind.bits] using h
theorem addr_add (b off j : Nat) : (⟨b, off, none⟩ : Addr).add j = ⟨b, off + j, none⟩ := by
  unfold Addr.add; split <;> simp_all
section
variable {H : Type} {enc : TypeId × Value → H} {W : World} {base : Nat} {sp : Nat → Bool} {held : Bool} {b0 : Nat}
theorem trod_hand {fuel : Nat} {cs : List Value} {x : DataW H × List MemPlace} (h : DataW.trod enc Tryd.prog W base sp held fuel 47 cs = some x) : ∃ a b, cs = [.int .i64 a, .int .i64 b] ∧ I64 a ∧ I64 b := by
  obtain ⟨y0, y1, n, _, hl, h0, h1⟩ := trod_struct2 Tryd.underlying47 h
  have hl2 : cs.length = 2 := hl.trans (by kernel_rfl)
  match cs, hl2 with
  | [c0, c1], _ =>
    have h0' : DataW.trod enc Tryd.prog W base sp held n 3 [c0] = some y0 := h0
    have h1' : DataW.trod enc Tryd.prog W base sp held n 3 [c1] = some y1 := h1
    obtain ⟨a, e0, _, w0⟩ := DataW.trod_int Tryd.underlying3 h0'
    obtain ⟨b, e1, _, w1⟩ := DataW.trod_int Tryd.underlying3 h1'
    injection e0 with e0
    injection e1 with e1
    subst e0 e1
    exact ⟨a, b, rfl, i64_wf w0, i64_wf w1⟩
theorem open_handle {v : Value} {d : DataW H} {p : List MemPlace} (hv : Value.okWide Tryd.prog W .any b0 47 v) (h : DataW.Trod enc Tryd.prog W base sp held 47 v d p) :
    ∃ a b, v = .agg #[.int .i64 a, .int .i64 b] ∧ I64 a ∧ I64 b := by
  obtain ⟨cs, rfl, hsz⟩ := okWide_struct Tryd.underlying47 hv
  obtain ⟨fuel, hf⟩ := h
  obtain ⟨a, b, e, ha, hb⟩ := trod_hand hf
  obtain ⟨l⟩ := cs
  refine ⟨a, b, ?_, ha, hb⟩
  have e' : l = [.int .i64 a, .int .i64 b] := by simpa [Value.cells] using e
  rw [e']
/-- A slice of numbers that came in. -/
def IsInts (W : World) (v : Value) : Prop :=
  (∃ a cap, v = .slice a 0 cap) ∨
  ∃ (b off len cap : Nat) (f : Nat → Int), v = .slice (some ⟨b, off, none⟩) len cap ∧ 0 < len ∧ len ≤ cap ∧ cap ≤ maxLen ∧ b < W.heap.size ∧ ∀ j, j < len → W.cell? ⟨b, off + j, none⟩ = some (.int .i64 (f j)) ∧ I64 (f j)
theorem open_nums {v : Value} {d : DataW H} {p : List MemPlace} (hv : Value.okWide Tryd.prog W .any b0 23 v) (h : DataW.Trod enc Tryd.prog W base sp held 23 v d p) : IsInts W v := by
  obtain ⟨a0, len0, cap0, rfl⟩ := okWide_slice Tryd.underlying23 hv
  obtain ⟨fuel, hf⟩ := h
  rcases open_ints Tryd.underlying23 Tryd.underlying3 (by kernel_rfl) hf with ⟨hcs, _⟩ | ⟨x, l, c, zs, hcs, _, hl, hm, hz, hx, hcell, hws⟩
  · simp [Value.cells] at hcs
    obtain ⟨rfl, rfl, rfl⟩ := hcs
    exact Or.inl ⟨_, _, rfl⟩
  · simp [Value.cells] at hcs
    obtain ⟨rfl, rfl, rfl⟩ := hcs
    by_cases h0 : len0 = 0
    · subst h0; exact Or.inl ⟨_, _, rfl⟩
    · right
      have hz' : len0 ≤ zs.length := by rw [hz]; split <;> omega
      obtain ⟨b, off, spot⟩ := x
      have hc0 := hcell 0 (by omega)
      have hspot : spot = none := by simpa [Addr.add] using World.cell?_spot hc0
      subst hspot
      refine ⟨b, off, len0, cap0, fun j => zs.getD j 0, rfl, by omega, hl, hm, ?_, fun j hj => ⟨?_, ?_⟩⟩
      · have := World.block_lt_of_cell? W _ hc0
        simpa [addr_add] using this
      · have := hcell j (by omega)
        rw [addr_add] at this; exact this
      · refine i64_wf (hws _ ?_)
        show zs.getD j 0 ∈ zs
        rw [List.getD_eq_getElem?_getD, List.getElem?_eq_getElem (by omega)]
        exact List.getElem_mem _
end
end Go.Proofs.YthaapkafamdhcaaDoor

/- The library's table, out of what a card ties. -/
namespace Go.Proofs.YthaapkafamdhcaaDoor
open Go.RowKit
theorem tz_data : (Rows.laid_math_bits_deBruijn64tab : DataW Unit) = Lib.tabData .u8 (Lib.deBruijn64tab.map fun n : Nat => (n : Int)) := by kernel_rfl
theorem gTz : Tryd.prog.globalNamed "math/bits.deBruijn64tab" = some 0 := by kernel_rfl
theorem tz_of {W : World} {L : List (String × DataW Unit)} (hL : laidMet Tryd.prog L W) (hf : L.filter (fun x => x.1 == "math/bits.deBruijn64tab") = [("math/bits.deBruijn64tab", Rows.laid_math_bits_deBruijn64tab)]) : TzTab W := by
  have h1 := hL.filter (fun x => x.1 == "math/bits.deBruijn64tab")
  rw [hf, tz_data] at h1
  have h2 := Lib.tabIs_of_head (rest := []) gTz (by kernel_rfl) Tryd.underlying164 Tryd.underlying5 (by kernel_rfl) (by kernel_rfl) h1
  intro j hj
  have h3 := h2.cell gTz j (by simpa using hj)
  rw [h3]
  simp [List.getD_eq_getElem?_getD, List.getElem?_map, List.getElem?_eq_getElem hj]
end Go.Proofs.YthaapkafamdhcaaDoor
