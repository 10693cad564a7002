/- Add and Of of the code. Conditions: texts of at most a million bytes, 24 fields. -/
import Derived.Test.YtcliapfoimnkiaaGreatDoorFf10
import Derived.Deep.RegionWith
namespace Go.Proofs.YtcliapfoimnkiaaGreatDoor
open Go.RowKit
set_option linter.unusedVariables false
set_option linter.unusedSimpArgs false

/-- A call of a Go function of one argument, as one step of a region that draws. -/
theorem step_call1 {P : Program} {ops : Array Oper} {o : Oper} {a : Act} {w : World} {K : Act → World → Prop} {Q : Exit → Act → World → Prop} {E : Prop} (hgd : o.guard = none) (f : FuncId) (x : Operand) (t : TypeId) (u : Value)
    (ho : o.op = .call { callee := .value (.func f), args := #[x], argTypes := #[t] }) (hx : a.eval x = u) (eg : ∀ args w, (callFunc f args).run P w = .ok (.enter f args) w) (R : Value → World → Prop)
    (hc : Calls P f #[u] w fun e w' => ∃ v, e = .returned v ∧ R v w') (hk : ∀ v w', R v w' → K (a.put o.dst v) w') : if Region.wanted o (yielded ops a.tmps) = true then Oper.wp P o a w K Q else E := by
  have hw : Region.wanted o (yielded ops a.tmps) = true := by simp [Region.wanted, hgd]
  rw [if_pos hw]
  unfold Oper.wp
  have hf : a.eval (.func f) = .func (.func f) #[] #[] := rfl
  have hr : (execOp a.eval o).run P w = .ok (.enter f #[u]) w := by simp [execOp, ho, resolve, invoke, hx, hf, Deferred.ofValue, eg]
  rw [hr, Oper.upon_enter]
  exact hc.mono (fun e w' ⟨v, he, hr⟩ => by subst he; exact hk v w' hr)
theorem step_appF {P : Program} {ops : Array Oper} {o : Oper} {a : Act} {w w' : World} {K : Act → World → Prop} {Q : Exit → Act → World → Prop} {E : Prop} (hgd : o.guard = none) {s x : Operand} {t : TypeId} {v u v' : Value}
    (ho : o.op = .call { callee := .builtin .append, args := #[s, x], argTypes := #[t, t] }) (hs : a.eval s = v) (hx : a.eval x = u)
    (hr : (Builtin.append_ #[t, t] o.type #[v, u]).run P w = .ok v' w') (hK : K (a.put o.dst v') w') : if Region.wanted o (yielded ops a.tmps) = true then Oper.wp P o a w K Q else E := by
  have hw : Region.wanted o (yielded ops a.tmps) = true := by simp [Region.wanted, hgd]
  rw [if_pos hw]
  exact step_run_app ho hs hx hr hK
/-- One field more behind a row of fields. -/
theorem app_fld {w : World} {u : Value} {S : List FV} (h : w.ownsRow 0 35 2 u S.length (encF S)) (hl : S.length ≤ 1000000) (p : FV) :
    ∃ (b c : Nat) (w' : World), (Builtin.append_ #[22, 22] 22 #[u, .slice (some ⟨w.heap.size, 0, none⟩) 1 1]).run Tryz.prog (w.alloc (.cells #[.string p.1, .string p.2] 35)) = .ok (.slice (some ⟨b, 0, none⟩) (S.length + 1) c) w' ∧
      w'.ownsRow 0 35 2 (.slice (some ⟨b, 0, none⟩) (S.length + 1) c) (S ++ [p]).length (encF (S ++ [p])) ∧ Mods u.ownBlock.toList w w' ∧ (some b = u.ownBlock ∨ w.heap.size ≤ b) := by
  obtain ⟨i0, hi, hz0, hz1, hz2⟩ := info_parts infoFl
  obtain ⟨v', w5, hrun, hown', hgrow, -, hbl⟩ := run_append_own_at (P := Tryz.prog) (w := w.alloc (.cells #[.string p.1, .string p.2] 35)) 0 22 22 35 i0 (.agg #[.string ByteArray.empty, .string ByteArray.empty]) 2 32 Tryz.underlying22 hi hz0 hz1 hz2 rfl (by decide)
    u S.length (encF S) (own_modsB h ((Mods.refl [] w).alloc _) (by simp)) ⟨w.heap.size, 0, none⟩ 1 1 [.string p.1, .string p.2] rfl (cells_newF w [.string p.1, .string p.2] _) (by simp [Value.oneCell']) (by unfold maxLen; omega) (by omega) (Nat.zero_le _)
  obtain ⟨b, c, rfl⟩ := ownsRow_succ hown'
  refine ⟨b, c, w5, hrun, ?_, ((Mods.refl _ w).alloc _).grown hgrow (fun k e => .inl (by rw [e]; simp)), ?_⟩
  · rw [List.length_append, encF_append]; exact hown'
  · rcases hbl with h | h
    · exact .inl h
    · have : b = w.heap.size + 1 := by simpa [Value.ownBlock] using h
      exact .inr (by omega)
theorem addF_nil (l : List FV) : addF [] l = l.take (addR 0 l).1 := by simp [addF]

/-- What Add leaves: the object, what has turned. -/
structure Added (t : TypeId) (w : World) (g : Nat) (v : Value) (S : List FV) (u : Value) (w' : World) : Prop where
  fld : Fld t w' g u S
  mods : Mods (g :: v.ownBlock.toList) w w'
  news : ∀ k ∈ u.ownBlock.toList, k ∈ v.ownBlock.toList ∨ w.heap.size ≤ k
theorem Added.low {t : TypeId} {w : World} {g : Nat} {v : Value} {S : List FV} {u : Value} {w' w2 : World} (h : Added t w g v S u w') (hm : Mods [] w' w2) : Added t w g v S u w2 :=
  ⟨h.fld.low hm, h.mods.trans hm (fun _ h => nomatch h), h.news⟩
theorem Small.snoc {S : List FV} {p : FV} (h : Small S) (h1 : p.1.size ≤ 1000000) (h2 : p.2.size ≤ 1000000) : Small (S ++ [p]) := by
  intro q hq
  rcases List.mem_append.1 hq with hq | hq
  · exact h q hq
  · rw [List.mem_singleton] at hq; subst hq; exact ⟨h1, h2⟩
theorem Added.more {t : TypeId} {w w2 w4 : World} {g b n c : Nat} {v u : Value} {S : List FV} {p : FV} (h : Added t w g v S u w2) (ht : 35 ≠ t) (hown : w4.ownsRow 0 35 2 (.slice (some ⟨b, 0, none⟩) n c) (S ++ [p]).length (encF (S ++ [p])))
    (hm : Mods u.ownBlock.toList w2 w4) (hb : some b = u.ownBlock ∨ w2.heap.size ≤ b) (hl : (S ++ [p]).length ≤ 24) (h1 : p.1.size ≤ 1000000) (h2 : p.2.size ≤ 1000000) :
    Added t w g v (S ++ [p]) (.slice (some ⟨b, 0, none⟩) n c) (w4.setCell ⟨g, 0, none⟩ (.slice (some ⟨b, 0, none⟩) n c)) := by
  have hng : g ∉ u.ownBlock.toList := fun hk => h.fld.ne ht g hk rfl
  have hr := h.fld.row.mods hm hng
  have hne := own_ne_row hown hr ht
  have hu : ∀ k ∈ u.ownBlock.toList, k ∈ g :: v.ownBlock.toList ∨ w.heap.size ≤ k := fun k hk => by
    rcases h.news k hk with h | h
    · exact .inl (List.mem_cons_of_mem _ h)
    · exact .inr h
  refine ⟨⟨hr.set 0 _, own_mods hown ((Mods.refl [g] w4).setCell (.inl (by simp)) _) (fun k hk => by simpa using hne k hk), hl, h.fld.small.snoc h1 h2⟩, (h.mods.trans hm hu).setCell (.inl (by simp)) _, fun k hk => ?_⟩
  have hkb : k = b := by simpa [Value.ownBlock, eq_comm] using hk
  subst hkb
  rcases hb with e | e
  · exact h.news k (by rw [← e]; simp)
  · exact .inr (Nat.le_trans h.mods.size e)
theorem isfK (p : FV) {r : Bool} (h : okF p = r) (h1 : p.1.size ≤ 1000000) (h2 : p.2.size ≤ 1000000) (w : World) :
    Calls Tryz.prog 44 #[.agg #[.string p.1, .string p.2]] w fun e w' => e = .returned (.bool r) ∧ Mods [] w w' := by subst h; exact isf_a p w h1 h2
theorem isfR (p : FV) {r : Bool} (h : okF p = r) (h1 : p.1.size ≤ 1000000) (h2 : p.2.size ≤ 1000000) (w : World) :
    Calls Tryz.prog 42 #[.agg #[.string p.1, .string p.2]] w fun e w' => e = .returned (.bool r) ∧ Mods [] w w' := by subst h; exact isf_r p w h1 h2

set_option maxRecDepth 10000 in
set_option maxHeartbeats 1000000 in
theorem add_a {g : Nat} {v : Value} {S : List FV} (vl : Value) (l : List FV) (w : World) (h : Fld 63 w g v S) (hA : FsAt w vl l) (hl : l.length ≤ 1000000) (hs : Small l)
    (hd : 0 < l.length → ∀ k ∈ vl.ownBlock.toList, k ≠ g ∧ k ∉ v.ownBlock.toList) :
    Calls Tryz.prog 27 #[ptr g, vl] w fun e w' => ∃ u, e = .returned (.tuple #[.int .i64 ((addR S.length l).1 : Nat), .int .i64 (addR S.length l).2]) ∧ Added 63 w g v (addF S l) u w' := by
  unfold ptr
  rcases hA with ⟨rfl, a, cap, rfl⟩ | ⟨b, off, cap, rfl, hpos, hb, hc⟩
  · go_enter Tryz.func27, Tryz.ntmps27
    go_wp2
    refine wp_loop_rounds 1 ?_
    rw [rounds_succ]
    go_wp2
    go_ret2
    exact ⟨v, rfl, by simpa [addF, addR] using h, Mods.refl _ _, fun k hk => .inl hk⟩
  · have HC := Lib.hid hc
    have HS := Lib.hid hs
    have hbF : b ∉ g :: v.ownBlock.toList := by
      have := hd hpos b (by simp [Value.ownBlock])
      simp only [List.mem_cons, not_or]; exact this
    have HB := Lib.hid hbF
    have HA := Lib.hid (show Added 63 w g v (S ++ l.take 0) v w from ⟨by simpa using h, Mods.refl _ _, fun k hk => .inl hk⟩)
    obtain ⟨n0, hn0⟩ : ∃ n0, n0 = S.length := ⟨_, rfl⟩
    have HN0 := Lib.hid hn0
    have hn24 : n0 ≤ 24 := by rw [hn0]; exact h.len
    rw [← hn0]
    clear h hc hs hd hbF hn0 hpos
    go_enter Tryz.func27, Tryz.ntmps27
    go_wp2
    go_loopw [12] (fun i wr => ∃ (k : Nat) (u : Value), k ≤ l.length ∧ i = .int .i64 k ∧ (∀ j (hj : j < l.length), j < k → okF l[j] = true) ∧ n0 + k ≤ 24 ∧ Added 63 w g v (S ++ l.take k) u wr) (fun i _ => l.length - (intOf i).toNat)
    case atStart => exact ⟨0, v, Nat.zero_le _, rfl, fun j _ h => absurd h (Nat.not_lt_zero _), by omega, HA.out⟩
    case round =>
      obtain ⟨k, u, hk, rfl, hok, hnk, hG⟩ := hrel
      have HK := Lib.hid hok
      have HG := Lib.hid hG
      clear hok hG
      by_cases hlt : k < l.length
      · have c0 : wr.cell? ⟨b, off + k * 2, none⟩ = some (.string l[k].1) := cell_mods (HC.out k hlt).1 HG.out.mods HB.out
        have c1 : wr.cell? ⟨b, off + k * 2 + 1, none⟩ = some (.string l[k].2) := cell_mods (HC.out k hlt).2 HG.out.mods HB.out
        have hs1 := (HS.out.at k hlt).1
        have hs2 := (HS.out.at k hlt).2
        have HTK := Lib.hid (List.take_succ_eq_append_getElem hlt)
        obtain ⟨p, hp⟩ : ∃ p, p = l[k] := ⟨_, rfl⟩
        have HPE := Lib.hid hp
        rw [← hp] at c0 c1 hs1 hs2 HTK
        clear hp
        obtain ⟨x, y⟩ := p
        simp only at c0 c1 hs1 hs2
        have hz : wr.heap.size < (wr.alloc (.cells #[.string x, .string y] 35)).heap.size := by simp
        have hsl : (S ++ l.take k).length = n0 + k := by rw [HN0.out, List.length_append, List.length_take]; omega
        cases hf : okF (x, y) with
        | false =>
          have HR := Lib.hid (addR_bad (k := n0) hlt HK.out hnk (by rw [← HPE.out]; exact hf))
          have HI := Lib.hid (fun w => isfK (x, y) hf hs1 hs2 w)
          have HF := Lib.hid (show addF S l = S ++ l.take k by unfold addF; rw [← HN0.out, HR.out])
          clear hf
          go_wp2_with (go_at_call 44; refine (HI.out _).mono ?_; rintro e w1 ⟨rfl, hm⟩; have HG1 := Lib.hid ((HG.out.low ((Mods.refl [] wr).alloc _)).low hm); clear hm)
          go_ret2
          exact ⟨u, by rw [HR.out]; rfl, by rw [HF.out]; exact HG1.out⟩
        | true =>
          have HI := Lib.hid (fun w => isfK (x, y) hf hs1 hs2 w)
          have HCP := Lib.hid (fun w => copied_a (x, y) w hs1 hs2)
          have HOK := Lib.hid hf
          clear hf
          obtain ⟨a5, d5, hu⟩ := HG.out.fld.form
          obtain ⟨m, hm5⟩ : ∃ m, m = (S ++ l.take k).length := ⟨_, rfl⟩
          rw [← hm5] at hu hsl
          have HM5 := Lib.hid hm5
          subst hu
          clear hm5
          by_cases h24 : n0 + k = 24
          · have HR := Lib.hid (addR_full (k := n0) hlt HK.out h24 (by rw [← HPE.out]; exact HOK.out))
            have HF := Lib.hid (show addF S l = S ++ l.take k by unfold addF; rw [← HN0.out, HR.out])
            have hm24 : ((m : Int) == 24) = true := by rw [beq_iff_eq]; omega
            clear h24 hsl
            go_wp2_with (go_at_call 44; refine (HI.out _).mono ?_; rintro e w1 ⟨rfl, hm⟩; have hg1 := (HG.out.low ((Mods.refl [] wr).alloc _)).low hm; have e0 := hg1.fld.cell; have HG1 := Lib.hid hg1; clear hm hg1)
            go_ret2
            exact ⟨_, by rw [HR.out]; rfl, by rw [HF.out]; exact HG1.out⟩
          · have hm24 : ((m : Int) == 24) = false := by rw [beq_eq_false_iff_ne]; omega
            have HSL := Lib.hid hsl
            have HNK := Lib.hid (show n0 + (k + 1) ≤ 24 by omega)
            clear h24 hsl
            go_wp2_with (go_at_call 44; refine (HI.out _).mono ?_; rintro e w1 ⟨rfl, hm⟩; have hg1 := (HG.out.low ((Mods.refl [] wr).alloc _)).low hm; have e0 := hg1.fld.cell; have HG1 := Lib.hid hg1; have R1 := Lib.hid ((Row.new wr 35 #[.string x, .string y]).mods hm (by simp)); clear hm hg1)
            have k0 := R1.out.cell 0
            have k1 := R1.out.cell 1
            simp only [List.getElem?_toArray, List.getElem?_cons_zero, List.getElem?_cons_succ] at k0 k1
            obtain ⟨bx, hbx⟩ : ∃ bx, bx = wr.heap.size := ⟨_, rfl⟩
            have hnx : bx ∉ (Value.slice a5 m d5).ownBlock.toList := fun hk => by have := HG.out.fld.lt bx hk; omega
            have hng : g ∉ (Value.slice a5 m d5).ownBlock.toList := fun hk => HG.out.fld.ne (by decide) g hk rfl
            have hlm : (S ++ l.take k).length ≤ 1000000 := by have := HG.out.fld.len; omega
            have HNX := Lib.hid hnx
            have HNG := Lib.hid hng
            have HLM := Lib.hid hlm
            rw [← hbx] at k0 k1 ⊢
            clear hbx hnx hng hlm
            have HCC := Lib.hid (show Calls Tryz.prog 45 #[.agg #[.string x, .string y]] w1.drew fun e w' => ∃ v, e = .returned v ∧ (v = .agg #[.string x, .string y] ∧ Mods [] w1 w') from (HCP.out w1.drew).mono fun e w' ⟨h1, h2⟩ => ⟨_, h1, rfl, of_drewF h2⟩)
            go_region_law (first
              | (refine step_call1 rfl 45 (.tmp 33) 35 (.agg #[.string x, .string y]) rfl rfl (enters_of Tryz.func45 (by kernel_rfl) rfl) _ HCC.out ?_; rintro _ w2 ⟨rfl, hm⟩; have hg2 := HG1.out.low hm; have e2 := cell_mods e0 hm (by simp); have e3 := cell_alloc e2 (.cells #[.string x, .string y] 35); obtain ⟨b5, c5, w4, hrun, hown, hm4, hb4⟩ := app_fld hg2.fld.own HLM.out (x, y); rw [← HM5.out] at hrun hown; have R4 := hg2.fld.row.mods hm4 HNG.out; have e4 := R4.cell 0; have f4 := R4.free 0; simp only [List.getElem?_toArray, List.getElem?_cons_zero] at e4; have HR4 := Lib.hid R4; have HO4 := Lib.hid hown; have HM4 := Lib.hid hm4; have HB4 := Lib.hid hb4; have HG2 := Lib.hid hg2; clear hg2 hown hm4 hb4 R4 hm)
              | (refine step_appF rfl rfl rfl rfl hrun ?_))
            all_goals
              have HA9 := Lib.hid (HG2.out.more (by decide) HO4.out HM4.out HB4.out (by have h1 := HSL.out; have h2 := HM5.out; have h3 := HNK.out; rw [List.length_append, ← h2]; simp only [List.length_cons, List.length_nil]; omega) hs1 hs2)
              rw [List.append_assoc, ← HTK.out] at HA9
              have HOKS := Lib.hid (show ∀ j (hj : j < l.length), j < k + 1 → okF l[j] = true from fun j hj hjk => by
                by_cases e : j = k
                · subst e; rw [← HPE.out]; exact HOK.out
                · exact HK.out j hj (by omega))
              clear hrun e2 e3 e4 f4
              go_wp2
              go_roundw
              case rel => exact ⟨k + 1, _, by omega, by go_num, HOKS.out, HNK.out, HA9.out⟩
              case measure => simp [intOf]; omega
      · obtain rfl : k = l.length := by omega
        have HR := Lib.hid (addR_end (l := l) (k := n0) (fun j hj h => HK.out j hj h) hnk)
        have HF := Lib.hid (show addF S l = S ++ l.take l.length by unfold addF; rw [← HN0.out, HR.out])
        go_wp2
        go_ret2
        exact ⟨u, by rw [HR.out]; rfl, by rw [HF.out]; exact HG.out⟩

theorem add_nil (A : Option Addr) (n c : Nat) (w : World) : Calls Tryz.prog 27 #[.pointer none, .slice A n c] w fun e w' => e = .returned (.tuple #[.int .i64 0, .int .i64 1]) ∧ w = w' := by
  go_enter Tryz.func27, Tryz.ntmps27
  go_wp2
  go_ret2
  exact ⟨rfl, rfl⟩
/-- A new object of a function of w. -/
structure Made (t : TypeId) (w : World) (g : Nat) (u : Value) (S : List FV) (w' : World) : Prop where
  fld : Fld t w' g u S
  mods : Mods [] w w'
  new : w.heap.size ≤ g
  news : ∀ k ∈ u.ownBlock.toList, w.heap.size ≤ k
theorem fld_new (t : TypeId) (w : World) : Fld t (w.alloc (.cells #[.slice none 0 0] t)) w.heap.size (.slice none 0 0) [] :=
  ⟨Row.new _ _ _, World.ownsRow_nil _ _ _ _, by simp, fun p hp => nomatch hp⟩
theorem made_of {t : TypeId} {w : World} {u : Value} {S : List FV} {w' : World} (h : Added t (w.alloc (.cells #[.slice none 0 0] t)) w.heap.size (.slice none 0 0) S u w') : Made t w w.heap.size u S w' := by
  refine ⟨h.fld, (((Mods.refl [] w).alloc _).trans h.mods fun k hk => ?_), Nat.le_refl _, fun k hk => ?_⟩
  · simp only [Value.ownBlock, Option.toList_none, List.mem_singleton] at hk
    exact .inr (by omega)
  · rcases h.news k hk with h | h
    · simp [Value.ownBlock] at h
    · simp at h; omega
set_option maxRecDepth 10000 in
theorem of_a (vl : Value) (l : List FV) (w : World) (hA : FsAt w vl l) (hl : l.length ≤ 1000000) (hs : Small l) :
    Calls Tryz.prog 11 #[vl] w fun e w' => ∃ g u, e = .returned (ptr g) ∧ Made 63 w g u (addF [] l) w' := by
  have hadd := add_a vl l _ (fld_new 63 w) (hA.low ((Mods.refl [] w).alloc _)) hl hs (fun h0 k hk => ⟨fun e => by have := hA.lt h0 k hk; omega, by simp [Value.ownBlock]⟩)
  have HAD := Lib.hid hadd
  clear hadd hs
  obtain ⟨a, c, rfl⟩ := hA.len
  unfold ptr at *
  go_enter Tryz.func11, Tryz.ntmps11
  go_wp2_with (go_at_call 27; refine HAD.out.mono ?_; rintro e w1 ⟨u, rfl, hm⟩; have M1 := Lib.hid (made_of hm); clear hm)
  go_ret
  exact ⟨_, u, rfl, M1.out⟩
end Go.Proofs.YtcliapfoimnkiaaGreatDoor
