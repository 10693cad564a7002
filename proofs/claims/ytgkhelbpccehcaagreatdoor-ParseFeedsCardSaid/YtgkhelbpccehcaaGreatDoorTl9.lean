/- The walk of the code's Tokens. Conditions: values of at most a million bytes in all. -/
import Derived.Test.YtgkhelbpccehcaaGreatDoorTk9
namespace Go.Proofs.YtgkhelbpccehcaaGreatDoor
open Go.RowKit Go.Shelf
attribute [local go_sem] Oper.semAt_some
set_option linter.unusedVariables false

theorem step_app {F : Fence} {n : Nat} {P : Program} {o : Oper} {a : Act} {w w' : World} {K : Act → World → Prop} {Q : Exit → Act → World → Prop} {s x : Operand} {t : TypeId} {v u v' : Value}
    (ho : o.op = .call { callee := .builtin .append, args := #[s, x], argTypes := #[t, t] }) (hs : a.eval s = v) (hx : a.eval x = u)
    (hr : (Builtin.append_ #[t, t] o.type #[v, u]).run P w = .ok v' w') (hK : K (a.put o.dst v') w') : Oper.wpIn F n P o a w K Q := by
  unfold Oper.wpIn
  refine ⟨by simp [Oper.about, ho, resolve, Target.leads, Sem.run_pure], ?_⟩
  rw [Oper.semAt_plain F _ _ (by rw [ho]; intro c hc'; cases hc')]
  simp [execOp, ho, resolve, invoke, builtin, hs, hx, hr, Result.andThen]
  exact hK
/-- One more token: what the append leaves, and the store behind it. -/
theorem app_tok {w w4 : World} {L : List (List UInt8)} {v : Value} {b : Nat} (h : Hold w L v w4) (hroom : L.length + 1 ≤ 1000000) (hv : ∀ j, b ≤ j → j < b + 3 → v.ownBlock ≠ some j) (hb : b + 3 ≤ w4.heap.size) (hb3 : w.heap.size + 3 ≤ b) (p : List UInt8) :
    ∃ (g n' c' : Nat) (w5 : World), (Builtin.append_ #[112, 112] 112 #[v, .slice (some ⟨w4.heap.size, 0, none⟩) 1 1]).run Tryz.prog (w4.alloc (.cells #[.string ⟨p.toArray⟩] 9)) = .ok (.slice (some ⟨g, 0, none⟩) n' c') w5 ∧
      w5.cell? ⟨w.heap.size + 1 + 1, 0, none⟩ = some v ∧ w5.frozen? ⟨w.heap.size + 1 + 1, 0, none⟩ = false ∧
      Hold w (L ++ [p]) (.slice (some ⟨g, 0, none⟩) n' c') (w5.setCell ⟨w.heap.size + 1 + 1, 0, none⟩ (.slice (some ⟨g, 0, none⟩) n' c')) ∧
      KeepsOthers w4 (w5.setCell ⟨w.heap.size + 1 + 1, 0, none⟩ (.slice (some ⟨g, 0, none⟩) n' c')) ∧ (∀ j, b ≤ j → j < b + 3 → g ≠ j) ∧
      (∀ k, k < w4.heap.size → some k ≠ v.ownBlock → k ≠ w.heap.size + 2 → (w5.setCell ⟨w.heap.size + 1 + 1, 0, none⟩ (.slice (some ⟨g, 0, none⟩) n' c')).heap[k]? = w4.heap[k]?) ∧
      w4.heap.size ≤ (w5.setCell ⟨w.heap.size + 1 + 1, 0, none⟩ (.slice (some ⟨g, 0, none⟩) n' c')).heap.size := by
  obtain ⟨i0, hi, hz0, hz1, hz2⟩ := info_parts infoS
  obtain ⟨v', w5, hrun, hown', hgrow, -, hblk⟩ := run_append_own_at (P := Tryz.prog) (w := w4.alloc (.cells #[.string ⟨p.toArray⟩] 9)) w.heap.size 112 112 9 i0 (.string ByteArray.empty) 1 16 Tryz.underlying112 hi hz0 hz1 hz2 rfl (by decide)
    v L.length (strs9 L) (h.row.alloc _) ⟨w4.heap.size, 0, none⟩ 1 1 [strV p] rfl (cell_one_new _ _ _) (by simp [Value.oneCell', strV]) (by unfold maxLen; omega) (by omega) (by have := h.size; simp; omega)
  obtain ⟨g, c', rfl⟩ := ownsRow_succ hown'
  have hsz := h.size
  obtain ⟨hv3, hv4, hr4, hk4, hb4⟩ := h.bx.appended (by decide) h.row (by omega) (by omega) hown' hgrow
  have hgb : ∀ j, b ≤ j → j < b + 3 → g ≠ j := by
    intro j hj1 hj2
    rcases hblk with e | e
    · intro e2; subst e2; exact hv _ hj1 hj2 (by rw [← e]; rfl)
    · have : g = w4.heap.size + 1 := by simpa [Value.ownBlock] using e
      omega
  have hold : ∀ k, k < w4.heap.size → some k ≠ v.ownBlock → k ≠ w.heap.size + 2 → (w5.setCell ⟨w.heap.size + 1 + 1, 0, none⟩ (.slice (some ⟨g, 0, none⟩) (L.length + 1) c')).heap[k]? = w4.heap[k]? := fun k hk hne hT => by
    rw [Below.heap_setCell _ _ _ k hT, hgrow.block k (by simp; omega) hne, Below.heap_alloc _ _ k hk]
  refine ⟨g, L.length + 1, c', w5, hrun, hv3.cell, hv3.frozen, ⟨?_, ?_, hv4, ?_, h.low.trans hb4⟩, hk4, hgb, hold, hk4.size⟩
  · exact (hold _ (by omega) (h.r0.not_row (by decide) h.row) (by omega)).trans h.r0
  · exact (hold _ (by omega) (h.r1.not_row (by decide) h.row) (by omega)).trans h.r1
  · rw [List.length_append, show strs9 (L ++ [p]) = strs9 L ++ [strV p] by simp [strs9]]; exact hr4
theorem leave_tokens {w W : World} {ds : List Deferred} {tmps : Array Value} {R : Ending → World → Prop} {A : Option Addr} {n c : Nat} {t : Bool}
    (hp : tmps.getD 2 undef = .pointer (some ⟨w.heap.size, 0, none⟩)) (hq : tmps.getD 3 undef = .pointer (some ⟨w.heap.size + 1, 0, none⟩))
    (h0 : Boxed W w.heap.size 112 (.slice A n c)) (h1 : Boxed W (w.heap.size + 1) 4 (.bool t)) (hM : Marks w.heap.size ds W)
    (hR : ∀ W', Below w.heap.size W W' → (∀ (k : Nat) (o : Obj), W.heap[k]? = some o → o.isCells = true → W'.heap[k]? = some o) → R (.returned (.tuple #[.slice A n c, .bool t])) W') :
    bodyPostM Fence.wide 6 Tryz.prog Tryz.f161 R Exit.ret { tmps := tmps, defers := ds } W :=
  leaves_marks ds W hM fun W' hb hc => ⟨_, results_cells rfl hp hq (hc _ _ h0 rfl) (hc _ _ h1 rfl) (Tryz.isAgg112 W') (Tryz.isAgg4 W'), hR W' hb hc⟩
set_option maxRecDepth 100000 in
set_option maxHeartbeats 4000000 in
theorem tokens_some (b off cap : Nat) (ts : List ByteArray) (w : World) (hb : b < w.heap.size) (hc : ∀ j (h : j < ts.length), w.cell? ⟨b, off + j, none⟩ = some (.string ts[j])) (hs : sizes ts ≤ 1000000) :
    Calls Tryz.prog 161 #[.slice (some ⟨b, off, none⟩) ts.length cap] w (TokAns w ts) := by
  refine (callsIn_wide (n := 6)).1 ?_
  refine callsIn_of_wp_marks Tryz.func161 rfl trivial ?_ rfl
  simp only [Tryz.ntmps161, List.size_toArray, List.length_cons, List.length_nil, Nat.reduceAdd, Nat.reduceSub, Array.replicate_succ, Array.replicate_zero, List.push_toArray, List.append_toArray, List.nil_append, List.cons_append]
  have hlen : ts.length ≤ 1000000 := Nat.le_trans (sizes_len ts) hs
  obtain ⟨i0, hi, hz0, hz1, hz2⟩ := info_parts infoS
  have HC := Lib.hid hc
  have HS := Lib.hid hs
  clear hc hs
  gi_wp2
  have HH := Lib.hid (show Hold w [] (.slice none 0 0) (((w.alloc (.cells #[.slice none 0 0] 112)).alloc (.cells #[.bool false] 4)).alloc (.cells #[.slice none 0 0] 112)) by
    have e0 := Boxed.new w 112 (.slice none 0 0)
    have e1 := Boxed.new (w.alloc (.cells #[.slice none 0 0] 112)) 4 (.bool false)
    have e2 := Boxed.new ((w.alloc (.cells #[.slice none 0 0] 112)).alloc (.cells #[.bool false] 4)) 112 (.slice none 0 0)
    simp only [World.size_alloc] at e1 e2
    exact ⟨(e0.alloc _).alloc _, e1.alloc _, e2, World.ownsRow_nil _ _ _ _, (((Below.refl _ w).alloc (Nat.le_refl _) _).alloc (by simp) _).alloc (by simp; omega) _⟩)
  refine wpIn_loop (fun a wr => ∃ (k : Nat) (u6 u12 u13 u14 u15 u16 u30 : Value) (ds : List Deferred) (L : List (List UInt8)) (v : Value), a = { tmps := #[.slice (some ⟨b, off, none⟩) ts.length cap, undef, .pointer (some ⟨w.heap.size, 0, none⟩), .pointer (some ⟨w.heap.size + 1, 0, none⟩), .pointer (some ⟨w.heap.size + 1 + 1, 0, none⟩), undef, u6, undef, undef, .slice (some ⟨b, off, none⟩) ts.length cap, .int .i64 ts.length, .int .i64 k, u12, u13, u14, u15, u16, undef, undef, undef, undef, undef, undef, undef, undef, undef, undef, undef, undef, undef, u30, undef], defers := ds } ∧
      k ≤ ts.length ∧ tokO (partsO (ts.take k)) = some L ∧ Hold w L v wr ∧ Marks w.heap.size ds wr) (fun a _ => ts.length - (intOf (a.tmps.getD 11 undef)).toNat) ?_ ?_
  · exact ⟨0, _, _, _, _, _, _, _, [], [], _, rfl, Nat.zero_le _, rfl, HH.out, trivial⟩
  rintro a wr ⟨k, u6, u12, u13, u14, u15, u16, u30, ds, L, v, rfl, hk, hL, hH, hM⟩
  have HL := Lib.hid hL
  have HD := Lib.hid hH
  have HM := Lib.hid hM
  clear hL hH hM HH
  by_cases hlt : k < ts.length
  · have hcell : wr.cell? ⟨b, off + k, none⟩ = some (.string ts[k]) := (HD.out.low.cell (p := ⟨b, off + k, none⟩) hb).trans (HC.out k hlt)
    have hsk := sizes_at ts k hlt
    have hszk : ts[k].size ≤ 1000000 := by have := HS.out; omega
    clear hsk
    gi_wp2_with (refine ⟨trivial, ?_⟩; gi_at_call 193; refine (callsIn_wide.2 (splitSeq_a ts[k] _)).mono ?_; rintro e w1 ⟨rfl, h1⟩; have H1 := Lib.hid h1; clear h1)
    obtain ⟨hT, hB1, hK1, hS1⟩ := H1.out
    have hbs : w.heap.size + 3 ≤ wr.heap.size := HD.out.size
    have hds := HM.out.old
    have HDS := Lib.hid hds
    have hnb : ∀ j, wr.heap.size ≤ j → j < wr.heap.size + 3 → v.ownBlock ≠ some j := fun j h1 h2 e => by have := (HD.out.row.lt _ e).2; omega
    have hS0 : Rnd w (partsO (ts.take k)) ds wr.heap.size [] w1 := ⟨⟨L, v, by rw [List.map_nil, List.append_nil]; exact HL.out, HD.out.below hB1, hnb⟩, marks_keeps HM.out hK1, by omega⟩
    have HS0 := Lib.hid hS0
    have HN := Lib.hid hnb
    clear hS0 hnb hB1 hK1 hds
    have HT := Lib.hid hT
    clear hT H1
    refine range_firm rfl (by omega) (gf := 219) (lb := #[.pointer (some ⟨wr.heap.size + 1, 0, none⟩), .pointer (some ⟨wr.heap.size, 0, none⟩), .pointer (some ⟨wr.heap.size + 2, 0, none⟩)]) rfl trivial (enters_of Tryz.func219 (by kernel_rfl) rfl)
      (encs := fun x : ByteArray => #[Value.string x]) (fun _ => rfl) (S := partsB ts[k]) (split_gives _ (by omega) wr.heap.size ts[k] w1 (by omega) HT.out) (by omega)
      (Rnd w (partsO (ts.take k)) ds wr.heap.size) (Out w (partsO (ts.take k)) ds) (rnd_firm (by omega) (by omega) HDS.out) (fun c => out_firm (by omega) (by omega) HDS.out c) HS0.out
      (fun x => { tmps := #[.slice (some ⟨b, off, none⟩) ts.length cap, undef, .pointer (some ⟨w.heap.size, 0, none⟩), .pointer (some ⟨w.heap.size + 1, 0, none⟩), .pointer (some ⟨w.heap.size + 1 + 1, 0, none⟩), undef, .string ts[k], .string x, undef, .slice (some ⟨b, off, none⟩) ts.length cap, .int .i64 ts.length, .int .i64 k, .bool true, .pointer (some ⟨b, off + k, none⟩), .string ts[k], .string ts[k], .func (.func 219) #[] #[.pointer (some ⟨wr.heap.size + 1, 0, none⟩), .pointer (some ⟨wr.heap.size, 0, none⟩), .pointer (some ⟨wr.heap.size + 2, 0, none⟩)], .string x, undef, undef, undef, undef, undef, undef, undef, undef, undef, undef, undef, undef, u30, undef], defers := [] }) ?assign ?body ?done ?stop
    case assign =>
      intro l x W K hK
      gi_wp2
      exact hK
    case body =>
      rintro l pre x W ⟨⟨L2, v2, hL2, hH2, hn2⟩, hM2, hsz2⟩ ⟨post, hpost⟩
      have hx : x.size ≤ 1000000 := Nat.le_trans (partsB_mem (by rw [hpost]; simp)) hszk
      have hroom : L2.length + 1 ≤ 1000000 := Nat.le_trans (more_room hlt hpost hL2) HS.out
      have hxs : x.size ≤ 140737488351232 := by omega
      have hts := trimA_size x
      have hts2 : (trimA x).size ≤ maxLen := by unfold maxLen; omega
      have HX := Lib.hid hx
      have HL2 := Lib.hid hL2
      have HM2 := Lib.hid hM2
      have HN2 := Lib.hid hn2
      have HR := Lib.hid hroom
      have HH2 := Lib.hid hH2
      clear hx hroom hL2 hM2 hn2 hpost hH2 hts
      by_cases he : trimL x.data.toList = []
      · have hz : (trimA x).size = 0 := by show (trimL x.data.toList).length = 0; rw [he]; rfl
        have hz2 := emp_yes hz
        have hz3 : (trimA x).toList.isEmpty = true := by rw [hz2]; rfl
        clear hz
        have HE := Lib.hid he
        clear he
        gi_wp2_with (refine ⟨trivial, ?_⟩; gi_at_call 124; refine (CallsIn.inRound l (callsIn_wide.2 (trim_a x _ hxs))).mono ?_; rintro e w2 ⟨rfl, hb2⟩; have HB2 := Lib.hid hb2; clear hb2)
        exact ⟨(keeps_below HB2.out).from _, box3_below HB2.out hsz2, ⟨L2, v2, by rw [map_snoc]; exact tokO_empty HL2.out HE.out, HH2.out.below HB2.out, HN2.out⟩, marks_keeps HM2.out (keeps_below HB2.out), Nat.le_trans hsz2 HB2.out.size⟩
      · have hz : 0 < (trimA x).size := by
          show 0 < (trimL x.data.toList).length
          exact List.length_pos_iff.2 he
        obtain ⟨hz2, hz3⟩ := emp_no hz
        have HE := Lib.hid he
        clear he hz
        by_cases ht : tokL (trimA x).data.toList = true
        · have HT2 := Lib.hid ht
          have hmx : Tryz.prog.follows .mixedOrders = true := by kernel_rfl
          gi_wp2_with (first | (refine ⟨trivial, ?_⟩; gi_at_call 124; refine (CallsIn.inRound l (callsIn_wide.2 (trim_a x _ hxs))).mono ?_; rintro e w2 ⟨rfl, hb2⟩; have hH3 := HH2.out.below hb2; have hv := hH3.bx; have cT : w2.cell? ⟨w.heap.size + 1 + 1, 0, none⟩ = some v2 := hv.cell; have HH3 := Lib.hid hH3; have HV := Lib.hid hv; have HB2 := Lib.hid hb2; clear hb2 hH3 hv) | (refine ⟨trivial, ?_⟩; gi_at_call 106; refine (CallsIn.inRound l (callsIn_wide.2 (istok_a _ _ hts2))).mono ?_; rintro e w3 ⟨rfl, rfl⟩))
          have cTd : w2.drew.cell? ⟨w.heap.size + 1 + 1, 0, none⟩ = some v2 := HV.out.cell
          clear cT
          refine wpIn_region_any (by assumption) ?_
          try (change wpAnyIn _ _ _ _ _ _ _ _ _ (World.drew _))
          refine wpAnyIn_ready (rs := [0, 1]) (by kernel_rfl) (by simp) ?_
          refine AllReadyIn.cons rfl (fun K hK => ?_) (AllReadyIn.cons rfl (fun K hK => ?_) (AllReadyIn.nil))
          · go_simp
            refine hK _ _ ?_
            clear hK K
            refine wpAnyIn_ready (rs := [1]) (by kernel_rfl) (by simp) ?_
            refine AllReadyIn.cons rfl (fun K hK => ?_) (AllReadyIn.nil)
            · go_simp
              refine hK _ _ ?_
              clear hK K
              refine wpAnyIn_ready (rs := [2]) (by kernel_rfl) (by simp) ?_
              refine AllReadyIn.cons rfl (fun K hK => ?_) (AllReadyIn.nil)
              · go_simp
                refine ⟨trivial, ?_⟩
                gi_at_call 150
                refine (CallsIn.inRound l (callsIn_wide.2 (lower_a (trimA x) _ hts2))).mono ?_
                rintro e w4 ⟨rfl, hb40⟩
                have hb4 : Below w2.heap.size w2 w4 := (Below.refl _ w2).drew.trans hb40
                clear hb40
                have hH4 := HH3.out.below hb4
                have cT2 : w4.cell? ⟨w.heap.size + 1 + 1, 0, none⟩ = some v2 := hH4.bx.cell
                have cT4 : (w4.alloc (.cells #[.string ⟨(lowL (trimA x).data.toList).toArray⟩] 9)).cell? ⟨w.heap.size + 1 + 1, 0, none⟩ = some v2 := (hH4.bx.alloc _).cell
                have hs4 := hb4.size
                obtain ⟨g, n', c', w5, hrun, cT5, fT5, hH5, hk5, hg5, ho5, hs5⟩ := app_tok hH4 HR.out HN2.out (Nat.le_trans hsz2 (Nat.le_trans HB2.out.size hs4)) hbs (lowL (trimA x).data.toList)
                have HH5 := Lib.hid hH5
                have HK5 := Lib.hid hk5
                have HO5 := Lib.hid ho5
                have HG5 := Lib.hid hg5
                have HB4 := Lib.hid hb4
                clear hb4 hH4 hH5 hk5 ho5 hg5
                refine hK _ _ ?_
                clear hK K
                refine wpAnyIn_ready (rs := [3]) (by kernel_rfl) (by simp) ?_
                refine AllReadyIn.cons rfl (fun K hK => ?_) (AllReadyIn.nil)
                · go_simp
                  refine hK _ _ ?_
                  clear hK K
                  refine wpAnyIn_ready (rs := [4]) (by kernel_rfl) (by simp) ?_
                  refine AllReadyIn.cons rfl (fun K hK => ?_) (AllReadyIn.nil)
                  · rw [if_pos (by rfl)]
                    refine step_app rfl rfl rfl hrun ?_
                    refine hK _ _ ?_
                    clear hK K
                    refine wpAnyIn_ready (rs := [5]) (by kernel_rfl) (by simp) ?_
                    refine AllReadyIn.cons rfl (fun K hK => ?_) (AllReadyIn.nil)
                    · go_simp
                      refine hK _ _ ?_
                      clear hK K
                      refine wpAnyIn_done (by kernel_rfl) ?_ _
                      exact ⟨(((keeps_below HB2.out).trans (keeps_below HB4.out)).trans HK5.out).from _,
                        fun k h1 h2 => (HO5.out k (Nat.lt_of_lt_of_le (by omega) (Nat.le_trans hsz2 (Nat.le_trans HB2.out.size hs4))) (fun e => HN2.out k h1 h2 e.symm) (by omega)).trans ((HB4.out.block k (Nat.lt_of_lt_of_le (by omega) (Nat.le_trans hsz2 HB2.out.size))).trans (HB2.out.block k (by omega))),
                        ⟨_, _, by rw [map_snoc]; exact tokO_tok HL2.out HE.out HT2.out, HH5.out, fun j h1 h2 e => HG5.out j h1 h2 (by simpa [Value.ownBlock] using e)⟩,
                        marks_keeps HM2.out (((keeps_below HB2.out).trans (keeps_below HB4.out)).trans HK5.out), Nat.le_trans hsz2 (Nat.le_trans HB2.out.size (Nat.le_trans hs4 hs5))⟩
          · go_simp
            refine hK _ _ ?_
            clear hK K
            refine wpAnyIn_ready (rs := [0, 2]) (by kernel_rfl) (by simp) ?_
            refine AllReadyIn.cons rfl (fun K hK => ?_) (AllReadyIn.cons rfl (fun K hK => ?_) (AllReadyIn.nil))
            · go_simp
              refine hK _ _ ?_
              clear hK K
              refine wpAnyIn_ready (rs := [2]) (by kernel_rfl) (by simp) ?_
              refine AllReadyIn.cons rfl (fun K hK => ?_) (AllReadyIn.nil)
              · go_simp
                refine ⟨trivial, ?_⟩
                gi_at_call 150
                refine (CallsIn.inRound l (callsIn_wide.2 (lower_a (trimA x) _ hts2))).mono ?_
                rintro e w4 ⟨rfl, hb40⟩
                have hb4 : Below w2.heap.size w2 w4 := (Below.refl _ w2).drew.trans hb40
                clear hb40
                have hH4 := HH3.out.below hb4
                have cT2 : w4.cell? ⟨w.heap.size + 1 + 1, 0, none⟩ = some v2 := hH4.bx.cell
                have cT4 : (w4.alloc (.cells #[.string ⟨(lowL (trimA x).data.toList).toArray⟩] 9)).cell? ⟨w.heap.size + 1 + 1, 0, none⟩ = some v2 := (hH4.bx.alloc _).cell
                have hs4 := hb4.size
                obtain ⟨g, n', c', w5, hrun, cT5, fT5, hH5, hk5, hg5, ho5, hs5⟩ := app_tok hH4 HR.out HN2.out (Nat.le_trans hsz2 (Nat.le_trans HB2.out.size hs4)) hbs (lowL (trimA x).data.toList)
                have HH5 := Lib.hid hH5
                have HK5 := Lib.hid hk5
                have HO5 := Lib.hid ho5
                have HG5 := Lib.hid hg5
                have HB4 := Lib.hid hb4
                clear hb4 hH4 hH5 hk5 ho5 hg5
                refine hK _ _ ?_
                clear hK K
                refine wpAnyIn_ready (rs := [3]) (by kernel_rfl) (by simp) ?_
                refine AllReadyIn.cons rfl (fun K hK => ?_) (AllReadyIn.nil)
                · go_simp
                  refine hK _ _ ?_
                  clear hK K
                  refine wpAnyIn_ready (rs := [4]) (by kernel_rfl) (by simp) ?_
                  refine AllReadyIn.cons rfl (fun K hK => ?_) (AllReadyIn.nil)
                  · rw [if_pos (by rfl)]
                    refine step_app rfl rfl rfl hrun ?_
                    refine hK _ _ ?_
                    clear hK K
                    refine wpAnyIn_ready (rs := [5]) (by kernel_rfl) (by simp) ?_
                    refine AllReadyIn.cons rfl (fun K hK => ?_) (AllReadyIn.nil)
                    · go_simp
                      refine hK _ _ ?_
                      clear hK K
                      refine wpAnyIn_done (by kernel_rfl) ?_ _
                      exact ⟨(((keeps_below HB2.out).trans (keeps_below HB4.out)).trans HK5.out).from _,
                        fun k h1 h2 => (HO5.out k (Nat.lt_of_lt_of_le (by omega) (Nat.le_trans hsz2 (Nat.le_trans HB2.out.size hs4))) (fun e => HN2.out k h1 h2 e.symm) (by omega)).trans ((HB4.out.block k (Nat.lt_of_lt_of_le (by omega) (Nat.le_trans hsz2 HB2.out.size))).trans (HB2.out.block k (by omega))),
                        ⟨_, _, by rw [map_snoc]; exact tokO_tok HL2.out HE.out HT2.out, HH5.out, fun j h1 h2 e => HG5.out j h1 h2 (by simpa [Value.ownBlock] using e)⟩,
                        marks_keeps HM2.out (((keeps_below HB2.out).trans (keeps_below HB4.out)).trans HK5.out), Nat.le_trans hsz2 (Nat.le_trans HB2.out.size (Nat.le_trans hs4 hs5))⟩
            · go_simp
              refine ⟨trivial, ?_⟩
              gi_at_call 150
              refine (CallsIn.inRound l (callsIn_wide.2 (lower_a (trimA x) _ hts2))).mono ?_
              rintro e w4 ⟨rfl, hb40⟩
              have hb4 : Below w2.heap.size w2 w4 := (Below.refl _ w2).drew.trans hb40
              clear hb40
              have hH4 := HH3.out.below hb4
              have cT2 : w4.cell? ⟨w.heap.size + 1 + 1, 0, none⟩ = some v2 := hH4.bx.cell
              have cT4 : (w4.alloc (.cells #[.string ⟨(lowL (trimA x).data.toList).toArray⟩] 9)).cell? ⟨w.heap.size + 1 + 1, 0, none⟩ = some v2 := (hH4.bx.alloc _).cell
              have hs4 := hb4.size
              obtain ⟨g, n', c', w5, hrun, cT5, fT5, hH5, hk5, hg5, ho5, hs5⟩ := app_tok hH4 HR.out HN2.out (Nat.le_trans hsz2 (Nat.le_trans HB2.out.size hs4)) hbs (lowL (trimA x).data.toList)
              have HH5 := Lib.hid hH5
              have HK5 := Lib.hid hk5
              have HO5 := Lib.hid ho5
              have HG5 := Lib.hid hg5
              have HB4 := Lib.hid hb4
              clear hb4 hH4 hH5 hk5 ho5 hg5
              refine hK _ _ ?_
              clear hK K
              refine wpAnyIn_ready (rs := [0, 3]) (by kernel_rfl) (by simp) ?_
              refine AllReadyIn.cons rfl (fun K hK => ?_) (AllReadyIn.cons rfl (fun K hK => ?_) (AllReadyIn.nil))
              · go_simp
                refine hK _ _ ?_
                clear hK K
                refine wpAnyIn_ready (rs := [3]) (by kernel_rfl) (by simp) ?_
                refine AllReadyIn.cons rfl (fun K hK => ?_) (AllReadyIn.nil)
                · go_simp
                  refine hK _ _ ?_
                  clear hK K
                  refine wpAnyIn_ready (rs := [4]) (by kernel_rfl) (by simp) ?_
                  refine AllReadyIn.cons rfl (fun K hK => ?_) (AllReadyIn.nil)
                  · rw [if_pos (by rfl)]
                    refine step_app rfl rfl rfl hrun ?_
                    refine hK _ _ ?_
                    clear hK K
                    refine wpAnyIn_ready (rs := [5]) (by kernel_rfl) (by simp) ?_
                    refine AllReadyIn.cons rfl (fun K hK => ?_) (AllReadyIn.nil)
                    · go_simp
                      refine hK _ _ ?_
                      clear hK K
                      refine wpAnyIn_done (by kernel_rfl) ?_ _
                      exact ⟨(((keeps_below HB2.out).trans (keeps_below HB4.out)).trans HK5.out).from _,
                        fun k h1 h2 => (HO5.out k (Nat.lt_of_lt_of_le (by omega) (Nat.le_trans hsz2 (Nat.le_trans HB2.out.size hs4))) (fun e => HN2.out k h1 h2 e.symm) (by omega)).trans ((HB4.out.block k (Nat.lt_of_lt_of_le (by omega) (Nat.le_trans hsz2 HB2.out.size))).trans (HB2.out.block k (by omega))),
                        ⟨_, _, by rw [map_snoc]; exact tokO_tok HL2.out HE.out HT2.out, HH5.out, fun j h1 h2 e => HG5.out j h1 h2 (by simpa [Value.ownBlock] using e)⟩,
                        marks_keeps HM2.out (((keeps_below HB2.out).trans (keeps_below HB4.out)).trans HK5.out), Nat.le_trans hsz2 (Nat.le_trans HB2.out.size (Nat.le_trans hs4 hs5))⟩
              · go_simp
                refine hK _ _ ?_
                clear hK K
                refine wpAnyIn_ready (rs := [0]) (by kernel_rfl) (by simp) ?_
                refine AllReadyIn.cons rfl (fun K hK => ?_) (AllReadyIn.nil)
                · go_simp
                  refine hK _ _ ?_
                  clear hK K
                  refine wpAnyIn_ready (rs := [4]) (by kernel_rfl) (by simp) ?_
                  refine AllReadyIn.cons rfl (fun K hK => ?_) (AllReadyIn.nil)
                  · rw [if_pos (by rfl)]
                    refine step_app rfl rfl rfl hrun ?_
                    refine hK _ _ ?_
                    clear hK K
                    refine wpAnyIn_ready (rs := [5]) (by kernel_rfl) (by simp) ?_
                    refine AllReadyIn.cons rfl (fun K hK => ?_) (AllReadyIn.nil)
                    · go_simp
                      refine hK _ _ ?_
                      clear hK K
                      refine wpAnyIn_done (by kernel_rfl) ?_ _
                      exact ⟨(((keeps_below HB2.out).trans (keeps_below HB4.out)).trans HK5.out).from _,
                        fun k h1 h2 => (HO5.out k (Nat.lt_of_lt_of_le (by omega) (Nat.le_trans hsz2 (Nat.le_trans HB2.out.size hs4))) (fun e => HN2.out k h1 h2 e.symm) (by omega)).trans ((HB4.out.block k (Nat.lt_of_lt_of_le (by omega) (Nat.le_trans hsz2 HB2.out.size))).trans (HB2.out.block k (by omega))),
                        ⟨_, _, by rw [map_snoc]; exact tokO_tok HL2.out HE.out HT2.out, HH5.out, fun j h1 h2 e => HG5.out j h1 h2 (by simpa [Value.ownBlock] using e)⟩,
                        marks_keeps HM2.out (((keeps_below HB2.out).trans (keeps_below HB4.out)).trans HK5.out), Nat.le_trans hsz2 (Nat.le_trans HB2.out.size (Nat.le_trans hs4 hs5))⟩
        · have ht : tokL (trimA x).data.toList = false := by simpa using ht
          have HT2 := Lib.hid ht
          gi_wp2_with (first | (refine ⟨trivial, ?_⟩; gi_at_call 124; refine (CallsIn.inRound l (callsIn_wide.2 (trim_a x _ hxs))).mono ?_; rintro e w2 ⟨rfl, hb2⟩; have hH3 := HH2.out.below hb2; have cR0 := hH3.r0.cell; have fR0 := hH3.r0.frozen; have cR1 := hH3.r1.cell; have fR1 := hH3.r1.frozen; have HH3 := Lib.hid hH3; have HB2 := Lib.hid hb2; clear hb2 hH3) | (refine ⟨trivial, ?_⟩; gi_at_call 106; refine (CallsIn.inRound l (callsIn_wide.2 (istok_a _ _ hts2))).mono ?_; rintro e w3 ⟨rfl, rfl⟩))
          exact ⟨((keeps_below HB2.out).trans ((KeepsOthers.setCell _ _ _).trans (KeepsOthers.setCell _ _ _))).from _, rfl, by rw [map_snoc]; exact tokO_bad HE.out HT2.out,
            (HH3.out.r0.set _).other (B' := w.heap.size + 1) (by omega) _, (HH3.out.r1.other (B' := w.heap.size) (by omega) _).set _,
            (HH3.out.low.setCell (p := ⟨w.heap.size, 0, none⟩) (Nat.le_refl _) _).setCell (p := ⟨w.heap.size + 1, 0, none⟩) (Nat.le_succ _) _,
            marks_keeps HM2.out ((keeps_below HB2.out).trans ((KeepsOthers.setCell _ _ _).trans (KeepsOthers.setCell _ _ _)))⟩
    case done =>
      rintro W ⟨⟨L2, v2, hL2, hH2, hn2⟩, hM2, hsz2⟩ hK
      have HL2 := Lib.hid hL2
      have HH2 := Lib.hid hH2
      have HM2 := Lib.hid hM2
      have HK := Lib.hid hK
      clear hL2 hH2 hM2 hK
      gi_wp2
      refine ⟨⟨k + 1, _, _, _, _, _, _, _, _, L2, v2, rfl, by omega, by rw [partsO_snoc ts k hlt, ← parts_map]; exact HL2.out, HH2.out, ?_⟩, ?_⟩
      · exact ⟨_, rfl, by omega, HK.out, fun d hd e => by have := HDS.out d hd _ e; omega, HM2.out⟩
      · simp [intOf]; omega
    case stop =>
      rintro c pre post W hS ⟨rfl, hL2, h0, h1, hl, hM2⟩ hK
      have hnone : toksO ts = none := by
        unfold toksO
        rw [partsO_take ts k hlt, ← parts_map, hS, List.map_append, List.append_assoc, ← List.append_assoc]
        exact tokO_none hL2
      have HN3 := Lib.hid hnone
      have H0 := Lib.hid h0
      have H1 := Lib.hid h1
      have HLo := Lib.hid hl
      have HM2 := Lib.hid hM2
      have HK := Lib.hid hK
      clear hnone h0 h1 hl hM2 hK hL2
      gi_wp2
      refine leave_tokens rfl rfl H0.out H1.out ⟨_, rfl, by omega, HK.out, fun d hd e => by have := HDS.out d hd _ e; omega, HM2.out⟩ fun W' hb2 hc2 => ?_
      exact ⟨HLo.out.trans hb2, by rw [HN3.out]⟩
  · obtain rfl : k = ts.length := by omega
    have c0 : wr.cell? ⟨w.heap.size, 0, none⟩ = some (.slice none 0 0) := HD.out.r0.cell
    have f0 : wr.frozen? ⟨w.heap.size, 0, none⟩ = false := HD.out.r0.frozen
    have c1 : wr.cell? ⟨w.heap.size + 1, 0, none⟩ = some (.bool false) := HD.out.r1.cell
    have f1 : wr.frozen? ⟨w.heap.size + 1, 0, none⟩ = false := HD.out.r1.frozen
    obtain ⟨va, vn, vc, rfl⟩ : ∃ va vn vc, v = .slice va vn vc := by rcases HD.out.row.2 with ⟨rfl, _⟩ | ⟨g, cap, cur, rfl, _⟩ <;> exact ⟨_, _, _, rfl⟩
    have c2 : wr.cell? ⟨w.heap.size + 1 + 1, 0, none⟩ = some (.slice va vn vc) := HD.out.bx.cell
    gi_wp2
    have hall : toksO ts = some L := by have := HL.out; rw [List.take_length] at this; exact this
    have hrow := HD.out.row
    have hg0 := hrow.kept (grownBy_setCell' wr w.heap.size (.slice va vn vc)) (.inr (fun e => HD.out.r0.not_row (show 112 ≠ 9 by decide) hrow e.symm))
    have hb1 := (HD.out.r1.other (B' := w.heap.size) (by omega) (.slice va vn vc))
    have hg1 := hg0.kept (grownBy_setCell' _ (w.heap.size + 1) (.bool true)) (.inr (fun e => hb1.not_row (show 4 ≠ 9 by decide) hg0 e.symm))
    refine leave_tokens rfl rfl ((HD.out.r0.set _).other (B' := w.heap.size + 1) (by omega) _) (hb1.set _) (marks_keeps HM.out ((KeepsOthers.setCell _ _ _).trans (KeepsOthers.setCell _ _ _))) fun W' hb2 hc2 => ?_
    exact ⟨(((HD.out.low.setCell (p := ⟨w.heap.size, 0, none⟩) (Nat.le_refl _) _).setCell (p := ⟨w.heap.size + 1, 0, none⟩) (Nat.le_succ _) _)).trans hb2, by rw [hall]; exact ⟨_, rfl, row_cells hg1 hc2⟩⟩
end Go.Proofs.YtgkhelbpccehcaaGreatDoor
