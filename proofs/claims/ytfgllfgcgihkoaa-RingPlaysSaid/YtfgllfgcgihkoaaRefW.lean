/- What Skip and Write of the reference's ring do. -/
import Derived.Test.YtfgllfgcgihkoaaRefR
import Derived.Deep.DeepCutAuto
import Derived.Deep.CutBlock
namespace Go.Proofs.Ytfgllfgcgihkoaa
open Go.RowKit
set_option maxRecDepth 100000
set_option linter.unusedVariables false
set_option linter.unusedSimpArgs false

/-- What a writing call leaves. -/
def Left (w w' : World) (x : Nat) (F : List Nat) (N : Nat) (L : List Int) : Prop := ∃ F', RefB w' x F' N L ∧ Mods F w w' ∧ ∀ k ∈ F', k ∈ F ∨ w.heap.size ≤ k
/-- A new slice is stored in the ring. -/
theorem left_of {w w8 : World} {x N : Nat} {v v8 : Value} {L P : List Int} (h : RefF w x N L v) (hm : Mods (x :: v.ownBlock.toList) w w8) (hr : Row w8 x 44 #[.int .i64 N, v]) (ho : w8.ownsRow 0 5 1 v8 P.length (bv P))
    (hb : ∀ k ∈ v8.ownBlock.toList, k ∈ v.ownBlock.toList ∨ w.heap.size ≤ k) (hP : ∀ y ∈ P, 0 ≤ y ∧ y ≤ 255) (hl : P.length ≤ N) : Left w (w8.setCell ⟨x, 1, none⟩ v8) x (x :: v.ownBlock.toList) N P := by
  have hx : ∀ k ∈ v8.ownBlock.toList, k ≠ x := fun k hk e => own_ne_row ho hr (by decide) k hk e
  refine ⟨x :: v8.ownBlock.toList, ⟨v8, rfl, ?_, own_keep ho fun k hk => heap_setCell_other _ _ _ _ (by exact hx k hk), hP, hl, h.hi⟩, hm.setCell (by simp) _, fun k hk => ?_⟩
  · exact hr.set 1 v8
  · rcases List.mem_cons.1 hk with rfl | hk
    · exact .inl (by simp)
    · exact (hb k hk).imp (List.mem_cons_of_mem _) id
theorem left_app {w w8 : World} {x N n : Nat} {v v8 : Value} {L P : List Int} (h : RefF w x N L v) (hr : Row w8 x 44 #[.int .i64 N, v]) (ho : w8.ownsRow 0 5 1 v8 n (bv ([] ++ P))) (hn : n = P.length)
    (hm : Mods (Value.slice (some ⟨w.heap.size, 0, none⟩) 0 0).ownBlock.toList (w.alloc (.cells #[] 5)) w8 ∧ (v8.ownBlock = (Value.slice (some ⟨w.heap.size, 0, none⟩) 0 0).ownBlock ∨ v8.ownBlock = some (w.alloc (.cells #[] 5)).heap.size))
    (hP : ∀ y ∈ P, 0 ≤ y ∧ y ≤ 255) (hl : P.length ≤ N) : Left w (w8.setCell ⟨x, 1, none⟩ v8) x (x :: v.ownBlock.toList) N P := by
  subst hn
  refine left_of h ?_ hr ho (fun k hk => .inr ?_) hP hl
  · exact ((Mods.refl _ w).alloc _).trans hm.1 (fun k hk => .inr (by simp [Value.ownBlock] at hk; omega))
  · rcases hm.2 with e | e
    · rw [e] at hk; simp [Value.ownBlock] at hk; omega
    · rw [e] at hk; simp at hk; omega
set_option maxHeartbeats 2000000 in
theorem rskip_any (w : World) (x N : Nat) (n : Int) (F : List Nat) (L : List Int) (h : RefB w x F N L) :
    Calls Try.prog 18 #[.pointer (some ⟨x, 0, none⟩), .int .i64 n] w fun e w' => e = .returned (.int .i64 (clamp n L.length)) ∧ Hid (Left w w' x F N (L.drop (clamp n L.length))) := by
  obtain ⟨i0, hi, hz, hs, hby⟩ := info_parts u8_info3
  have HI := Lib.hid (And.intro hi (And.intro hz (And.intro hs hby)))
  obtain ⟨A, cp, c1, c0, fr, h1, h2, hat, h3, h4, rfl, hrf⟩ := h.at_
  have hw := clamp_ways n L.length
  have hq := clamp_le n L.length
  obtain ⟨q, hqq⟩ : ∃ q, q = clamp n L.length := ⟨_, rfl⟩
  rw [← hqq] at hw hq ⊢
  have HRF := Lib.hid hrf
  have HT := Lib.hid (show (L.drop q).length = L.length - q by rw [List.length_drop])
  have HA := Lib.hid ((hat.mods ((Mods.refl _ w).alloc (.cells #[] 5))).cutIf q cp h1)
  have HA0 := Lib.hid (hat.mods ((Mods.refl _ w).alloc (.cells #[] 5)))
  have HQ0 := Lib.hid (show 0 + L.length ≤ 1000000000 by omega)
  have HO := Lib.hid (show (w.alloc (.cells #[] 5)).ownsRow 0 5 1 (.slice (some ⟨w.heap.size, 0, none⟩) 0 0) 0 (bv []) from World.ownsRow_lit w #[] 0 (Nat.zero_le _) (by unfold maxLen; omega) rfl)
  have HQL := Lib.hid (show 0 + (L.drop q).length ≤ 1000000000 by rw [HT.out]; omega)
  have HNE := Lib.hid (show x ∉ (Value.slice (some ⟨w.heap.size, 0, none⟩) 0 0).ownBlock.toList from fun hx => by
    have : x = w.heap.size := by simpa [Value.ownBlock, eq_comm] using hx
    have := World.block_lt_of_cell? w _ c1
    simp at this
    omega)
  unfold maxLen at h2
  have HPR := Lib.hid (show ∀ y ∈ L.drop q, 0 ≤ y ∧ y ≤ 255 from fun y hy => hrf.range y (List.mem_of_mem_drop hy))
  have HPL := Lib.hid (show (L.drop q).length ≤ N by rw [List.length_drop]; omega)
  have HRW := Lib.hid (hrf.row.alloc (.cells #[] 5))
  clear h hat hi hz hs hby hrf hqq
  have d1 := fun o => cell_alloc c1 o
  have HPR0 := Lib.hid HRF.out.range
  have HPL0 := Lib.hid HRF.out.len
  have hcq : q = cp ∨ ¬ cp = q := by omega
  rcases hw with ⟨w1, rfl⟩ | ⟨w1, w2, w3, rfl⟩ | ⟨w1, w2, rfl⟩ | ⟨w1, w2, rfl⟩
  · have w2 : ∀ a b : Int, (if (L.length : Int) < n then a else b) = b := fun a b => if_neg (by omega)
    have w3 : ∀ a b : Int, (if 0 < n then a else b) = b := fun a b => if_neg (by omega)
    clear hcq
    go_enter Try.func18, Try.ntmps18
    go_wp2_with (at_builtin; refine wpList_append_bytes _ rfl (.tmp 14) (.tmp 20) 32 rfl 5 i0 (.int .u8 0) Try.underlying32 HI.out.1 HI.out.2.1 HI.out.2.2.1 HI.out.2.2.2 rfl (.slice (some ⟨w.heap.size, 0, none⟩) 0 0) 0 [] rfl HO.out [] A L.length cp L rfl rfl HA0.out HQ0.out ?_; intro v8 w8 HO8 HM8; have HR8 := Lib.hid (HRW.out.mods HM8.out.1 HNE.out); have c8 := HR8.out.cell 1; have f8 := HR8.out.free; obtain ⟨A8, c8', e8, hh1, hh2⟩ := own_slice (n := L.length) (by have h := HO8.out; rwa [Nat.zero_add] at h); subst e8; clear hh1 hh2)
    go_ret
    exact ⟨rfl, Lib.hid (by
      have h := left_app HRF.out HR8.out HO8.out (by simp) HM8.out HPR0.out HPL0.out
      exact h)⟩
  · rcases hcq with rfl | hcq
    · have w5 : ¬ L.length < q := by omega
      go_enter Try.func18, Try.ntmps18
      go_wp2_with (at_builtin; refine wpList_append_bytes _ rfl (.tmp 14) (.tmp 20) 32 rfl 5 i0 (.int .u8 0) Try.underlying32 HI.out.1 HI.out.2.1 HI.out.2.2.1 HI.out.2.2.2 rfl (.slice (some ⟨w.heap.size, 0, none⟩) 0 0) 0 [] rfl HO.out [] A 0 0 [] rfl rfl (At.nil _ _ _) (by simp) ?_; intro v8 w8 HO8 HM8; have HR8 := Lib.hid (HRW.out.mods HM8.out.1 HNE.out); have c8 := HR8.out.cell 1; have f8 := HR8.out.free; obtain ⟨A8, c8', e8, hh1, hh2⟩ := own_slice (n := 0) (by have h := HO8.out; rwa [Nat.zero_add] at h); subst e8; clear hh1 hh2)
      go_ret
      exact ⟨rfl, Lib.hid (by
        have h := left_app HRF.out HR8.out HO8.out (by simp) HM8.out (by simp) (by simp)
        first | exact h | (rw [List.drop_of_length_le (by omega)]; exact h))⟩
    · have w5 : ¬ L.length < q := by omega
      have w6 : q ≤ cp := by omega
      go_enter Try.func18, Try.ntmps18
      go_wp2_with (at_builtin; refine wpList_append_bytes _ rfl (.tmp 14) (.tmp 20) 32 rfl 5 i0 (.int .u8 0) Try.underlying32 HI.out.1 HI.out.2.1 HI.out.2.2.1 HI.out.2.2.2 rfl (.slice (some ⟨w.heap.size, 0, none⟩) 0 0) 0 [] rfl HO.out [] (Option.map (fun x => x.add q) A) (L.length - q) (cp - q) (L.drop q) rfl HT.out.symm (HA0.out.cut q (.inl rfl)) HQL.out ?_; intro v8 w8 HO8 HM8; have HR8 := Lib.hid (HRW.out.mods HM8.out.1 HNE.out); have c8 := HR8.out.cell 1; have f8 := HR8.out.free; obtain ⟨A8, c8', e8, hh1, hh2⟩ := own_slice (n := (L.length - q)) (by have h := HO8.out; rwa [Nat.zero_add] at h); subst e8; clear hh1 hh2)
      go_ret
      exact ⟨rfl, Lib.hid (by
        have h := left_app HRF.out HR8.out HO8.out (by simp) HM8.out HPR.out HPL.out
        exact h)⟩
  · rcases hcq with rfl | hcq
    · have w6 : ¬ n < (L.length : Int) := by omega
      go_enter Try.func18, Try.ntmps18
      go_wp2_with (at_builtin; refine wpList_append_bytes _ rfl (.tmp 14) (.tmp 20) 32 rfl 5 i0 (.int .u8 0) Try.underlying32 HI.out.1 HI.out.2.1 HI.out.2.2.1 HI.out.2.2.2 rfl (.slice (some ⟨w.heap.size, 0, none⟩) 0 0) 0 [] rfl HO.out [] A 0 0 [] rfl rfl (At.nil _ _ _) (by simp) ?_; intro v8 w8 HO8 HM8; have HR8 := Lib.hid (HRW.out.mods HM8.out.1 HNE.out); have c8 := HR8.out.cell 1; have f8 := HR8.out.free; obtain ⟨A8, c8', e8, hh1, hh2⟩ := own_slice (n := 0) (by have h := HO8.out; rwa [Nat.zero_add] at h); subst e8; clear hh1 hh2)
      go_ret
      exact ⟨rfl, Lib.hid (by
        have h := left_app HRF.out HR8.out HO8.out (by simp) HM8.out (by simp) (by simp)
        exact h)⟩
    · have w6 : ¬ n < (L.length : Int) := by omega
      go_enter Try.func18, Try.ntmps18
      go_wp2_with (at_builtin; refine wpList_append_bytes _ rfl (.tmp 14) (.tmp 20) 32 rfl 5 i0 (.int .u8 0) Try.underlying32 HI.out.1 HI.out.2.1 HI.out.2.2.1 HI.out.2.2.2 rfl (.slice (some ⟨w.heap.size, 0, none⟩) 0 0) 0 [] rfl HO.out [] (Option.map (fun x => x.add L.length) A) 0 (cp - L.length) [] rfl rfl (At.nil _ _ _) (by simp) ?_; intro v8 w8 HO8 HM8; have HR8 := Lib.hid (HRW.out.mods HM8.out.1 HNE.out); have c8 := HR8.out.cell 1; have f8 := HR8.out.free; obtain ⟨A8, c8', e8, hh1, hh2⟩ := own_slice (n := 0) (by have h := HO8.out; rwa [Nat.zero_add] at h); subst e8; clear hh1 hh2)
      go_ret
      exact ⟨rfl, Lib.hid (by
        have h := left_app HRF.out HR8.out HO8.out (by simp) HM8.out (by simp) (by simp)
        exact h)⟩
  · obtain rfl : L = [] := List.eq_nil_of_length_eq_zero w1
    clear w1 hcq
    go_enter Try.func18, Try.ntmps18
    go_wp2_with (at_builtin; refine wpList_append_bytes _ rfl (.tmp 14) (.tmp 20) 32 rfl 5 i0 (.int .u8 0) Try.underlying32 HI.out.1 HI.out.2.1 HI.out.2.2.1 HI.out.2.2.2 rfl (.slice (some ⟨w.heap.size, 0, none⟩) 0 0) 0 [] rfl HO.out [] A 0 cp [] rfl rfl HA0.out HQ0.out ?_; intro v8 w8 HO8 HM8; have HR8 := Lib.hid (HRW.out.mods HM8.out.1 HNE.out); have c8 := HR8.out.cell 1; have f8 := HR8.out.free; obtain ⟨A8, c8', e8, hh1, hh2⟩ := own_slice (n := 0) (by have h := HO8.out; rwa [Nat.zero_add] at h); subst e8; clear hh1 hh2)
    go_ret
    exact ⟨rfl, Lib.hid (by
      have h := left_app HRF.out HR8.out HO8.out (by simp) HM8.out (by simp) (by simp)
      exact h)⟩
theorem RefF.row_after {w wx w8 : World} {x N : Nat} {L : List Int} {v : Value} (hm : Mods v.ownBlock.toList wx w8) (h : RefF w x N L v) (hh : wx.heap = w.heap) : Row w8 x 44 #[.int .i64 N, v] :=
  Row.mods (h.row.keep (by rw [hh])) hm h.ne
/-- An append behind the ring's own bytes is stored in it. -/
theorem left_grow {w w8 : World} {x N n : Nat} {v v8 : Value} {L P : List Int} (hm : Mods v.ownBlock.toList w w8 ∧ (v8.ownBlock = v.ownBlock ∨ v8.ownBlock = some w.heap.size))
    (h : RefF w x N L v) (ho : w8.ownsRow 0 5 1 v8 n (bv (L ++ P))) (hn : n = (L ++ P).length)
    (hP : ∀ y ∈ P, 0 ≤ y ∧ y ≤ 255) (hl : (L ++ P).length ≤ N) : Left w (w8.setCell ⟨x, 1, none⟩ v8) x (x :: v.ownBlock.toList) N (L ++ P) := by
  subst hn
  refine left_of h (hm.1.more (fun k hk => .inl (List.mem_cons_of_mem _ hk))) (h.row.mods hm.1 h.ne) ho (fun k hk => ?_) (fun y hy => ?_) hl
  · rcases hm.2 with e | e
    · rw [e] at hk; exact .inl hk
    · rw [e] at hk; simp at hk; exact .inr (by omega)
  · rcases List.mem_append.1 hy with hy | hy
    · exact h.range y hy
    · exact hP y hy
theorem Left.trans {w w1 w2 : World} {x N : Nat} {F F1 : List Nat} {L : List Int} (hm : Mods F w w1) (hn : ∀ k ∈ F1, k ∈ F ∨ w.heap.size ≤ k) (h : Left w1 w2 x F1 N L) : Left w w2 x F N L := by
  obtain ⟨F2, hB, hM, hN⟩ := h
  refine ⟨F2, hB, hm.trans hM hn, fun k hk => ?_⟩
  rcases hN k hk with h | h
  · exact hn k h
  · exact .inr (Nat.le_trans hm.size h)
theorem left_step {w W wx w8 : World} {x N n : Nat} {v v8 : Value} {F : List Nat} {L P : List Int} (hm : Mods v.ownBlock.toList wx w8 ∧ (v8.ownBlock = v.ownBlock ∨ v8.ownBlock = some wx.heap.size))
    (h : RefF W x N L v) (hM : Mods F w W) (h1 : wx.heap = W.heap) (h2 : wx.os = W.os) (h3 : wx.tape = W.tape) (h4 : wx.output = W.output) (hn : ∀ k ∈ x :: v.ownBlock.toList, k ∈ F ∨ w.heap.size ≤ k)
    (ho : w8.ownsRow 0 5 1 v8 n (bv (L ++ P))) (hnn : n = (L ++ P).length) (hP : ∀ y ∈ P, 0 ≤ y ∧ y ≤ 255) (hl : (L ++ P).length ≤ N) : Left w (w8.setCell ⟨x, 1, none⟩ v8) x F N (L ++ P) :=
  Left.trans (hM.same h1 h2 h3 h4) hn (left_grow hm (h.keep (fun k _ => by rw [h1])) ho hnn hP hl)
theorem RefF.drewN {w : World} {x N : Nat} {L : List Int} {v : Value} (h : RefF w x N L v) (n : Nat) : RefF (w.drewN n) x N L v := h.keep fun _ _ => rfl
set_option maxHeartbeats 4000000 in
theorem rwrite_any (w : World) (x N b : Nat) (F : List Nat) (L : List Int) (rs : List Rw) (h : RefB w x F N L) (hr : RowsAt w F b rs) (hl : rs.length ≤ 4) :
    Calls Try.prog 14 #[.pointer (some ⟨x, 0, none⟩), .slice (some ⟨b, 0, none⟩) rs.length rs.length] w fun e w' =>
      ∃ n : Int, e = .returned (.int .i64 n) ∧ Hid (n = ((flatR rs).take (N - L.length)).length ∧ Left w w' x F N (L ++ (flatR rs).take (N - L.length))) := by
  obtain ⟨i0, hi, hz, hs, hby⟩ := info_parts u8_info3
  have HI := Lib.hid (And.intro hi (And.intro hz (And.intro hs hby)))
  obtain ⟨_, _, _, _, _, _, _, _, hLN, hN, _, _⟩ := h.at_
  have H0 := Lib.hid (show Left w w x F N L from ⟨F, h, Mods.refl _ _, fun k hk => .inl hk⟩)
  have HR := Lib.hid hr
  clear h hr hi hz hs hby
  go_enter Try.func14, Try.ntmps14
  go_wp2
  go_loopw [5, 6, 7] (fun n i kk wr => ∃ k : Nat, k ≤ rs.length ∧ i = .int .i64 k ∧ n = .int .i64 ((flatR (rs.take k)).take (N - L.length)).length ∧ Hid (Left w wr x F N (L ++ (flatR (rs.take k)).take (N - L.length)))) (fun _ i _ _ => rs.length - (intOf i).toNat)
  case atStart => exact ⟨0, by omega, rfl, by simp [flatR], Lib.hid (by simpa [flatR] using H0.out)⟩
  case round =>
    obtain ⟨k, hk, rfl, rfl, hd⟩ := hrel
    have hnl : ((flatR (rs.take k)).take (N - L.length)).length ≤ N := by rw [List.length_take]; omega
    by_cases hlt : k < rs.length
    · have HST := Lib.hid (lay_step N L (flatR (rs.take k)) rs[k].l hLN)
      have HSN := Lib.hid (flatR_snoc rs k hlt)
      obtain ⟨M, hM⟩ : ∃ M, M = flatR (rs.take k) := ⟨_, rfl⟩
      rw [← hM] at HST HSN hd hnl ⊢
      obtain ⟨L', hL'⟩ : ∃ L', L' = L ++ M.take (N - L.length) := ⟨_, rfl⟩
      rw [← hL'] at HST hd
      obtain ⟨F', hB, hMo, hNe⟩ := hd.out
      have hrk := HR.out.mods hMo
      have ck := hrk.cell k rs[k] (List.getElem?_eq_getElem hlt)
      have HAT := Lib.hid (hrk.at_ rs[k] (List.getElem_mem hlt))
      obtain ⟨A, cp, c1, c0, fr, h1, h2, _, h3, _, hF', hrf⟩ := hB.at_
      have HRF := Lib.hid hrf
      have HMO := Lib.hid hMo
      have HNE := Lib.hid hNe
      have HFF := Lib.hid hF'
      obtain ⟨r, hrr⟩ : ∃ r, r = rs[k] := ⟨_, rfl⟩
      rw [← hrr] at ck HAT HST HSN
      obtain ⟨y, hy⟩ : ∃ y, y = ((M.take (N - L.length)).length : Nat) := ⟨_, rfl⟩
      rw [← hy] at hnl HST ⊢
      obtain ⟨kk, hkk⟩ : ∃ kk, kk = fit N L' r.l := ⟨_, rfl⟩
      rw [← hkk] at HST
      have hk3 : kk ≤ r.l.length := by rw [hkk]; unfold fit; omega
      have hk4 : kk + L'.length ≤ N := by rw [hkk]; unfold fit; omega
      have hrc : r.l.length ≤ r.c := HAT.out.2.1
      have hrm : r.c ≤ maxLen := HAT.out.2.2
      unfold maxLen at hrm h2
      have hval : (if (N : Int) - (L'.length : Int) < (r.l.length : Int) then (N : Int) - (L'.length : Int) else (r.l.length : Int)) = (kk : Int) := by
        rw [hkk]; unfold fit; split <;> omega
      have HV := Lib.hid hval
      clear hB hMo hNe hd hM hL' hrr hy hkk hrf hF' hrk hval
      go_wp2
      have hv := HV.out
      go_quiet (fail)
      clear hv
      go_upto_region 6 with fail
      have HTK := Lib.hid (show kk = (r.l.take kk).length by rw [List.length_take]; omega)
      have HLK := Lib.hid (show L'.length + (r.l.take kk).length ≤ 1000000000 by rw [← HTK.out]; omega)
      have HPR := Lib.hid (show ∀ y ∈ r.l.take kk, 0 ≤ y ∧ y ≤ 255 from fun y hy => HAT.out.1.range y (List.mem_of_mem_take hy))
      have HPN := Lib.hid (show (L' ++ r.l.take kk).length ≤ N by rw [List.length_append, ← HTK.out]; omega)
      have HNE2 := Lib.hid (show ∀ k ∈ x :: (Value.slice A L'.length cp).ownBlock.toList, k ∈ F ∨ w.heap.size ≤ k by rw [← HFF.out]; exact HNE.out)
      obtain ⟨W, hW, c1', ck', fr', HW⟩ : ∃ W : World, W = wr.drewN nq ∧ W.cell? ⟨x, 1, none⟩ = some (.slice A L'.length cp) ∧ W.cell? ⟨b, k, none⟩ = some (.slice r.A r.l.length r.c) ∧ (∀ j, W.frozen? ⟨x, j, none⟩ = false) ∧ Hid (RefF W x N L' (.slice A L'.length cp) ∧ Mods F w W ∧ At W F r.A (r.l.take kk)) :=
        ⟨_, rfl, c1, ck, fr, Lib.hid ⟨HRF.out.drewN nq, HMO.out.drewN nq, (HAT.out.1.mods ((Mods.refl _ _).drewN nq)).take kk⟩⟩
      rw [← hW]
      clear hW c1 ck fr c0
      have b1 : (0 : Int) ≤ (kk : Int) := by omega
      have b2 : (kk : Int) ≤ (r.c : Int) := by omega
      go_region_law (refine step_append_bytes rfl (.tmp 34) (.tmp 40) 32 rfl 5 i0 (.int .u8 0) Try.underlying32 HI.out.1 HI.out.2.1 HI.out.2.2.1 HI.out.2.2.2 rfl (.slice A L'.length cp) L'.length L' rfl HW.out.1.own F r.A kk r.c (r.l.take kk) rfl HTK.out HW.out.2.2 HLK.out ?_; intro v8 w8 HO8 HM8; have HR8 := Lib.hid (RefF.row_after HM8.out.1 HW.out.1 rfl); have c8 := HR8.out.cell 1; have f8 := HR8.out.free; have HL8 := Lib.hid (left_step HM8.out HW.out.1 HW.out.2.1 rfl rfl rfl rfl HNE2.out HO8.out (by rw [List.length_append, ← HTK.out]) HPR.out HPN.out); obtain ⟨A8, c8', e8, hh1, hh2⟩ := own_slice HO8.out; subst e8; clear hh1 hh2)
      all_goals
        go_wp2
        go_roundw
        case rel =>
          refine ⟨k + 1, by omega, by go_num, ?_, Lib.hid ?_⟩
          · rw [HSN.out, ← HST.out.2]; go_num
          · rw [HSN.out, ← HST.out.1]; exact HL8.out
        case measure => simp [intOf]; omega
    · have HK := Lib.hid (show rs.take k = rs from List.take_of_length_le (by omega))
      go_wp2
      go_ret
      exact ⟨_, rfl, Lib.hid ⟨by rw [HK.out], by have := hd.out; rw [HK.out] at this; exact this⟩⟩
theorem rwrite_as (w : World) (x N b : Nat) (F : List Nat) (y : Int) (L L' : List Int) (rs : List Rw) (h : RefB w x F N L) (hr : RowsAt w F b rs) (hl : rs.length ≤ 4) (k : Nat) (hk : rs.length = k) (hL : L ++ (flatR rs).take (N - L.length) = L') (hy : y = (L'.length : Int) - (L.length : Int)) :
    Calls Try.prog 14 #[.pointer (some ⟨x, 0, none⟩), .slice (some ⟨b, 0, none⟩) k k] w fun e w' => e = .returned (.int .i64 y) ∧ Hid (Left w w' x F N L') := by
  subst hk hL
  refine (rwrite_any w x N b F L rs h hr hl).mono ?_
  rintro e w' ⟨n, rfl, hd⟩
  exact ⟨ret_i64 (by rw [hd.out.1, hy, List.length_append]; omega), Lib.hid hd.out.2⟩
theorem rroom_q (w : World) (x N : Nat) (F : List Nat) (L : List Int) (h : RefB w x F N L) :
    Calls Try.prog 26 #[.pointer (some ⟨x, 0, none⟩)] w fun e w' => e = .returned (.int .i64 ((N : Int) - (L.length : Int))) ∧ ∃ q, w' = w.drewN q := by
  obtain ⟨A, c, c1, c0, _, h1, h2, _, h3, h4, _, _⟩ := h.at_
  unfold maxLen at h2
  clear h
  go_enter Try.func26, Try.ntmps26
  go_wp2
  go_quiet (fail)
  go_wp2
  go_ret
  exact ⟨rfl, _, rfl⟩
theorem room_q (w : World) (g m N : Nat) (L : List Int) (h : RingA w g m N L) :
    Calls Try.prog 25 #[.pointer (some ⟨g, 0, none⟩)] w fun e w' => e = .returned (.int .i64 ((N : Int) - (L.length : Int))) ∧ ∃ q, w' = w.drewN q := by
  have hl := h.len.1
  refine (room_any w g m N L h).mono ?_
  rintro e w' ⟨rfl, hq⟩
  exact ⟨ret_i64 (by omega), hq⟩
end Go.Proofs.Ytfgllfgcgihkoaa
