/- What Put of the reference's slab answers where a new slot is wanted. -/
import Derived.Test.YtgfmjkbelciaaaaDoorRefG
namespace Go.Proofs.YtgfmjkbelciaaaaDoor
open Go.RowKit
set_option maxRecDepth 10000
set_option linter.unusedVariables false
set_option linter.unusedSimpArgs false

def foot (x : Nat) (uv gv vv : Value) : List Nat := x :: (uv.ownBlock.toList ++ (gv.ownBlock.toList ++ vv.ownBlock.toList))
theorem foot_u {x : Nat} {uv gv vv : Value} : ∀ k ∈ uv.ownBlock.toList, k ∈ foot x uv gv vv := fun k hk => List.mem_cons_of_mem _ (List.mem_append_left _ hk)
theorem foot_g {x : Nat} {uv gv vv : Value} : ∀ k ∈ gv.ownBlock.toList, k ∈ foot x uv gv vv := fun k hk => List.mem_cons_of_mem _ (List.mem_append_right _ (List.mem_append_left _ hk))
theorem foot_v {x : Nat} {uv gv vv : Value} : ∀ k ∈ vv.ownBlock.toList, k ∈ foot x uv gv vv := fun k hk => List.mem_cons_of_mem _ (List.mem_append_right _ (List.mem_append_right _ hk))
theorem own_slice_block {g n c : Nat} : ∀ k ∈ (Value.slice (some ⟨g, 0, none⟩) n c).ownBlock.toList, k = g := fun k hk => by simpa [Value.ownBlock, eq_comm] using hk
theorem grow_new {w0 wa w1 : World} {v : Value} {g1 H : Nat} (hm : Mods [] w0 wa) (hg : wa.grownBy w1 v.ownBlock) (ht : v.ownBlock = some g1 ∨ g1 = H) (hH : w0.heap.size ≤ H) : Mods v.ownBlock.toList w0 w1 ∧ (g1 ∈ v.ownBlock.toList ∨ w0.heap.size ≤ g1) := by
  refine ⟨(hm.more (fun k hk => by cases hk)).grown hg (fun k hk => .inl (by rw [hk]; simp)), ?_⟩
  rcases ht with h | h
  · left; rw [h]; simp
  · right; omega
structure Grown1 (w0 w1 : World) (x o : Nat) (s : Value) (uv gv vv uv' gv' vv' : Value) (lim cnt : Nat) (us : List Bool) (gs : List Nat) (vs : List Int) : Prop where
  row : Row w1 x 97 #[.int .i64 lim, uv, gv, vv, .int .i64 cnt]
  q : RefQ (w1.setCell ⟨x, o, none⟩ s) x uv' gv' vv' lim cnt us gs vs
  mods : Mods (foot x uv gv vv) w0 (w1.setCell ⟨x, o, none⟩ s)
  new : ∀ k ∈ foot x uv' gv' vv', k ∈ foot x uv gv vv ∨ w0.heap.size ≤ k
theorem grow1 {w0 w1 : World} {x g1 cap1 lim cnt : Nat} {uv gv vv : Value} {us : List Bool} {gs : List Nat} {vs : List Int} (h : RefQ w0 x uv gv vv lim cnt us gs vs)
    (hm : Mods uv.ownBlock.toList w0 w1) (hn : g1 ∈ uv.ownBlock.toList ∨ w0.heap.size ≤ g1)
    (hown : w1.ownsRow 0 4 1 (.slice (some ⟨g1, 0, none⟩) (us.length + 1) cap1) (us.length + 1) (bs us ++ [.bool false])) :
    Grown1 w0 w1 x 1 (.slice (some ⟨g1, 0, none⟩) (us.length + 1) cap1) uv gv vv (.slice (some ⟨g1, 0, none⟩) (us.length + 1) cap1) gv vv lim cnt (us ++ [false]) gs vs := by
  obtain ⟨h1, h2, h3, h4, h5⟩ := h
  have xu := own_ne_row h2 h1 (by decide)
  have xg := own_ne_row h3 h1 (by decide)
  have xv := own_ne_row h4 h1 (by decide)
  have row1 := h1.mods hm (fun hk => xu x hk rfl)
  have o3 := own_mods h3 hm (fun k hk => own_type_ne h3 h2 (by decide) k hk)
  have o4 := own_mods h4 hm (fun k hk => own_type_ne h4 h2 (by decide) k hk)
  have hx1 : g1 ≠ x := by
    rcases hn with h | h
    · exact xu g1 h
    · have := h1.lt; omega
  refine ⟨row1, ⟨row1.set 1 _, ?_, own_keep o3 fun k hk => heap_setCell_other _ _ _ _ (by exact xg k hk), own_keep o4 fun k hk => heap_setCell_other _ _ _ _ (by exact xv k hk), h5⟩, (hm.more (fun k hk => .inl (foot_u k hk))).setCell (by simp [foot]) _, ?_⟩
  · have e : bs (us ++ [false]) = bs us ++ [.bool false] := by simp [bs]
    rw [e, List.length_append]
    exact own_keep hown fun k hk => by rw [heap_setCell_other _ _ _ _ (by rw [own_slice_block k hk]; exact hx1)]
  · intro k hk
    simp only [foot, List.mem_cons, List.mem_append] at hk
    rcases hk with rfl | hk | hk | hk
    · left; simp [foot]
    · rw [own_slice_block k hk]; exact hn.imp (foot_u g1) id
    · exact .inl (foot_g k hk)
    · exact .inl (foot_v k hk)
theorem grow2 {w0 w1 : World} {x g1 cap1 lim cnt : Nat} {uv gv vv : Value} {us : List Bool} {gs : List Nat} {vs : List Int} (h : RefQ w0 x uv gv vv lim cnt us gs vs)
    (hm : Mods gv.ownBlock.toList w0 w1) (hn : g1 ∈ gv.ownBlock.toList ∨ w0.heap.size ≤ g1)
    (hown : w1.ownsRow 0 3 1 (.slice (some ⟨g1, 0, none⟩) (gs.length + 1) cap1) (gs.length + 1) (ints gs ++ [.int .i64 0])) :
    Grown1 w0 w1 x 2 (.slice (some ⟨g1, 0, none⟩) (gs.length + 1) cap1) uv gv vv uv (.slice (some ⟨g1, 0, none⟩) (gs.length + 1) cap1) vv lim cnt us (gs ++ [0]) vs := by
  obtain ⟨h1, h2, h3, h4, h5⟩ := h
  have xu := own_ne_row h2 h1 (by decide)
  have xg := own_ne_row h3 h1 (by decide)
  have xv := own_ne_row h4 h1 (by decide)
  have row1 := h1.mods hm (fun hk => xg x hk rfl)
  have o2 := own_mods h2 hm (fun k hk => own_type_ne h2 h3 (by decide) k hk)
  have o4 := own_mods h4 hm (fun k hk hk' => h5 k hk' hk)
  have hx1 : g1 ≠ x := by
    rcases hn with h | h
    · exact xg g1 h
    · have := h1.lt; omega
  refine ⟨row1, ⟨row1.set 2 _, own_keep o2 fun k hk => heap_setCell_other _ _ _ _ (by exact xu k hk), ?_, own_keep o4 fun k hk => heap_setCell_other _ _ _ _ (by exact xv k hk), ?_⟩, (hm.more (fun k hk => .inl (foot_g k hk))).setCell (by simp [foot]) _, ?_⟩
  · have e : ints (gs ++ [0]) = ints gs ++ [.int .i64 0] := by simp [ints]
    rw [e, List.length_append]
    exact own_keep hown fun k hk => by rw [heap_setCell_other _ _ _ _ (by rw [own_slice_block k hk]; exact hx1)]
  · intro k hk
    rw [own_slice_block k hk]
    intro hv
    rcases hn with h | h
    · exact h5 g1 h hv
    · have := own_lt h4 g1 hv; omega
  · intro k hk
    simp only [foot, List.mem_cons, List.mem_append] at hk
    rcases hk with rfl | hk | hk | hk
    · left; simp [foot]
    · exact .inl (foot_u k hk)
    · rw [own_slice_block k hk]; exact hn.imp (foot_g g1) id
    · exact .inl (foot_v k hk)
theorem grow3 {w0 w1 : World} {x g1 cap1 lim cnt : Nat} {uv gv vv : Value} {us : List Bool} {gs : List Nat} {vs : List Int} (h : RefQ w0 x uv gv vv lim cnt us gs vs)
    (hm : Mods vv.ownBlock.toList w0 w1) (hn : g1 ∈ vv.ownBlock.toList ∨ w0.heap.size ≤ g1)
    (hown : w1.ownsRow 0 3 1 (.slice (some ⟨g1, 0, none⟩) (vs.length + 1) cap1) (vs.length + 1) (zs vs ++ [.int .i64 0])) :
    Grown1 w0 w1 x 3 (.slice (some ⟨g1, 0, none⟩) (vs.length + 1) cap1) uv gv vv uv gv (.slice (some ⟨g1, 0, none⟩) (vs.length + 1) cap1) lim cnt us gs (vs ++ [0]) := by
  obtain ⟨h1, h2, h3, h4, h5⟩ := h
  have xu := own_ne_row h2 h1 (by decide)
  have xg := own_ne_row h3 h1 (by decide)
  have xv := own_ne_row h4 h1 (by decide)
  have row1 := h1.mods hm (fun hk => xv x hk rfl)
  have o2 := own_mods h2 hm (fun k hk => own_type_ne h2 h4 (by decide) k hk)
  have o3 := own_mods h3 hm h5
  have hx1 : g1 ≠ x := by
    rcases hn with h | h
    · exact xv g1 h
    · have := h1.lt; omega
  refine ⟨row1, ⟨row1.set 3 _, own_keep o2 fun k hk => heap_setCell_other _ _ _ _ (by exact xu k hk), own_keep o3 fun k hk => heap_setCell_other _ _ _ _ (by exact xg k hk), ?_, ?_⟩, (hm.more (fun k hk => .inl (foot_v k hk))).setCell (by simp [foot]) _, ?_⟩
  · have e : zs (vs ++ [0]) = zs vs ++ [.int .i64 0] := by simp [zs]
    rw [e, List.length_append]
    exact own_keep hown fun k hk => by rw [heap_setCell_other _ _ _ _ (by rw [own_slice_block k hk]; exact hx1)]
  · intro k hk hv
    rw [own_slice_block k hv] at hk
    rcases hn with h | h
    · exact h5 g1 hk h
    · have := own_lt h3 g1 hk; omega
  · intro k hk
    simp only [foot, List.mem_cons, List.mem_append] at hk
    rcases hk with rfl | hk | hk | hk
    · left; simp [foot]
    · exact .inl (foot_u k hk)
    · exact .inl (foot_g k hk)
    · rw [own_slice_block k hk]; exact hn.imp (foot_v g1) id
theorem grown_end {w W : World} {x : Nat} {s1 s2 s3 : Value} {S : Slb} {K : Nat} (v : Int) (hq : RefQ W x s1 s2 s3 S.lim S.cnt (S.us ++ [false]) (S.gs ++ [0]) (S.vs ++ [0])) (hok : S.Ok K) (hl : S.us.length < S.lim) (hn : S.least = S.us.length)
    (hr : w.heap.size ∉ foot x s1 s2 s3) (hrow : Row W w.heap.size 32 #[.int .i64 0, .int .i64 0]) :
    ∃ ub gb vb cu cg cv z, foot x s1 s2 s3 = [x, ub, gb, vb] ∧ RefEnd w W x ub gb vb S.us.length (S.us.length + 1) (S.gs.length + 1) (S.vs.length + 1) cu cg cv 0 z v S.lim S.cnt (S.put v) K := by
  have hgl := hok.gl
  have l1 : S.grow.us.length = S.us.length + 1 := by simp [Slb.grow]
  have l2 : S.grow.gs.length = S.gs.length + 1 := by simp [Slb.grow]
  have l3 : S.grow.vs.length = S.vs.length + 1 := by simp [Slb.grow]
  have u1 : S.grow.us.getD S.us.length false = false := by simp only [Slb.grow, getD_snoc_bool]; simp
  have g1 : S.grow.gs.getD S.us.length 0 = 0 := by simp only [Slb.grow, getD_snoc_nat]; rw [if_pos hgl.symm]
  have c1 : S.grow.cnt = S.cnt := S.grow_cnt
  have hB : SlabB W x (foot x s1 s2 s3) S.grow K := ⟨s1, s2, s3, rfl, by rw [c1]; exact hq, Slb.grow_ok hok hl⟩
  obtain ⟨ub, gb, vb, cu, cg, cv, z, hF, ht⟩ := slabB_tail hB (i := S.us.length) (by omega) u1 hr
  rw [hF] at hB
  have hf := slabB_fill v hB (i := S.us.length) (by omega) u1 ht.a1 ht.a2 ht.a3 (gn := ((0 : Nat) : Int) + 1) (by rw [g1]) (m := (S.cnt : Int) + 1) (by rw [c1])
  rw [l1, l2, l3, c1, g1] at ht
  exact ⟨ub, gb, vb, cu, cg, cv, z, hF, ht, hrow, by rw [Slb.put_grow hok hn v, hn]; exact hf.1, hf.2⟩
theorem bool_info : (Tryd.prog.info? 4).map (fun i => (i.zero, i.size, i.bytes)) = some (some (.bool false), 1, 1) := by kernel_rfl
theorem int_info : (Tryd.prog.info? 3).map (fun i => (i.zero, i.size, i.bytes)) = some (some (.int .i64 0), 1, 8) := by kernel_rfl
set_option maxHeartbeats 2000000 in
theorem rput_grow (w : World) (g : Nat) (v : Int) (F : List Nat) (S : Slb) (K : Nat) (h : SlabB w g F S K) (hc : S.cnt < S.lim) (hK : K ≤ 4000000000000) (hn : S.least = S.us.length) :
    Calls Tryd.prog 34 #[.pointer (some ⟨g, 0, none⟩), .int .i64 v] w fun e w' => e = .returned (.tuple #[.agg #[.int .i64 S.least, .int .i64 S.gen], .int .i64 0]) ∧ Hid (∃ F', SlabB w' g F' (S.put v) (K + 1) ∧ Mods F w w' ∧ ∀ k ∈ F', k ∈ F ∨ w.heap.size ≤ k) := by
  obtain ⟨ib, hb0, hb1, hb2, hb3⟩ := info_parts bool_info
  obtain ⟨ii, hi0, hi1, hi2, hi3⟩ := info_parts int_info
  have HF := Lib.hid (fun k hk => slabB_lt h k hk)
  have HA := Lib.hid (slabB_keep (w' := w.alloc (.cells #[.int .i64 0, .int .i64 0] 32)) h fun k hk => Below.heap_alloc w _ k (slabB_lt h k hk))
  obtain ⟨uv, gv, vv, hF, hq, hok⟩ := HA.out
  obtain ⟨U, G, V, cu, cg, cv, rfl, rfl, rfl, hat⟩ := refQ_at hq 0
  obtain ⟨U', cu', c1, l1, l2, hx, c0, c4, _⟩ := rslab_loop_facts HA.out
  have e0 := hat.a1
  rw [c1] at e0
  injection e0 with e0
  injection e0 with e0 _ e1
  subst e0
  subst e1
  have HQ := Lib.hid hq
  have HOK := Lib.hid hok
  have HFF := Lib.hid hF
  have HN := Lib.hid hn
  have hlt := S.least_lt hok hc
  have hh := hok.hi
  have hl := hok.len
  have hgl := hok.gl
  have hvl := hok.vl
  have HX := Lib.hid (show ∀ k, k < S.us.length → ∃ ub, U' = some ⟨ub, 0, none⟩ ∧ (w.alloc (.cells #[.int .i64 0, .int .i64 0] 32)).cell? ⟨ub, k, none⟩ = some (.bool true) from fun k hk => by
    obtain ⟨ub', e, h⟩ := hx k hk
    exact ⟨ub', e, by rw [h, S.below_least k (by omega)]⟩)
  have HP := Lib.hid (S.put_grow hok hn v)
  have HG := Lib.hid (show S.gen = 1 by unfold Slb.gen; rw [hn, List.getD_eq_getElem?_getD, List.getElem?_eq_none (by rw [hok.gl]; omega)]; rfl)
  have hd : decide (S.lim ≤ S.cnt) = false := by simpa using hc
  have hcl := S.cnt_le
  rw [hn] at hlt HP ⊢
  have b1 := hat.a1
  have b2 := hat.a2
  have b3 := hat.a3
  have b4 := hat.a4
  have b5 := hat.f
  have hgl1 : S.gs.length ≤ S.us.length := by omega
  have hgl2 : S.us.length ≤ S.gs.length := by omega
  have hvl1 : S.vs.length ≤ S.us.length := by omega
  have hvl2 : S.us.length ≤ S.vs.length := by omega
  clear h hc hok hx hq hF hat hn hgl hvl
  go_enter Tryd.func34, Tryd.ntmps34
  go_wp2
  go_quiet (fail)
  go_wp2
  go_loop [6] (fun j => ∃ k : Nat, k ≤ S.us.length ∧ j = .int .i64 k) (fun j => S.us.length - (intOf j).toNat)
  case atStart => exact ⟨0, by omega, rfl⟩
  case round =>
    obtain ⟨k, hk, rfl⟩ := hrel
    by_cases hlt2 : k < S.us.length
    · obtain ⟨ub, rfl, hk2⟩ := HX.out k hlt2
      go_wp2
      go_round
      case rel => exact ⟨k + 1, by omega, by go_num⟩
      case measure => simp [intOf]; omega
    · have e : k = S.us.length := by omega
      subst e
      clear hlt2 hk
      go_upto_region 10 with (first
        | (at_builtin; refine wpList_append_lies _ rfl (.tmp 46) (.tmp 47) _ rfl 0 4 ib _ 1 1 Tryd.underlying95 hb0 hb1 hb2 hb3 rfl (by omega) (.slice U' S.us.length cu') S.us.length (bs S.us) rfl (own_mods HQ.out.2.1 (((Mods.refl [] (w.alloc _)).drewN nq).alloc _) (by simp)) ⟨w.heap.size + 1, 0, none⟩ 1 1 [.bool false] rfl rfl (World.news_of_block (new_at (by simp))) (by simp [Value.oneCell']) (by omega) (by unfold maxLen; omega) (by omega) (Nat.zero_le _) (w.heap.size + 2) (by simp) ?_; intro g1 cap1 w1 hown1 hg1 hat1 hlt1; obtain ⟨hm1, hn1⟩ := grow_new (((Mods.refl [] (w.alloc _)).drewN nq).alloc _) hg1 hat1 (by simp); have M1 := Lib.hid (grow1 HQ.out hm1 hn1 hown1); clear hown1 hg1 hat1 hm1 hn1; have r11 := M1.out.row.cell 1; have r12 := M1.out.row.cell 2; have r13 := M1.out.row.cell 3; have r14 := M1.out.row.cell 4; have r1f := M1.out.row.free; have z1 : w.heap.size + 1 ≤ w1.heap.size := by (have := M1.out.mods.size; simpa [World.setCell] using this))
        | (at_builtin; refine wpList_append_lies _ rfl (.tmp 55) (.tmp 56) _ rfl 0 3 ii _ 1 8 Tryd.underlying49 hi0 hi1 hi2 hi3 rfl (by omega) (.slice G S.gs.length cg) S.gs.length (ints S.gs) rfl (own_mods M1.out.q.2.2.1 ((Mods.refl [] (w1.setCell _ _)).alloc _) (by simp)) ⟨w1.heap.size, 0, none⟩ 1 1 [.int .i64 0] rfl rfl (World.news_of_block (new_at (by simp))) (by simp [Value.oneCell']) (by omega) (by unfold maxLen; omega) (by omega) (Nat.zero_le _) (w1.heap.size + 1) (by simp) ?_; intro g2 cap2 w2 hown1 hg1 hat1 hlt2; obtain ⟨hm1, hn1⟩ := grow_new ((Mods.refl [] (w1.setCell _ _)).alloc _) hg1 hat1 (by simp [World.setCell]); have M2 := Lib.hid (grow2 M1.out.q hm1 hn1 hown1); clear hown1 hg1 hat1 hm1 hn1; have r21 := M2.out.row.cell 1; have r22 := M2.out.row.cell 2; have r23 := M2.out.row.cell 3; have r24 := M2.out.row.cell 4; have r2f := M2.out.row.free)
        | (at_builtin; refine wpList_append_lies _ rfl (.tmp 64) (.tmp 65) _ rfl 0 3 ii _ 1 8 Tryd.underlying49 hi0 hi1 hi2 hi3 rfl (by omega) (.slice V S.vs.length cv) S.vs.length (zs S.vs) rfl (own_mods M2.out.q.2.2.2.1 ((Mods.refl [] (w2.setCell _ _)).alloc _) (by simp)) ⟨w2.heap.size, 0, none⟩ 1 1 [.int .i64 0] rfl rfl (World.news_of_block (new_at (by simp))) (by simp [Value.oneCell']) (by omega) (by unfold maxLen; omega) (by omega) (Nat.zero_le _) (w2.heap.size + 1) (by simp) ?_; intro g3 cap3 w3 hown1 hg1 hat1 hlt3; obtain ⟨hm1, hn1⟩ := grow_new ((Mods.refl [] (w2.setCell _ _)).alloc _) hg1 hat1 (by simp [World.setCell]); have M3 := Lib.hid (grow3 M2.out.q hm1 hn1 hown1); clear hown1 hg1 hat1 hm1 hn1; have r31 := M3.out.row.cell 1; have r32 := M3.out.row.cell 2; have r33 := M3.out.row.cell 3; have r34 := M3.out.row.cell 4; have r3f := M3.out.row.free))
      obtain ⟨W, ub, gb, vb, cu, cg, cv, z, F', hW, hE, hM, hN, hFe⟩ : ∃ (W : World) (ub gb vb cu cg cv : Nat) (z : Int) (F' : List Nat), W = w3.setCell ⟨g, 3, none⟩ (.slice (some ⟨g3, 0, none⟩) (S.vs.length + 1) cap3) ∧
          Hid (RefEnd w W g ub gb vb S.us.length (S.us.length + 1) (S.gs.length + 1) (S.vs.length + 1) cu cg cv 0 z v S.lim S.cnt (S.put v) K) ∧ Hid (Mods F w W) ∧ Hid (∀ k ∈ F', k ∈ F ∨ w.heap.size ≤ k) ∧ Hid (F' = [g, ub, gb, vb]) := by
        have m1 := M1.out.mods
        have m2 := M2.out.mods
        have m3 := M3.out.mods
        have n2 : ∀ k ∈ foot g (.slice (some ⟨g1, 0, none⟩) (S.us.length + 1) cap1) (.slice (some ⟨g2, 0, none⟩) (S.gs.length + 1) cap2) (.slice V S.vs.length cv), k ∈ foot g (.slice U' S.us.length cu') (.slice G S.gs.length cg) (.slice V S.vs.length cv) ∨ (w.alloc (.cells #[.int .i64 0, .int .i64 0] 32)).heap.size ≤ k := fun k hk => by
          rcases M2.out.new k hk with h | h
          · exact M1.out.new k h
          · exact .inr (Nat.le_trans m1.size h)
        have m12 := m1.trans m2 M1.out.new
        have n3 := fun k hk => show k ∈ foot g (.slice U' S.us.length cu') (.slice G S.gs.length cg) (.slice V S.vs.length cv) ∨ (w.alloc (.cells #[.int .i64 0, .int .i64 0] 32)).heap.size ≤ k from by
          rcases M3.out.new k hk with h | h
          · exact n2 k h
          · exact .inr (Nat.le_trans m12.size h)
        have m123 := m12.trans m3 n2
        have e : foot g (.slice U' S.us.length cu') (.slice G S.gs.length cg) (.slice V S.vs.length cv) = F := HFF.out.symm
        rw [e] at m123 n3
        have hz : (w.alloc (.cells #[.int .i64 0, .int .i64 0] 32)).heap.size = w.heap.size + 1 := by simp
        rw [hz] at n3
        have hrF : w.heap.size ∉ F := fun hk => by have := HF.out _ hk; omega
        obtain ⟨ub, gb, vb, cu, cg, cv, z, hF, hE⟩ := grown_end v M3.out.q HOK.out hlt HN.out (fun hk => by
          rcases n3 _ hk with h | h
          · exact hrF h
          · omega) ((Row.new w _ _).mods m123 hrF)
        exact ⟨_, ub, gb, vb, cu, cg, cv, z, _, rfl, Lib.hid hE, Lib.hid (((Mods.refl F w).alloc _).trans m123 (fun k hk => .inl hk)), Lib.hid (fun k hk => by
          rcases n3 k hk with h | h
          · exact .inl h
          · exact .inr (by omega)), Lib.hid hF⟩
      rw [← hW]
      clear hW b1 b2 b3 b4 b5 c0 c1 c4 r11 r12 r13 r14 r1f r21 r22 r23 r24 r2f r31 r32 r33 r34 r3f M1 M2 M3 hlt1 hlt2 hlt3
      have a1 := hE.out.tail.a1
      have a2 := hE.out.tail.a2
      have a3 := hE.out.tail.a3
      have a4 := hE.out.tail.a4
      have d1 := hE.out.tail.d1
      have d2 : W.cell? ⟨gb, S.us.length, none⟩ = some (.int .i64 0) := hE.out.tail.d2
      have d3 := hE.out.tail.d3
      have f0 := hE.out.tail.f0
      have f1 := hE.out.tail.f1
      have f2 := hE.out.tail.f2
      have f3 := hE.out.tail.f3
      have n1 := hE.out.tail.n1
      have n2 := hE.out.tail.n2
      have n3 := hE.out.tail.n3
      have n4 := hE.out.tail.n4
      have n5 := hE.out.tail.n5
      have n6 := hE.out.tail.n6
      have t1 := hE.out.tail.r1
      have t2 := hE.out.tail.r2
      have t3 := hE.out.tail.r3
      have t4 := hE.out.tail.r4
      have s0 : W.cell? ⟨w.heap.size, 0, none⟩ = some (.int .i64 0) := hE.out.row.cell 0
      have s1 : W.cell? ⟨w.heap.size, 1, none⟩ = some (.int .i64 0) := hE.out.row.cell 1
      have s2 := hE.out.row.free
      go_wp2
      exact ret_hand Tryd.results34 (hE.out.rows _ _) rfl rfl rfl ⟨by rw [HG.out]; rfl, Lib.hid ⟨F', by rw [hFe.out]; exact hE.out.fin _ _, ((hM.out.trans hE.out.mods (by rw [← hFe.out]; exact hN.out)).setCell (by simp) _).setCell (by simp) _, hN.out⟩⟩
end Go.Proofs.YtgfmjkbelciaaaaDoor
