/- What Add of the program's wheel answers: the walk. -/
import Derived.Test.YtgfmjkbelciaaaaDoorWhR
import Derived.Deep.AppendLies
namespace Go.Proofs.YtgfmjkbelciaaaaDoor
open Go.RowKit
set_option maxRecDepth 10000
set_option linter.unusedVariables false
set_option linter.unusedSimpArgs false
set_option linter.unnecessarySimpa false

theorem slot_cell {w : World} {g hg B off n c : Nat} {hF : List Nat} {ps : List (Option Nat)} {Q : Nat → List Nat} {S : Slb} {K now : Nat} {M : List Tm} (h : WheelM w g hg (.slice (some ⟨B, off, none⟩) n c) hF ps Q S K now M) {m : Tm} (hm : m ∈ M) : w.cell? ⟨B, off + m.s, none⟩ = some (.pointer (some ⟨m.b, 0, none⟩)) := by
  obtain ⟨tb, tof, n', cap, htv, q1, q2, q3, q4, q5, ct, _⟩ := h.slot hm
  injection htv with e1 _ _
  injection e1 with e1
  injection e1 with e1 e2 _
  subst e1 e2
  exact ct
theorem hand_far {w : World} {g hg k : Nat} {tv : Value} {hF : List Nat} {ps : List (Option Nat)} {Q : Nat → List Nat} {S : Slb} {K now : Nat} {M : List Tm} {cs : Array Value} (h : WheelM w g hg tv hF ps Q S K now M) (r : Row w k 32 cs) : k ∉ blks g tv hF M := fun hk => by
  simp only [blks, List.mem_cons, List.mem_append] at hk
  rcases hk with e | hk | hk | hk
  · obtain ⟨c, rg⟩ := h.base.row
    exact Row.type_ne r rg (by decide) e
  · obtain ⟨t, c, r2, ht⟩ := slabA_kinds h.slab k hk
    exact Row.type_ne r r2 (by rcases ht with rfl | rfl <;> decide) rfl
  · exact h.own.ne_row r (by decide) k hk rfl
  · obtain ⟨m, hm, e⟩ := List.mem_map.1 hk
    obtain ⟨x, y, r2⟩ := h.node m hm
    exact Row.type_ne r r2 (by decide) e.symm
theorem Added.ret {w W : World} {g r K now a : Nat} {F : List Nat} {S : Slb} {v : Int} {M : List Tm} {cs : Array Value} (h : Added w W g F S K now a v M) (rr : Row W r 32 cs) (hr : w.heap.size ≤ r) (x y : Value) :
    Added w ((W.setCell ⟨r, 0, none⟩ x).setCell ⟨r, 1, none⟩ y) g F S K now a v M := by
  obtain ⟨F', b, hA, hm, hs⟩ := h
  have hn : r ∉ F' := by
    obtain ⟨hg, tv, hF, ps, rfl, h⟩ := hA
    exact hand_far h rr
  refine ⟨F', b, hA.keep fun k hk => ?_, (hm.setCell (.inr (by exact hr)) _).setCell (.inr (by exact hr)) _, hs⟩
  have hkr : k ≠ r := fun e => hn (e ▸ hk)
  rw [heap_setCell_other _ _ _ _ (by exact hkr), heap_setCell_other _ _ _ _ (by exact hkr)]
set_option maxHeartbeats 2000000 in
theorem add_grow (w : World) (g a : Nat) (v : Int) (F : List Nat) (S : Slb) (K now : Nat) (M : List Tm) (h : WheelA w g F S K now M) (hT : TzTab w) (ha : a ≤ 1099511627776) (hc : S.cnt < S.lim) (hK : K ≤ 4000000000000) (hn : S.least = S.us.length) :
    Calls Tryd.prog 14 #[ptr g, .int .i64 (a : Int), .int .i64 v] w fun e w' => e = .returned (.tuple #[.agg #[.int .i64 (S.least : Int), .int .i64 (S.gen : Int)], .int .i64 0]) ∧ Hid (Added w w' g F S K now a v M) := by
  have hok := h.slabOk
  obtain ⟨hg, tv, hF, ps, rfl, h⟩ := h
  obtain ⟨i0, hi0, hz0, hz1, hz2⟩ := info_parts tim_info
  have HI := Lib.hid (And.intro hi0 (And.intro hz0 (And.intro hz1 hz2)))
  have he := eql_whl
  have HLEN := Lib.hid (show (ps.map optr).length + 1 ≤ 1000000000 from by rw [List.length_map, h.plen]; have := hok.len; have := hok.hi; omega)
  obtain ⟨k0, k1, k2, f1⟩ := h.base.cells
  obtain ⟨A, n, cap, rfl, hnp, hcap, hmx⟩ := h.own.slice'
  have hnl : n = S.least := by rw [hnp, List.length_map, h.plen, hn]
  have k1a := cell_alloc k1 (.cells #[.int .i64 0, .int .i64 0] 32)
  have HT := Lib.hid (isTime_any (a : Int) (w.alloc (.cells #[.int .i64 0, .int .i64 0] 32)))
  rw [is_time ha] at HT
  have hs0 := slabA_keep (w' := w.alloc (.cells #[.int .i64 0, .int .i64 0] 32)) h.slab fun k hk => Below.heap_alloc w _ k (slabA_lt h.slab k hk)
  have HP := Lib.hid (put_any (w.alloc (.cells #[.int .i64 0, .int .i64 0] 32)) hg v hF S K hs0 (hT.keep (Below.heap_alloc w _ _ hT.lt)) hc hK)
  have HR0 := Lib.hid (h.raw.keep (w' := w.alloc (.cells #[.int .i64 0, .int .i64 0] 32)) fun k hk => Below.heap_alloc w _ k (h.lt k hk))
  have HW := Lib.hid h
  have HOK := Lib.hid hok
  have HLS := Lib.hid hn
  have hll := S.least_lt hok hc
  have hhi := hok.hi
  have HNL := Lib.hid hnl
  clear h hok hc hn hs0 hT hnp
  obtain ⟨ls, hls⟩ : ∃ x, S.least = x := ⟨_, rfl⟩
  obtain ⟨ge, hge⟩ : ∃ x, S.gen = x := ⟨_, rfl⟩
  rw [hls, hge] at HP ⊢
  rw [hls] at hll hnl
  have HLG := Lib.hid (And.intro hls hge)
  clear hls hge
  subst hnl
  go_enter Tryd.func14, Tryd.ntmps14
  go_wp2_with fail
  refine HT.out.mono ?_
  rintro e w1 ⟨rfl, rfl⟩
  go_wp2_with fail
  refine HP.out.mono ?_
  rintro e w1 ⟨rfl, hp⟩
  have HR1 := Lib.hid (show ∃ hF', Raw w1 g hg (.slice A n cap) hF' ps (ql now M) (S.put v) (K + 1) now M ∧ Mods hF (w.alloc (.cells #[.int .i64 0, .int .i64 0] 32)) w1 ∧ ∀ k ∈ hF', k ∈ hF ∨ (w.alloc (.cells #[.int .i64 0, .int .i64 0] 32)).heap.size ≤ k from by
    obtain ⟨hF', q1, q2, q3⟩ := hp.out
    exact ⟨hF', HR0.out.slabbed q1 q2, q2, q3⟩)
  clear hp
  obtain ⟨hF', R1, m1, s1⟩ := HR1.out
  have k2b := R1.base.cells.2.2.1
  have k2c := fun o => cell_alloc k2b o
  have HR := Lib.hid R1
  have HM := Lib.hid m1
  have HS1 := Lib.hid s1
  clear R1 m1 s1 HR1
  have hd : ((n : Int) == (n : Int)) = true := by simp
  go_wp2
  go_region
  all_goals
    obtain ⟨W, hW, RH, RR, RW, MW⟩ : ∃ W : World, W = (w1.alloc (.cells #[.int .i64 (n : Int), .int .i64 (ge : Int)] 32)).drew ∧ Hid (Row W w1.heap.size 32 #[.int .i64 (n : Int), .int .i64 (ge : Int)]) ∧ Hid (Row W w.heap.size 32 #[.int .i64 0, .int .i64 0]) ∧
        Hid (Raw W g hg (.slice A n cap) hF' ps (ql now M) (S.put v) (K + 1) now M) ∧ Hid (Mods hF w W ∧ w1.heap.size < W.heap.size ∧ w.heap.size < w1.heap.size) :=
      ⟨_, rfl, Lib.hid (Row.new w1 _ _), Lib.hid (((Row.new w _ _).mods HM.out (fun hk => by have := slabA_lt HW.out.slab _ hk; omega)).alloc _), Lib.hid (HR.out.keep fun k hk => Below.heap_alloc w1 _ k (HR.out.lt k hk)),
        Lib.hid ⟨((((Mods.refl hF w).alloc _).trans HM.out (fun k hk => .inl hk)).alloc _).drew, by simp [World.drew], by have := HM.out.size; simp at this; omega⟩⟩
    rw [← hW]
    clear hW k2b k2c
    have c2W := RW.out.base.cells.2.2.1
    go_wp2_with (at_builtin; refine wpList_append_own2 _ rfl (.tmp 43) (.tmp 44) 68 rfl 69 i0 (.pointer none) Tryd.underlying68 HI.out.1 HI.out.2.1 HI.out.2.2.1 (by rw [HI.out.2.2.2]; decide) rfl (.slice A n cap) (ps.map optr) rfl (RW.out.own.alloc _) (some ⟨W.heap.size, 0, none⟩) 1 1 [.pointer none] rfl rfl (Src.one _ _ _) (by simp [Value.oneCell']) HLEN.out ?_; intro v2 w3 HO2 HM2; obtain ⟨A2, n2, cp2, rfl, -, -, -⟩ := HO2.out.slice'; have HG := Lib.hid (grow_row RW.out HO2.out ((((Mods.refl _ W).alloc _)).trans HM2.out.1 (fun k hk => .inl hk))); have c2g := HG.out.1; have f2g := HG.out.2.1 2)
    obtain ⟨W4, hW4, HSL⟩ : ∃ W4 : World, W4 = w3.setCell ⟨g, 2, none⟩ (.slice A2 n2 cp2) ∧ Hid (∃ B off, A2 = some ⟨B, off, none⟩ ∧ Slot w W4 w.heap.size w1.heap.size g hg B off n2 cp2 n ge (blks g (.slice A n cap) hF M) hF' ps (ps ++ [none]) S K now v M) :=
      ⟨_, rfl, Lib.hid (slot_grow RW.out HLS.out HW.out.plen HLG.out.1 HO2.out ((((Mods.refl _ W).alloc _)).trans HM2.out.1 (fun k hk => .inl hk)) (by rcases HM2.out.2 with h | h; exact .inl h; exact .inr ⟨_, h, by simp⟩) RH.out RR.out (MW.out.1.more fun k hk => .inl (by simp [blks, hk])) (fun k hk => by
        simp only [blks, List.mem_cons, List.mem_append] at hk ⊢
        rcases hk with h1 | h1 | h1 | h1
        · exact .inl (.inl h1)
        · rcases HS1.out k h1 with h2 | h2
          · exact .inl (.inr (.inl h2))
          · right; simp at h2; omega
        · exact .inl (.inr (.inr (.inl h1)))
        · exact .inl (.inr (.inr (.inr h1)))) rfl MW.out.2.2)⟩
    rw [← hW4]
    clear hW4 HG c2g f2g c2W HO2 HM2
    obtain ⟨B, off, rfl, hsl⟩ := HSL.out
    have HS4 := Lib.hid hsl
    obtain ⟨c4, h40, h41, ⟨ux, hux⟩, fB⟩ := hsl.cells
    have q1 : (n : Int) < (n2 : Int) := by have := hsl.lt; omega
    have c4a := fun o => cell_alloc c4 o
    have h40a := fun o => cell_alloc h40 o
    have h41a := fun o => cell_alloc h41 o
    have huxa := fun o => cell_alloc hux o
    have fBa : ∀ o i, (W4.alloc o).frozen? ⟨B, i, none⟩ = false := fun o i => (World.frozen?_of_block (w := W4) (Below.heap_alloc W4 o B (World.block_lt_of_cell? W4 _ hux))).trans (fB i)
    clear hsl HSL
    go_wp2
    go_region
  all_goals
    obtain ⟨W5, hW5, HM5⟩ : ∃ W5 : World, W5 = ((W4.alloc (.cells #[.int .i64 (n : Int), .int .i64 (ge : Int), .int .i64 (a : Int), .pointer none, .pointer none] 79)).setCell ⟨B, off + n, none⟩ (.pointer (some ⟨W4.heap.size, 0, none⟩))).drew ∧
        Hid (WheelM W5 g hg (.slice (some ⟨B, off, none⟩) n2 cp2) hF' (if S.least = S.us.length then ps ++ [some W4.heap.size] else ps.set S.least (some W4.heap.size)) (ql now M) (S.put v) (K + 1) now (M ++ [⟨W4.heap.size, S.least, S.gen, a⟩]) ∧
      W5.cell? ⟨B, off + n, none⟩ = some (.pointer (some ⟨W4.heap.size, 0, none⟩)) ∧ W5.cell? ⟨g, 2, none⟩ = some (.slice (some ⟨B, off, none⟩) n2 cp2) ∧ Row W5 w1.heap.size 32 #[.int .i64 (n : Int), .int .i64 (ge : Int)] ∧ Row W5 w.heap.size 32 #[.int .i64 0, .int .i64 0] ∧ Mods (blks g (.slice A n cap) hF M) w W5 ∧ W4.heap.size < W5.heap.size) :=
      ⟨_, rfl, Lib.hid (Slot.made (W5 := ((W4.alloc (.cells #[.int .i64 (n : Int), .int .i64 (ge : Int), .int .i64 (a : Int), .pointer none, .pointer none] 79)).setCell ⟨B, off + n, none⟩ (.pointer (some ⟨W4.heap.size, 0, none⟩))).drew) HS4.out HW.out rfl HOK.out ha HLG.out.1 HLG.out.2 rfl rfl rfl rfl)⟩
    rw [← hW5]
    clear hW5 c4 h40 h41 hux fB c4a h40a h41a huxa fBa
    have p1 := HM5.out.2.1
    have p2 := HM5.out.2.2.1
    have p3 := HM5.out.2.2.2.1.cell 0
    have p4 := HM5.out.2.2.2.1.cell 1
    have HLY := Lib.hid (lay_any W5.drew g hg (.slice (some ⟨B, off, none⟩) n2 cp2) hF' _ (ql now M) (S.put v) (K + 1) now _ ⟨W4.heap.size, S.least, S.gen, a⟩ (HM5.out.1.keep fun _ _ => rfl) (by simp) (fun q hq hk => by
      obtain ⟨m, hm, _, e⟩ := ql_mem.1 hk
      have := HS4.out.raw.lt W4.heap.size (by simp only [blks, List.mem_cons, List.mem_append]; exact .inr (.inr (.inr ((show m.b = W4.heap.size from e) ▸ List.mem_map_of_mem hm))))
      omega))
    obtain ⟨tb, htb⟩ : ∃ x, W4.heap.size = x := ⟨_, rfl⟩
    have hpl := plc_lt now a
    have HTB := Lib.hid htb
    rw [htb] at p1 HLY HM5
    have HAF := Lib.hid (show ∀ W6, WheelM W6 g hg (.slice (some ⟨B, off, none⟩) n2 cp2) hF' (if S.least = S.us.length then ps ++ [some tb] else ps.set S.least (some tb)) (upd (ql now M) (plc now a) (ql now M (plc now a) ++ [tb])) (S.put v) (K + 1) now (M ++ [⟨tb, S.least, S.gen, a⟩]) ∧ Mods (blks g (.slice (some ⟨B, off, none⟩) n2 cp2) hF' (M ++ [⟨tb, S.least, S.gen, a⟩])) W5.drew W6 →
        W6.cell? ⟨g, 2, none⟩ = some (.slice (some ⟨B, off, none⟩) n2 cp2) ∧ W6.cell? ⟨w1.heap.size, 0, none⟩ = some (.int .i64 (n : Int)) ∧ W6.cell? ⟨B, off + n, none⟩ = some (.pointer (some ⟨tb, 0, none⟩)) ∧
        Hid (Row W6 w1.heap.size 32 #[.int .i64 (n : Int), .int .i64 (ge : Int)] ∧ Row W6 w.heap.size 32 #[.int .i64 0, .int .i64 0] ∧ Added w W6 g (blks g (.slice A n cap) hF M) S K now a v M) from fun W6 hd => by
      have h8 := hand_far HM5.out.1 HM5.out.2.2.2.1
      have hr := hand_far HM5.out.1 HM5.out.2.2.2.2.1
      have r8 := HM5.out.2.2.2.1.mods (of_drew hd.2) h8
      have rr := HM5.out.2.2.2.2.1.mods (of_drew hd.2) hr
      have hsc := slot_cell hd.1 (m := ⟨tb, S.least, S.gen, a⟩) (by simp)
      have hnew : ∀ k ∈ blks g (.slice (some ⟨B, off, none⟩) n2 cp2) hF' (M ++ [⟨tb, S.least, S.gen, a⟩]), k ∈ blks g (.slice A n cap) hF M ∨ w.heap.size ≤ k := fun k hk => by
        simp only [blks, List.mem_cons, List.mem_append, List.map_append] at hk
        rcases hk with h1 | h1 | h1 | h1 | h1
        · exact HS4.out.news k (by simp [blks, h1])
        · exact HS4.out.news k (by simp [blks, h1])
        · exact HS4.out.news k (by simp only [blks, List.mem_cons, List.mem_append]; exact .inr (.inr (.inl h1)))
        · exact HS4.out.news k (by simp only [blks, List.mem_cons, List.mem_append]; exact .inr (.inr (.inr h1)))
        · right
          have : k = tb := by simpa using h1
          have := HS4.out.mods.size
          rw [HTB.out] at this
          omega
      have hA : WheelA W6 g (blks g (.slice (some ⟨B, off, none⟩) n2 cp2) hF' (M ++ [⟨tb, S.least, S.gen, a⟩])) (S.put v) (K + 1) now (M ++ [⟨tb, S.least, S.gen, a⟩]) :=
        ⟨hg, .slice (some ⟨B, off, none⟩) n2 cp2, hF', if S.least = S.us.length then ps ++ [some tb] else ps.set S.least (some tb), rfl, by rw [ql_snoc]; exact hd.1⟩
      exact ⟨hd.1.base.cells.2.2.1, by rw [r8.cell]; rfl, by rw [← HLG.out.1]; exact hsc, Lib.hid ⟨r8, rr, _, tb, hA, HM5.out.2.2.2.2.2.1.trans (of_drew hd.2) hnew, hnew⟩⟩)
    clear htb HTB
    go_wp2
    go_region_held3 (fun w' => w'.cell? ⟨g, 2, none⟩ = some (.slice (some ⟨B, off, none⟩) n2 cp2) ∧ w'.cell? ⟨w1.heap.size, 0, none⟩ = some (.int .i64 (n : Int)) ∧ w'.cell? ⟨B, off + n, none⟩ = some (.pointer (some ⟨tb, 0, none⟩))) (go_keep)
      ((go_at_call 33; refine Calls.mono HLY.out ?_; rintro e w6 ⟨rfl, hd⟩; have ⟨z1, z2, z3, z4⟩ := HAF.out w6 hd.out; clear hd))
  all_goals
    have p5 := z4.out.1.cell 0
    have p6 := z4.out.1.cell 1
    have p7 := z4.out.2.1.cell 0
    have p8 := z4.out.2.1.cell 1
    have p9 := z4.out.2.1.free
    have ne1 : w.heap.size ≠ w1.heap.size := by have := HS4.out.h8r; omega
    go_wp2
    exact ret_hand67 Tryd.results14 ((z4.out.2.1.set 0 _).set 1 _) rfl rfl rfl ⟨rfl, Lib.hid (z4.out.2.2.ret z4.out.2.1 (Nat.le_refl _) _ _)⟩
set_option maxHeartbeats 2000000 in
theorem add_fill (w : World) (g a : Nat) (v : Int) (F : List Nat) (S : Slb) (K now : Nat) (M : List Tm) (h : WheelA w g F S K now M) (hT : TzTab w) (ha : a ≤ 1099511627776) (hc : S.cnt < S.lim) (hK : K ≤ 4000000000000) (hn : S.least ≠ S.us.length) :
    Calls Tryd.prog 14 #[ptr g, .int .i64 (a : Int), .int .i64 v] w fun e w' => e = .returned (.tuple #[.agg #[.int .i64 (S.least : Int), .int .i64 (S.gen : Int)], .int .i64 0]) ∧ Hid (Added w w' g F S K now a v M) := by
  have hok := h.slabOk
  obtain ⟨hg, tv, hF, ps, rfl, h⟩ := h
  obtain ⟨i0, hi0, hz0, hz1, hz2⟩ := info_parts tim_info
  have HI := Lib.hid (And.intro hi0 (And.intro hz0 (And.intro hz1 hz2)))
  have he := eql_whl
  have HLEN := Lib.hid (show (ps.map optr).length + 1 ≤ 1000000000 from by rw [List.length_map, h.plen]; have := hok.len; have := hok.hi; omega)
  obtain ⟨k0, k1, k2, f1⟩ := h.base.cells
  obtain ⟨A, n2, cap, rfl, hnp, hcap, hmx⟩ := h.own.slice'
  have hnl : n2 = S.us.length := by rw [hnp, List.length_map, h.plen]
  have k1a := cell_alloc k1 (.cells #[.int .i64 0, .int .i64 0] 32)
  have HT := Lib.hid (isTime_any (a : Int) (w.alloc (.cells #[.int .i64 0, .int .i64 0] 32)))
  rw [is_time ha] at HT
  have hs0 := slabA_keep (w' := w.alloc (.cells #[.int .i64 0, .int .i64 0] 32)) h.slab fun k hk => Below.heap_alloc w _ k (slabA_lt h.slab k hk)
  have HP := Lib.hid (put_any (w.alloc (.cells #[.int .i64 0, .int .i64 0] 32)) hg v hF S K hs0 (hT.keep (Below.heap_alloc w _ _ hT.lt)) hc hK)
  have HR0 := Lib.hid (h.raw.keep (w' := w.alloc (.cells #[.int .i64 0, .int .i64 0] 32)) fun k hk => Below.heap_alloc w _ k (h.lt k hk))
  have HW := Lib.hid h
  have HOK := Lib.hid hok
  have HLS := Lib.hid hn
  have hll := S.least_lt hok hc
  have hhi := hok.hi
  have HNL := Lib.hid hnl
  have hlt2 : S.least < n2 := by have := S.least_le; omega
  clear h hok hc hn hs0 hT hnp
  obtain ⟨n, hls⟩ : ∃ x, S.least = x := ⟨_, rfl⟩
  obtain ⟨ge, hge⟩ : ∃ x, S.gen = x := ⟨_, rfl⟩
  rw [hls, hge] at HP ⊢
  rw [hls] at hll hlt2
  have HLG := Lib.hid (And.intro hls hge)
  clear hls hge
  clear hnl
  go_enter Tryd.func14, Tryd.ntmps14
  go_wp2_with fail
  refine HT.out.mono ?_
  rintro e w1 ⟨rfl, rfl⟩
  go_wp2_with fail
  refine HP.out.mono ?_
  rintro e w1 ⟨rfl, hp⟩
  have HR1 := Lib.hid (show ∃ hF', Raw w1 g hg (.slice A n2 cap) hF' ps (ql now M) (S.put v) (K + 1) now M ∧ Mods hF (w.alloc (.cells #[.int .i64 0, .int .i64 0] 32)) w1 ∧ ∀ k ∈ hF', k ∈ hF ∨ (w.alloc (.cells #[.int .i64 0, .int .i64 0] 32)).heap.size ≤ k from by
    obtain ⟨hF', q1, q2, q3⟩ := hp.out
    exact ⟨hF', HR0.out.slabbed q1 q2, q2, q3⟩)
  clear hp
  obtain ⟨hF', R1, m1, s1⟩ := HR1.out
  have k2b := R1.base.cells.2.2.1
  have k2c := fun o => cell_alloc k2b o
  have HR := Lib.hid R1
  have HM := Lib.hid m1
  have HS1 := Lib.hid s1
  clear R1 m1 s1 HR1
  have hd : ((n : Int) == (n2 : Int)) = false := by simp; omega
  go_wp2
  go_region
  all_goals
    obtain ⟨W, hW, RH, RR, RW, MW⟩ : ∃ W : World, W = (w1.alloc (.cells #[.int .i64 (n : Int), .int .i64 (ge : Int)] 32)).drew ∧ Hid (Row W w1.heap.size 32 #[.int .i64 (n : Int), .int .i64 (ge : Int)]) ∧ Hid (Row W w.heap.size 32 #[.int .i64 0, .int .i64 0]) ∧
        Hid (Raw W g hg (.slice A n2 cap) hF' ps (ql now M) (S.put v) (K + 1) now M) ∧ Hid (Mods hF w W ∧ w1.heap.size < W.heap.size ∧ w.heap.size < w1.heap.size) :=
      ⟨_, rfl, Lib.hid (Row.new w1 _ _), Lib.hid (((Row.new w _ _).mods HM.out (fun hk => by have := slabA_lt HW.out.slab _ hk; omega)).alloc _), Lib.hid (HR.out.keep fun k hk => Below.heap_alloc w1 _ k (HR.out.lt k hk)),
        Lib.hid ⟨((((Mods.refl hF w).alloc _).trans HM.out (fun k hk => .inl hk)).alloc _).drew, by simp [World.drew], by have := HM.out.size; simp at this; omega⟩⟩
    rw [← hW]
    clear hW k2b k2c
    have HSL := Lib.hid (show ∃ B off, A = some ⟨B, off, none⟩ ∧ Slot w W w.heap.size w1.heap.size g hg B off n2 cap n ge (blks g (.slice A n2 cap) hF M) hF' ps ps S K now v M from by
      have hpl : ps.length = n2 := by rw [HNL.out]; exact HW.out.plen
      obtain ⟨b, o, rfl, _⟩ := RW.out.own.src n ((ps.map optr)[n]'(by rw [List.length_map]; omega)) (List.getElem?_eq_getElem _)
      refine ⟨b, o, rfl, ⟨RW.out, hlt2, hpl.symm, hcap, fun b' => by rw [if_neg HLS.out, HLG.out.1], RH.out, RR.out, MW.out.1.more fun k hk => .inl (by simp [blks, hk]), fun k hk => ?_, rfl, MW.out.2.2⟩⟩
      simp only [blks, List.mem_cons, List.mem_append] at hk ⊢
      rcases hk with h1 | h1 | h1 | h1
      · exact .inl (.inl h1)
      · rcases HS1.out k h1 with h2 | h2
        · exact .inl (.inr (.inl h2))
        · right; simp at h2; omega
      · exact .inl (.inr (.inr (.inl h1)))
      · exact .inl (.inr (.inr (.inr h1))))
    obtain ⟨W4, hW4⟩ : ∃ W4, W4 = W := ⟨_, rfl⟩
    rw [← hW4] at HSL RH RR RW MW ⊢
    clear hW4
    obtain ⟨B, off, rfl, hsl⟩ := HSL.out
    have HS4 := Lib.hid hsl
    obtain ⟨c4, h40, h41, ⟨ux, hux⟩, fB⟩ := hsl.cells
    have q1 : (n : Int) < (n2 : Int) := by have := hsl.lt; omega
    have c4a := fun o => cell_alloc c4 o
    have h40a := fun o => cell_alloc h40 o
    have h41a := fun o => cell_alloc h41 o
    have huxa := fun o => cell_alloc hux o
    have fBa : ∀ o i, (W4.alloc o).frozen? ⟨B, i, none⟩ = false := fun o i => (World.frozen?_of_block (w := W4) (Below.heap_alloc W4 o B (World.block_lt_of_cell? W4 _ hux))).trans (fB i)
    clear hsl HSL
    go_wp2
    go_region
  all_goals
    obtain ⟨W5, hW5, HM5⟩ : ∃ W5 : World, W5 = ((W4.alloc (.cells #[.int .i64 (n : Int), .int .i64 (ge : Int), .int .i64 (a : Int), .pointer none, .pointer none] 79)).setCell ⟨B, off + n, none⟩ (.pointer (some ⟨W4.heap.size, 0, none⟩))).drew ∧
        Hid (WheelM W5 g hg (.slice (some ⟨B, off, none⟩) n2 cap) hF' (if S.least = S.us.length then ps ++ [some W4.heap.size] else ps.set S.least (some W4.heap.size)) (ql now M) (S.put v) (K + 1) now (M ++ [⟨W4.heap.size, S.least, S.gen, a⟩]) ∧
      W5.cell? ⟨B, off + n, none⟩ = some (.pointer (some ⟨W4.heap.size, 0, none⟩)) ∧ W5.cell? ⟨g, 2, none⟩ = some (.slice (some ⟨B, off, none⟩) n2 cap) ∧ Row W5 w1.heap.size 32 #[.int .i64 (n : Int), .int .i64 (ge : Int)] ∧ Row W5 w.heap.size 32 #[.int .i64 0, .int .i64 0] ∧ Mods (blks g (.slice (some ⟨B, off, none⟩) n2 cap) hF M) w W5 ∧ W4.heap.size < W5.heap.size) :=
      ⟨_, rfl, Lib.hid (Slot.made (W5 := ((W4.alloc (.cells #[.int .i64 (n : Int), .int .i64 (ge : Int), .int .i64 (a : Int), .pointer none, .pointer none] 79)).setCell ⟨B, off + n, none⟩ (.pointer (some ⟨W4.heap.size, 0, none⟩))).drew) HS4.out HW.out rfl HOK.out ha HLG.out.1 HLG.out.2 rfl rfl rfl rfl)⟩
    rw [← hW5]
    clear hW5 c4 h40 h41 hux fB c4a h40a h41a huxa fBa
    have p1 := HM5.out.2.1
    have p2 := HM5.out.2.2.1
    have p3 := HM5.out.2.2.2.1.cell 0
    have p4 := HM5.out.2.2.2.1.cell 1
    have HLY := Lib.hid (lay_any W5.drew g hg (.slice (some ⟨B, off, none⟩) n2 cap) hF' _ (ql now M) (S.put v) (K + 1) now _ ⟨W4.heap.size, S.least, S.gen, a⟩ (HM5.out.1.keep fun _ _ => rfl) (by simp) (fun q hq hk => by
      obtain ⟨m, hm, _, e⟩ := ql_mem.1 hk
      have := HS4.out.raw.lt W4.heap.size (by simp only [blks, List.mem_cons, List.mem_append]; exact .inr (.inr (.inr ((show m.b = W4.heap.size from e) ▸ List.mem_map_of_mem hm))))
      omega))
    obtain ⟨tb, htb⟩ : ∃ x, W4.heap.size = x := ⟨_, rfl⟩
    have hpl := plc_lt now a
    have HTB := Lib.hid htb
    rw [htb] at p1 HLY HM5
    have HAF := Lib.hid (show ∀ W6, WheelM W6 g hg (.slice (some ⟨B, off, none⟩) n2 cap) hF' (if S.least = S.us.length then ps ++ [some tb] else ps.set S.least (some tb)) (upd (ql now M) (plc now a) (ql now M (plc now a) ++ [tb])) (S.put v) (K + 1) now (M ++ [⟨tb, S.least, S.gen, a⟩]) ∧ Mods (blks g (.slice (some ⟨B, off, none⟩) n2 cap) hF' (M ++ [⟨tb, S.least, S.gen, a⟩])) W5.drew W6 →
        W6.cell? ⟨g, 2, none⟩ = some (.slice (some ⟨B, off, none⟩) n2 cap) ∧ W6.cell? ⟨w1.heap.size, 0, none⟩ = some (.int .i64 (n : Int)) ∧ W6.cell? ⟨B, off + n, none⟩ = some (.pointer (some ⟨tb, 0, none⟩)) ∧
        Hid (Row W6 w1.heap.size 32 #[.int .i64 (n : Int), .int .i64 (ge : Int)] ∧ Row W6 w.heap.size 32 #[.int .i64 0, .int .i64 0] ∧ Added w W6 g (blks g (.slice (some ⟨B, off, none⟩) n2 cap) hF M) S K now a v M) from fun W6 hd => by
      have h8 := hand_far HM5.out.1 HM5.out.2.2.2.1
      have hr := hand_far HM5.out.1 HM5.out.2.2.2.2.1
      have r8 := HM5.out.2.2.2.1.mods (of_drew hd.2) h8
      have rr := HM5.out.2.2.2.2.1.mods (of_drew hd.2) hr
      have hsc := slot_cell hd.1 (m := ⟨tb, S.least, S.gen, a⟩) (by simp)
      have hnew : ∀ k ∈ blks g (.slice (some ⟨B, off, none⟩) n2 cap) hF' (M ++ [⟨tb, S.least, S.gen, a⟩]), k ∈ blks g (.slice (some ⟨B, off, none⟩) n2 cap) hF M ∨ w.heap.size ≤ k := fun k hk => by
        simp only [blks, List.mem_cons, List.mem_append, List.map_append] at hk
        rcases hk with h1 | h1 | h1 | h1 | h1
        · exact HS4.out.news k (by simp [blks, h1])
        · exact HS4.out.news k (by simp [blks, h1])
        · exact HS4.out.news k (by simp only [blks, List.mem_cons, List.mem_append]; exact .inr (.inr (.inl h1)))
        · exact HS4.out.news k (by simp only [blks, List.mem_cons, List.mem_append]; exact .inr (.inr (.inr h1)))
        · right
          have : k = tb := by simpa using h1
          have := HS4.out.mods.size
          rw [HTB.out] at this
          omega
      have hA : WheelA W6 g (blks g (.slice (some ⟨B, off, none⟩) n2 cap) hF' (M ++ [⟨tb, S.least, S.gen, a⟩])) (S.put v) (K + 1) now (M ++ [⟨tb, S.least, S.gen, a⟩]) :=
        ⟨hg, .slice (some ⟨B, off, none⟩) n2 cap, hF', if S.least = S.us.length then ps ++ [some tb] else ps.set S.least (some tb), rfl, by rw [ql_snoc]; exact hd.1⟩
      exact ⟨hd.1.base.cells.2.2.1, by rw [r8.cell]; rfl, by rw [← HLG.out.1]; exact hsc, Lib.hid ⟨r8, rr, _, tb, hA, HM5.out.2.2.2.2.2.1.trans (of_drew hd.2) hnew, hnew⟩⟩)
    clear htb HTB
    go_wp2
    go_region_held3 (fun w' => w'.cell? ⟨g, 2, none⟩ = some (.slice (some ⟨B, off, none⟩) n2 cap) ∧ w'.cell? ⟨w1.heap.size, 0, none⟩ = some (.int .i64 (n : Int)) ∧ w'.cell? ⟨B, off + n, none⟩ = some (.pointer (some ⟨tb, 0, none⟩))) (go_keep)
      ((go_at_call 33; refine Calls.mono HLY.out ?_; rintro e w6 ⟨rfl, hd⟩; have ⟨z1, z2, z3, z4⟩ := HAF.out w6 hd.out; clear hd))
  all_goals
    have p5 := z4.out.1.cell 0
    have p6 := z4.out.1.cell 1
    have p7 := z4.out.2.1.cell 0
    have p8 := z4.out.2.1.cell 1
    have p9 := z4.out.2.1.free
    have ne1 : w.heap.size ≠ w1.heap.size := by have := HS4.out.h8r; omega
    go_wp2
    exact ret_hand67 Tryd.results14 ((z4.out.2.1.set 0 _).set 1 _) rfl rfl rfl ⟨rfl, Lib.hid (z4.out.2.2.ret z4.out.2.1 (Nat.le_refl _) _ _)⟩
theorem wadd_any (w : World) (g a : Nat) (v : Int) (F : List Nat) (S : Slb) (K now : Nat) (M : List Tm) (h : WheelA w g F S K now M) (hT : TzTab w) (ha : a ≤ 1099511627776) (hc : S.cnt < S.lim) (hK : K ≤ 4000000000000) :
    Calls Tryd.prog 14 #[ptr g, .int .i64 (a : Int), .int .i64 v] w fun e w' => e = .returned (.tuple #[.agg #[.int .i64 (S.least : Int), .int .i64 (S.gen : Int)], .int .i64 0]) ∧ Hid (Added w w' g F S K now a v M) := by
  by_cases hn : S.least = S.us.length
  · exact add_grow w g a v F S K now M h hT ha hc hK hn
  · exact add_fill w g a v F S K now M h hT ha hc hK hn
end Go.Proofs.YtgfmjkbelciaaaaDoor
