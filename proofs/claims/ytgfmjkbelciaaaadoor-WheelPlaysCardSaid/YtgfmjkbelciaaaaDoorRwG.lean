/- What Advance of the reference's wheel does: the walk. -/
import Derived.Test.YtgfmjkbelciaaaaDoorRwF
namespace Go.Proofs.YtgfmjkbelciaaaaDoor
open Go.RowKit
set_option maxRecDepth 10000
set_option linter.unusedVariables false
set_option linter.unusedSimpArgs false
set_option linter.unnecessarySimpa false

theorem own_empty (w : World) : (w.alloc (.cells #[] 83)).ownsRow 0 83 5 (.slice (some ⟨w.heap.size, 0, none⟩) 0 0) 0 [] :=
  ⟨rfl, .inr ⟨w.heap.size, 0, #[], rfl, Nat.zero_le _, heap_alloc_new w _, Nat.le_refl _, by unfold maxLen; omega, rfl, rfl⟩⟩
theorem cut1 {w E w8 : World} {v8 : Value} (hm : Mods (Value.slice (some ⟨w.heap.size, 0, none⟩) 0 0).ownBlock.toList E w8 ∧ (v8.ownBlock = (Value.slice (some ⟨w.heap.size, 0, none⟩) 0 0).ownBlock ∨ v8.ownBlock = some E.heap.size)) (hE : Mods [] w E) : Mods [] w w8 ∧ ∀ b ∈ v8.ownBlock.toList, w.heap.size ≤ b := by
  refine ⟨hE.trans hm.1 (fun k hk => .inr (by simp [Value.ownBlock] at hk; omega)), fun b hb => ?_⟩
  have hs := hE.size
  rcases hm.2 with e | e
  · rw [e] at hb; simp [Value.ownBlock] at hb; omega
  · rw [e] at hb; simp at hb; omega
theorem cut2 {w w8 E w11 : World} {v8 v11 : Value} (h : Mods [] w w8 ∧ ∀ b ∈ v8.ownBlock.toList, w.heap.size ≤ b) (hm : Mods v8.ownBlock.toList E w11 ∧ (v11.ownBlock = v8.ownBlock ∨ v11.ownBlock = some E.heap.size)) (hE : Mods [] w8 E) : Mods [] w w11 ∧ ∀ b ∈ v11.ownBlock.toList, w.heap.size ≤ b := by
  have h1 := h.1.size
  have h2 := hE.size
  refine ⟨(h.1.trans hE (by simp)).trans hm.1 (fun k hk => .inr (h.2 k hk)), fun b hb => ?_⟩
  rcases hm.2 with e | e
  · exact h.2 b (by rw [← e]; exact hb)
  · rw [e] at hb; simp at hb; omega
theorem addr0 (b j : Nat) : (⟨b, 0, none⟩ : Addr).add j = ⟨b, j, none⟩ := by unfold Addr.add; split <;> simp_all
theorem addr1 (b o j : Nat) : (⟨b, o, none⟩ : Addr).add j = ⟨b, o + j, none⟩ := by unfold Addr.add; split <;> simp_all
theorem src_take {w : World} {x sg K now q lb lc : Nat} {hF : List Nat} {S : Slb} {L : List Rt} (h : RefW w x sg (.slice (some ⟨lb, 0, none⟩) L.length lc) hF S K now L q) (k : Nat) : ∀ j u, (rts (L.take k))[j]? = some u → w.cell? ((⟨lb, 0, none⟩ : Addr).add j) = some u := fun j u hu => by
  rw [rts_take, List.getElem?_take] at hu
  split at hu
  · rw [addr0, World.ownsRow.cellAt h.own j (by have := (List.getElem?_eq_some_iff.1 hu).1; rw [rts_length] at this; exact this)]; exact hu
  · cases hu
theorem src_drop {w : World} {x sg K now q lb lc : Nat} {hF : List Nat} {S : Slb} {L : List Rt} (h : RefW w x sg (.slice (some ⟨lb, 0, none⟩) L.length lc) hF S K now L q) (k : Nat) : ∀ j u, (rts (L.drop k))[j]? = some u → w.cell? ((⟨lb, k * 5, none⟩ : Addr).add j) = some u := fun j u hu => by
  rw [rts_drop, List.getElem?_drop] at hu
  rw [addr1, World.ownsRow.cellAt h.own _ (by have := (List.getElem?_eq_some_iff.1 hu).1; rw [rts_length] at this; exact this)]; exact hu
theorem src_off {w : World} {x sg K now q lb lc : Nat} {hF : List Nat} {S : Slb} {L : List Rt} (h : RefW w x sg (.slice (some ⟨lb, 0, none⟩) L.length lc) hF S K now L q) (k : Nat) (h1 : k + 1 ≤ L.length) (h2 : k + 1 ≤ lc) :
    ∃ off, (if lc = k + 1 then (some ⟨lb, 0, none⟩ : Option Addr) else some ⟨lb, (k + 1) * 5, none⟩) = some ⟨lb, off, none⟩ ∧ ∀ j u, (rts (L.drop (k + 1)))[j]? = some u → w.cell? ((⟨lb, off, none⟩ : Addr).add j) = some u := by
  by_cases hc : lc = k + 1
  · obtain ⟨_, c, e, hle, _⟩ := own_slice h.own
    injection e with _ _ e3
    refine ⟨0, by rw [if_pos hc], fun j u hu => ?_⟩
    rw [List.drop_of_length_le (by omega)] at hu
    simp [rts] at hu
  · exact ⟨(k + 1) * 5, by rw [if_neg hc], src_drop h (k + 1)⟩
theorem erase_len {L : List Rt} {k : Nat} (h : k < L.length) : (L.eraseIdx k).length = k + (L.length - (k + 1)) ∧ rts (L.eraseIdx k) = rts (L.take k) ++ rts (L.drop (k + 1)) := by
  rw [List.length_eraseIdx_of_lt h, List.eraseIdx_eq_take_drop_succ, rts_append]
  exact ⟨by omega, rfl⟩
theorem adv_step {w wo wr w9 w10 w11 : World} {x sg K t q kn : Nat} {lv lv0 out v9 v11 : Value} {hF : List Nat} {S S10 : Slb} {L R Lc : List Rt} {u : Rt} {o9 o10 : Obj} (HA : AdvR w wo x sg lv lv0 hF S K t q L R Lc out) (HM : Mods [] wo wr)
    (HB : Lc[kn]? = some u ∧ u.a ≤ t ∧ ∀ y ∈ Lc, y.a ≤ t → lexle u y) (HO9 : Own w9 3 v9 (iv (R.map (·.v)) ++ [.int .i64 u.v])) (HM9 : Mods out.ownBlock.toList (wr.alloc o9) w9 ∧ (v9.ownBlock = out.ownBlock ∨ v9.ownBlock = some (wr.alloc o9).heap.size))
    (H10 : RefW w10 x sg lv hF S10 K t Lc q) (hS : S10 = takeR S (R ++ [u])) (HM10 : Mods hF (w9.alloc o10) w10) (HO11 : w11.ownsRow 0 83 5 v11 (kn + (Lc.length - (kn + 1))) (rts (Lc.take kn) ++ rts (Lc.drop (kn + 1)))) (HD : Mods [] w10 w11 ∧ ∀ b ∈ v11.ownBlock.toList, w10.heap.size ≤ b) :
    AdvR w (w11.setCell ⟨x, 1, none⟩ v11) x sg v11 lv0 hF S K t q L (R ++ [u]) (Lc.eraseIdx kn) v9 := by
  subst hS
  obtain ⟨e1, e2⟩ := erase_len (List.getElem?_eq_some_iff.1 HB.1).1
  have s1 := HA.mods.size
  have s2 := HM.size
  have s3 := HM9.1.size
  have s4 := HM10.size
  simp at s3 s4
  have hnew : ∀ b ∈ v9.ownBlock.toList, w.heap.size ≤ b := fun b hb => by
    rcases HM9.2 with e | e
    · exact HA.new b (by rw [← e]; exact hb)
    · rw [e] at hb; simp at hb; omega
  have hx : x ∈ foot6 x hF lv0 := by simp [foot6]
  have hh : ∀ k ∈ hF, k ∈ foot6 x hF lv0 := fun k hk => by simp only [foot6, List.mem_cons, List.mem_append]; exact .inr (.inl hk)
  have m9 : Mods (foot6 x hF lv0) w w9 := ((HA.mods.trans HM (by simp)).alloc o9).trans HM9.1 (fun k hk => .inr (HA.new k hk))
  have m10 : Mods (foot6 x hF lv0) w w10 := (m9.alloc o10).trans HM10 (fun k hk => .inl (hh k hk))
  have n10 : Mods (x :: hF) w9 (w11.setCell ⟨x, 1, none⟩ v11) := (((((Mods.refl _ w9).alloc o10).trans HM10 (fun k hk => .inl (List.mem_cons_of_mem _ hk))).trans HD.1 (by simp)).setCell (p := ⟨x, 1, none⟩) (.inl (by simp)) v11)
  have hR := H10.relist (w' := w11) (lv' := v11) (L' := Lc.eraseIdx kn) (HD.1.more (by simp)) (by rw [e1, e2]; exact HO11) (fun b hb => .inr (HD.2 b hb)) (by have := H10.len; have := (List.getElem?_eq_some_iff.1 HB.1).1; omega) (fun y hy => H10.rng y (List.mem_of_mem_eraseIdx hy))
  refine ⟨hR.1, HA.fired.more HB.1 HB.2.1 HB.2.2, ?_, hnew, fun b hb => .inr (by have := HD.2 b hb; have := m10.size; omega), HA.low, (m10.trans HD.1 (by simp)).setCell (p := ⟨x, 1, none⟩) (.inl hx) v11⟩
  rw [List.map_append, List.map_singleton, iv_app]
  exact HO9.mods n10 (fun k hk hk2 => by
    have h1 := hnew k hk
    rcases List.mem_cons.1 hk2 with h | h
    · have := HA.low x hx; omega
    · have := HA.low k (hh k h); omega)
set_option maxHeartbeats 4000000 in
theorem rwadv_any (w : World) (x : Nat) (F : List Nat) (S : Slb) (K now t q : Nat) (n : Int) (L : List Rt) (h : RefZ w x F S K now L q) (hK : K ≤ 4000000000000) (ht : min (max (now : Int) n) 1099511627776 = (t : Int)) :
    Calls Tryd.prog 22 #[.pointer (some ⟨x, 0, none⟩), .int .i64 n] w fun e w' => ∃ v, e = .returned v ∧ Hid (∃ F' R L', RefZ w' x F' (takeR S R) K t L' q ∧ Fired t L R L' ∧ (∀ y ∈ L', t < y.a) ∧ Own w' 3 v (iv (R.map (·.v))) ∧ (∀ b ∈ v.ownBlock.toList, w.heap.size ≤ b) ∧ Mods F w w' ∧ ∀ k ∈ F', k ∈ F ∨ w.heap.size ≤ k) := by
  obtain ⟨i0, hi0, hz0, hz1, hz2⟩ := info_parts rt_info
  have HI := Lib.hid (And.intro hi0 (And.intro hz0 (And.intro hz1 hz2)))
  clear hi0 hz0 hz1 hz2
  obtain ⟨i1, hi1, hz0, hz1, hz2⟩ := info_parts int_infoN
  have HJ := Lib.hid (And.intro hi1 (And.intro hz0 (And.intro hz1 (show i1.bytes ≤ 8 by omega))))
  clear hi1 hz0 hz1 hz2
  obtain ⟨sg, lv, hF, rfl, h⟩ := h
  obtain ⟨c0, c1, c2, c3, c4⟩ := h.cells
  have ht9 : t ≤ 1099511627776 := by omega
  have HLL := Lib.hid h.len
  have H0 := Lib.hid (show AdvR w (w.setCell ⟨x, 2, none⟩ (.int .i64 (t : Int))) x sg lv lv hF S K t q L [] L (.slice none 0 0) from
    ⟨h.ticked ht9, .none, Own.nil _ _, by simp [Value.ownBlock], fun b hb => .inl hb, h.lt, (Mods.refl _ _).setCell (by simp [foot6]) _⟩)
  clear h
  go_enter Tryd.func22, Tryd.ntmps22
  go_wp2
  go_loopw [5, 6, 7, 8] (fun out _ _ _ wr => ∃ r : Nat, lenS out = r ∧ r ≤ L.length ∧ Hid (∃ R Lc lv', r = R.length ∧ AdvR w wr x sg lv' lv hF S K t q L R Lc out)) (fun out _ _ _ _ => L.length + 1 - lenS out)
  case atStart => exact ⟨0, rfl, by omega, Lib.hid ⟨[], L, lv, rfl, H0.out⟩⟩
  case round =>
    clear H0 c0 c1 c2 c3 c4 ht
    obtain ⟨r, hlo, hrl, hr⟩ := hrel
    obtain ⟨R, Lc, lv', hrr, ha⟩ := hr.out
    have HA := Lib.hid ha
    have HRR := Lib.hid hrr
    clear hr ha hrr
    obtain ⟨wo, hwo⟩ : ∃ wo : World, wo = wr := ⟨_, rfl⟩
    have HW := Lib.hid hwo
    rw [← hwo] at HA
    clear hwo
    obtain ⟨A, lc, hlv, l1, l2⟩ := own_slice HA.out.ref.own
    subst hlv
    have hll := HA.out.ref.len
    obtain ⟨c0, c1, c2, c3, c4⟩ := HA.out.ref.cells
    go_wp2
    go_loopw [6, 7, 8] (fun kv jv _ wx => ∃ (j : Nat) (k : Int), kv = .int .i64 k ∧ jv = .int .i64 (j : Int) ∧ j ≤ Lc.length ∧ -1 ≤ k ∧ k < (Lc.length : Int) ∧ Hid (Scan t Lc j k ∧ Mods [] wo wx)) (fun _ jv _ _ => Lc.length - (intOf jv).toNat)
    case atStart => exact ⟨0, -1, rfl, rfl, by omega, by omega, by omega, Lib.hid ⟨scan_zero _ _, by rw [← HW.out]; exact Mods.refl _ _⟩⟩
    case round =>
      obtain ⟨j, k, rfl, rfl, hj, hk1, hk2, hr⟩ := hrel
      have HM := Lib.hid hr.out.2
      have HS := Lib.hid hr.out.1
      clear hr
      have d1 := cell_mods c1 HM.out (by simp)
      have d2 := cell_mods c2 HM.out (by simp)
      by_cases hjl : j < Lc.length
      · have q0 : (j : Int) < (Lc.length : Int) := by omega
        obtain ⟨y, hy⟩ : ∃ y, Lc[j]? = some y := ⟨_, List.getElem?_eq_getElem (by omega)⟩
        obtain ⟨lb, lc', el, -, -, -, z0, z1, z2, z3, z4, z5⟩ := HA.out.ref.at hy
        injection el with el
        subst el
        have z0 := cell_mods z0 HM.out (by simp)
        have z1 := cell_mods z1 HM.out (by simp)
        have z2 := cell_mods z2 HM.out (by simp)
        have z3 := cell_mods z3 HM.out (by simp)
        have z4 := cell_mods z4 HM.out (by simp)
        have HY := Lib.hid hy
        by_cases hdue : y.a ≤ t
        · by_cases hk : k < 0
          · obtain rfl : k = -1 := by omega
            have HN := Lib.hid (scan_first HS.out hy hdue)
            clear z5 c0 c1 c2 c3 c4 hy hk
            have b1 := fun o => cell_alloc d1 o
            have b2 := fun o => cell_alloc d2 o
            generalize y.a = ya at *
            generalize y.v = yv at *
            generalize y.q = yq at *
            generalize y.s = ys at *
            generalize y.g = yg at *
            have p1 : decide (ya ≤ t) = true := by simpa using hdue
            have p2 : (ya : Int) ≤ (t : Int) := by omega
            go_wp2
            go_quiet (fail)
            go_wp2
            go_roundw
            case rel => exact ⟨j + 1, (j : Int), rfl, by go_num, by omega, by omega, by omega, Lib.hid ⟨HN.out, (HM.out.alloc _).drewN _⟩⟩
            case measure => simp [intOf]; omega
          · obtain ⟨kn, rfl⟩ := Int.eq_ofNat_of_zero_le (show 0 ≤ k by omega)
            obtain ⟨u, hu⟩ : ∃ u, Lc[kn]? = some u := ⟨_, List.getElem?_eq_getElem (by omega)⟩
            obtain ⟨lb2, lc2, el, -, -, -, v0, v1, v2, v3, v4, v5⟩ := HA.out.ref.at hu
            injection el with el
            injection el with el
            injection el with el
            subst el
            have v0 := cell_mods v0 HM.out (by simp)
            have v2 := cell_mods v2 HM.out (by simp)
            have HU := Lib.hid hu
            obtain ⟨oj, hoj⟩ : ∃ o, j * 5 = o := ⟨_, rfl⟩
            obtain ⟨ok, hok⟩ : ∃ o, kn * 5 = o := ⟨_, rfl⟩
            rw [hoj] at z0 z1 z2 z3 z4
            rw [hok] at v0 v2
            have b1 := fun o => cell_alloc d1 o
            have b2 := fun o => cell_alloc d2 o
            have b3 := fun o => cell_alloc v0 o
            have b4 := fun o => cell_alloc v2 o
            clear z5 c0 c1 c2 c3 c4 hy v1 v3 v4 v5 hk hu
            have p1 : decide (y.a ≤ t) = true := by simpa using hdue
            have p2 : (y.a : Int) ≤ (t : Int) := by omega
            have p3 : decide ((kn : Int) < 0) = false := by simp
            by_cases e1 : y.a < u.a
            · have HN := Lib.hid (scan_new HS.out HU.out HY.out hdue (.inl e1))
              have p4 : decide (y.a < u.a) = true := by simpa using e1
              have p5 : (y.a : Int) < (u.a : Int) := by omega
              clear HU HY hdue
              generalize u.a = ua at *
              generalize u.q = uq at *
              generalize y.a = ya at *
              generalize y.v = yv at *
              generalize y.q = yq at *
              generalize y.s = ys at *
              generalize y.g = yg at *
              go_wp2
              go_quiet (fail)
              go_wp2
              go_roundw
              case rel => exact ⟨j + 1, (j : Int), rfl, by go_num, by omega, by omega, by omega, Lib.hid ⟨HN.out, (HM.out.alloc _).drewN _⟩⟩
              case measure => simp [intOf]; omega
            · have p4 : decide (y.a < u.a) = false := by simpa using e1
              have p5 : ¬ (y.a : Int) < (u.a : Int) := by omega
              by_cases e2 : y.a = u.a
              · have p6 : ((y.a : Int) == (u.a : Int)) = true := by simp; omega
                by_cases e3 : y.q < u.q
                · have HN := Lib.hid (scan_new HS.out HU.out HY.out hdue (.inr ⟨e2, by omega⟩))
                  have p7 : decide (y.q < u.q) = true := by simpa using e3
                  have p8 : (y.q : Int) < (u.q : Int) := by omega
                  clear HU HY hdue e1 e2
                  generalize u.a = ua at *
                  generalize u.q = uq at *
                  generalize y.a = ya at *
                  generalize y.v = yv at *
                  generalize y.q = yq at *
                  generalize y.s = ys at *
                  generalize y.g = yg at *
                  go_wp2
                  go_quiet (fail)
                  go_wp2
                  go_roundw
                  case rel => exact ⟨j + 1, (j : Int), rfl, by go_num, by omega, by omega, by omega, Lib.hid ⟨HN.out, (HM.out.alloc _).drewN _⟩⟩
                  case measure => simp [intOf]; omega
                · have HN := Lib.hid (scan_keep HS.out HU.out HY.out (.inr ⟨e2.symm, by omega⟩))
                  have p7 : decide (y.q < u.q) = false := by simpa using e3
                  have p8 : ¬ (y.q : Int) < (u.q : Int) := by omega
                  clear HU HY hdue e1 e2
                  generalize u.a = ua at *
                  generalize u.q = uq at *
                  generalize y.a = ya at *
                  generalize y.v = yv at *
                  generalize y.q = yq at *
                  generalize y.s = ys at *
                  generalize y.g = yg at *
                  go_wp2
                  go_quiet (fail)
                  go_wp2
                  go_roundw
                  case rel => exact ⟨j + 1, (kn : Int), rfl, by go_num, by omega, by omega, by omega, Lib.hid ⟨HN.out, (HM.out.alloc _).drewN _⟩⟩
                  case measure => simp [intOf]; omega
              · have HN := Lib.hid (scan_keep HS.out HU.out HY.out (.inl (by omega)))
                have p6 : ((y.a : Int) == (u.a : Int)) = false := by simp; omega
                clear HU HY hdue e1 e2
                generalize u.a = ua at *
                generalize u.q = uq at *
                generalize y.a = ya at *
                generalize y.v = yv at *
                generalize y.q = yq at *
                generalize y.s = ys at *
                generalize y.g = yg at *
                go_wp2
                go_quiet (fail)
                go_wp2
                go_roundw
                case rel => exact ⟨j + 1, (kn : Int), rfl, by go_num, by omega, by omega, by omega, Lib.hid ⟨HN.out, (HM.out.alloc _).drewN _⟩⟩
                case measure => simp [intOf]; omega
        · have HN := Lib.hid (scan_far HS.out hy (by omega))
          clear z5 c0 c1 c2 c3 c4 hy
          have b1 := fun o => cell_alloc d1 o
          have b2 := fun o => cell_alloc d2 o
          generalize y.a = ya at *
          generalize y.v = yv at *
          generalize y.q = yq at *
          generalize y.s = ys at *
          generalize y.g = yg at *
          have p1 : decide (ya ≤ t) = false := by simpa using hdue
          have p2 : ¬ (ya : Int) ≤ (t : Int) := by omega
          go_wp2
          go_quiet (fail)
          go_wp2
          go_roundw
          case rel => exact ⟨j + 1, k, rfl, by go_num, by omega, hk1, hk2, Lib.hid ⟨HN.out, (HM.out.alloc _).drewN _⟩⟩
          case measure => simp [intOf]; omega
      · have hjj : j = Lc.length := by omega
        subst hjj
        have q0 : ¬ (Lc.length : Int) < (Lc.length : Int) := by omega
        rcases scan_end HS.out with ⟨rfl, hend⟩ | ⟨kn, u, rfl, hkl, hu, hdue, hle⟩
        · have HE := Lib.hid hend
          clear hend c0 c1 c2 c3 c4
          go_wp2
          go_ret
          refine ⟨u5, rfl, Lib.hid ⟨foot6 x hF (.slice A Lc.length lc), R, Lc, ⟨sg, _, hF, rfl, HA.out.ref.quiet HM.out⟩, HA.out.fired, HE.out, HA.out.own.mods HM.out (by simp), (fun b hb => HA.out.new b (by simpa using hb)), HA.out.mods.trans HM.out (by simp), fun k hk => ?_⟩⟩
          simp only [foot6, List.mem_cons, List.mem_append] at hk ⊢
          rcases hk with hk | hk | hk
          · exact .inl (.inl hk)
          · exact .inl (.inr (.inl hk))
          · rcases HA.out.lnew k hk with h | h
            · exact .inl (.inr (.inr h))
            · exact .inr h
        · have HB := Lib.hid (And.intro hu (And.intro hdue hle))
          obtain ⟨lb, lc', el, lh1, lh2, -, v0, v1, v2, v3, v4, v5⟩ := HA.out.ref.at hu
          injection el with el el2 el3
          subst el el3
          clear el2
          unfold maxLen at lh2
          have v1 := cell_mods v1 HM.out (by simp)
          have v3 := cell_mods v3 HM.out (by simp)
          have v4 := cell_mods v4 HM.out (by simp)
          have p3 : decide ((kn : Int) < 0) = false := by simp
          have HOW := Lib.hid (show (iv (R.map (·.v))).length + 1 ≤ 1000000000 from by
            have h1 := HA.out.fired.len
            have h2 := HLL.out
            rw [iv_len, List.length_map]; omega)
          have HO := Lib.hid (HA.out.own.mods HM.out (by simp))
          obtain ⟨A5, n5, cp5, hu5, hn5, -, -⟩ := HO.out.slice'
          subst hu5
          have HN5 := Lib.hid hn5
          clear v0 v2 v5 c0 c2 c3 c4 hu hdue hle hn5
          obtain ⟨⟨ua, uv, uq, us, ug⟩, rfl⟩ : ∃ z : Rt, z = u := ⟨_, rfl⟩
          go_wp2_with (at_builtin; refine wpList_append_own2 _ rfl (.tmp 89) (.tmp 98) 49 rfl 3 i1 (.int .i64 0) Tryd.underlying49 HJ.out.1 HJ.out.2.1 HJ.out.2.2.1 HJ.out.2.2.2 rfl (.slice A5 n5 cp5) (iv (R.map (·.v))) rfl (HO.out.alloc _) (some ⟨wr.heap.size, 0, none⟩) 1 1 [.int .i64 uv] rfl rfl (Src.one _ _ _) (by simp [Value.oneCell']) HOW.out ?_; intro v9 w9 HO9 HM9; obtain ⟨A9, n9, cp9, rfl, hn9, -, -⟩ := HO9.out.slice'; have HN9 := Lib.hid hn9; clear hn9; have H9 := Lib.hid ((HA.out.ref.quiet (HM.out.trans ((Mods.refl [] _).alloc (.cells #[.int .i64 uv] 3)) (by simp))).mods HM9.out.1 (fun k hk hk2 => HA.out.far k hk2 hk)); obtain ⟨e0, e1, e2, e3, e4⟩ := H9.out.cells)
          obtain ⟨_, _, el, -, -, -, y0, y1, y2, y3, y4, y5⟩ := H9.out.at HB.out.1
          injection el with el el2 el3
          injection el with el
          injection el with el
          subst el
          clear el2 el3
          have HTK := Lib.hid (rtake_any (w9.alloc (.cells #[.int .i64 (us : Int), .int .i64 (ug : Int)] 32)).drew sg w9.heap.size 1 [((us : Int), (ug : Int))] hF (takeR S R) K (slabB_keep (slabB_mods H9.out.slab ((Mods.refl [] w9).alloc _) (by simp)) fun _ _ => rfl) (by simp) (pairs_row (t := 32) (cs := #[.int .i64 (us : Int), .int .i64 (ug : Int)]) (Row.new w9 _ _) rfl (by
            have hg : us < 4096 ∧ ug ≤ K := (H9.out.rng _ (List.mem_of_getElem? HB.out.1)).2.2
            simp only [List.mem_singleton]
            rintro p rfl
            simp only
            omega)) (fun hk => by have := slabB_lt H9.out.slab _ hk; omega))
          have e0a := fun o => cell_alloc e0 o
          have e1a := fun o => cell_alloc e1 o
          have y3a := fun o => cell_alloc y3 o
          have y4a := fun o => cell_alloc y4 o
          have HX := Lib.hid H9.out.apart
          clear e2 e3 e4 y0 y1 y2 y5 v1 v3 v4 c1
          go_wp2_with fail
          go_region_held3 (fun w' => w'.cell? ⟨x, 0, none⟩ = some (.pointer (some ⟨sg, 0, none⟩)) ∧ w'.cell? ⟨x, 1, none⟩ = some (.slice (some ⟨lb, 0, none⟩) Lc.length lc) ∧ w'.cell? ⟨lb, kn * 5 + 3, none⟩ = some (.int .i64 (us : Int)) ∧ w'.cell? ⟨lb, kn * 5 + 4, none⟩ = some (.int .i64 (ug : Int))) (go_keep)
            ((go_at_call 38; refine Calls.mono HTK.out ?_; rintro e w10 ⟨rfl, hs2, hd2⟩; have e0b := cell_mods (e0a (.cells #[.int .i64 (us : Int), .int .i64 (ug : Int)] 32)) (of_drew hd2) HX.out.1; have e1b := cell_mods (e1a (.cells #[.int .i64 (us : Int), .int .i64 (ug : Int)] 32)) (of_drew hd2) HX.out.1; have y3b := cell_mods (y3a (.cells #[.int .i64 (us : Int), .int .i64 (ug : Int)] 32)) (of_drew hd2) (HX.out.2.2 lb (by simp [Value.ownBlock])); have y4b := cell_mods (y4a (.cells #[.int .i64 (us : Int), .int .i64 (ug : Int)] 32)) (of_drew hd2) (HX.out.2.2 lb (by simp [Value.ownBlock])); have H1 := Lib.hid (And.intro hs2 (of_drew hd2)); clear hd2 hs2))
          all_goals
            have H10 := Lib.hid ((H9.out.quiet ((Mods.refl [] w9).alloc (.cells #[.int .i64 (us : Int), .int .i64 (ug : Int)] 32))).slabbed H1.out.2 H1.out.1 (Nat.le_refl _))
            have f10 := H10.out.row.free
            have g1a := fun o => cell_alloc e1b o
            have q1 : IntKind.i64.wrap ((kn : Int) + 1) = ((kn + 1 : Nat) : Int) := by rw [IntKind.wrap_i64]; omega
            clear e0b y3b y4b HTK e0a e1a y3a y4a
            have HS1 := Lib.hid (src_take H10.out kn)
            have hb1 : kn ≤ lc := by omega
            have hb2 : kn + 1 ≤ Lc.length := by omega
            have hb3 : kn + 1 ≤ lc := by omega
            have hb4 : (0 : Int) ≤ (kn : Int) + 1 := by omega
            have hb5 : (kn : Int) + 1 ≤ (Lc.length : Int) := by omega
            obtain ⟨off, hoff, hs2⟩ := src_off H10.out kn hb2 hb3
            have HS2 := Lib.hid hs2
            clear hs2
            go_wp2
            go_region_law (first
                | (refine step_append_n rfl (.tmp 115) (.tmp 121) 38 rfl 83 i0 _ 5 40 Tryd.underlying38 HI.out.1 HI.out.2.1 HI.out.2.2.1 HI.out.2.2.2 rfl (by omega) (.slice (some ⟨w10.heap.size, 0, none⟩) 0 0) 0 [] rfl (own_keep (own_empty w10) fun _ _ => rfl) ⟨lb, 0, none⟩ (kn) (lc) (rts (Lc.take kn)) rfl (by rw [rts_length, List.length_take]; omega) (fun j u hu => cell_alloc (HS1.out j u hu) _) (rts_one _) (by unfold maxLen; omega) (by omega) ?_; intro v8 w8 HO8 HM8; have HC := Lib.hid (cut1 HM8.out ((((Mods.refl [] w10).alloc (.cells #[] 83))).same rfl rfl rfl rfl)); have HO8' := Lib.hid (show w8.ownsRow 0 83 5 v8 kn (rts (Lc.take kn)) from by simpa using HO8.out); obtain ⟨A8, c8, rfl, -, -⟩ := own_slice HO8'.out; have k8 := cell_mods e1b HC.out.1 (by simp))
                | (refine step_append_n rfl (.tmp 122) (.tmp 129) 38 rfl 83 i0 _ 5 40 Tryd.underlying38 HI.out.1 HI.out.2.1 HI.out.2.2.1 HI.out.2.2.2 rfl (by omega) (.slice A8 kn c8) kn (rts (Lc.take kn)) rfl (own_keep HO8'.out fun _ _ => rfl) ⟨lb, off, none⟩ (Lc.length - (kn + 1)) (lc - (kn + 1)) (rts (Lc.drop (kn + 1))) rfl (by rw [rts_length, List.length_drop]) (fun j u hu => cell_mods (HS2.out j u hu) HC.out.1 (by simp)) (rts_one _) (by unfold maxLen; omega) (by omega) ?_; intro v11 w11 HO11 HM11; have HD := Lib.hid (cut2 HC.out HM11.out ((Mods.refl [] w8).same rfl rfl rfl rfl)); obtain ⟨A11, c11, rfl, -, -⟩ := own_slice HO11.out; have f11 := fun j => (H10.out.row.mods HD.out.1 (by simp)).free j; have k11 := cell_mods e1b HD.out.1 (by simp)))
            all_goals go_wp2
            all_goals go_roundw
          all_goals
            have hl := HA.out.fired.len
            have hn9 : n9 = R.length + 1 := by rw [HN9.out, List.length_append, iv_len, List.length_map]; rfl
            have hn5 : n5 = R.length := by rw [HN5.out, iv_len, List.length_map]
            first
              | exact ⟨n9, rfl, by omega, Lib.hid ⟨R ++ [⟨ua, uv, uq, us, ug⟩], Lc.eraseIdx kn, .slice A11 (kn + (Lc.length - (kn + 1))) c11, by rw [hn9]; simp, adv_step HA.out HM.out HB.out HO9.out HM9.out H10.out (by rw [takeR_snoc]; rfl) H1.out.2 HO11.out HD.out⟩⟩
              | (show L.length + 1 - n9 < L.length + 1 - n5; omega)
end Go.Proofs.YtgfmjkbelciaaaaDoor
