/- Add, Values, Get and Drop of the document. Conditions: texts of at most a million bytes, 24 fields. -/
import Derived.Test.YtcliapfoimnkiaaGreatDoorFi10
import Derived.Deep.RegionLaw
namespace Go.Proofs.YtcliapfoimnkiaaGreatDoor
open Go.RowKit
set_option linter.unusedVariables false
set_option linter.unusedSimpArgs false

set_option maxRecDepth 10000 in
set_option maxHeartbeats 1000000 in
theorem radd {g : Nat} {v : Value} {S : List FV} (vl : Value) (l : List FV) (w : World) (h : Fld 48 w g v S) (hA : FsAt w vl l) (hl : l.length ≤ 1000000) (hs : Small l)
    (hd : 0 < l.length → ∀ k ∈ vl.ownBlock.toList, k ≠ g ∧ k ∉ v.ownBlock.toList) :
    Calls Tryz.prog 24 #[ptr g, vl] w fun e w' => ∃ u, e = .returned (.tuple #[.int .i64 ((addR S.length l).1 : Nat), .int .i64 (addR S.length l).2]) ∧ Added 48 w g v (addF S l) u w' := by
  unfold ptr
  rcases hA with ⟨rfl, a, cap, rfl⟩ | ⟨b, off, cap, rfl, hpos, hb, hc⟩
  · go_enter Tryz.func24, Tryz.ntmps24
    go_wp2
    refine wp_loop_rounds 1 ?_
    rw [rounds_succ]
    go_wp2
    go_ret2
    exact ⟨v, rfl, by simpa [addF, addR] using h, Mods.refl _ _, fun k hk => .inl hk⟩
  · have HC := Lib.hid hc
    have HS := Lib.hid hs
    have hbF : b ∉ g :: v.ownBlock.toList := by
      have := hd hpos b (by simp [Value.ownBlock])
      simp only [List.mem_cons, not_or]; exact this
    have HB := Lib.hid hbF
    have HA := Lib.hid (show Added 48 w g v (S ++ l.take 0) v w from ⟨by simpa using h, Mods.refl _ _, fun k hk => .inl hk⟩)
    obtain ⟨n0, hn0⟩ : ∃ n0, n0 = S.length := ⟨_, rfl⟩
    have HN0 := Lib.hid hn0
    have hn24 : n0 ≤ 24 := by rw [hn0]; exact h.len
    rw [← hn0]
    clear h hc hs hd hbF hn0 hpos
    go_enter Tryz.func24, Tryz.ntmps24
    go_wp2
    go_loopw [6] (fun i wr => ∃ (k : Nat) (u : Value), k ≤ l.length ∧ i = .int .i64 k ∧ (∀ j (hj : j < l.length), j < k → okF l[j] = true) ∧ n0 + k ≤ 24 ∧ Added 48 w g v (S ++ l.take k) u wr) (fun i _ => l.length - (intOf i).toNat)
    case atStart => exact ⟨0, v, Nat.zero_le _, rfl, fun j _ h => absurd h (Nat.not_lt_zero _), by omega, HA.out⟩
    case round =>
      obtain ⟨k, u, hk, rfl, hok, hnk, hG⟩ := hrel
      have HK := Lib.hid hok
      have HG := Lib.hid hG
      clear hok hG
      by_cases hlt : k < l.length
      · have c0 : wr.cell? ⟨b, off + k * 2, none⟩ = some (.string l[k].1) := cell_mods (HC.out k hlt).1 HG.out.mods HB.out
        have c1 : wr.cell? ⟨b, off + k * 2 + 1, none⟩ = some (.string l[k].2) := cell_mods (HC.out k hlt).2 HG.out.mods HB.out
        have hs1 := (HS.out.at k hlt).1
        have hs2 := (HS.out.at k hlt).2
        have HTK := Lib.hid (List.take_succ_eq_append_getElem hlt)
        obtain ⟨p, hp⟩ : ∃ p, p = l[k] := ⟨_, rfl⟩
        have HPE := Lib.hid hp
        rw [← hp] at c0 c1 hs1 hs2 HTK
        clear hp
        obtain ⟨x, y⟩ := p
        simp only at c0 c1 hs1 hs2
        have hsl : (S ++ l.take k).length = n0 + k := by rw [HN0.out, List.length_append, List.length_take]; omega
        cases hf : okF (x, y) with
        | false =>
          have HR := Lib.hid (addR_bad (k := n0) hlt HK.out hnk (by rw [← HPE.out]; exact hf))
          have HI := Lib.hid (fun w => isfR (x, y) hf hs1 hs2 w)
          have HF := Lib.hid (show addF S l = S ++ l.take k by unfold addF; rw [← HN0.out, HR.out])
          clear hf
          go_wp2_with (go_at_call 42; refine (HI.out _).mono ?_; rintro e w1 ⟨rfl, hm⟩; have HG1 := Lib.hid (HG.out.low hm); clear hm)
          go_ret2
          exact ⟨u, by rw [HR.out]; rfl, by rw [HF.out]; exact HG1.out⟩
        | true =>
          have HI := Lib.hid (fun w => isfR (x, y) hf hs1 hs2 w)
          have HOK := Lib.hid hf
          clear hf
          obtain ⟨a5, d5, hu⟩ := HG.out.fld.form
          obtain ⟨m, hm5⟩ : ∃ m, m = (S ++ l.take k).length := ⟨_, rfl⟩
          rw [← hm5] at hu hsl
          have HM5 := Lib.hid hm5
          subst hu
          clear hm5
          by_cases h24 : n0 + k = 24
          · have HR := Lib.hid (addR_full (k := n0) hlt HK.out h24 (by rw [← HPE.out]; exact HOK.out))
            have HF := Lib.hid (show addF S l = S ++ l.take k by unfold addF; rw [← HN0.out, HR.out])
            have hm24 : (24 : Int) ≤ (m : Int) := by omega
            clear h24 hsl
            go_wp2_with (go_at_call 42; refine (HI.out _).mono ?_; rintro e w1 ⟨rfl, hm⟩; have hg1 := HG.out.low hm; have e0 := hg1.fld.cell; have HG1 := Lib.hid hg1; clear hm hg1)
            go_ret2
            exact ⟨_, by rw [HR.out]; rfl, by rw [HF.out]; exact HG1.out⟩
          · have hm24 : ¬ (24 : Int) ≤ (m : Int) := by omega
            have HSL := Lib.hid hsl
            have HNK := Lib.hid (show n0 + (k + 1) ≤ 24 by omega)
            clear h24 hsl
            go_wp2_with (go_at_call 42; refine (HI.out _).mono ?_; rintro e w1 ⟨rfl, hm⟩; have hg1 := HG.out.low hm; have e0 := hg1.fld.cell; have k0 := cell_mods c0 hm (by simp); have k1 := cell_mods c1 hm (by simp); have HG1 := Lib.hid hg1; clear hm hg1)
            have hng : g ∉ (Value.slice a5 m d5).ownBlock.toList := fun hk => HG1.out.fld.ne (by decide) g hk rfl
            have hlm : (S ++ l.take k).length ≤ 1000000 := by have := HG1.out.fld.len; omega
            have hg2 := HG1.out.low ((Mods.refl [] w1).drew)
            obtain ⟨b5, c5, w4, hrun, hown, hm4, hb4⟩ := app_fld hg2.fld.own hlm (x, y)
            rw [← HM5.out] at hrun hown
            have e3 := cell_alloc e0 (.cells #[.string x, .string y] 35)
            have R4 := hg2.fld.row.mods hm4 hng
            have e4 := R4.cell 0
            have f4 := R4.free 0
            simp only [List.getElem?_toArray, List.getElem?_cons_zero] at e4
            have HO4 := Lib.hid hown
            have HM4 := Lib.hid hm4
            have HB4 := Lib.hid hb4
            have HG2 := Lib.hid hg2
            simp only [World.size_drew] at hrun
            change Sem.run _ _ (World.drew (World.alloc w1 _)) = _ at hrun
            clear hg2 hown hm4 hb4 R4 hng hlm
            go_region_law (refine step_appF rfl rfl rfl rfl hrun ?_)
            all_goals
              have HA9 := Lib.hid (HG2.out.more (by decide) HO4.out HM4.out HB4.out (by have h1 := HSL.out; have h2 := HM5.out; have h3 := HNK.out; rw [List.length_append, ← h2]; simp only [List.length_cons, List.length_nil]; omega) hs1 hs2)
              rw [List.append_assoc, ← HTK.out] at HA9
              have HOKS := Lib.hid (show ∀ j (hj : j < l.length), j < k + 1 → okF l[j] = true from fun j hj hjk => by
                by_cases e : j = k
                · subst e; rw [← HPE.out]; exact HOK.out
                · exact HK.out j hj (by omega))
              clear hrun e3 e4 f4
              go_wp2
              go_roundw
              case rel => exact ⟨k + 1, _, by omega, by go_num, HOKS.out, HNK.out, HA9.out⟩
              case measure => simp [intOf]; omega
      · obtain rfl : k = l.length := by omega
        have HR := Lib.hid (addR_end (l := l) (k := n0) (fun j hj h => HK.out j hj h) hnk)
        have HF := Lib.hid (show addF S l = S ++ l.take l.length by unfold addF; rw [← HN0.out, HR.out])
        go_wp2
        go_ret2
        exact ⟨u, by rw [HR.out]; rfl, by rw [HF.out]; exact HG.out⟩
end Go.Proofs.YtcliapfoimnkiaaGreatDoor
