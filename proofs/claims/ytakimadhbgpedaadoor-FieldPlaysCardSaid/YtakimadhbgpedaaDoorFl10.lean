/- Drop of the document; both sides' calls as the laws take them. Conditions: texts of at most a million bytes, 24 fields. -/
import Derived.Test.YtakimadhbgpedaaDoorFk10
import Derived.Deep.CutBlock
namespace Go.Proofs.YtakimadhbgpedaaDoor
open Go.RowKit
set_option linter.unusedVariables false
set_option linter.unusedSimpArgs false

theorem SsAt.gen {w : World} {v : Value} {l : List ByteArray} (h : SsAt w v l) : ∃ A C, v = .slice A l.length C ∧ ∀ m (hm : m < l.length), ∃ b o, A = some ⟨b, o, none⟩ ∧ w.cell? ⟨b, o + m, none⟩ = some (.string l[m]) := by
  rcases h with ⟨rfl, a, cap, rfl⟩ | ⟨b, off, cap, rfl, _, _, _, hc⟩
  · exact ⟨a, cap, rfl, fun m hm => absurd hm (Nat.not_lt_zero _)⟩
  · exact ⟨_, cap, rfl, fun m hm => ⟨b, off, rfl, hc m hm⟩⟩
theorem FsAt.gen {w : World} {v : Value} {l : List FV} (h : FsAt w v l) : ∃ A C, v = .slice A l.length C ∧ ∀ m (hm : m < l.length), ∃ b o, A = some ⟨b, o, none⟩ ∧ w.cell? ⟨b, o + m * 2, none⟩ = some (.string l[m].1) ∧ w.cell? ⟨b, o + m * 2 + 1, none⟩ = some (.string l[m].2) := by
  rcases h with ⟨rfl, a, cap, rfl⟩ | ⟨b, off, cap, rfl, _, _, hc⟩
  · exact ⟨a, cap, rfl, fun m hm => absurd hm (Nat.not_lt_zero _)⟩
  · exact ⟨_, cap, rfl, fun m hm => ⟨b, off, rfl, hc m hm⟩⟩
theorem dropF_snoc (S : List FV) (p : FV) (ns : List ByteArray) : dropF (S ++ [p]) ns = dropF S ns ++ (if isIn ns p.1 = true then [] else [p]) := by
  unfold dropF
  rw [List.filter_append]
  by_cases h : isIn ns p.1 = true <;> simp [h]
theorem any_snoc (ns : List ByteArray) (m : Nat) (h : m < ns.length) (x : ByteArray) : ((ns.take (m + 1)).any fun n => sameL x n) = (((ns.take m).any fun n => sameL x n) || sameL x ns[m]) := by
  rw [List.take_succ_eq_append_getElem h, List.any_append]; simp

set_option maxRecDepth 10000 in
set_option maxHeartbeats 2000000 in
theorem rdrop {g : Nat} {v : Value} {S : List FV} (vs : Value) (ns : List ByteArray) (w : World) (h : Fld 40 w g v S) (hA : SsAt w vs ns) (hl : ns.length ≤ 1000000) (hs : SmallS ns) :
    Calls Tryd.prog 24 #[ptr g, vs] w fun e w' => ∃ u, e = .returned (.int .i64 ((S.length : Int) - ((dropF S ns).length : Int))) ∧ Added 40 w g v (dropF S ns) u w' := by
  have hc0 := h.cell
  have HR0 := Lib.hid h.row
  have HS := Lib.hid h.small
  have hl24 := h.len
  obtain ⟨A, C, rfl, hN⟩ := hA.gen
  obtain ⟨B, D, rfl, hF⟩ := h.fs.gen
  have HN := Lib.hid hN
  have HF := Lib.hid hF
  have HNS := Lib.hid hs
  clear hN hF h hA hs
  unfold ptr
  go_enter Tryd.func24, Tryd.ntmps24
  go_wp2
  go_loopw [5, 6] (fun u i wr => ∃ (k : Nat), k ≤ S.length ∧ i = .int .i64 k ∧ Gt w 23 2 (dropF (S.take k) ns).length (encF (dropF (S.take k) ns)) u wr) (fun _ i _ => S.length - (intOf i).toNat)
  case atStart => exact ⟨0, Nat.zero_le _, rfl, Gt.nil _ _ _⟩
  case round =>
    obtain ⟨k, hk, rfl, hG⟩ := hrel
    have HG := Lib.hid hG
    have q0 := cell_mods hc0 hG.low (by simp)
    clear hG
    by_cases hlt : k < S.length
    · obtain ⟨b, off, rfl, hc1, hc2⟩ := HF.out k hlt
      have c0 : wr.cell? ⟨b, off + k * 2, none⟩ = some (.string S[k].1) := cell_mods hc1 HG.out.low (by simp)
      have c1 : wr.cell? ⟨b, off + k * 2 + 1, none⟩ = some (.string S[k].2) := cell_mods hc2 HG.out.low (by simp)
      have HT := Lib.hid (dropF_snoc (S.take k) S[k] ns)
      have HTK := Lib.hid (List.take_succ_eq_append_getElem hlt)
      have hs1 := (HS.out.at k hlt).1
      have HLN := Lib.hid (dropF_len (S.take k) ns)
      obtain ⟨p, hp⟩ : ∃ p, p = S[k] := ⟨_, rfl⟩
      rw [← hp] at c0 c1 HT hs1
      rw [← hp] at HTK
      obtain ⟨x, y⟩ := p
      simp only at c0 c1 hs1
      clear hp hc1 hc2
      obtain ⟨wo, rfl⟩ : ∃ wo : World, wo = wr := ⟨_, rfl⟩
      obtain ⟨va, vc, rfl⟩ := HG.out.form
      go_wp2
      go_loopw [7, 8] (fun o i wr => ∃ (m : Nat), m ≤ ns.length ∧ i = .int .i64 m ∧ o = .bool ((ns.take m).any fun n => sameL x n) ∧ Mods [] wo wr) (fun _ i _ => ns.length - (intOf i).toNat)
      case atStart => exact ⟨0, Nat.zero_le _, rfl, rfl, Mods.refl _ _⟩
      case round =>
        obtain ⟨m, hm, rfl, rfl, hM⟩ := hrel
        have HM := Lib.hid hM
        have d0 := cell_mods q0 hM (by simp)
        have d1 := cell_mods c0 hM (by simp)
        clear hM
        by_cases hml : m < ns.length
        · obtain ⟨nb, no, rfl, hcn⟩ := HN.out m hml
          have d2 : wr.cell? ⟨nb, no + m, none⟩ = some (.string ns[m]) := cell_mods (cell_mods hcn HG.out.low (by simp)) HM.out (by simp)
          have hnz := HNS.out ns[m] (List.getElem_mem hml)
          have HAN := Lib.hid (any_snoc ns m hml x)
          obtain ⟨z, hz⟩ : ∃ z, z = ns[m] := ⟨_, rfl⟩
          rw [← hz] at d2 hnz HAN
          clear hz hcn
          obtain ⟨o, ho⟩ : ∃ o, o = (ns.take m).any fun n => sameL x n := ⟨_, rfl⟩
          rw [← ho] at HAN ⊢
          clear ho
          cases o with
          | true =>
            rw [Bool.true_or] at HAN
            go_wp2
            go_quiet (fail)
            go_wp2
            go_roundw
            case rel => exact ⟨m + 1, by omega, by go_num, by rw [HAN.out], HM.out.drewN _⟩
            case measure => simp [intOf]; omega
          | false =>
            rw [Bool.false_or] at HAN
            have HSM := Lib.hid (fun w => same_r x z rfl hs1 hnz w)
            obtain ⟨r, hr⟩ : ∃ r, r = sameL x z := ⟨_, rfl⟩
            rw [← hr] at HAN HSM
            clear hr
            go_wp2
            go_region_held3 (fun w' => w'.cell? ⟨g, 0, none⟩ = some (.slice (some ⟨b, off, none⟩) S.length D) ∧ w'.cell? ⟨b, off + k * 2, none⟩ = some (.string x) ∧ w'.cell? ⟨nb, no + m, none⟩ = some (.string z)) (go_keep)
              ((go_at_call 36; refine (HSM.out _).mono ?_; rintro e w2 ⟨rfl, hm0⟩; have hm2 : Mods [] wr w2 := (by first | exact hm0 | exact of_drewF hm0); clear hm0; have e0 := cell_mods d0 hm2 (by simp); have e1 := cell_mods d1 hm2 (by simp); have e2 := cell_mods d2 hm2 (by simp); have M2 := Lib.hid (HM.out.trans hm2 (fun _ h => nomatch h)); clear hm2))
            all_goals
              go_wp2
              go_roundw
              case rel => exact ⟨m + 1, by omega, by go_num, by rw [HAN.out], M2.out⟩
              case measure => simp [intOf]; omega
        · obtain rfl : m = ns.length := by omega
          have HIN := Lib.hid (show ((ns.take ns.length).any fun n => sameL x n) = isIn ns x by rw [List.take_length]; exact isIn_comm ns x)
          rw [HIN.out]
          have d2 := cell_mods c1 HM.out (by simp)
          have hG2 := HG.out.mods HM.out
          obtain ⟨r, hr⟩ : ∃ r, r = isIn ns x := ⟨_, rfl⟩
          rw [← hr] at HT ⊢
          clear hr
          cases r with
          | true =>
            rw [if_pos rfl, List.append_nil] at HT
            have HG2 := Lib.hid hG2
            clear hG2
            go_wp2
            go_roundw
            case rel => exact ⟨k + 1, by omega, by go_num, by rw [HTK.out, HT.out]; exact HG2.out⟩
            case measure => simp [intOf]; omega
          | false =>
            rw [if_neg (by simp)] at HT
            have hroom : (dropF (S.take k) ns).length + 1 ≤ 1000000 := by have := HLN.out; rw [List.length_take] at this; omega
            obtain ⟨g5, n5, c5, w3, hrun, hG5⟩ := hG2.app Tryd.underlying31 infoFl rfl (by decide) hroom (by decide) [.string x, .string y] rfl (by simp [Value.oneCell'])
            have HG5 := Lib.hid hG5
            clear hG2 hG5
            go_wp2_with (at_builtin; refine wpList_run_app rfl (.tmp 43) (.tmp 51) 31 rfl rfl rfl hrun ?_)
            go_roundw
            case rel => exact ⟨k + 1, by omega, by go_num, by rw [HTK.out, HT.out, List.length_append, encF_append]; exact HG5.out⟩
            case measure => simp [intOf]; omega
    · obtain rfl : k = S.length := by omega
      have HE := HG.out
      rw [List.take_length] at HE
      obtain ⟨va, vc, rfl⟩ := HE.form
      have R1 := HR0.out.mods HE.low (by simp)
      have f0 := R1.free 0
      have hgl := HR0.out.lt
      have HE := Lib.hid HE
      have R1 := Lib.hid R1
      have HD := Lib.hid (dropF_small HS.out ns)
      have HDL := Lib.hid (dropF_len S ns)
      have hdl := HDL.out
      clear HG
      go_wp2
      go_ret
      refine ⟨_, rfl, ⟨R1.out.set 0 _, ?_, by have := HDL.out; omega, HD.out⟩, (HE.out.low.more (fun _ h => nomatch h)).setCell (.inl (by simp)) _, fun k hk => .inr (HE.out.news k hk)⟩
      refine own_mods (own_base (w' := w) HE.out.row (Nat.zero_le _)) ((Mods.refl [g] _).setCell (.inl (by simp)) _) (fun k hk hg => ?_)
      rw [List.mem_singleton] at hg
      subst hg
      have := HE.out.news k hk
      omega
end Go.Proofs.YtakimadhbgpedaaDoor
