/- The document's Has. Conditions: at most a million bytes in all. -/
import Derived.Test.YtjoineomkdiekaaGreatDoorRt9
import Derived.Deep.RegionWith
import Derived.Deep.RegionHeld3
namespace Go.Proofs.YtjoineomkdiekaaGreatDoor
open Go.RowKit
set_option linter.unusedVariables false

theorem ba_toList (l : List UInt8) : (ba l).toList = l := by rw [ByteArray.toList_eq]; rfl
theorem any_take {L : List (List UInt8)} {p : List UInt8 → Bool} {k : Nat} (h : k < L.length) : (L.take (k + 1)).any p = ((L.take k).any p || p L[k]) := by
  rw [List.take_succ_eq_append_getElem h, List.any_append]; simp
set_option maxRecDepth 10000 in
set_option maxHeartbeats 1000000 in
theorem refhas (tok : ByteArray) (ts : List ByteArray) (v : Value) (w : World) (h : StrsAt w v ts) (hs : sizes ts ≤ 1000000) (ht : tok.size ≤ 1000000) :
    Calls Tryz.prog 30 #[.string tok, v] w (HasAns w tok ts) := by
  have hm : tok.size ≤ 140737488351232 := by omega
  have HT := reftok ts v w h hs
  have HS := Lib.hid hs
  clear hs h
  cases hL : toksO ts with
  | none =>
    have hh : hasL tok.data.toList ts = false := by unfold hasL; rw [hL]
    have HH := Lib.hid hh
    have HL := Lib.hid hL
    clear hh hL
    go_enter Tryz.func30, Tryz.ntmps30
    go_wp2_with (go_at_call 29; refine HT.mono ?_; rintro e w1 ⟨hb, he⟩; rw [HL.out] at he; obtain rfl := he; have HB := Lib.hid hb; clear hb)
    refine wp_loop_rounds 1 ?_
    rw [rounds_succ]
    go_wp2
    go_ret
    exact ⟨by rw [HH.out]; rfl, HB.out⟩
  | some L =>
    have hh : hasL tok.data.toList ts = L.any (fun x => x == lowL tok.data.toList) := by unfold hasL; rw [hL]
    have hlen := Nat.le_trans (toksO_len hL) HS.out
    have HH := Lib.hid hh
    have HL := Lib.hid hL
    clear hh hL
    go_enter Tryz.func30, Tryz.ntmps30
    go_wp2_with (go_at_call 29; refine HT.mono ?_; rintro e w1 ⟨hb, he⟩; rw [HL.out] at he; obtain ⟨v1, rfl, hr⟩ := he; have HB := Lib.hid hb; have HR := Lib.hid (row_strs hr); clear hb hr)
    obtain ⟨a, ca, hv⟩ := HR.out.len
    rw [List.length_map] at hv
    subst hv
    go_loopw [7] (fun i wr => ∃ (k : Nat), k ≤ L.length ∧ i = .int .i64 k ∧ Below w1.heap.size w1 wr ∧ (L.take k).any (fun x => x == lowL tok.data.toList) = false) (fun i _ => L.length - (intOf i).toNat)
    case atStart => exact ⟨0, Nat.zero_le _, rfl, Below.refl _ _, rfl⟩
    case round =>
      obtain ⟨k, hk, rfl, hlow, hall⟩ := hrel
      have HLO := Lib.hid hlow
      have HA := Lib.hid hall
      clear hlow hall
      by_cases hlt : k < L.length
      · rcases HR.out.below HLO.out with ⟨h0, -⟩ | ⟨b, off, cap, hv2, h0, hb, hc⟩
        · exfalso; have := congrArg List.length h0; rw [List.length_map] at this; simp at this; rw [this] at hlt; simp at hlt
        · injection hv2 with e1 e2 e3
          subst e1
          have hc1 : wr.cell? ⟨b, off + k, none⟩ = some (.string (ba L[k])) := by have := hc k (by rw [List.length_map]; exact hlt); rw [List.getElem_map] at this; exact this
          clear hc h0 e2 e3
          by_cases he : L[k] = lowL tok.data.toList
          · have h1 := (bytes_eq (show ba L[k] = ba (lowL tok.data.toList) by rw [he])).1
            rw [ba_toList (lowL _)] at h1
            have hyes : L.any (fun x => x == lowL tok.data.toList) = true := List.any_eq_true.2 ⟨L[k], List.getElem_mem hlt, by rw [he]; simp⟩
            have HY := Lib.hid hyes
            clear hyes he
            go_wp2
            go_region_with (go_at_call 51; refine (lower_r tok _ hm).mono ?_; rintro e w2 ⟨rfl, hb2⟩; have hc2 : w2.cell? ⟨b, off + k, none⟩ = some (.string (ba L[k])) := ((((Below.refl _ wr).drew.trans hb2)).cell (p := ⟨b, off + k, none⟩) hb).trans hc1; have HB2 := Lib.hid hb2; clear hb2)
            all_goals go_wp2
            all_goals go_ret
            all_goals exact ⟨by rw [HH.out, HY.out]; rfl, HB.out.trans ((HLO.out.trans ((Below.refl _ wr).drew.trans (HB2.out.mono (Nat.le_refl _)) |>.mono HLO.out.size)).mono HB.out.size)⟩
          · have h1 := (bytes_ne (show ba L[k] ≠ ba (lowL tok.data.toList) from fun e => he (ba_inj e))).1
            rw [ba_toList (lowL _)] at h1
            have hno : (L.take (k + 1)).any (fun x => x == lowL tok.data.toList) = false := by rw [any_take hlt, HA.out]; simpa using he
            have HN := Lib.hid hno
            clear hno he
            go_wp2
            go_region_with (go_at_call 51; refine (lower_r tok _ hm).mono ?_; rintro e w2 ⟨rfl, hb2⟩; have hc2 : w2.cell? ⟨b, off + k, none⟩ = some (.string (ba L[k])) := ((((Below.refl _ wr).drew.trans hb2)).cell (p := ⟨b, off + k, none⟩) hb).trans hc1; have HB2 := Lib.hid hb2; clear hb2)
            all_goals go_wp2
            all_goals go_roundw
            all_goals first
              | exact ⟨k + 1, by omega, by go_num, HLO.out.trans (((Below.refl _ wr).drew.trans (HB2.out.mono (Nat.le_refl _))).mono HLO.out.size), HN.out⟩
              | (simp [intOf]; omega)
      · have hno : L.any (fun x => x == lowL tok.data.toList) = false := by have := HA.out; rw [List.take_of_length_le (by omega)] at this; exact this
        have HN := Lib.hid hno
        clear hno
        go_wp2
        go_ret
        exact ⟨by rw [HH.out, HN.out]; rfl, HB.out.trans (HLO.out.mono HB.out.size)⟩
end Go.Proofs.YtjoineomkdiekaaGreatDoor
