/- What Put of the reference's pool does. -/
import Derived.Test.YtdocifbkocbiiaaRefPool
import Derived.Deep.QuietTactic
import Derived.BigQuiet
namespace Go.Proofs.Ytdocifbkocbiiaa
open Go.RowKit
set_option maxRecDepth 10000
set_option linter.unusedVariables false
set_option linter.unusedSimpArgs false

theorem Mods.same {F : List Nat} {w w1 w2 : World} (h : Mods F w w1) (h1 : w2.heap = w1.heap) (h2 : w2.os = w1.os) (h3 : w2.tape = w1.tape) (h4 : w2.output = w1.output) : Mods F w w2 :=
  ⟨h2.trans h.os, h3.trans h.tape, h4.trans h.output, by rw [h1]; exact h.size, fun k hk hn => by rw [h1]; exact h.block k hk hn⟩
/-- What a Put of the reference leaves. -/
def GaveR (w w' : World) (g m z : Nat) (O' : List Bool) (t : Nat) : Prop := PoolR w' g m z O' t ∧ Mods [g, m] w w'
set_option maxHeartbeats 1000000 in
theorem rput_any (w : World) (g m z t k c : Nat) (O : List Bool) (A : Option Addr) (l : List Int) (h : PoolR w g m z O t) (hl : NumsAt w [g, m] A l) (hk : k = l.length) (hl2 : l.length ≤ 1000000) :
    Calls Try.prog 16 #[.pointer (some ⟨g, 0, none⟩), .slice A k c] w fun e w' =>
      e = .returned (.int .i64 ((cnt O : Int) - (cnt (puts O l) : Int))) ∧ Hid (GaveR w w' g m z (puts O l) t) := by
  subst hk
  have HH := Lib.hid h
  have HL := Lib.hid hl
  have hcl := cnt_le O
  have hN := h.hi
  have hcl2 : cnt O ≤ 4096 := Nat.le_trans hcl hN
  obtain ⟨q, hq⟩ : ∃ q, q = cnt O := ⟨_, rfl⟩
  rw [← hq] at hcl2 ⊢
  have HQ := Lib.hid hq
  clear h hl hcl hN hq
  go_enter Try.func16, Try.ntmps16
  go_wp2
  go_loopw [5, 6] (fun n i wr => ∃ (j p : Nat), j ≤ l.length ∧ i = .int .i64 j ∧ n = .int .i64 ((q : Int) - (p : Int)) ∧ p ≤ q ∧ Hid (p = cnt (puts O (l.take j)) ∧ GaveR w wr g m z (puts O (l.take j)) t)) (fun _ i _ => l.length - (intOf i).toNat)
  case atStart => exact ⟨0, q, Nat.zero_le _, rfl, by simp, Nat.le_refl _, Lib.hid ⟨HQ.out, HH.out, Mods.refl _ _⟩⟩
  case round =>
    obtain ⟨j, p, hj, rfl, rfl, hp, hd⟩ := hrel
    by_cases hlt : j < l.length
    · have HSN := Lib.hid (puts_snoc O l j hlt)
      obtain ⟨b, o, rfl, _, hb, cc⟩ := HL.out.mods hd.out.2.2 j l[j] (List.getElem?_eq_getElem hlt)
      obtain ⟨x, hx⟩ : ∃ x, x = l[j] := ⟨_, rfl⟩
      rw [← hx] at cc HSN
      obtain ⟨P, hP⟩ : ∃ P, P = puts O (l.take j) := ⟨_, rfl⟩
      rw [← hP] at hd HSN
      have HA := Lib.hid hd.out.2.1
      have HM := Lib.hid hd.out.2.2
      have HPE := Lib.hid hd.out.1
      clear hd hx hP
      have c0 := HA.out.row.cell 0
      have c2 := HA.out.row.cell 2
      rw [← HPE.out] at c2
      have hPl := HA.out.hi
      by_cases h0 : 0 ≤ x
      case neg =>
        have hno : lentAt P x = false := by unfold lentAt; simp; intro h; omega
        have HSE := Lib.hid (HSN.out.trans (put1_no P x hno))
        have hd0 : decide (0 ≤ x) = false := by simpa using h0
        obtain ⟨N, hN⟩ : ∃ N, N = P.length := ⟨_, rfl⟩
        rw [← hN] at c0 hPl
        clear hno hN
        go_wp2_with fail
        go_quiet (fail)
        go_wp2
        go_roundw
        case rel => exact ⟨j + 1, p, by omega, by go_num, rfl, hp, Lib.hid (by rw [HSE.out]; exact ⟨HPE.out, HA.out.keep (fun _ _ => rfl), HM.out.drewN _⟩)⟩
        case measure => simp [intOf]; omega
      obtain ⟨i, rfl⟩ : ∃ i : Nat, x = (i : Int) := ⟨x.toNat, by omega⟩
      clear h0
      by_cases hi : i < P.length
      case neg =>
        have hno : lentAt P i = false := by unfold lentAt; rw [List.getElem?_eq_none (by simpa using hi)]; simp
        have HSE := Lib.hid (HSN.out.trans (put1_no P i hno))
        obtain ⟨N, hN⟩ : ∃ N, N = P.length := ⟨_, rfl⟩
        rw [← hN] at c0 hi hPl
        have hd1 : decide (i < N) = false := by simp; omega
        clear hno hN hi
        go_wp2_with fail
        go_quiet (fail)
        go_wp2
        go_roundw
        case rel => exact ⟨j + 1, p, by omega, by go_num, rfl, hp, Lib.hid (by rw [HSE.out]; exact ⟨HPE.out, HA.out.keep (fun _ _ => rfl), HM.out.drewN _⟩)⟩
        case measure => simp [intOf]; omega
      have f0 := HA.out.row.free
      have f1 := HA.out.mem.free
      have hne := HA.out.ne
      have hne2 := hne.symm
      cases hb2 : P[i] with
      | false =>
        have hg : P[i]? = some false := by rw [List.getElem?_eq_getElem hi, hb2]
        have cm := HA.out.cellAt i false hg
        have hno : lentAt P i = false := by unfold lentAt; rw [Int.toNat_natCast, hg]; simp
        have HSE := Lib.hid (HSN.out.trans (put1_no P i hno))
        obtain ⟨N, hN⟩ : ∃ N, N = P.length := ⟨_, rfl⟩
        have hi : i < N := by omega
        rw [← hN] at c0 hPl
        clear hno hg hb2 hN
        go_wp2_with fail
        go_quiet (fail)
        go_wp2
        go_roundw
        case rel => exact ⟨j + 1, p, by omega, by go_num, rfl, hp, Lib.hid (by rw [HSE.out]; exact ⟨HPE.out, HA.out.keep (fun _ _ => rfl), HM.out.drewN _⟩)⟩
        case measure => simp [intOf]; omega
      | true =>
        have hg : P[i]? = some true := by rw [List.getElem?_eq_getElem hi, hb2]
        have cm := HA.out.cellAt i true hg
        have hyes : lentAt P i = true := (lentAt_iff _ _).2 ⟨by omega, by simpa using hg⟩
        obtain ⟨h1, h2, _⟩ := put1_yes P i hyes
        have hp1 : 1 ≤ p := by rw [HPE.out]; omega
        have HSE := Lib.hid (show puts O (l.take (j + 1)) = P.set i false by rw [HSN.out, h1]; rfl)
        have HCE := Lib.hid (show ((p : Int) - 1) = (cnt (P.set i false) : Nat) by rw [HPE.out]; rw [h1] at h2; simp at h2; omega)
        obtain ⟨N, hN⟩ : ∃ N, N = P.length := ⟨_, rfl⟩
        have hi : i < N := by omega
        rw [← hN] at c0 hPl
        clear hyes hg hb2 hN h1 h2
        go_wp2_with fail
        go_quiet (fail)
        go_wp2_with fail
        go_region
        all_goals go_wp2
        all_goals
          go_roundw
          case rel => exact ⟨j + 1, p - 1, by omega, by go_num, by rw [show (((p - 1 : Nat)) : Int) = (p : Int) - 1 by omega]; go_num, by omega, Lib.hid (by
            rw [HSE.out]
            refine ⟨by have := HCE.out; omega, (poolR_set2 (b := false) HA.out HCE.out).keep (fun _ _ => rfl), ?_⟩
            exact (((HM.out.setCell (p := ⟨m, i, none⟩) (.inl (by simp)) (.bool false)).setCell (p := ⟨g, 2, none⟩) (.inl (by simp)) (.int .i64 ((p : Int) - 1)))).same rfl rfl rfl rfl)⟩
          case measure => simp [intOf]; omega
    · have HK := Lib.hid (show l.take j = l from List.take_of_length_le (by omega))
      rw [HK.out] at hd
      have HE := Lib.hid (show (p : Int) = cnt (puts O l) by rw [hd.out.1])
      go_wp2
      go_ret
      exact ⟨ret_i64 (by rw [← HE.out]), Lib.hid hd.out.2⟩
#print axioms rput_any
end Go.Proofs.Ytdocifbkocbiiaa
