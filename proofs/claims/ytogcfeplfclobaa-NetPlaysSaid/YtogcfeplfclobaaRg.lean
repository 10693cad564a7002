/- What Ready of the reference's net answer. -/
import Derived.Test.YtogcfeplfclobaaRe
namespace Go.Proofs.Ytogcfeplfclobaa
open Go.RowKit
set_option maxRecDepth 10000
set_option linter.unusedVariables false
set_option linter.unusedSimpArgs false

set_option maxHeartbeats 8000000 in
theorem rready_open (w : World) (g b o i n cc : Nat) (x : Cb) (r : Rn) (hc : CnA KR w x r) (ho : r.c.opn = true) (hin : r.inn = r.c.inn) (c1 : w.cell? ⟨g, 1, none⟩ = some (.slice (some ⟨b, o, none⟩) n cc)) (ci : w.cell? ⟨b, o + i, none⟩ = some (.pointer (some ⟨x.b, 0, none⟩))) (hi : i < n) (hl : n ≤ 65536) :
    Calls Try.prog 49 #[.pointer (some ⟨g, 0, none⟩), .int .i64 i] w fun e w' => e = .returned (.tuple #[.bool ((decide (0 < r.c.inn.length) || r.c.hlv) || r.c.brk), .bool ((decide (0 < r.c.win) && !r.c.sht) || r.c.brk)]) ∧ ∃ q, w' = w.drewN q := by
  have d2 := hc.row.cell 2
  have d4 := hc.row.cell 4
  have d5 := hc.row.cell 5
  have d6 := hc.row.cell 6
  have d7 := hc.row.cell 7
  have d10 := hc.row.cell 10
  obtain ⟨Av, cv, hv, hv1, hv2⟩ := (hc.own 0).slice
  rw [bv_length] at hv
  change x.v 0 = .slice Av r.inn.length cv at hv
  rw [hin] at hv
  simp only [KR] at d2 d4 d5 d6 d7 d10
  rw [ho] at d2
  rw [hv] at d7
  have hi1 : ((i : Int) == -1) = false := by simp
  have hi2 : decide ((n : Int) ≤ (i : Int)) = false := by simp; omega
  have hi3 : decide ((i : Int) < 0) = false := by simp
  have hk1 : (0 : Int) ≤ (i : Int) := by omega
  have hk2 : (i : Int) < (n : Int) := by omega
  obtain ⟨k, hn0⟩ : ∃ k, k = r.c.inn.length := ⟨_, rfl⟩
  obtain ⟨u, hu0⟩ : ∃ u, u = r.c.win := ⟨_, rfl⟩
  obtain ⟨b3, h3⟩ : ∃ b, b = r.c.hlv := ⟨_, rfl⟩
  obtain ⟨b2, h2⟩ : ∃ b, b = r.c.brk := ⟨_, rfl⟩
  obtain ⟨b4, h4⟩ : ∃ b, b = r.c.sht := ⟨_, rfl⟩
  rw [← hn0] at d7 ⊢
  rw [← hu0] at d10 ⊢
  rw [← h3] at d5 ⊢
  rw [← h2] at d4 ⊢
  rw [← h4] at d6 ⊢
  clear hc ho hv hv1 hv2 hn0 hu0 h2 h3 h4 hin hi
  have hp2 : decide (0 < (k : Int)) = decide (0 < k) := by simp
  cases hp : decide (0 < k) <;> rw [hp] at hp2 <;> cases hq : decide (0 < u) <;> cases b2 <;> cases b3 <;> cases b4
  all_goals
    go_enter Try.func49, Try.ntmps49
    go_wp2_with fail
    go_quiet (fail)
    go_wp2
    go_ret2
    exact ⟨rfl, _, rfl⟩
theorem rready_any (w : World) (g m : Nat) (F : List Nat) (S : Nt) (c : Int) (h : RefA w g F S m) :
    Calls Try.prog 49 #[.pointer (some ⟨g, 0, none⟩), .int .i64 c] w fun e w' => e = .returned (.tuple #[.bool (S.readyR c), .bool (S.readyW c)]) ∧ ∃ q, w' = w.drewN q := by
  by_cases hl : c = -1
  · subst hl
    rw [show S.readyR (-1) = decide (0 < S.wait) from rfl, show S.readyW (-1) = false from rfl]
    obtain ⟨vl, vn, X, R, rfl, h⟩ := h
    have hn1 := h.ok.n1
    obtain ⟨An, cn, rfl, -, -⟩ := h.line
    have c2 := h.row.cell 2
    have hw : decide (0 < S.wait) = decide (0 < ((S.L.length - S.first : Nat) : Int)) := by
      unfold Nt.wait
      congr 1
      apply propext
      omega
    rw [hw]
    clear h hw
    go_enter Try.func49, Try.ntmps49
    go_wp2
    go_ret2
    exact ⟨by simp, 0, rfl⟩
  · have hr : S.readyR c = if S.isO c then (decide (0 < (S.get c).inn.length) || (S.get c).hlv) || (S.get c).brk else false := by unfold Nt.readyR; rw [if_neg hl]
    have hw : S.readyW c = if S.isO c then (decide (0 < (S.get c).win) && !(S.get c).sht) || (S.get c).brk else false := by unfold Nt.readyW; rw [if_neg hl]
    have hi1 : (c == -1) = false := by simpa using hl
    cases hs : S.at? c with
    | none =>
      have hcc := Nt.at_none hs
      have ho : S.isO c = false := by unfold Nt.isO; rw [Nt.get_none hs]; rfl
      rw [hr, hw, ho]
      clear hs hr hw ho hl
      obtain ⟨vl, vn, X, R, rfl, h⟩ := h
      obtain ⟨A, cc, rfl, -, -⟩ := h.slice
      have c1 := h.row.cell 1
      clear h
      by_cases h0 : c < 0
      · clear hcc
        go_enter Try.func49, Try.ntmps49
        go_wp2
        go_ret2
        exact ⟨rfl, 0, rfl⟩
      · have h1 : (S.L.length : Int) ≤ c := by omega
        have h3 : decide ((S.L.length : Int) ≤ c) = true := by simpa using h1
        clear hcc
        go_enter Try.func49, Try.ntmps49
        go_wp2
        go_ret2
        exact ⟨rfl, 0, rfl⟩
    | some s =>
      have hg := Nt.get_some hs
      obtain ⟨i, rfl, h1, h2⟩ := Nt.at_some hs
      obtain ⟨vl, vn, X, R, rfl, h⟩ := h
      obtain ⟨x, r, hx, hr', rfl, hc, ha⟩ := h.at_ h1
      obtain ⟨A, cc, rfl, -, -⟩ := h.slice
      obtain ⟨b, o, rfl, ci⟩ := h.cell hx
      have c1 := h.row.cell 1
      have hlen := h.ok.n2
      cases ho : r.c.opn with
      | false =>
        have ho2 : S.isO i = false := by unfold Nt.isO; rw [hg]; exact ho
        rw [hr, hw, ho2]
        have d2 := hc.row.cell 2
        simp only [KR] at d2
        rw [ho] at d2
        have hi2 : decide ((S.L.length : Int) ≤ (i : Int)) = false := by simp; omega
        have hi3 : decide ((i : Int) < 0) = false := by simp
        have hk1 : (0 : Int) ≤ (i : Int) := by omega
        have hk2 : (i : Int) < (S.L.length : Int) := by omega
        clear h hs hr hw ho hl hc hx h1 hg ho2 hr' ha h2
        go_enter Try.func49, Try.ntmps49
        go_wp2
        go_ret2
        exact ⟨rfl, 0, rfl⟩
      | true =>
        have ho2 : S.isO i = true := by unfold Nt.isO; rw [hg]; exact ho
        rw [hr, hw, ho2, hg]
        exact rready_open w g b o i S.L.length cc x r hc ho (ha.inn (by rw [ho]; simp)) c1 ci h2 hlen
end Go.Proofs.Ytogcfeplfclobaa
