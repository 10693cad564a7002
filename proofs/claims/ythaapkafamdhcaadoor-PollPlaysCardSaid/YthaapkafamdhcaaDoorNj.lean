/- What Ready of the program's net answers of an open connection. -/
import Derived.Test.YthaapkafamdhcaaDoorNi
namespace Go.Proofs.YthaapkafamdhcaaDoor
open Go.RowKit
set_option maxRecDepth 10000
set_option linter.unusedVariables false
set_option linter.unusedSimpArgs false

theorem ready_nil (w : World) (c : Int) : Calls Tryd.prog 76 #[.pointer none, .int .i64 c] w fun e w' => e = .returned (.tuple #[.bool false, .bool false]) ∧ w = w' := by
  have hn := neq_nnil
  have hn2 := eql_cnil
  go_enter Tryd.func76, Tryd.ntmps76
  go_wp2_with fail
  refine (find_nil w c).mono ?_
  rintro e w' ⟨rfl, rfl⟩
  go_wp2
  go_ret2
  exact ⟨rfl, rfl⟩
set_option maxHeartbeats 4000000 in
theorem ready_open (w : World) (g : Nat) (x : Cb) (s : Cn) (i : Int) (hc : CnA KP w x s) (ho : s.opn = true) (hi : i ≠ -1)
    (hf : Calls Tryd.prog 73 #[.pointer (some ⟨g, 0, none⟩), .int .i64 i] w fun e w' => e = .returned (.pointer (some ⟨x.b, 0, none⟩)) ∧ w = w') :
    Calls Tryd.prog 76 #[.pointer (some ⟨g, 0, none⟩), .int .i64 i] w fun e w' => e = .returned (.tuple #[.bool ((decide (0 < s.inn.length) || s.hlv) || s.brk), .bool ((decide (0 < s.win) && !s.sht) || s.brk)]) ∧ ∃ q, w' = w.drewN q := by
  have hn := neq_nnil
  have hn2 := eql_cnil
  have HF := Lib.hid hf
  have c1 := hc.row.cell 1
  have c2 := hc.row.cell 2
  have c3 := hc.row.cell 3
  have c4 := hc.row.cell 4
  have c5 := hc.row.cell 5
  have c6 := hc.row.cell 6
  obtain ⟨Av, cv, hv, hv1, hv2⟩ := (hc.own 0).slice
  rw [bv_length] at hv
  change x.v 0 = .slice Av s.inn.length cv at hv
  simp only [KP] at c1 c2 c3 c4 c5 c6
  rw [ho] at c1
  rw [hv] at c5
  have hi1 : (i == -1) = false := by simpa using hi
  obtain ⟨n, hn0⟩ : ∃ n, n = s.inn.length := ⟨_, rfl⟩
  obtain ⟨u, hu0⟩ : ∃ u, u = s.win := ⟨_, rfl⟩
  obtain ⟨b3, h3⟩ : ∃ b, b = s.hlv := ⟨_, rfl⟩
  obtain ⟨b2, h2⟩ : ∃ b, b = s.brk := ⟨_, rfl⟩
  obtain ⟨b4, h4⟩ : ∃ b, b = s.sht := ⟨_, rfl⟩
  rw [← hn0] at c5 ⊢
  rw [← hu0] at c6 ⊢
  rw [← h3] at c3 ⊢
  rw [← h2] at c2 ⊢
  rw [← h4] at c4 ⊢
  clear hc hf ho hv hv1 hv2 hn0 hu0 h2 h3 h4 hi
  have hp2 : decide (0 < (n : Int)) = decide (0 < n) := by simp
  cases hp : decide (0 < n) <;> rw [hp] at hp2 <;> cases hq : decide (0 < u) <;> cases b2 <;> cases b3 <;> cases b4
  all_goals
    go_enter Tryd.func76, Tryd.ntmps76
    go_wp2_with fail
    refine HF.out.mono ?_
    rintro e w' ⟨rfl, rfl⟩
    go_wp2_with fail
    go_quiet (fail)
    go_wp2
    go_ret2
    exact ⟨rfl, _, rfl⟩
end Go.Proofs.YthaapkafamdhcaaDoor
