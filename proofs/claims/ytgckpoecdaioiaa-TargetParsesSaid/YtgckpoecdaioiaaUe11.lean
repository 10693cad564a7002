/- Print of the document. Conditions: a target of at most ten thousand bytes. -/
import Derived.Test.YtgckpoecdaioiaaUc11
import Derived.Test.YtgckpoecdaioiaaUd11
namespace Go.Proofs.Ytgckpoecdaioiaa
open Go.RowKit
set_option linter.unusedVariables false
set_option linter.unusedSimpArgs false

set_option maxRecDepth 10000 in
set_option maxHeartbeats 1000000 in
theorem print_r (t : Tgt) (hz : t.host.size + t.path.size + t.query.size ≤ 10000) (w : World) :
    Calls Try.prog 15 #[.agg #[.int .i64 t.form, .string t.host, .string t.path, .string t.query]] w (PAns w t) := by
  by_cases hb : 200 < t.path.size ∨ 200 < t.query.size ∨ 200 < t.host.size
  · have HX := Lib.hid (prT_big (t := t) (by omega))
    obtain ⟨f, h, p, q⟩ := t
    simp only at hb hz
    by_cases h1 : 200 < p.size
    · go_enter Try.func15, Try.ntmps15
      go_wp2
      go_ret2
      exact PAns.mk' HX.out ((Mods.refl [] w).alloc _)
    · have b1 : decide (200 < p.size) = false := by simpa using h1
      by_cases h2 : 200 < q.size
      · go_enter Try.func15, Try.ntmps15
        go_wp2
        go_ret2
        exact PAns.mk' HX.out ((Mods.refl [] w).alloc _)
      · have b2 : decide (200 < q.size) = false := by simpa using h2
        have h3 : 200 < h.size := by omega
        go_enter Try.func15, Try.ntmps15
        go_wp2
        go_ret2
        exact PAns.mk' HX.out ((Mods.refl [] w).alloc _)
  · have hp200 : t.path.size ≤ 200 := by omega
    have hq200 : t.query.size ≤ 200 := by omega
    have hh200 : t.host.size ≤ 200 := by omega
    obtain ⟨f, h, p, q⟩ := t
    simp only at hp200 hq200 hh200
    by_cases h4 : f = 4
    · subst h4; exact print_r4 h p q hp200 hq200 hh200 w
    · by_cases h3 : f = 3
      · subst h3; exact print_r3 h p q hp200 hq200 hh200 w
      · by_cases h1 : f = 1
        · subst h1
          by_cases hq0 : q.data.toList = []
          · exact print_r1e h p q hp200 hq200 hh200 hq0 w
          · exact print_r1q h p q hp200 hq200 hh200 hq0 w
        · by_cases h2 : f = 2
          · subst h2
            by_cases hq0 : q.data.toList = []
            · exact print_r2e h p q hp200 hq200 hh200 hq0 w
            · exact print_r2q h p q hp200 hq200 hh200 hq0 w
          · exact print_r0 f h p q hp200 hq200 hh200 h1 h2 h3 h4 w
end Go.Proofs.Ytgckpoecdaioiaa
