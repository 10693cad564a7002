/- Drop of the document; both sides' calls as the laws take them. Conditions: texts of at most a million bytes, 24 fields. -/
import Derived.Test.YtcliapfoimnkiaaGreatDoorFk10
import Derived.Deep.CutBlock
namespace Go.Proofs.YtcliapfoimnkiaaGreatDoor
open Go.RowKit
set_option linter.unusedVariables false
set_option linter.unusedSimpArgs false

theorem SsAt.gen {w : World} {v : Value} {l : List ByteArray} (h : SsAt w v l) : ∃ A C, v = .slice A l.length C ∧ ∀ m (hm : m < l.length), ∃ b o, A = some ⟨b, o, none⟩ ∧ w.cell? ⟨b, o + m, none⟩ = some (.string l[m]) := by
  rcases h with ⟨rfl, a, cap, rfl⟩ | ⟨b, off, cap, rfl, _, _, _, hc⟩
  · exact ⟨a, cap, rfl, fun m hm => absurd hm (Nat.not_lt_zero _)⟩
  · exact ⟨_, cap, rfl, fun m hm => ⟨b, off, rfl, hc m hm⟩⟩
theorem FsAt.gen {w : World} {v : Value} {l : List FV} (h : FsAt w v l) : ∃ A C, v = .slice A l.length C ∧ ∀ m (hm : m < l.length), ∃ b o, A = some ⟨b, o, none⟩ ∧ w.cell? ⟨b, o + m * 2, none⟩ = some (.string l[m].1) ∧ w.cell? ⟨b, o + m * 2 + 1, none⟩ = some (.string l[m].2) := by
  rcases h with ⟨rfl, a, cap, rfl⟩ | ⟨b, off, cap, rfl, _, _, hc⟩
  · exact ⟨a, cap, rfl, fun m hm => absurd hm (Nat.not_lt_zero _)⟩
  · exact ⟨_, cap, rfl, fun m hm => ⟨b, off, rfl, hc m hm⟩⟩
theorem dropF_snoc (S : List FV) (p : FV) (ns : List ByteArray) : dropF (S ++ [p]) ns = dropF S ns ++ (if isIn ns p.1 = true then [] else [p]) := by
  unfold dropF
  rw [List.filter_append]
  by_cases h : isIn ns p.1 = true <;> simp [h]
theorem any_snoc (ns : List ByteArray) (m : Nat) (h : m < ns.length) (x : ByteArray) : ((ns.take (m + 1)).any fun n => sameL x n) = (((ns.take m).any fun n => sameL x n) || sameL x ns[m]) := by
  rw [List.take_succ_eq_append_getElem h, List.any_append]; simp

end Go.Proofs.YtcliapfoimnkiaaGreatDoor
