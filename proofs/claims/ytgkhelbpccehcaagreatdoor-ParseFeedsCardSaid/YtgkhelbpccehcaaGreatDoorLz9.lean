/- Tokens are no longer than what they come from. No program. -/
import Derived.Test.YtgkhelbpccehcaaGreatDoorTk9
namespace Go.Proofs.YtgkhelbpccehcaaGreatDoor
open Go.RowKit
set_option linter.unusedVariables false

theorem trim_len (l : List UInt8) : (trimL l).length ≤ l.length := trimL_le l
theorem tokO_size : ∀ {a : List (List UInt8)} {L : List (List UInt8)}, tokO a = some L → ∀ {x}, x ∈ L → ∃ p ∈ a, x.length ≤ p.length
  | [], L, h, x, hx => by simp [tokO] at h; subst h; simp at hx
  | p :: r, L, h, x, hx => by
    simp only [tokO] at h
    cases hp : tokP p with
    | none => rw [hp] at h; simp at h
    | some y =>
      rw [hp] at h
      cases hr : tokO r with
      | none => rw [hr] at h; simp at h
      | some z =>
        rw [hr] at h; simp at h; subst h
        rw [List.mem_append] at hx
        rcases hx with hx | hx
        · refine ⟨p, by simp, ?_⟩
          unfold tokP at hp; split at hp
          · simp at hp; subst hp; simp at hx
          · split at hp
            · simp at hp; subst hp; simp at hx; subst hx
              have := trim_len p
              unfold lowL; rw [List.length_map]; exact this
            · simp at hp
        · obtain ⟨q, hq, hle⟩ := tokO_size hr hx
          exact ⟨q, by simp [hq], hle⟩
theorem partsO_size {ts : List ByteArray} {p : List UInt8} (h : p ∈ partsO ts) : p.length ≤ sizes ts := by
  unfold partsO at h
  obtain ⟨t, ht, hp⟩ := List.mem_flatMap.1 h
  have h1 := splitAcc_mem t.data.toList [] p hp
  obtain ⟨j, hj, rfl⟩ := List.mem_iff_getElem.1 ht
  have h2 := sizes_at ts j hj
  have h3 : ts[j].data.toList.length = ts[j].size := rfl
  simp only [List.length_nil] at h1; omega
end Go.Proofs.YtgkhelbpccehcaaGreatDoor
