/- The law's texts and fields, the document's Same, the law's known line. Conditions: as each says. -/
import Derived.Test.YtcliapfoimnkiaaGreatDoorFh10
import Derived.Test.YtcliapfoimnkiaaGreatDoorLowerR
namespace Go.Proofs.YtcliapfoimnkiaaGreatDoor
open Go.RowKit
set_option linter.unusedVariables false
set_option linter.unusedSimpArgs false

theorem bytes_eqB {a b : ByteArray} (h : a = b) : (a.toList == b.toList) = true ∧ (a.toList != b.toList) = false := by rw [h]; simp
theorem bytes_neB {a b : ByteArray} (h : a ≠ b) : (a.toList == b.toList) = false ∧ (a.toList != b.toList) = true := by
  have := bytes_neF h
  simpa using this



theorem sameL_iff (a b : ByteArray) : sameL a b = ((⟨(lowL a.data.toList).toArray⟩ : ByteArray).toList == (⟨(lowL b.data.toList).toArray⟩ : ByteArray).toList) := by
  unfold sameL
  rw [ByteArray.toList_eq, ByteArray.toList_eq, Bool.eq_iff_iff, decide_eq_true_iff, beq_iff_eq]
theorem same_r (a b : ByteArray) {r : Bool} (h : sameL a b = r) (ha : a.size ≤ 1000000) (hb : b.size ≤ 1000000) (w : World) : Calls Tryz.prog 22 #[.string a, .string b] w fun e w' => e = .returned (.bool r) ∧ Mods [] w w' := by
  subst h
  rw [sameL_iff]
  have HA := Lib.hid (fun w => lower_r a w (by omega))
  have HB := Lib.hid (fun w => lower_r b w (by omega))
  obtain ⟨x, hx⟩ : ∃ x : ByteArray, x = ⟨(lowL a.data.toList).toArray⟩ := ⟨_, rfl⟩
  obtain ⟨y, hy⟩ : ∃ y : ByteArray, y = ⟨(lowL b.data.toList).toArray⟩ := ⟨_, rfl⟩
  rw [← hx] at HA ⊢
  rw [← hy] at HB ⊢
  clear hx hy
  go_enter Tryz.func22, Tryz.ntmps22
  go_wp2_with fail
  refine (HA.out _).mono ?_
  rintro e w1 ⟨rfl, hm⟩
  have M1 := Lib.hid (Mods.of_below (F := []) hm)
  clear hm
  go_wp2_with fail
  refine (HB.out _).mono ?_
  rintro e w2 ⟨rfl, hm⟩
  have M2 := Lib.hid (M1.out.trans (Mods.of_below (F := []) hm) (fun _ h => nomatch h))
  clear hm
  go_wp2
  go_ret
  exact ⟨rfl, M2.out⟩

def kHost : ByteArray := ⟨#[72, 111, 115, 116]⟩
def kA : ByteArray := ⟨#[97]⟩
def kB : ByteArray := ⟨#[98]⟩
def khost : ByteArray := ⟨#[104, 79, 83, 84]⟩
def khost2 : ByteArray := ⟨#[104, 111, 115, 116]⟩
theorem k1_ans : parR ⟨#[72, 111, 115, 116, 58, 32, 32, 97, 32]⟩ = ((kHost, kA), 0) := by decide +kernel
theorem k2_ans : parR ⟨#[97, 32, 98, 58, 32, 99]⟩ = (noF, 8) := by decide +kernel
theorem k3_ans : addF [] [(kHost, kA), (khost, kB)] = [(kHost, kA), (khost, kB)] := by decide +kernel
theorem k4_ans : getF [(kHost, kA), (khost, kB)] khost2 = ⟨#[97, 44, 32, 98]⟩ := by decide +kernel

theorem k3_of (w : World) (b : Nat) (hb : b = w.heap.size) : Calls Tryz.prog 11 #[.slice (some ⟨b, 0, none⟩) 2 2] (w.alloc (.cells #[.string kHost, .string kA, .string khost, .string kB] 35)) fun e w' =>
    ∃ g u, e = .returned (ptr g) ∧ Fld 63 w' g u [(kHost, kA), (khost, kB)] ∧ Mods [] w w' := by
  subst hb
  have h := of_a (.slice (some ⟨w.heap.size, 0, none⟩) 2 2) [(kHost, kA), (khost, kB)] (w.alloc (.cells #[.string kHost, .string kA, .string khost, .string kB] 35)) (FsAt.new w 35 [(kHost, kA), (khost, kB)] (by decide) 2) (by decide)
    (by intro p hp; simp only [List.mem_cons, List.mem_nil_iff, or_false] at hp; rcases hp with rfl | rfl <;> decide)
  rw [k3_ans] at h
  exact h.mono fun e w' ⟨g, u, h1, h2⟩ => ⟨g, u, h1, h2.fld, ((Mods.refl [] w).alloc _).trans h2.mods (fun _ h => nomatch h)⟩
end Go.Proofs.YtcliapfoimnkiaaGreatDoor
