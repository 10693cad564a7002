/- Put of the program's slab, whatever slot is next. -/
import Derived.Test.YthaapkafamdhcaaDoorSlabG
import Derived.Test.YthaapkafamdhcaaDoorSlabT
namespace Go.Proofs.YthaapkafamdhcaaDoor
open Go.RowKit

theorem put_any (w : World) (g : Nat) (v : Int) (F : List Nat) (S : Slb) (K : Nat) (h : SlabA w g F S K) (hT : TzTab w) (hc : S.cnt < S.lim) (hK : K ≤ 4000000000000) :
    Calls Tryd.prog 59 #[.pointer (some ⟨g, 0, none⟩), .int .i64 v] w fun e w' => e = .returned (.tuple #[.agg #[.int .i64 S.least, .int .i64 S.gen], .int .i64 0]) ∧
      Hid (∃ F', SlabA w' g F' (S.put v) (K + 1) ∧ Mods F w w' ∧ ∀ k ∈ F', k ∈ F ∨ w.heap.size ≤ k) := by
  by_cases hn : S.least = S.us.length
  · have hg : g ∈ F := by obtain ⟨_, _, _, _, rfl, _⟩ := h; simp
    exact (put_grow w g v F S K h hT hc hK hn).mono fun e w' ⟨g1, he, hs, hm, hg1⟩ => ⟨he, Lib.hid ⟨[g, g1], hs, hm, fun k hk => by
      simp only [List.mem_cons, List.mem_nil_iff, or_false] at hk
      rcases hk with rfl | rfl
      · exact .inl hg
      · exact hg1⟩⟩
  · exact (put_fill w g v F S K h hT hc hK hn).mono fun e w' ⟨he, hs, hm⟩ => ⟨he, Lib.hid ⟨F, hs, hm, fun k hk => .inl hk⟩⟩
theorem put_at (w : World) (g : Nat) (v : Int) (F : List Nat) (S : Slb) (K : Nat) (n m : Int) (S' : Slb) (h : SlabA w g F S K) (hT : TzTab w) (hc : S.cnt < S.lim) (hK : K ≤ 4000000000000) (h1 : (S.least : Int) = n) (h2 : (S.gen : Int) = m) (h3 : S.put v = S') :
    Calls Tryd.prog 59 #[.pointer (some ⟨g, 0, none⟩), .int .i64 v] w fun e w' => e = .returned (.tuple #[.agg #[.int .i64 n, .int .i64 m], .int .i64 0]) ∧
      Hid (∃ F', SlabA w' g F' S' (K + 1) ∧ Mods F w w' ∧ ∀ k ∈ F', k ∈ F ∨ w.heap.size ≤ k) := by
  subst h1 h2 h3
  exact put_any w g v F S K h hT hc hK
theorem pairs_row {w : World} {b : Nat} {t : TypeId} {l : List (Int × Int)} {cs : Array Value} (h : Row w b t cs) (e : cs = (flat l).toArray)
    (hb : ∀ p ∈ l, (-9223372036854775808 ≤ p.1 ∧ p.1 ≤ 9223372036854775807) ∧ (-9223372036854775808 ≤ p.2 ∧ p.2 ≤ 9223372036854775807)) : Pairs w b l := by
  intro j p hp
  have hf := flat_at l j p hp
  have hm := hb p (List.mem_of_getElem? hp)
  subst e
  exact ⟨by rw [h.cell]; simpa using hf.1, by rw [h.cell]; simpa using hf.2, hm.1, hm.2⟩
theorem tz_fresh {w : World} (h : TzTab w) {B : Nat} (hB : w.heap.size ≤ B) : ∀ F : List Nat, (∀ k ∈ F, B ≤ k) → 0 ∉ F := fun F hF hk => by
  have := hF _ hk; have := h.lt; omega
#print axioms put_any
end Go.Proofs.YthaapkafamdhcaaDoor
