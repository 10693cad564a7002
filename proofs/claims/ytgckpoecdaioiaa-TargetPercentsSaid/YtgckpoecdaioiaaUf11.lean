/- Bytes that came in; bytes as percents. Conditions: they lie within the reach. -/
import Derived.Test.YtgckpoecdaioiaaTs11
import Derived.Test.YtgckpoecdaioiaaTt11
import Derived.ProofKit
import Derived.OpenShut
import Derived.SizedLaws
import Derived.Deep.Slices
import Derived.Deep.Fields
import Derived.ChangeSlices
namespace Go.Proofs.Ytgckpoecdaioiaa
open Go.ChangeShapes Go.WideShapes Go.ChangeAt Go.RowKit Go.Deep
set_option maxRecDepth 10000
set_option linter.unusedVariables false
set_option linter.unusedSimpArgs false

theorem u8_wf {n : Int} (h : (Lit.int .u8 n).wf = true) : 0 ≤ n ∧ n ≤ 255 := by simpa [Lit.wf, IntKind.min, IntKind.max, IntKind.signed, IntKind.bits] using h
/-- Bytes behind a slice that came in. -/
def BytesAt (W : World) (v : Value) (l : List UInt8) : Prop :=
  ∃ A c, v = .slice A l.length c ∧ l.length ≤ c ∧ c ≤ 140737488351232 ∧ ∀ j (h : j < l.length), ∃ b off, A = some ⟨b, off, none⟩ ∧ b < W.heap.size ∧ W.cell? ⟨b, off + j, none⟩ = some (.int .u8 (l[j].toNat : Int))
theorem ofNat_toNat {z : Int} (h : 0 ≤ z ∧ z ≤ 255) : ((UInt8.ofNat z.toNat).toNat : Int) = z := by
  rw [UInt8.toNat_ofNat']; omega
section
variable {H : Type} {enc : TypeId × Value → H} {W : World} {base : Nat} {held : Bool} {b0 : Nat}
theorem trod_bytes {fuel : Nat} {c : Value} {x : DataW H × List MemPlace} (h : DataW.trod enc Try.prog W base (fun _ => true) held fuel 42 [c] = some x) (hsz : ∀ n ∈ x.1.weights Try.prog 42, n ≤ reachBytes) :
    ∃ l : List UInt8, BytesAt W c l := by
  rcases open_ints Try.underlying42 Try.underlying5 (by kernel_rfl) h with ⟨hcs, _⟩ | ⟨x, l, cp, zs, hcs, _, hl, hm, hz, hx, hcell, hws⟩
  · injection hcs with hcs
    subst hcs
    exact ⟨[], none, 0, rfl, Nat.le_refl _, by omega, fun j hj => absurd hj (Nat.not_lt_zero _)⟩
  · injection hcs with hcs
    subst hcs
    have hz' : zs.length = cp := by simpa using hz
    have hcp : cp ≤ reachBytes := by
      have hb : Try.prog.bytesOf 5 = 1 := by kernel_rfl
      have := hsz _ (by rw [hx]; simp only [DataW.weights, Try.underlying42]; exact List.mem_cons_self)
      simp only [lits, List.length_map, List.length_take, List.length_drop, hb] at this
      omega
    have hlen : ((zs.take l).map fun z => UInt8.ofNat z.toNat).length = l := by rw [List.length_map, List.length_take]; omega
    refine ⟨(zs.take l).map fun z => UInt8.ofNat z.toNat, some x, cp, by rw [hlen], by omega, by have hr : reachBytes = 140737488351232 := rfl; omega, fun i hi => ?_⟩
    rw [hlen] at hi
    have hi2 : i < zs.length := by omega
    have hc := hcell i hi2
    rw [List.getD_eq_getElem?_getD, List.getElem?_eq_getElem hi2, Option.getD_some] at hc
    obtain ⟨b, off, spot⟩ := x
    have hspot : spot = none := by simpa [Addr.add] using World.cell?_spot (hcell 0 (by omega))
    subst hspot
    rw [add_none] at hc
    refine ⟨b, off, rfl, World.block_lt_of_cell? W _ hc, ?_⟩
    rw [hc]
    simp only [List.getElem_map, List.getElem_take]
    rw [ofNat_toNat (u8_wf (hws _ (List.getElem_mem hi2)))]
theorem open_bytes11 {v : Value} {d : DataW H} {p : List MemPlace} (hv : Value.okWide Try.prog W .any b0 42 v) (h : DataW.Trod enc Try.prog W base (fun _ => true) held 42 v d p) (hsz : ∀ n ∈ d.weights Try.prog 42, n ≤ reachBytes) :
    ∃ l : List UInt8, BytesAt W v l := by
  obtain ⟨a0, len0, cap0, rfl⟩ := okWide_slice Try.underlying42 hv
  obtain ⟨fuel, hf⟩ := h
  exact trod_bytes hf hsz
end

/-! Percents. -/
def lowsL : List UInt8 := [48, 49, 50, 51, 52, 53, 54, 55, 56, 57, 97, 98, 99, 100, 101, 102]
def pcL (c : UInt8) : List UInt8 := [37, lowsL.getD (c.toNat / 16) 0, capsL.getD (c.toNat % 16) 0]
def percs (l : List UInt8) : List UInt8 := l.flatMap pcL
theorem percs_snoc (l : List UInt8) (c : UInt8) : percs (l ++ [c]) = percs l ++ pcL c := by simp [percs]
theorem percs_len : ∀ l : List UInt8, (percs l).length = 3 * l.length
  | [] => rfl
  | c :: r => by
    have e : percs (c :: r) = pcL c ++ percs r := by simp [percs]
    rw [e, List.length_append, percs_len r, List.length_cons, show (pcL c).length = 3 from rfl]; omega
theorem hx_pc (c : UInt8) : hxB (lowsL.getD (c.toNat / 16) 0) (capsL.getD (c.toNat % 16) 0) = c := by
  have := by_byte (fun c => hxB (lowsL.getD (c.toNat / 16) 0) (capsL.getD (c.toNat % 16) 0) == c) (by decide +kernel) c
  simpa using this
theorem pc_allow (c : UInt8) : (pcL c).all allowB = true := by
  have := by_byte (fun c => (pcL c).all allowB) (by decide +kernel) c
  simpa using this
theorem pc_no63 (c : UInt8) : (pcL c).all (fun x => !isC 63 x) = true := by
  have := by_byte (fun c => (pcL c).all (fun x => !isC 63 x)) (by decide +kernel) c
  simpa using this
theorem dec_percs : ∀ l : List UInt8, (∀ x ∈ l, x ≠ 0) → decL (percs l) = some l
  | [], _ => decL_nil
  | c :: r, h => by
    have e : percs (c :: r) = 37 :: lowsL.getD (c.toNat / 16) 0 :: capsL.getD (c.toNat % 16) 0 :: percs r := by simp [percs, pcL]
    rw [e, decL_hex (by rw [hx_pc]; exact h c (by simp)), dec_percs r (fun x hx => h x (by simp [hx])), hx_pc]
    rfl
theorem percs_all (p : UInt8 → Bool) (hp : ∀ c, (pcL c).all p = true) (l : List UInt8) : (percs l).all p = true := by
  rw [List.all_eq_true]
  intro x hx
  obtain ⟨c, _, hc⟩ := List.mem_flatMap.1 hx
  exact List.all_eq_true.1 (hp c) x hc
theorem org_percs {l : List UInt8} (h : ∀ x ∈ l, x ≠ 0) : orgL (47 :: percs l) = (clnL (47 :: l)).map fun p => (p, []) := by
  have hall : (47 :: percs l).all allowB = true := by rw [List.all_cons, percs_all allowB pc_allow]; decide +kernel
  have hup : upL (isC 63) (47 :: percs l) = 47 :: percs l := upL_all fun x hx => by
    rcases List.mem_cons.1 hx with rfl | hx
    · rfl
    · have := List.all_eq_true.1 (percs_all _ pc_no63 l) x hx; simpa using this
  have hd : decL (upL (isC 63) (47 :: percs l)) = some (47 :: l) := by rw [hup, decL_plain (by decide), dec_percs l h]; rfl
  cases hc : clnL (47 :: l) with
  | none => rw [orgL_cln hall hd hc]; rfl
  | some p => rw [orgL_yes hall hd hc, hup, List.drop_of_length_le (by omega)]; rfl
theorem par_percs {l : List UInt8} (h : ∀ x ∈ l, x ≠ 0) (hz : l.length ≤ 60) : parT getL (47 :: percs l) = orgF 1 noB (47 :: percs l) :=
  parT_org (by rw [List.length_cons, percs_len]; omega) (by decide) (by intro h; exact absurd h.1 (by decide)) rfl
theorem percs_no {l : List UInt8} (h : ∀ x ∈ l, x ≠ 0) (hz : l.length ≤ 60) (hc : clnL (47 :: l) = none) : parT getL (47 :: percs l) = (noT, 8) := by
  rw [par_percs h hz]; exact orgF_no (by rw [org_percs h, hc]; rfl)
theorem percs_yes {l p : List UInt8} (h : ∀ x ∈ l, x ≠ 0) (hz : l.length ≤ 60) (hc : clnL (47 :: l) = some p) : parT getL (47 :: percs l) = (⟨1, noB, ofL p, noB⟩, 0) := by
  rw [par_percs h hz, orgF_yes (q := []) (by rw [org_percs h, hc]; rfl)]; rfl
end Go.Proofs.Ytgckpoecdaioiaa
