/- The library's digits of base 16. Conditions: a number that is not below 0, its table is laid. -/
import Derived.Test.YtdalomhcglbhjaaGreatDoorDigits
import Derived.Test.YtdalomhcglbhjaaGreatDoorLowerR
namespace Go.Proofs.YtdalomhcglbhjaaGreatDoor
open Go.RowKit
set_option linter.unusedVariables false

set_option maxRecDepth 100000 in
theorem tz16 (w : World) (hc : w.cell? ⟨2, 15, none⟩ = some (.int .u8 4)) :
    Calls Tryz.prog 79 #[.int .u64 16] w fun e w' => e = .returned (.int .i64 4) ∧ w = w' := by
  have hE : IntKind.u64.wrap (bits BinOp.and IntKind.u64 16 (IntKind.u64.wrap (-16)) * 285870213051353865) / 288230376151711744 = 15 := by decide +kernel
  go_enter Tryz.func79, Tryz.ntmps79
  go_wp2
  go_ret
  exact ⟨rfl, rfl⟩
set_option maxRecDepth 100000 in
theorem ispow (w : World) :
    Calls Tryz.prog 78 #[.int .i64 16] w fun e w' => e = .returned (.bool true) ∧ w = w' := by
  have hE : bits BinOp.and IntKind.i64 16 15 = 0 := by decide +kernel
  go_enter Tryz.func78, Tryz.ntmps78
  go_wp2
  go_ret
  exact ⟨rfl, rfl⟩

/-- The buffer of 65 bytes: from place i on it holds t. -/
def Buf (B i : Nat) (t : List UInt8) (w wr : World) : Prop :=
  Below B w wr ∧ B < wr.heap.size ∧ (∀ j, j < 65 → ∃ v, wr.cell? ⟨B, j, none⟩ = some v) ∧ (∀ j (hj : j < t.length), wr.cell? ⟨B, i + j, none⟩ = some (.int .u8 (t[j].toNat : Int))) ∧ ∀ j, j < 65 → wr.frozen? ⟨B, j, none⟩ = false
theorem buf_start (w : World) (C : Array Value) (h : C.size = 65) (T : TypeId) : Buf w.heap.size 65 [] w (w.alloc (.cells C T)) := by
  refine ⟨(Below.refl _ _).alloc (Nat.le_refl _) _, by simp, fun j hj => ?_, fun j h => absurd h (by simp), fun j hj => ?_⟩
  · rw [World.cell?_alloc_at _ _ _ _ rfl]
    exact ⟨C[j]'(by omega), by rw [Array.getElem?_eq_getElem]⟩
  · rw [World.frozen?_alloc_at _ _ _ _ rfl]
theorem buf_next {B i : Nat} {t : List UInt8} {w wr : World} (c : UInt8) (h : Buf B (i + 1) t w wr) (hi : i < 65) :
    Buf B i (c :: t) w (wr.setCell ⟨B, i, none⟩ (.int .u8 (c.toNat : Int))) := by
  obtain ⟨hb, hz, hv, hc, hf⟩ := h
  have other : ∀ j, j ≠ i → (wr.setCell ⟨B, i, none⟩ (.int .u8 (c.toNat : Int))).cell? ⟨B, j, none⟩ = wr.cell? ⟨B, j, none⟩ := fun j e =>
    World.cell?_setCell_other (h := fun x => e (by injection x with _ x2; exact x2.symm)) ..
  have same : (wr.setCell ⟨B, i, none⟩ (.int .u8 (c.toNat : Int))).cell? ⟨B, i, none⟩ = some (.int .u8 (c.toNat : Int)) := by
    obtain ⟨v, h⟩ := hv i hi
    exact World.cell?_setCell_same (h := h) ..
  refine ⟨hb.setCell (Nat.le_refl _) _, by simpa using hz, fun j hj => ?_, fun j hj => ?_, fun j hj => ?_⟩
  · by_cases e : j = i
    · subst e; exact ⟨_, same⟩
    · rw [other j e]; exact hv j hj
  · cases j with
    | zero => exact same
    | succ j =>
      rw [other _ (by omega), show i + (j + 1) = i + 1 + j by omega, hc j (by simpa using hj)]; rfl
  · rw [World.frozen?_setCell]; exact hf j hj
theorem and15 (v : Nat) (h : v < 18446744073709551616) : bits BinOp.and IntKind.u64 (v : Int) 15 = ((v % 16 : Nat) : Int) := by
  have h1 := bits_and_u64_nat v 15 h (by decide)
  rw [show (15 : Nat) = 2 ^ 4 - 1 from rfl, Nat.and_two_pow_sub_one_eq_mod] at h1
  exact h1
def dsA : ByteArray := ⟨#[48, 49, 50, 51, 52, 53, 54, 55, 56, 57, 97, 98, 99, 100, 101, 102, 103, 104, 105, 106, 107, 108, 109, 110, 111, 112, 113, 114, 115, 116, 117, 118, 119, 120, 121, 122]⟩

theorem dsA_at (d : Nat) (h : d < 16) : dsA[d]'(by show d < 36; omega) = dgt d := by
  have h2 := List.all_eq_true.1 (show (List.range 16).all (fun d => dsA.data.toList.getD d 0 == dgt d) = true by decide +kernel) d (by rw [List.mem_range]; exact h)
  rw [beq_iff_eq] at h2
  rw [← h2, List.getD_eq_getElem?_getD, List.getElem?_eq_getElem (by show d < 36; omega)]; rfl

theorem len65 : Tryz.prog.arrayLen 99 = 65 := by kernel_rfl
theorem elem65 : Tryz.prog.elem 99 = 5 := by kernel_rfl
theorem slice_from (B i : Nat) (h : 50 ≤ i) (h2 : i ≤ 65) (W : World) : (Instr.sliceAt 99 (.pointer (some ⟨B, 0, none⟩)) (some (.int .i64 ((i : Int) - 1))) none none).run Tryz.prog W = .ok (.slice (some ⟨B, i - 1, none⟩) (66 - i) (66 - i)) W := by
  rw [run_sliceAt_array_l W 99 ⟨B, 0, none⟩ (by rw [len65, elem65]; exact Tryz.underlying99) .i64 ((i : Int) - 1) (by omega) (by rw [len65]; omega)]
  rw [elem65, Tryz.sizeOf5]
  have e1 : ((i : Int) - 1).toNat = i - 1 := by omega
  simp only [Result.andThen, slicedAt, e1, len65]
  rw [if_neg (by omega), Nat.mul_one, show (⟨B, 0, none⟩ : Addr).add (i - 1) = ⟨B, i - 1, none⟩ by unfold Addr.add; rw [if_neg (by omega)]; simp, show 65 - (i - 1) = 66 - i by omega]
theorem buf_back {P : Program} {src dst e : TypeId} {B i : Nat} {t : List UInt8} {w wr : World} (h : Buf B i t w wr) (n : Nat) (hn : t.length = n) (hs : P.underlying src = some (.slice e)) (he : P.underlying e = some (.int .u8)) (hd : P.underlying dst = some .string) :
    (convert src dst (.slice (some ⟨B, i, none⟩) n n)).run P wr = .ok (.string ⟨t.toArray⟩) wr := by
  have := run_convert_bytes_back (P := P) wr src dst e ⟨B, i, none⟩ n t hs he hd (fun j hj => by
    rw [show (⟨B, i, none⟩ : Addr).add j = ⟨B, i + j, none⟩ by unfold Addr.add; split <;> simp_all]
    exact h.2.2.2.1 j hj)
  rw [hn] at this; exact this

set_option maxRecDepth 100000 in
theorem fbits (u : Nat) (hu : u < 9223372036854775808) (w : World) (hc : w.cell? ⟨2, 15, none⟩ = some (.int .u8 4)) :
    Calls Tryz.prog 66 #[.slice none 0 0, .int .u64 (u : Int), .int .i64 16, .bool false, .bool false] w fun e w' => e = .returned (.tuple #[.slice none 0 0, .string ⟨(digs 16 u).toArray⟩]) ∧ Below w.heap.size w w' := by
  have hlt : 2 < w.heap.size := block_lt_of_cell hc
  have HU := Lib.hid hu
  clear hu
  go_enter Tryz.func66, Tryz.ntmps66
  go_wp2_with fail
  refine (ispow _).mono ?_
  rintro e w' ⟨rfl, rfl⟩
  go_wp2_with fail
  refine (tz16 _ (by rw [World.cell?_alloc_past _ _ _ hlt]; exact hc)).mono ?_
  rintro e w' ⟨rfl, rfl⟩
  clear hc hlt
  go_wp2
  go_loopw [1, 13] (fun x y wr => ∃ (v i : Nat) (t : List UInt8), x = .int .u64 v ∧ y = .int .i64 i ∧ i + t.length = 65 ∧ 50 ≤ i ∧ v < 16 ^ (i - 49) ∧ digs 16 u = digs 16 v ++ t ∧ Buf w.heap.size i t w wr) (fun x _ _ => (intOf x).toNat)
  case atStart => exact ⟨u, 65, [], rfl, rfl, rfl, by decide, by have := HU.out; omega, by simp, buf_start w _ (by decide) _⟩
  case round =>
    obtain ⟨v, i, t, rfl, rfl, hit, hi50, hv, hd, hbuf⟩ := hrel
    have HV := Lib.hid hv
    have HD := Lib.hid hd
    have HI := Lib.hid hit
    have hvb : v < 18446744073709551616 := Nat.lt_of_lt_of_le hv (by
      have : 16 ^ (i - 49) ≤ 16 ^ 16 := Nat.pow_le_pow_right (by decide) (by omega)
      omega)
    have HVB := Lib.hid hvb
    have hi65 : i ≤ 65 := by omega
    clear hv hd hit hvb
    by_cases hge : 16 ≤ v
    · have ha := and15 v HVB.out
      have hm : v % 16 < 16 := Nat.mod_lt _ (by decide)
      have hf := hbuf.2.2.2.2 (i - 1) (by omega)
      obtain ⟨v0, hc0⟩ := hbuf.2.2.1 (i - 1) (by omega)
      have hi51 : 51 ≤ i := by
        rcases (by omega : i = 50 ∨ 51 ≤ i) with rfl | h
        · have := HV.out; simp at this; omega
        · exact h
      go_wp2
      go_roundw
      case rel =>
        have hb' : Buf w.heap.size (i - 1 + 1) t w wr := by rw [show i - 1 + 1 = i by omega]; exact hbuf
        refine ⟨v / 16, i - 1, dgt (v % 16) :: t, by go_num, by go_num, by have := HI.out; simp only [List.length_cons]; omega, by omega, ?_, ?_, ?_⟩
        · have h1 := HV.out
          rw [show i - 49 = (i - 1 - 49) + 1 by omega, Nat.pow_succ] at h1
          omega
        · rw [HD.out, digs_high hge (by decide)]; simp
        · show Buf _ _ (dgt (v % 16) :: t) w (wr.setCell _ (.int .u8 ((dsA[v % 16]'(by show _ < 36; omega)).toNat : Int)))
          rw [dsA_at (v % 16) hm]
          exact buf_next (dgt (v % 16)) hb' (by omega)
      case measure => simp [intOf]; omega
    · have hlt16 : v < 16 := by omega
      have hf := hbuf.2.2.2.2 (i - 1) (by omega)
      obtain ⟨v0, hc0⟩ := hbuf.2.2.1 (i - 1) (by omega)
      have hsl := slice_from w.heap.size i hi50 hi65
      have hb' : Buf w.heap.size (i - 1) (dgt v :: t) w (wr.setCell ⟨w.heap.size, i - 1, none⟩ (.int .u8 ((dsA[v]'(by show _ < 36; omega)).toNat : Int))) := by
        rw [dsA_at v hlt16]
        exact buf_next (dgt v) (by rw [show i - 1 + 1 = i by omega]; exact hbuf) (by omega)
      have hback := buf_back (P := Tryz.prog) hb' (66 - i) (by have := HI.out; simp only [List.length_cons]; omega) Tryz.underlying22 Tryz.underlying5 Tryz.underlying9
      unfold dsA at hback
      obtain ⟨S, hS⟩ : ∃ S, S = (⟨(dgt v :: t).toArray⟩ : ByteArray) := ⟨_, rfl⟩
      rw [← hS] at hback
      have HS := Lib.hid hS
      clear hS
      have HB := Lib.hid hb'.1
      have HF := Lib.hid (show digs 16 u = dgt v :: t by rw [HD.out, digs_low hlt16]; rfl)
      clear hb' hbuf
      go_wp2
      go_ret2
      exact ⟨by rw [HF.out, HS.out]; rfl, HB.out⟩
end Go.Proofs.YtdalomhcglbhjaaGreatDoor
