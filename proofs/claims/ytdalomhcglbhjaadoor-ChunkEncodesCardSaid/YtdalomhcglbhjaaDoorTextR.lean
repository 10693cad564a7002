/- The document's digits of base 10 and 16 are a number's digits, below 0 those of 0. Conditions: none. -/
import Derived.Test.YtdalomhcglbhjaaDoorDec
namespace Go.Proofs.YtdalomhcglbhjaaDoor
open Go.RowKit
set_option linter.unusedVariables false

theorem back_byte (c : UInt8) (w : World) : (convert 22 9 (.slice (some ⟨w.heap.size, 0, none⟩) 1 1)).run Tryd.prog (w.alloc (.cells #[.int .u8 (c.toNat : Int)] 5)) = .ok (.string ⟨#[c]⟩) (w.alloc (.cells #[.int .u8 (c.toNat : Int)] 5)) :=
  run_convert_bytes_back (P := Tryd.prog) (w.alloc (.cells #[.int .u8 (c.toNat : Int)] 5)) 22 9 5 ⟨w.heap.size, 0, none⟩ 1 [c] Tryd.underlying22 Tryd.underlying5 Tryd.underlying9 (fun j hj => by
    have hj0 : j = 0 := by simpa using hj
    subst hj0
    simp [Addr.add])

def hxA : ByteArray := ⟨#[48, 49, 50, 51, 52, 53, 54, 55, 56, 57, 97, 98, 99, 100, 101, 102]⟩
theorem hxA_at (d : Nat) (h : d < 16) : hxA[d]'(by show d < 16; omega) = dgt d := by
  have h2 := List.all_eq_true.1 (show (List.range 16).all (fun d => hxA.data.toList.getD d 0 == dgt d) = true by decide +kernel) d (by rw [List.mem_range]; exact h)
  rw [beq_iff_eq] at h2
  rw [← h2, List.getD_eq_getElem?_getD, List.getElem?_eq_getElem (by show d < 16; omega)]; rfl
theorem hx_list (d : Nat) (h : d < 16) (t : ByteArray) : ((⟨#[hxA[d]'(by show d < 16; omega)]⟩ : ByteArray) ++ t).data.toList = dgt d :: t.data.toList := by
  rw [hxA_at d h]; simp [ByteArray.data_append]

set_option maxRecDepth 100000 in
theorem text_r10 (n : Int) (hn : n ≤ 9223372036854775807) (w : World) :
    Calls Tryd.prog 30 #[.int .i64 n, .int .i64 10] w fun e w' => e = .returned (.string (decA 10 n.toNat)) ∧ Below w.heap.size w w' := by
  have hm : n.toNat < 9223372036854775808 := by omega
  have HM := Lib.hid hm
  have hback := back_byte
  clear hm
  go_enter Tryd.func30, Tryd.ntmps30
  go_wp2
  go_loopw [0, 5] (fun x y wr => ∃ (v : Nat) (t : ByteArray), x = .int .i64 v ∧ y = .string t ∧ v < 9223372036854775808 ∧ digs 10 n.toNat = digs 10 v ++ t.data.toList ∧ Below w.heap.size w wr) (fun x _ _ => (intOf x).toNat)
  case atStart => exact ⟨n.toNat, ⟨#[]⟩, by rw [show (max 0 n : Int) = ((n.toNat : Nat) : Int) by omega], rfl, HM.out, by simp, Below.refl _ _⟩
  case round =>
    obtain ⟨v, t, rfl, rfl, hv, hd, hbel⟩ := hrel
    have hlen := congrArg List.length hd
    rw [List.length_append] at hlen
    have hle := digs_le 10 (by decide) 62 n.toNat (Nat.lt_trans HM.out (by decide))
    have ht : t.size ≤ 100 := by
      have : t.data.toList.length = t.size := rfl
      omega
    have HD := Lib.hid hd
    have HB := Lib.hid hbel
    have hvb : (v : Int) ≤ 9223372036854775807 := by omega
    clear hd hlen hle hbel hv
    have hmod : v % 10 < 10 := Nat.mod_lt _ (by decide)
    by_cases h0 : v < 10
    · have hz : v / 10 = 0 := by omega
      have hq : (((v : Int) / 10) == 0) = true := by simp; omega
      have HZ := Lib.hid hz
      clear hz
      have hlow : v % 10 = v := by omega
      have HL := Lib.hid hlow
      clear hlow
      go_wp2
      go_ret
      refine ⟨ret_str (Go.WideShapes.bytes_inj ?_), HB.out.alloc HB.out.size _⟩
      refine (hx_list (v % 10) (by omega) t).trans ?_
      show _ = digs 10 n.toNat
      rw [HD.out, digs_low h0, HL.out]; rfl
    · have hq : (((v : Int) / 10) == 0) = false := by simp; omega
      go_wp2
      go_roundw
      case rel =>
        refine ⟨v / 10, _, by go_num, rfl, by omega, ?_, HB.out.alloc HB.out.size _⟩
        rw [HD.out, digs_high (by omega) (by decide), List.append_assoc]
        congr 1
        exact (hx_list (v % 10) (by omega) t).symm
      case measure => simp [intOf]; omega
set_option maxRecDepth 100000 in
theorem text_r16 (n : Int) (hn : n ≤ 9223372036854775807) (w : World) :
    Calls Tryd.prog 30 #[.int .i64 n, .int .i64 16] w fun e w' => e = .returned (.string (decA 16 n.toNat)) ∧ Below w.heap.size w w' := by
  have hm : n.toNat < 9223372036854775808 := by omega
  have HM := Lib.hid hm
  have hback := back_byte
  clear hm
  go_enter Tryd.func30, Tryd.ntmps30
  go_wp2
  go_loopw [0, 5] (fun x y wr => ∃ (v : Nat) (t : ByteArray), x = .int .i64 v ∧ y = .string t ∧ v < 9223372036854775808 ∧ digs 16 n.toNat = digs 16 v ++ t.data.toList ∧ Below w.heap.size w wr) (fun x _ _ => (intOf x).toNat)
  case atStart => exact ⟨n.toNat, ⟨#[]⟩, by rw [show (max 0 n : Int) = ((n.toNat : Nat) : Int) by omega], rfl, HM.out, by simp, Below.refl _ _⟩
  case round =>
    obtain ⟨v, t, rfl, rfl, hv, hd, hbel⟩ := hrel
    have hlen := congrArg List.length hd
    rw [List.length_append] at hlen
    have hle := digs_le 16 (by decide) 62 n.toNat (Nat.lt_trans HM.out (by decide))
    have ht : t.size ≤ 100 := by
      have : t.data.toList.length = t.size := rfl
      omega
    have HD := Lib.hid hd
    have HB := Lib.hid hbel
    have hvb : (v : Int) ≤ 9223372036854775807 := by omega
    clear hd hlen hle hbel hv
    have hmod : v % 16 < 16 := Nat.mod_lt _ (by decide)
    by_cases h0 : v < 16
    · have hz : v / 16 = 0 := by omega
      have hq : (((v : Int) / 16) == 0) = true := by simp; omega
      have HZ := Lib.hid hz
      clear hz
      have hlow : v % 16 = v := by omega
      have HL := Lib.hid hlow
      clear hlow
      go_wp2
      go_ret
      refine ⟨ret_str (Go.WideShapes.bytes_inj ?_), HB.out.alloc HB.out.size _⟩
      refine (hx_list (v % 16) (by omega) t).trans ?_
      show _ = digs 16 n.toNat
      rw [HD.out, digs_low h0, HL.out]; rfl
    · have hq : (((v : Int) / 16) == 0) = false := by simp; omega
      go_wp2
      go_roundw
      case rel =>
        refine ⟨v / 16, _, by go_num, rfl, by omega, ?_, HB.out.alloc HB.out.size _⟩
        rw [HD.out, digs_high (by omega) (by decide), List.append_assoc]
        congr 1
        exact (hx_list (v % 16) (by omega) t).symm
      case measure => simp [intOf]; omega
end Go.Proofs.YtdalomhcglbhjaaDoor
