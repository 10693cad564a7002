/- The code's Dec and HexText answer a number's digits, below 0 those of 0. Conditions: the library's two tables are laid. -/
import Derived.Test.YtdalomhcglbhjaaGreatDoorHexText
import Derived.Test.YtdalomhcglbhjaaGreatDoorItoaShelf
import Derived.WalkLawsBesides
namespace Go.Proofs.YtdalomhcglbhjaaGreatDoor
open Go.RowKit
set_option linter.unusedVariables false

/-- The table that is read for sixteen digits; the table for ten. -/
def Tz (w : World) : Prop := w.cell? ⟨2, 15, none⟩ = some (.int .u8 4)
def Ten (w : World) : Prop := Lib.TabIs Tryz.prog w "internal/strconv.uint64pow10" .u64 Lib.pow10Tab
theorem Tz.below {w w' : World} (h : Tz w) (hb : Below w.heap.size w w') : Tz w' := by
  unfold Tz; rw [hb.cell (block_lt_of_cell h)]; exact h
theorem gTen : Tryz.prog.globalNamed "internal/strconv.uint64pow10" = some 0 := by kernel_rfl
theorem Ten.below {w w' : World} (h : Ten w) (hb : Below w.heap.size w w') : Ten w' := Go.Joins.tab_stays gTen h hb (Nat.le_refl _)
def decA (b n : Nat) : ByteArray := ⟨(digs b n).toArray⟩

set_option maxRecDepth 100000 in
theorem fint (n : Nat) (hn : n < 9223372036854775808) (w : World) (ht : Tz w) :
    Calls Tryz.prog 35 #[.int .i64 (n : Int), .int .i64 16] w fun e w' => e = .returned (.string (decA 16 n)) ∧ Below w.heap.size w w' := by
  have HT := Lib.hid ht
  have hb : (n : Int) ≤ 9223372036854775807 := by omega
  have HN := Lib.hid hn
  clear ht hn
  go_enter Tryz.func35, Tryz.ntmps35
  go_wp2_with fail
  go_in
  go_wp2_with fail
  refine (fbits n HN.out _ HT.out).mono ?_
  rintro e w1 ⟨rfl, hd⟩
  have H1 := Lib.hid hd
  clear hd
  go_wp2
  go_ret
  exact ⟨rfl, H1.out⟩
theorem hextext (n : Int) (hn : n ≤ 9223372036854775807) (w : World) (ht : Tz w) :
    Calls Tryz.prog 22 #[.int .i64 n] w fun e w' => e = .returned (.string (decA 16 n.toNat)) ∧ Below w.heap.size w w' := by
  have HT := Lib.hid ht
  clear ht
  have hm : n.toNat < 9223372036854775808 := by omega
  have HM := Lib.hid hm
  clear hm
  go_enter Tryz.func22, Tryz.ntmps22
  go_wp2_with fail
  rw [show (max n 0 : Int) = ((n.toNat : Nat) : Int) by omega]
  refine (fint n.toNat HM.out _ HT.out).mono ?_
  rintro e w1 ⟨rfl, hd⟩
  have H1 := Lib.hid hd
  clear hd
  go_wp2
  go_ret
  exact ⟨rfl, H1.out⟩
end Go.Proofs.YtdalomhcglbhjaaGreatDoor
