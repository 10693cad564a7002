/- One connection that is open, plainly. No text of the program. -/
import Derived.Test.YtogcfeplfclobaaNp
namespace Go.Proofs.Ytogcfeplfclobaa
open Go.RowKit
set_option linter.unusedVariables false
set_option linter.unusedSimpArgs false

def one (s : Cn) : Nt := ⟨1, false, 0, [s], 1⟩
section
variable {s : Cn}
theorem one_get (s : Cn) : (one s).get 0 = s := rfl
theorem one_upd (s s' : Cn) : (one s).upd 0 s' = one s' := rfl
theorem one_e1 (hb : s.brk = false) (ho : s.opn = true) : (one s).e1 0 = 0 := by simp [Nt.e1, Nt.at?, one, hb, ho]
theorem one_e1b (hb : s.brk = true) : (one s).e1 0 = 5 := by simp [Nt.e1, Nt.at?, one, hb]
theorem one_e2 (hb : s.brk = false) (ho : s.opn = true) : (one s).e2 0 = 0 := by simp [Nt.e2, Nt.at?, one, hb, ho]
theorem one_e2b (hb : s.brk = true) (ho : s.opn = true) : (one s).e2 0 = 5 := by simp [Nt.e2, Nt.at?, one, hb, ho]
theorem one_send (hb : s.brk = false) (ho : s.opn = true) (hh : s.hlv = false) (l : List Int) :
    (one s).sendE 0 = 0 ∧ (one s).sendK 0 l = ((fill s.inn l).length : Int) - s.inn.length ∧ (one s).send 0 l = one (s.send l) := by
  have he : (one s).sendE 0 = 0 := by unfold Nt.sendE; rw [if_pos (one_e1 hb ho), one_get, hh]; rfl
  exact ⟨he, by unfold Nt.sendK; rw [if_pos he, one_get], by unfold Nt.send; rw [if_pos he, one_get, one_upd]⟩
theorem one_send_hlv (hb : s.brk = false) (ho : s.opn = true) (hh : s.hlv = true) (l : List Int) : (one s).sendE 0 = 6 ∧ (one s).sendK 0 l = 0 ∧ (one s).send 0 l = one s := by
  have he : (one s).sendE 0 = 6 := by unfold Nt.sendE; rw [if_pos (one_e1 hb ho), one_get, hh]; rfl
  exact ⟨he, by unfold Nt.sendK; rw [he]; rfl, by unfold Nt.send; rw [he]; rfl⟩
theorem one_send_brk (hb : s.brk = true) (l : List Int) : (one s).sendE 0 = 5 ∧ (one s).sendK 0 l = 0 ∧ (one s).send 0 l = one s := by
  have he : (one s).sendE 0 = 5 := by unfold Nt.sendE; rw [one_e1b hb]; rfl
  exact ⟨he, by unfold Nt.sendK; rw [he]; rfl, by unfold Nt.send; rw [he]; rfl⟩
theorem one_open (hb : s.brk = false) (ho : s.opn = true) (n : Int) (hn : 0 ≤ n) : (one s).openE 0 n = 0 ∧ (one s).open_ 0 n = one (s.open_ n) := by
  have he : (one s).openE 0 n = 0 := by unfold Nt.openE; rw [if_neg (by omega)]; exact one_e1 hb ho
  exact ⟨he, by unfold Nt.open_; rw [if_pos he, one_get, one_upd]⟩
theorem one_half (hb : s.brk = false) (ho : s.opn = true) : (one s).half 0 = one s.half := by unfold Nt.half; rw [if_pos (one_e1 hb ho), one_get, one_upd]
theorem one_reset (hb : s.brk = false) (ho : s.opn = true) : (one s).reset 0 = one s.reset := by unfold Nt.reset; rw [if_pos (one_e1 hb ho), one_get, one_upd]
theorem one_read (hb : s.brk = false) (ho : s.opn = true) (m : Int) (hm : 1 ≤ m) (hh : s.inn.length ≠ 0 ∨ s.hlv = true) :
    (one s).readE 0 m = 0 ∧ (one s).readB 0 m = s.inn.take m.toNat ∧ (one s).read 0 m = one (s.read m) := by
  have he : (one s).readE 0 m = 0 := by
    unfold Nt.readE
    rw [if_neg (by omega), if_pos (one_e2 hb ho), one_get]
    by_cases h0 : s.inn.length = 0
    · rw [if_pos h0]
      rcases hh with h | h
      · exact absurd h0 h
      · rw [h]; rfl
    · rw [if_neg h0]
  exact ⟨he, by unfold Nt.readB; rw [if_pos he, one_get], by unfold Nt.read; rw [if_pos he, one_get, one_upd]⟩
theorem one_read_again (hb : s.brk = false) (ho : s.opn = true) (m : Int) (hm : 1 ≤ m) (h0 : s.inn.length = 0) (hh : s.hlv = false) :
    (one s).readE 0 m = 4 ∧ (one s).readB 0 m = [] ∧ (one s).read 0 m = one s := by
  have he : (one s).readE 0 m = 4 := by
    unfold Nt.readE
    rw [if_neg (by omega), if_pos (one_e2 hb ho), one_get, if_pos h0, hh]
    rfl
  exact ⟨he, by unfold Nt.readB; rw [he]; rfl, by unfold Nt.read; rw [he]; rfl⟩
theorem one_read_brk (hb : s.brk = true) (ho : s.opn = true) (m : Int) (hm : 1 ≤ m) : (one s).readE 0 m = 5 ∧ (one s).readB 0 m = [] ∧ (one s).read 0 m = one s := by
  have he : (one s).readE 0 m = 5 := by
    unfold Nt.readE
    rw [if_neg (by omega), one_e2b hb ho]
    rfl
  exact ⟨he, by unfold Nt.readB; rw [he]; rfl, by unfold Nt.read; rw [he]; rfl⟩
theorem one_write (hb : s.brk = false) (ho : s.opn = true) (hs : s.sht = false) (l : List Int) (hl : l.length ≠ 0) (hw : s.win ≠ 0) :
    (one s).writeE 0 l = 0 ∧ (one s).writeK 0 l = min l.length s.win.toNat ∧ (one s).write 0 l = one (s.write (l.take (min l.length s.win.toNat))) := by
  have he : (one s).writeE 0 l = 0 := by
    unfold Nt.writeE
    rw [if_pos (one_e2 hb ho), one_get, hs, if_neg hl, if_neg hw]
    rfl
  have hk : (one s).writeK 0 l = min l.length s.win.toNat := by unfold Nt.writeK; rw [if_pos he, one_get]
  exact ⟨he, hk, by unfold Nt.write; rw [if_pos he, one_get, hk, one_upd]⟩
theorem one_write_again (hb : s.brk = false) (ho : s.opn = true) (hs : s.sht = false) (l : List Int) (hl : l.length ≠ 0) (hw : s.win = 0) :
    (one s).writeE 0 l = 4 ∧ (one s).writeK 0 l = 0 ∧ (one s).write 0 l = one s := by
  have he : (one s).writeE 0 l = 4 := by
    unfold Nt.writeE
    rw [if_pos (one_e2 hb ho), one_get, hs, if_neg hl, if_pos hw]
    rfl
  exact ⟨he, by unfold Nt.writeK; rw [he]; rfl, by unfold Nt.write; rw [he]; rfl⟩
theorem Cn.write_none (s : Cn) : s.write [] = s := by cases s; simp [Cn.write]
theorem one_write_none (hb : s.brk = false) (ho : s.opn = true) (hs : s.sht = false) : (one s).writeE 0 [] = 0 ∧ (one s).writeK 0 [] = 0 ∧ (one s).write 0 [] = one s := by
  have he : (one s).writeE 0 [] = 0 := by
    unfold Nt.writeE
    rw [if_pos (one_e2 hb ho), one_get, hs]
    rfl
  have hk : (one s).writeK 0 [] = 0 := by unfold Nt.writeK; rw [if_pos he]; simp
  exact ⟨he, hk, by unfold Nt.write; rw [if_pos he, one_get, List.take_nil, Cn.write_none, one_upd]⟩
theorem one_write_brk (hb : s.brk = true) (ho : s.opn = true) (l : List Int) : (one s).writeE 0 l = 5 ∧ (one s).writeK 0 l = 0 ∧ (one s).write 0 l = one s := by
  have he : (one s).writeE 0 l = 5 := by
    unfold Nt.writeE
    rw [one_e2b hb ho]
    rfl
  exact ⟨he, by unfold Nt.writeK; rw [he]; rfl, by unfold Nt.write; rw [he]; rfl⟩
end
#print axioms one_write
end Go.Proofs.Ytogcfeplfclobaa
