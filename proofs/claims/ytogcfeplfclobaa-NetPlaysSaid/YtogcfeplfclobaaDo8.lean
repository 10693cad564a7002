/- What does of stage 7's law answers: Read. -/
import Derived.Test.YtogcfeplfclobaaSp7
import Derived.Test.YtogcfeplfclobaaRj
namespace Go.Proofs.Ytogcfeplfclobaa
open Go.RowKit
set_option maxRecDepth 10000
set_option linter.unusedVariables false
set_option linter.unusedSimpArgs false

theorem Nt.Ok.readB_len {S : Nt} {m : Nat} (h : S.Ok m) (c k : Int) : (S.readB c k).length ≤ 1024 := by
  unfold Nt.readB
  split
  · rw [List.length_take]
    cases hs : S.at? c with
    | none => rw [Nt.get_none hs]; simp [none_, Cn.new]
    | some s =>
      rw [Nt.get_some hs]
      obtain ⟨j, rfl, h1, h2⟩ := Nt.at_some hs
      have := h.at_ h1
      omega
  · simp
theorem readT (W w : World) (g x m n : Nat) (S T : Nt) (K : List Nat) (c k : Int) (h : Two W w g x S T m n K) (hm : m + 1024 ≤ 900000000) (E : Int) (B : List Int) (S' : Nt) (hE : S.readE c k = E) (hB : S.readB c k = B) (hS : S.read c k = S') :
    Calls Try.prog 22 #[.pointer (some ⟨g, 0, none⟩), .int .i64 c, .int .i64 k] w fun e w' => ∃ A q cp, e = .returned (.tuple #[.slice A q cp, .int .i64 E]) ∧ Hid (q = B.length) ∧
      Hid (Two W w' g x S' T (m + 1024) n (K ++ (Value.slice A q cp).ownBlock.toList) ∧ KeepK K w w' ∧ Own w' 5 (.slice A q cp) (bv B) ∧ (∀ b ∈ (Value.slice A q cp).ownBlock.toList, w.heap.size ≤ b) ∧ ∀ y ∈ B, 0 ≤ y ∧ y ≤ 255) := by
  subst hE hB hS
  obtain ⟨F, G, h⟩ := h
  refine (read_any w g m F S c k h.net hm).mono fun e w' ⟨v, h1, hd⟩ => ?_
  have h2 := h.netGet hd.out
  obtain ⟨A, q, cp, rfl, hq, -, -⟩ := h2.2.2.1.slice'
  rw [bv_length] at hq
  exact ⟨A, q, cp, h1, Lib.hid hq, Lib.hid h2⟩
theorem rreadT (W w : World) (g x m n : Nat) (S T : Nt) (K : List Nat) (c k : Int) (h : Two W w g x S T m n K) (hm : n + 1024 ≤ 900000000) (E : Int) (B : List Int) (T' : Nt) (hE : T.readE c k = E) (hB : T.readB c k = B) (hS : T.read c k = T') :
    Calls Try.prog 44 #[.pointer (some ⟨x, 0, none⟩), .int .i64 c, .int .i64 k] w fun e w' => ∃ A q cp, e = .returned (.tuple #[.slice A q cp, .int .i64 E]) ∧ Hid (q = B.length) ∧
      Hid (Two W w' g x S T' m (n + 1024) K ∧ KeepK K w w' ∧ At w' [] A B) := by
  subst hE hB hS
  obtain ⟨F, G, h⟩ := h
  refine (rread_any w x n G T c k h.ref hm).mono fun e w' ⟨v, h1, hd⟩ => ?_
  obtain ⟨h2, A, q, cp, rfl, hq, hA⟩ := hd.out
  exact ⟨A, q, cp, h1, Lib.hid hq, Lib.hid ⟨(h.refTo h2).1, (h.refTo h2).2, hA⟩⟩
set_option maxHeartbeats 2000000 in
theorem does_8 (W w : World) (g x m : Nat) (S : Nt) (c n : Int) (vB vA : Value) (h : Two W w g x S S m m []) (hm : m + 9024 ≤ 900000000) :
    Calls Try.prog 13 #[.pointer (some ⟨g, 0, none⟩), .pointer (some ⟨x, 0, none⟩), .agg #[.int .i64 8, .int .i64 c, .int .i64 n, vB, vA]] w fun e w' => e = .returned (.bool true) ∧ Hid (Done W w' g x m) := by
  have H1 := Lib.hid (h.boxed #[.int .i64 8, .int .i64 c, .int .i64 n, vB, vA] 35)
  have R1 := Lib.hid (Row.new w 35 #[.int .i64 8, .int .i64 c, .int .i64 n, vB, vA])
  obtain ⟨E, hE⟩ : ∃ E, S.readE c n = E := ⟨_, rfl⟩
  obtain ⟨B, hB⟩ : ∃ B, S.readB c n = B := ⟨_, rfl⟩
  obtain ⟨S', hS⟩ : ∃ S', S.read c n = S' := ⟨_, rfl⟩
  have HBL := Lib.hid (show B.length ≤ 1024 by rw [← hB]; obtain ⟨F, G, h⟩ := h; exact h.net.ok.readB_len c n)
  have HW := Lib.hid (show W.heap.size ≤ w.heap.size by obtain ⟨F, G, h⟩ := h; exact h.mods.size)
  have C2 := Lib.hid (fun (w2 : World) (K : List Nat) (h2 : Two W w2 g x S' S (m + 1024) m K) => rreadT W w2 g x (m + 1024) m S' S K c n h2 (by omega) E B S' hE hB hS)
  have C1 := Lib.hid (readT W _ g x m m S S [w.heap.size] c n H1.out (by omega) E B S' hE hB hS)
  clear h hE hB hS
  go_enter Try.func13, Try.ntmps13
  go_wp2_with fail
  refine C1.out.mono ?_
  rintro e w2 ⟨A2, q2, p2, rfl, N2, hd⟩
  have H2 := Lib.hid hd.out.1
  have O2 := Lib.hid hd.out.2.2
  have R2 := Lib.hid (R1.out.keep (hd.out.2.1 _ (by simp)))
  have z1 := R2.out.cell 1
  have z2 := R2.out.cell 2
  clear hd
  go_wp2_with fail
  refine (C2.out w2 _ H2.out).mono ?_
  rintro e w3 ⟨A3, q3, p3, rfl, N3, hd⟩
  have H3 := Lib.hid hd.out.1
  have A3B := Lib.hid hd.out.2.2
  have O3 := Lib.hid (show Own w3 5 (.slice A2 q2 p2) (bv B) from O2.out.1.keepK hd.out.2.1 (fun b hb => List.mem_append_right _ hb))
  clear hd z1 z2
  go_wp2_with fail
  refine (same_yes w3 A2 A3 B q2 q3 p2 p3 N2.out N3.out (At.of_own2 O3.out (by simp) O2.out.2.2) A3B.out (by have := HBL.out; omega)).mono ?_
  rintro e w4 ⟨rfl, h4⟩
  have M4 := Lib.hid h4
  clear h4
  go_wp2_with fail
  refine (spoil_own w4 _ B (O3.out.mods M4.out (by simp)) (by have := HBL.out; omega)).mono ?_
  rintro e w5 ⟨rfl, h5⟩
  have H5 := Lib.hid (show Two W w5 g x S' S' (m + 1024) (m + 1024) _ from by
    obtain ⟨F, G, h6⟩ := H3.out.quiet M4.out
    exact ⟨F, G, h6.spoilt (fun k hk => ⟨List.mem_append_right _ hk, by have := O2.out.2.1 k hk; have := HW.out; simp at *; omega⟩) h5⟩)
  clear h5
  go_wp2
  go_ret
  exact ⟨by simp, Lib.hid (H5.out.done (Mods.refl _ _) (by omega) (by omega) hm)⟩
end Go.Proofs.Ytogcfeplfclobaa
