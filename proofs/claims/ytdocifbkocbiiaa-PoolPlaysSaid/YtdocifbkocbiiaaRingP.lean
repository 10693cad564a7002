/- Peek, Room, Write of the program's ring in the words that the laws' walks take. -/
import Derived.Test.YtdocifbkocbiiaaRows2
namespace Go.Proofs.Ytdocifbkocbiiaa
open Go.RowKit
set_option maxRecDepth 10000
set_option linter.unusedVariables false
set_option linter.unusedSimpArgs false

theorem of_drew {F : List Nat} {a w : World} (h : Mods F a.drew w) : Mods F a w := ⟨h.os, h.tape, h.output, h.size, h.block⟩
theorem of_drewN {F : List Nat} {a w : World} {n : Nat} (h : Mods F (a.drewN n) w) : Mods F a w := ⟨h.os, h.tape, h.output, h.size, h.block⟩
/-- A new slice of k bytes. -/
def New (w w' : World) (A : Option Addr) (k c : Nat) (P : List Int) : Prop :=
  k ≤ c ∧ c ≤ maxLen ∧ w'.ownsRow 0 5 1 (.slice A k c) k (bv P) ∧ Mods [] w w' ∧ P.length = k ∧ (∀ x ∈ P, 0 ≤ x ∧ x ≤ 255) ∧ ∀ b ∈ (Value.slice A k c).ownBlock.toList, w.heap.size ≤ b
theorem New.drew {w w' : World} {A : Option Addr} {k c : Nat} {P : List Int} (h : New w.drew w' A k c P) : New w w' A k c P := ⟨h.1, h.2.1, h.2.2.1, of_drew h.2.2.2.1, h.2.2.2.2⟩
theorem New.mods {w w' : World} {A : Option Addr} {k c : Nat} {P : List Int} (h : New w w' A k c P) : Mods [] w w' := h.2.2.2.1
theorem New.at_ {w w' w2 : World} {F : List Nat} {A : Option Addr} {k c : Nat} {P : List Int} (h : New w w' A k c P) (hm : Mods F w' w2) (hF : ∀ b ∈ (Value.slice A k c).ownBlock.toList, b ∉ F) : At w2 F A P :=
  (At.of_own h.2.2.1 hF h.2.2.2.2.2.1).mods hm
theorem New.at0 {w w' w2 : World} {A : Option Addr} {k c : Nat} {P : List Int} (h : New w w' A k c P) (hm : Mods [] w' w2) : At w2 [] A P := h.at_ hm (by simp)
theorem peek_as (w : World) (g m N k : Nat) (n : Int) (L P : List Int) (h : RingA w g m N L) (hP : L.take (clamp n L.length) = P) (hk : P.length = k) :
    Calls Try.prog 18 #[.pointer (some ⟨g, 0, none⟩), .int .i64 n] w fun e w' => ∃ A c, e = .returned (.slice A k c) ∧ Hid (New w w' A k c P) := by
  refine (peek_any w g m N n L h).mono ?_
  rintro e w' ⟨v, rfl, hd⟩
  have hf := hd.out
  rw [hP] at hf
  obtain ⟨A, c, rfl, h1, h2⟩ := own_slice hf.1
  subst hk
  exact ⟨A, c, rfl, Lib.hid ⟨h1, h2, hf.1, hf.2.1, rfl, fun x hx => h.range x (by rw [← hP] at hx; exact List.mem_of_mem_take hx), hf.2.2⟩⟩
theorem room_as (w : World) (g m N : Nat) (x : Int) (L : List Int) (h : RingA w g m N L) (hx : x = (N : Int) - (L.length : Int)) :
    Calls Try.prog 13 #[.pointer (some ⟨g, 0, none⟩)] w fun e w' => e = .returned (.int .i64 x) ∧ Mods [] w w' := by
  have hl := h.len.1
  refine (room_any w g m N L h).mono ?_
  rintro e w' ⟨rfl, q, rfl⟩
  exact ⟨ret_i64 (by omega), (Mods.refl _ _).drewN q⟩
theorem write_as (w : World) (g m N b : Nat) (x : Int) (L L' : List Int) (rs : List Rw) (h : RingA w g m N L) (hr : RowsAt w [g, m] b rs) (hl : rs.length ≤ 4) (k : Nat) (hk : rs.length = k) (hL : L ++ (flatR rs).take (N - L.length) = L') (hx : x = (L'.length : Int) - (L.length : Int)) :
    Calls Try.prog 14 #[.pointer (some ⟨g, 0, none⟩), .slice (some ⟨b, 0, none⟩) k k] w fun e w' =>
      e = .returned (.int .i64 x) ∧ Hid (RingA w' g m N L' ∧ Mods [g, m] w w') := by
  subst hk hL
  refine (write_any w g m N b L rs h hr hl).mono ?_
  rintro e w' ⟨n, rfl, hd⟩
  exact ⟨ret_i64 (by rw [hd.out.1, hx, List.length_append]; omega), Lib.hid hd.out.2⟩
/-- append as one step of a region that draws its order. -/
theorem step_append_bytes {P : Program} {ops : Array Oper} {o : Oper} {a : Act} {w : World} {K : Act → World → Prop} {Q : Exit → Act → World → Prop} {E : Prop} (hgd : o.guard = none) (s x : Operand) (t : TypeId)
    (ho : o.op = .call { callee := .builtin .append, args := #[s, x], argTypes := #[t, t] })
    (e : TypeId) (i : TypeInfo) (z : Value) (ht : P.underlying t = some (.slice e)) (hi : P.info? e = some i) (hz : i.zero = some z) (hs : i.size = 1) (hb : i.bytes = 1) (hzs : z.cells.size = 1)
    (v : Value) (n : Nat) (xs : List Int) (hsv : a.eval s = v) (hown : w.ownsRow 0 e 1 v n (bv xs)) (F : List Nat) (A : Option Addr) (m c : Nat) (l : List Int) (hx : a.eval x = .slice A m c) (hm : m = l.length) (ha : At w F A l) (hl : n + l.length ≤ 1000000000)
    (h : ∀ v' w', Hid (w'.ownsRow 0 e 1 v' (n + m) (bv (xs ++ l))) → Hid (Mods v.ownBlock.toList w w' ∧ (v'.ownBlock = v.ownBlock ∨ v'.ownBlock = some w.heap.size)) → K (a.put o.dst v') w') :
    if Region.wanted o (yielded ops a.tmps) = true then Oper.wp P o a w K Q else E := by
  have hw : Region.wanted o (yielded ops a.tmps) = true := by simp [Region.wanted, hgd]
  rw [if_pos hw]
  obtain ⟨v', w', hr, h2, h3, h5⟩ := run_append_bytes (P := P) w t o.type e i z ht hi hz hs hb hzs v n xs hown F A m c l hm ha hl
  unfold Oper.wp execOp
  simp only [ho, resolve, invoke, builtin, Sem.run_bind, Sem.run_pure, Result.andThen_ok, List.map_toArray, List.map_cons, List.map_nil, hsv, hx, hr]
  exact h v' w' (Lib.hid h2) (Lib.hid ⟨(Mods.refl _ _).grown h3 (fun k hk => .inl (by rw [hk]; simp)), h5⟩)
end Go.Proofs.Ytdocifbkocbiiaa
