/- What Write, New, Skip of the program's ring answer. -/
import Derived.Test.YtdocifbkocbiiaaRingB
namespace Go.Proofs.Ytdocifbkocbiiaa
open Go.RowKit
set_option maxRecDepth 10000
set_option linter.unusedVariables false
set_option linter.unusedSimpArgs false

/-- A row that is handed in. -/
structure Rw where
  A : Option Addr
  l : List Int
  c : Nat
structure RowsAt (w : World) (F : List Nat) (b : Nat) (rs : List Rw) : Prop where
  lt : b < w.heap.size
  out : b ∉ F
  cell : ∀ i r, rs[i]? = some r → w.cell? ⟨b, i, none⟩ = some (.slice r.A r.l.length r.c)
  at_ : ∀ r ∈ rs, At w F r.A r.l ∧ r.l.length ≤ r.c ∧ r.c ≤ maxLen
def flatR (rs : List Rw) : List Int := rs.flatMap (·.l)
theorem RowsAt.mods {w w' : World} {F : List Nat} {b : Nat} {rs : List Rw} (h : RowsAt w F b rs) (hm : Mods F w w') : RowsAt w' F b rs :=
  ⟨Nat.lt_of_lt_of_le h.lt hm.size, h.out, fun i r hr => cell_mods (h.cell i r hr) hm h.out, fun r hr => ⟨(h.at_ r hr).1.mods hm, (h.at_ r hr).2⟩⟩
theorem flatR_snoc (rs : List Rw) (k : Nat) (h : k < rs.length) : flatR (rs.take (k + 1)) = flatR (rs.take k) ++ rs[k].l := by
  unfold flatR; rw [List.take_succ_eq_append_getElem h, List.flatMap_append, List.flatMap_cons, List.flatMap_nil, List.append_nil]
theorem lay_step (N : Nat) (L M l : List Int) (hL : L.length ≤ N) :
    (L ++ M.take (N - L.length)) ++ l.take (fit N (L ++ M.take (N - L.length)) l) = L ++ (M ++ l).take (N - L.length) ∧
      (M.take (N - L.length)).length + fit N (L ++ M.take (N - L.length)) l = ((M ++ l).take (N - L.length)).length := by
  have e : N - (L ++ M.take (N - L.length)).length = (N - L.length) - M.length := by rw [List.length_append, List.length_take]; omega
  refine ⟨?_, ?_⟩
  · rw [List.append_assoc, List.take_append, fit, e]
    congr 2
    rcases Nat.le_total l.length (N - L.length - M.length) with h | h
    · rw [Nat.min_eq_left h, List.take_length, List.take_of_length_le h]
    · rw [Nat.min_eq_right h]
  · rw [fit, e]
    simp only [List.length_take, List.length_append]
    omega
/-- What Write leaves. -/
def Wrote (w w' : World) (g m N : Nat) (L : List Int) (rs : List Rw) (n : Int) : Prop :=
  n = ((flatR rs).take (N - L.length)).length ∧ RingA w' g m N (L ++ (flatR rs).take (N - L.length)) ∧ Mods [g, m] w w'
theorem write_any (w : World) (g m N b : Nat) (L : List Int) (rs : List Rw) (h : RingA w g m N L) (hr : RowsAt w [g, m] b rs) (hl : rs.length ≤ 4) :
    Calls Try.prog 14 #[.pointer (some ⟨g, 0, none⟩), .slice (some ⟨b, 0, none⟩) rs.length rs.length] w fun e w' =>
      ∃ n : Int, e = .returned (.int .i64 n) ∧ Hid (Wrote w w' g m N L rs n) := by
  have hn := eql_nil
  have HR := Lib.hid hr
  have HH := Lib.hid h
  have hL := h.len.1
  have hN := h.len.2.2
  clear h hr
  go_enter Try.func14, Try.ntmps14
  go_wp2
  go_loopw [5, 12] (fun n i wr => ∃ k : Nat, k ≤ rs.length ∧ i = .int .i64 k ∧ n = .int .i64 ((flatR (rs.take k)).take (N - L.length)).length ∧ Hid (RingA wr g m N (L ++ (flatR (rs.take k)).take (N - L.length)) ∧ Mods [g, m] w wr)) (fun _ i _ => rs.length - (intOf i).toNat)
  case atStart => exact ⟨0, by omega, rfl, by simp [flatR], Lib.hid ⟨by simpa [flatR] using HH.out, Mods.refl _ _⟩⟩
  case round =>
    obtain ⟨k, hk, rfl, rfl, hd⟩ := hrel
    have hnl : ((flatR (rs.take k)).take (N - L.length)).length ≤ N := by rw [List.length_take]; omega
    by_cases hlt : k < rs.length
    · have hrk := HR.out.mods hd.out.2
      have c0 := hrk.cell k rs[k] (List.getElem?_eq_getElem hlt)
      have HAT := Lib.hid (hrk.at_ rs[k] (List.getElem_mem hlt))
      have HST := Lib.hid (lay_step N L (flatR (rs.take k)) rs[k].l hL)
      have HSN := Lib.hid (flatR_snoc rs k hlt)
      have hfit : fit N (L ++ (flatR (rs.take k)).take (N - L.length)) rs[k].l ≤ N := by unfold fit; omega
      obtain ⟨M, hM⟩ : ∃ M, M = flatR (rs.take k) := ⟨_, rfl⟩
      rw [← hM] at HST HSN hd hfit hnl ⊢
      have HM := Lib.hid hM
      obtain ⟨r, hrr⟩ : ∃ r, r = rs[k] := ⟨_, rfl⟩
      rw [← hrr] at c0 HAT HST HSN hfit
      obtain ⟨x, hx⟩ : ∃ x, x = ((M.take (N - L.length)).length : Nat) := ⟨_, rfl⟩
      rw [← hx] at hnl ⊢
      obtain ⟨y, hy⟩ : ∃ y, y = fit N (L ++ M.take (N - L.length)) r.l := ⟨_, rfl⟩
      rw [← hy] at hfit
      have HX := Lib.hid hx
      have HY := Lib.hid hy
      clear hrk hM hrr hx hy
      go_wp2_with fail
      refine (lay_any wr g m N r.c (L ++ M.take (N - L.length)) r.l r.A hd.out.1 HAT.out.1 HAT.out.2.1 HAT.out.2.2).mono ?_
      rw [← HY.out]
      rintro e w' ⟨rfl, hq⟩
      have HQ := Lib.hid hq
      clear hq
      go_wp2
      go_roundw
      case rel =>
        refine ⟨k + 1, by omega, by go_num, ?_, Lib.hid ⟨?_, hd.out.2.trans HQ.out.2 (fun b hb => .inl hb)⟩⟩
        · rw [HSN.out, ← HST.out.2, ← HX.out, ← HY.out]; go_num
        · rw [HSN.out, ← HST.out.1, ← HY.out]; exact HQ.out.1
      case measure => simp [intOf]; omega
    · have HK := Lib.hid (show rs.take k = rs from List.take_of_length_le (by omega))
      go_wp2
      go_ret
      exact ⟨_, rfl, Lib.hid ⟨by rw [HK.out], by have := hd.out.1; rw [HK.out] at this; exact this, hd.out.2⟩⟩
theorem write_nil (w : World) (v : Value) : Calls Try.prog 14 #[.pointer none, v] w fun e w' => e = .returned (.int .i64 0) ∧ w = w' := by
  have hn := eql_nil
  go_enter Try.func14, Try.ntmps14
  go_wp2
  go_ret
  exact ⟨rfl, rfl⟩
theorem new_no (n : Int) (w : World) (h : n < 1 ∨ 65536 < n) : Calls Try.prog 20 #[.int .i64 n] w fun e w' => e = .returned (.tuple #[.pointer none, .int .i64 1]) ∧ w = w' := by
  rcases h with h | h
  · go_enter Try.func20, Try.ntmps20
    go_wp2
    go_ret2
    exact ⟨rfl, rfl⟩
  · have h' : ¬ n < 1 := by omega
    go_enter Try.func20, Try.ntmps20
    go_wp2
    go_ret2
    exact ⟨rfl, rfl⟩
theorem u8_info3 : (Try.prog.info? 5).map (fun i => (i.zero, i.size, i.bytes)) = some (some (.int .u8 0), 1, 1) := by kernel_rfl
theorem make_u8 (n : Nat) (h : n ≤ 65536) (w : World) : (Instr.makeSlice 39 (.int .i64 (n : Int)) (.int .i64 (n : Int))).run Try.prog w =
    .ok (.slice (some ⟨w.heap.size, 0, none⟩) n n) (w.alloc (.cells (madeCells #[.int .u8 0] n) 5)) := by
  obtain ⟨i, hi, hz, hs, hb⟩ := info_parts u8_info3
  have := run_make (P := Try.prog) w 39 5 i (.int .u8 0) Try.underlying39 hi hz .i64 .i64 n n (by omega) (Int.le_refl _) (by rw [hb]; omega) (by omega)
  simpa [hs, Value.cells] using this
theorem new_any (n : Nat) (w : World) (h : 1 ≤ n) (h2 : n ≤ 65536) : Calls Try.prog 20 #[.int .i64 n] w fun e w' =>
    e = .returned (.tuple #[.pointer (some ⟨w.heap.size + 1, 0, none⟩), .int .i64 0]) ∧ RingA w' (w.heap.size + 1) w.heap.size n [] ∧ Mods [] w w' := by
  have hmk := make_u8 n h2
  obtain ⟨cs, hcs⟩ : ∃ cs, cs = madeCells #[.int .u8 0] n := ⟨_, rfl⟩
  have HC := Lib.hid (show cs.size = n by rw [hcs, size_madeCells])
  rw [← hcs] at hmk
  clear hcs
  go_enter Try.func20, Try.ntmps20
  go_wp2
  go_ret2
  refine ⟨rfl, ⟨0, cs, ?_, (Row.new w _ _).alloc _, HC.out, by simp, h, h2, by omega, by simp⟩, ((Mods.refl _ _).alloc _).alloc _⟩
  have := Row.new (w.alloc (.cells cs 5)) 60 #[.slice (some ⟨w.heap.size, 0, none⟩) n n, .int .i64 0, .int .i64 0]
  simpa using this
end Go.Proofs.Ytdocifbkocbiiaa
