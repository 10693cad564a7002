/- What lay and Write of the program's ring do. -/
import Derived.Test.YtdocifbkocbiiaaRingA
import Derived.OwnWalk
namespace Go.Proofs.Ytdocifbkocbiiaa
open Go.RowKit
set_option maxRecDepth 10000
set_option linter.unusedVariables false
set_option linter.unusedSimpArgs false

theorem u8_info : (Try.prog.info? 5).map (·.size) = some 1 := by kernel_rfl
/-- How many bytes are taken. -/
def fit (N : Nat) (L l : List Int) : Nat := min l.length (N - L.length)
/-- What a call has laid behind. -/
def Laid (w w' : World) (g m N : Nat) (L M : List Int) : Prop := RingA w' g m N (L ++ M) ∧ Mods [g, m] w w'
theorem laid_of {w wq w3 w4 : World} {g m N f n k p : Nat} {A : Option Addr} {L l : List Int} {cs : Array Value} {x : Int} (h : RingF w g m N L f cs) (ha : At w [g, m] A l) (hn : n + L.length ≤ N) (hl : n ≤ l.length) (hp : p = pl N f L.length) (hk : k = min n (N - p))
    (hq : Mods [g, m] w wq) (m3 : Mods [m] wq w3) (m4 : Mods [m] w3 w4) (hg : Row w4 g 60 #[.slice (some ⟨m, 0, none⟩) N N, .int .i64 f, .int .i64 L.length])
    (hr : Row w4 m 5 (splice (splice cs.toList p (bv (l.take k))) 0 (bv ((l.take n).drop k))).toArray) (hx : x = (L.length : Int) + (n : Int)) :
    Laid w (w4.setCell ⟨g, 2, none⟩ (.int .i64 x)) g m N L (l.take n) := by
  have hne := h.ne
  have hs := h.size
  have hf := h.first
  have hcnt := h.count
  have hpl : p < N := by rw [hp]; exact pl_lt hf hcnt
  have l1 : (bv (l.take k)).length = k := by rw [bv_length, List.length_take]; omega
  have l2 : (bv ((l.take n).drop k)).length = n - k := by rw [bv_length, List.length_drop, List.length_take]; omega
  have l3 : (splice cs.toList p (bv (l.take k))).length = N := by rw [length_splice _ _ _ (by simp; omega)]; simpa using hs
  have lm : ∀ k ∈ [m], k ∈ [g, m] ∨ w.heap.size ≤ k := fun k hk => .inl (by simp at hk ⊢; omega)
  refine ⟨⟨f, _, ?_, hr.far (by exact hne.symm) _, ?_, ?_, h.lo, h.hi, hf, ?_⟩, ?_⟩
  · have := hg.set 2 (.int .i64 x)
    rw [hx] at this ⊢
    rw [show ((L ++ l.take n).length : Int) = (L.length : Int) + (n : Int) by rw [List.length_append, List.length_take]; omega]
    exact this
  · rw [List.size_toArray, length_splice _ _ _ (by omega)]; exact l3
  · intro i x hi
    refine ⟨?_, ?_⟩
    · rw [List.getElem?_toArray]
      exact ring_splice N f L l cs.toList n k p (by simpa using hs) hf hp hn hl hk (fun i x hx => by rw [Array.getElem?_toList]; exact (h.at_ i x hx).1) i x hi
    · rcases List.mem_append.1 (List.mem_of_getElem? hi) with hm | hm
      · obtain ⟨j, hj, e⟩ := List.mem_iff_getElem.1 hm
        exact (h.at_ j x (by rw [List.getElem?_eq_getElem hj, e])).2
      · exact ha.range x (List.mem_of_mem_take hm)
  · rw [List.length_append, List.length_take]; omega
  · exact ((hq.trans m3 lm).trans m4 lm).setCell (.inl (by simp)) _
theorem lay_any (w : World) (g m N c : Nat) (L l : List Int) (A : Option Addr) (h : RingA w g m N L) (ha : At w [g, m] A l) (hlc : l.length ≤ c) (hc : c ≤ maxLen) :
    Calls Try.prog 22 #[.pointer (some ⟨g, 0, none⟩), .slice A l.length c] w fun e w' =>
      e = .returned (.int .i64 (fit N L l)) ∧ Laid w w' g m N L (l.take (fit N L l)) := by
  have HR := Lib.hid (room_any w g m N L h)
  obtain ⟨f, cs, h⟩ := h
  obtain ⟨n, hn⟩ : ∃ n, n = fit N L l := ⟨_, rfl⟩
  obtain ⟨p, hp⟩ : ∃ p, p = pl N f L.length := ⟨_, rfl⟩
  obtain ⟨k, hk⟩ : ∃ k, k = min n (N - p) := ⟨_, rfl⟩
  have hcnt := h.count
  have hn1 : n ≤ l.length := by rw [hn]; unfold fit; omega
  have hn2 : n + L.length ≤ N := by rw [hn]; unfold fit; omega
  have HS := Lib.hid (fun q => (span_any (w.drewN q) g m N f L.length n L cs (h.keep fun _ _ => rfl) hcnt (by omega)))
  have HH := Lib.hid h
  have HA := Lib.hid ha
  have hp2 : p < N := by rw [hp]; exact pl_lt h.first hcnt
  have c2 := h.row.cell 2
  have hN := h.hi
  rw [← hp, ← hk] at HS
  have HN := Lib.hid hn
  have HK := Lib.hid hk
  have HP := Lib.hid hp
  have k1 : k ≤ n := by omega
  have k2 : k + p ≤ N := by omega
  rw [← hn]
  unfold maxLen at hc
  have hmin : ((l.length : Int) ≤ (N - L.length : Nat) ∧ n = l.length) ∨ (¬ (l.length : Int) ≤ (N - L.length : Nat) ∧ n = N - L.length) := by
    unfold fit at hn; omega
  clear hn hk hp h ha
  rcases hmin with ⟨hmin, rfl⟩ | ⟨hmin, rfl⟩
  · go_enter Try.func22, Try.ntmps22
    go_wp2_with fail
    refine HR.out.mono ?_
    rintro e w' ⟨rfl, q, rfl⟩
    go_wp2_with fail
    refine (HS.out q).mono ?_
    rintro e w' ⟨rfl, q2, rfl⟩
    have HM := Lib.hid (show Row (w.drewN (q + q2)) m 5 cs.toList.toArray by rw [Array.toArray_toList]; exact HH.out.mem.keep rfl)
    have HG0 := Lib.hid (show Row (w.drewN (q + q2)) g 60 #[.slice (some ⟨m, 0, none⟩) N N, .int .i64 f, .int .i64 L.length] from HH.out.row.keep rfl)
    have HNE := Lib.hid (show g ∉ [m] by simpa using HH.out.ne)
    have HSA := Lib.hid (show (bv (l.take k)).length = k by rw [bv_length, List.length_take]; omega)
    have HSB := Lib.hid (show (bv ((l.take l.length).drop k)).length = l.length - k by rw [bv_length, List.length_drop, List.length_take]; omega)
    have HSZ := Lib.hid (show p + (bv (l.take k)).length ≤ cs.toList.length by rw [HSA.out]; have := HH.out.size; simp; omega)
    have HSC := Lib.hid (show (splice cs.toList p (bv (l.take k))).length = N by rw [length_splice _ _ _ HSZ.out]; have := HH.out.size; simpa using this)
    have HA2 := Lib.hid (show At (w.drewN (q + q2)) [g, m] A l from HA.out.mods ((Mods.refl _ _).drewN (q + q2)))
    have HA3 := Lib.hid (show At (w.drewN (q + q2)) [m] A l from HA2.out.sub (fun k hk => .inl (by simp at hk ⊢; omega)))
    go_wp2_with (first
      | ((with_reducible refine wpList_copy_row rfl (.tmp 23) (.tmp 24) 39 39 rfl 5 Try.underlying39 u8_info (some ⟨m, p, none⟩) A k (N - p) l.length c rfl rfl m p cs.toList 5 HM.out (bv (l.take k)) (by rw [HSA.out]; exact (Nat.min_eq_right (Nat.le_trans k1 hn1)).symm) (fun hpos => ⟨rfl, (HA2.out.take k).src (by rw [bv_length] at hpos; exact hpos)⟩) HSZ.out (bv_one _) ?_); intro w3 HR3 HM3)
      | ((with_reducible refine wpList_copy_row rfl (.tmp 26) (.tmp 31) 39 39 rfl 5 Try.underlying39 u8_info (some ⟨m, 0, none⟩) (if c = k then A else Option.map (fun x => x.add k) A) (l.length - k) N (l.length - k) (c - k) rfl rfl m 0 (splice cs.toList p (bv (l.take k))) 5 HR3.out (bv ((l.take l.length).drop k)) (by rw [HSB.out]; exact (Nat.min_self _).symm) (fun hpos => ⟨rfl, (((HA3.out.mods HM3.out).take l.length).cutIf k c (by rw [List.length_take]; omega)).src (by rw [bv_length] at hpos; exact hpos)⟩) (by rw [HSB.out, HSC.out]; omega) (bv_one _) ?_); intro w4 HR4 HM4; have HG4 := Lib.hid ((HG0.out.mods HM3.out HNE.out).mods HM4.out HNE.out); have c4 := HG4.out.cell 2; have f4 := HG4.out.free 2))
    all_goals
      go_ret
      exact ⟨rfl, by have h := laid_of HH.out HA.out hn2 (by omega) HP.out HK.out ((Mods.refl _ _).drewN _) HM3.out HM4.out HG4.out HR4.out rfl; rw [List.take_length] at h; exact h⟩
  · go_enter Try.func22, Try.ntmps22
    go_wp2_with fail
    refine HR.out.mono ?_
    rintro e w' ⟨rfl, q, rfl⟩
    go_wp2_with fail
    refine (HS.out q).mono ?_
    rintro e w' ⟨rfl, q2, rfl⟩
    have HM := Lib.hid (show Row (w.drewN (q + q2)) m 5 cs.toList.toArray by rw [Array.toArray_toList]; exact HH.out.mem.keep rfl)
    have HG0 := Lib.hid (show Row (w.drewN (q + q2)) g 60 #[.slice (some ⟨m, 0, none⟩) N N, .int .i64 f, .int .i64 L.length] from HH.out.row.keep rfl)
    have HNE := Lib.hid (show g ∉ [m] by simpa using HH.out.ne)
    have HSA := Lib.hid (show (bv (l.take k)).length = k by rw [bv_length, List.length_take]; omega)
    have HSB := Lib.hid (show (bv ((l.take (N - L.length)).drop k)).length = N - L.length - k by rw [bv_length, List.length_drop, List.length_take]; omega)
    have HSZ := Lib.hid (show p + (bv (l.take k)).length ≤ cs.toList.length by rw [HSA.out]; have := HH.out.size; simp; omega)
    have HSC := Lib.hid (show (splice cs.toList p (bv (l.take k))).length = N by rw [length_splice _ _ _ HSZ.out]; have := HH.out.size; simpa using this)
    have HA2 := Lib.hid (show At (w.drewN (q + q2)) [g, m] A l from HA.out.mods ((Mods.refl _ _).drewN (q + q2)))
    have HA3 := Lib.hid (show At (w.drewN (q + q2)) [m] A l from HA2.out.sub (fun k hk => .inl (by simp at hk ⊢; omega)))
    go_wp2_with (first
      | ((with_reducible refine wpList_copy_row rfl (.tmp 23) (.tmp 24) 39 39 rfl 5 Try.underlying39 u8_info (some ⟨m, p, none⟩) A k (N - p) l.length c rfl rfl m p cs.toList 5 HM.out (bv (l.take k)) (by rw [HSA.out]; exact (Nat.min_eq_right (Nat.le_trans k1 hn1)).symm) (fun hpos => ⟨rfl, (HA2.out.take k).src (by rw [bv_length] at hpos; exact hpos)⟩) HSZ.out (bv_one _) ?_); intro w3 HR3 HM3)
      | ((with_reducible refine wpList_copy_row rfl (.tmp 26) (.tmp 31) 39 39 rfl 5 Try.underlying39 u8_info (some ⟨m, 0, none⟩) (if c = k then A else Option.map (fun x => x.add k) A) (N - L.length - k) N (N - L.length - k) (c - k) rfl rfl m 0 (splice cs.toList p (bv (l.take k))) 5 HR3.out (bv ((l.take (N - L.length)).drop k)) (by rw [HSB.out]; exact (Nat.min_self _).symm) (fun hpos => ⟨rfl, (((HA3.out.mods HM3.out).take (N - L.length)).cutIf k c (by rw [List.length_take]; omega)).src (by rw [bv_length] at hpos; exact hpos)⟩) (by rw [HSB.out, HSC.out]; omega) (bv_one _) ?_); intro w4 HR4 HM4; have HG4 := Lib.hid ((HG0.out.mods HM3.out HNE.out).mods HM4.out HNE.out); have c4 := HG4.out.cell 2; have f4 := HG4.out.free 2))
    all_goals
      go_ret
      exact ⟨rfl, laid_of HH.out HA.out hn2 (by omega) HP.out HK.out ((Mods.refl _ _).drewN _) HM3.out HM4.out HG4.out HR4.out rfl⟩
end Go.Proofs.Ytdocifbkocbiiaa
