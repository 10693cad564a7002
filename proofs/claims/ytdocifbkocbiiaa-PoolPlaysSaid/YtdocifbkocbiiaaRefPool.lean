/- The reference's pool in memory, and what New, Get, Put answer. -/
import Derived.Test.YtdocifbkocbiiaaPoolB
namespace Go.Proofs.Ytdocifbkocbiiaa
open Go.RowKit
set_option maxRecDepth 10000
set_option linter.unusedVariables false
set_option linter.unusedSimpArgs false

def bb (O : List Bool) : List Value := O.map .bool
/-- The reference's pool behind x, what is lent in block m. -/
structure PoolR (w : World) (x m z : Nat) (O : List Bool) (t : Nat) : Prop where
  row : Row w x 45 #[.slice (some ⟨m, 0, none⟩) O.length O.length, .int .i64 z, .int .i64 (cnt O), .int .i64 t]
  mem : Row w m 4 (bb O).toArray
  hi : O.length ≤ 4096
  z1 : 1 ≤ z
  z2 : z ≤ 65536
  most : t ≤ O.length
section
variable {w w' : World} {g m z t : Nat} {O : List Bool}
theorem PoolR.ne (h : PoolR w g m z O t) : g ≠ m := Row.type_ne h.row h.mem (by decide)
theorem PoolR.keep (h : PoolR w g m z O t) (e : ∀ k ∈ [g, m], w'.heap[k]? = w.heap[k]?) : PoolR w' g m z O t :=
  ⟨h.row.keep (e _ (by simp)), h.mem.keep (e _ (by simp)), h.hi, h.z1, h.z2, h.most⟩
theorem PoolR.lt (h : PoolR w g m z O t) : ∀ k ∈ [g, m], k < w.heap.size := by
  intro k hk
  simp only [List.mem_cons, List.mem_nil_iff, or_false] at hk
  rcases hk with rfl | rfl
  · exact h.row.lt
  · exact h.mem.lt
theorem PoolR.mods {G : List Nat} (h : PoolR w g m z O t) (hm : Mods G w w') (hd : ∀ k ∈ [g, m], k ∉ G) : PoolR w' g m z O t :=
  h.keep fun k hk => hm.block k (h.lt k hk) (hd k hk)
theorem bb_at (O : List Bool) (i : Nat) (b : Bool) (h : O[i]? = some b) : (bb O).toArray[i]? = some (.bool b) := by
  rw [List.getElem?_toArray]; simp [bb, h]
theorem bb_set (O : List Bool) (i : Nat) (b : Bool) : (bb O).toArray.setIfInBounds i (.bool b) = (bb (O.set i b)).toArray := by
  simp [bb, List.map_set, List.setIfInBounds_toArray]
theorem bb_new (n : Nat) : (bb (List.replicate n false)).toArray = madeCells #[.bool false] n := by
  refine Array.ext ?_ ?_
  · simp [bb, size_madeCells]
  · intro i h1 h2
    have h0 : i % 1 = 0 := Nat.mod_one i
    simp [bb, madeCells, h0]
theorem PoolR.cellAt (h : PoolR w g m z O t) (i : Nat) (b : Bool) (hb : O[i]? = some b) : w.cell? ⟨m, i, none⟩ = some (.bool b) := by
  rw [h.mem.cell, bb_at O i b hb]
theorem poolR_set {i : Nat} {b : Bool} {c t' : Int} {u : Nat} (h : PoolR w g m z O t) (hc : c = (cnt (O.set i b) : Nat)) (ht : t' = (u : Nat)) (hu : u ≤ O.length) :
    PoolR (((w.setCell ⟨m, i, none⟩ (.bool b)).setCell ⟨g, 2, none⟩ (.int .i64 c)).setCell ⟨g, 3, none⟩ (.int .i64 t')) g m z (O.set i b) u := by
  subst hc ht
  refine ⟨?_, ?_, by simpa using h.hi, h.z1, h.z2, by simpa using hu⟩
  · have := ((h.row.far (p := ⟨m, i, none⟩) (by exact h.ne) (.bool b)).set 2 (.int .i64 (cnt (O.set i b) : Nat))).set 3 (.int .i64 (u : Nat))
    rw [List.length_set]
    exact this
  · have := ((h.mem.set i (.bool b)).far (p := ⟨g, 2, none⟩) (by exact h.ne.symm) (.int .i64 (cnt (O.set i b) : Nat))).far (p := ⟨g, 3, none⟩) (by exact h.ne.symm) (.int .i64 (u : Nat))
    rw [bb_set] at this
    exact this
theorem poolR_set2 {i : Nat} {b : Bool} {c : Int} (h : PoolR w g m z O t) (hc : c = (cnt (O.set i b) : Nat)) :
    PoolR ((w.setCell ⟨m, i, none⟩ (.bool b)).setCell ⟨g, 2, none⟩ (.int .i64 c)) g m z (O.set i b) t := by
  subst hc
  refine ⟨?_, ?_, by simpa using h.hi, h.z1, h.z2, by simpa using h.most⟩
  · have := (h.row.far (p := ⟨m, i, none⟩) (by exact h.ne) (.bool b)).set 2 (.int .i64 (cnt (O.set i b) : Nat))
    rw [List.length_set]
    exact this
  · have := (h.mem.set i (.bool b)).far (p := ⟨g, 2, none⟩) (by exact h.ne.symm) (.int .i64 (cnt (O.set i b) : Nat))
    rw [bb_set] at this
    exact this
end
theorem rpnew_no (n s : Int) (w : World) (h : n < 0 ∨ 4096 < n ∨ s < 1 ∨ 65536 < s) : Calls Try.prog 8 #[.int .i64 n, .int .i64 s] w fun e w' => e = .returned (.tuple #[.pointer none, .int .i64 1]) ∧ w = w' := by
  by_cases h1 : n < 0
  · go_enter Try.func8, Try.ntmps8
    go_wp2
    go_ret2
    exact ⟨rfl, rfl⟩
  · by_cases h2 : 4096 < n
    · go_enter Try.func8, Try.ntmps8
      go_wp2
      go_ret2
      exact ⟨rfl, rfl⟩
    · by_cases h3 : s < 1
      · go_enter Try.func8, Try.ntmps8
        go_wp2
        go_ret2
        exact ⟨rfl, rfl⟩
      · have h4 : 65536 < s := by omega
        clear h
        go_enter Try.func8, Try.ntmps8
        go_wp2
        go_ret2
        exact ⟨rfl, rfl⟩
theorem bool_info : (Try.prog.info? 4).map (fun i => (i.zero, i.size, i.bytes)) = some (some (.bool false), 1, 1) := by kernel_rfl
theorem make_bool (n : Nat) (h : n ≤ 65536) (w : World) : (Instr.makeSlice 43 (.int .i64 (n : Int)) (.int .i64 (n : Int))).run Try.prog w =
    .ok (.slice (some ⟨w.heap.size, 0, none⟩) n n) (w.alloc (.cells (madeCells #[.bool false] n) 4)) := by
  obtain ⟨i, hi, hz, hs, hb⟩ := info_parts bool_info
  have := run_make (P := Try.prog) w 43 4 i (.bool false) Try.underlying43 hi hz .i64 .i64 n n (by omega) (Int.le_refl _) (by rw [hb]; omega) (by omega)
  simpa [hs, Value.cells] using this
theorem rpnew_any (n z : Nat) (w : World) (h : n ≤ 4096) (h1 : 1 ≤ z) (h2 : z ≤ 65536) : Calls Try.prog 8 #[.int .i64 n, .int .i64 z] w fun e w' =>
    e = .returned (.tuple #[.pointer (some ⟨w.heap.size + 1, 0, none⟩), .int .i64 0]) ∧ PoolR w' (w.heap.size + 1) w.heap.size z (List.replicate n false) 0 ∧ Mods [] w w' := by
  have hmk := make_bool n (by omega)
  have HC := Lib.hid (bb_new n)
  obtain ⟨cs, hcs⟩ : ∃ cs, cs = madeCells #[.bool false] n := ⟨_, rfl⟩
  rw [← hcs] at hmk HC
  clear hcs
  go_enter Try.func8, Try.ntmps8
  go_wp2
  go_ret2
  refine ⟨rfl, ⟨?_, ?_, by simpa using h, h1, h2, Nat.zero_le _⟩, ((Mods.refl _ _).alloc _).alloc _⟩
  · have := Row.new (w.alloc (.cells cs 4)) 45 #[.slice (some ⟨w.heap.size, 0, none⟩) n n, .int .i64 z, .int .i64 0, .int .i64 0]
    have e : cnt (List.replicate n false) = 0 := by simp [cnt, List.count_replicate]
    rw [e, List.length_replicate]
    simpa using this
  · rw [HC.out]; exact (Row.new w _ _).alloc _
theorem rring_any (n : Nat) (w : World) (h : 1 ≤ n) (h2 : n ≤ 65536) : Calls Try.prog 21 #[.int .i64 n] w fun e w' =>
    e = .returned (.tuple #[.pointer (some ⟨w.heap.size, 0, none⟩), .int .i64 0]) ∧ Mods [] w w' := by
  go_enter Try.func21, Try.ntmps21
  go_wp2
  go_ret2
  exact ⟨rfl, (Mods.refl _ _).alloc _⟩
/-- What a Get of the reference leaves. -/
def GotR (w w' : World) (g m z : Nat) (O : List Bool) (t : Nat) : Prop :=
  PoolR w' g m z (O.set (lo O) true) (max t (cnt O + 1)) ∧ Mods [g, m] w w'
theorem gotR_of {w w' : World} {g m z t n : Nat} {O : List Bool} {c x : Int} (h : PoolR w g m z O t) (hn : n = lo O) (hl : n < O.length) (hc : c = (cnt O : Int) + 1) (hx : x = (max t (cnt O + 1) : Nat))
    (hm : Mods [] (((w.setCell ⟨m, n, none⟩ (.bool true)).setCell ⟨g, 2, none⟩ (.int .i64 c)).setCell ⟨g, 3, none⟩ (.int .i64 x)).drew w') : GotR w w' g m z O t := by
  subst hn
  have hla := cnt_take O _ (lo_at O hl)
  have hc2 := cnt_le (O.set (lo O) true)
  rw [List.length_set] at hc2
  have hmost := h.most
  have hM : Mods [g, m] w (((w.setCell ⟨m, lo O, none⟩ (.bool true)).setCell ⟨g, 2, none⟩ (.int .i64 c)).setCell ⟨g, 3, none⟩ (.int .i64 x)).drew :=
    ((((Mods.refl _ _).setCell (.inl (by simp)) _).setCell (.inl (by simp)) _).setCell (.inl (by simp)) _).drew
  have hP : PoolR (((w.setCell ⟨m, lo O, none⟩ (.bool true)).setCell ⟨g, 2, none⟩ (.int .i64 c)).setCell ⟨g, 3, none⟩ (.int .i64 x)).drew g m z (O.set (lo O) true) (max t (cnt O + 1)) :=
    (poolR_set (b := true) h (by omega) hx (by omega)).keep (fun _ _ => rfl)
  exact ⟨hP.mods hm (by simp), hM.trans hm (by simp)⟩
theorem rget_full (w : World) (g m z t : Nat) (O : List Bool) (h : PoolR w g m z O t) (hl : O.length ≤ lo O) :
    Calls Try.prog 11 #[.pointer (some ⟨g, 0, none⟩)] w fun e w' => e = .returned (.tuple #[.int .i64 0, .pointer none, .int .i64 3]) ∧ w = w' := by
  have c0 := h.row.cell 0
  have HL := Lib.hid (fun j (hj : j < O.length) => h.cellAt j true (lo_low O j (by omega)))
  have hN := h.hi
  obtain ⟨N, hN2⟩ : ∃ N, N = O.length := ⟨_, rfl⟩
  rw [← hN2] at c0 HL hN
  clear h hl hN2
  go_enter Try.func11, Try.ntmps11
  go_wp2
  go_loop [5, 6, 7] (fun i a b => ∃ j : Nat, j ≤ N ∧ i = .int .i64 j) (fun i _ _ => N - (intOf i).toNat)
  case atStart => exact ⟨0, Nat.zero_le _, rfl⟩
  case round =>
    obtain ⟨j, hj, rfl⟩ := hrel
    by_cases hlt : j < N
    · have cc := HL.out j hlt
      go_wp2
      go_round
      case rel => exact ⟨j + 1, by omega, by go_num⟩
      case measure => simp [intOf]; omega
    · go_wp2
      go_ret3
      exact ⟨rfl, rfl⟩
theorem rget_any (w : World) (g m z t : Nat) (O : List Bool) (h : PoolR w g m z O t) (hl : lo O < O.length) :
    Calls Try.prog 11 #[.pointer (some ⟨g, 0, none⟩)] w fun e w' => ∃ p, e = .returned (.tuple #[.int .i64 (lo O), .pointer (some ⟨p, 0, none⟩), .int .i64 0]) ∧ Hid (GotR w w' g m z O t) := by
  have HH := Lib.hid h
  have HLL := Lib.hid hl
  have hla := lo_at O hl
  have hc := cnt_take O _ hla
  have hc2 := cnt_le (O.set (lo O) true)
  rw [List.length_set] at hc2
  have cm := h.cellAt _ false hla
  have HL := Lib.hid (fun j (hj : j < lo O) => h.cellAt j true (lo_low O j hj))
  have c0 := h.row.cell 0
  have c1 := h.row.cell 1
  have c2 := h.row.cell 2
  have c3 := h.row.cell 3
  have f0 := h.row.free
  have f1 := h.mem.free
  have hz1 := h.z1
  have hz2 := h.z2
  have hmost := h.most
  have hN := h.hi
  have hne := h.ne
  have hne2 := hne.symm
  have hcc : cnt O + 1 ≤ O.length := by omega
  obtain ⟨n, hn2⟩ : ∃ n, n = lo O := ⟨_, rfl⟩
  rw [← hn2] at cm HL hl
  have HNL := Lib.hid hn2
  rw [← hn2]
  clear h hla hc hc2 hn2
  obtain ⟨c, hc⟩ : ∃ c, c = cnt O := ⟨_, rfl⟩
  rw [← hc] at c2 hcc
  have HCE := Lib.hid hc
  obtain ⟨N, hN2⟩ : ∃ N, N = O.length := ⟨_, rfl⟩
  rw [← hN2] at c0 hcc hl hmost hN
  clear hc hN2
  go_enter Try.func11, Try.ntmps11
  go_wp2
  go_loop [5, 6, 7] (fun i a b => ∃ j : Nat, j ≤ n ∧ i = .int .i64 j) (fun i _ _ => n - (intOf i).toNat)
  case atStart => exact ⟨0, Nat.zero_le _, rfl⟩
  case round =>
    obtain ⟨j, hj, rfl⟩ := hrel
    by_cases hlt : j < n
    · have cc := HL.out j hlt
      go_wp2
      go_round
      case rel => exact ⟨j + 1, by omega, by go_num⟩
      case measure => simp [intOf]; omega
    · obtain rfl : j = n := by omega
      clear hlt hj
      go_wp2
      go_region
      all_goals go_wp2_with fail
      all_goals
        refine (rring_any z _ hz1 hz2).mono ?_
        rintro e w' ⟨rfl, hm⟩
        have HM := Lib.hid hm
        clear hm
        go_wp2
        go_ret3
        exact ⟨_, rfl, Lib.hid (gotR_of HH.out HNL.out (by rw [HNL.out]; exact HLL.out) (by rw [HCE.out]) (by rw [← HCE.out]; omega) HM.out)⟩
end Go.Proofs.Ytdocifbkocbiiaa
