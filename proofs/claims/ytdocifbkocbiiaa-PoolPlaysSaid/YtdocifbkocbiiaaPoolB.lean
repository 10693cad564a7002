/- What Get and Put of the program's pool do. -/
import Derived.Test.YtdocifbkocbiiaaPoolA
namespace Go.Proofs.Ytdocifbkocbiiaa
open Go.RowKit
set_option maxRecDepth 10000
set_option linter.unusedVariables false
set_option linter.unusedSimpArgs false

theorem pool_set {w : World} {g m z t : Nat} {O : List Bool} {i : Nat} {b : Bool} {c t' : Int} {u : Nat} (h : PoolA w g m z O t) (hc : c = (cnt (O.set i b) : Nat)) (ht : t' = (u : Nat)) (hu : u ≤ O.length) :
    PoolA (((w.setCell ⟨m, i, none⟩ (.int .u8 (mk b))).setCell ⟨g, 2, none⟩ (.int .i64 c)).setCell ⟨g, 3, none⟩ (.int .i64 t')) g m z (O.set i b) u := by
  subst hc ht
  refine ⟨?_, ?_, by simpa using h.hi, h.z1, h.z2, by simpa using hu⟩
  · have := ((h.row.far (p := ⟨m, i, none⟩) (by exact h.ne) (.int .u8 (mk b))).set 2 (.int .i64 (cnt (O.set i b) : Nat))).set 3 (.int .i64 (u : Nat))
    rw [List.length_set]
    exact this
  · have := ((h.mem.set i (.int .u8 (mk b))).far (p := ⟨g, 2, none⟩) (by exact h.ne.symm) (.int .i64 (cnt (O.set i b) : Nat))).far (p := ⟨g, 3, none⟩) (by exact h.ne.symm) (.int .i64 (u : Nat))
    rw [bv_marks_set] at this
    exact this
theorem pool_set2 {w : World} {g m z t : Nat} {O : List Bool} {i : Nat} {b : Bool} {c : Int} (h : PoolA w g m z O t) (hc : c = (cnt (O.set i b) : Nat)) :
    PoolA ((w.setCell ⟨m, i, none⟩ (.int .u8 (mk b))).setCell ⟨g, 2, none⟩ (.int .i64 c)) g m z (O.set i b) t := by
  subst hc
  refine ⟨?_, ?_, by simpa using h.hi, h.z1, h.z2, by simpa using h.most⟩
  · have := (h.row.far (p := ⟨m, i, none⟩) (by exact h.ne) (.int .u8 (mk b))).set 2 (.int .i64 (cnt (O.set i b) : Nat))
    rw [List.length_set]
    exact this
  · have := (h.mem.set i (.int .u8 (mk b))).far (p := ⟨g, 2, none⟩) (by exact h.ne.symm) (.int .i64 (cnt (O.set i b) : Nat))
    rw [bv_marks_set] at this
    exact this
/-- What a Get leaves. -/
def Got (w w' : World) (g m z : Nat) (O : List Bool) (t : Nat) : Prop :=
  PoolA w' g m z (O.set (lo O) true) (max t (cnt O + 1)) ∧ RingA w' (w.heap.size + 1) w.heap.size z [] ∧ Mods [g, m] w w'
theorem got_of {w w1 : World} {g m z t n : Nat} {O : List Bool} {c x : Int} (h : PoolA w g m z O t) (hm : Mods [] w w1) (hr : RingA w1 (w.heap.size + 1) w.heap.size z []) (hn : n = lo O) (hl : n < O.length) (hc : c = (cnt O : Int) + 1) (hx : x = (max t (cnt O + 1) : Nat)) :
    Got w (((w1.setCell ⟨m, n, none⟩ (.int .u8 1)).setCell ⟨g, 2, none⟩ (.int .i64 c)).setCell ⟨g, 3, none⟩ (.int .i64 x)).drew g m z O t := by
  subst hn
  have hg := h.lt g (by simp)
  have hm0 := h.lt m (by simp)
  have hla := cnt_take O _ (lo_at O hl)
  have hc2 := cnt_le (O.set (lo O) true)
  rw [List.length_set] at hc2
  have hmost := h.most
  have hM : Mods [g, m] w1 (((w1.setCell ⟨m, lo O, none⟩ (.int .u8 1)).setCell ⟨g, 2, none⟩ (.int .i64 c)).setCell ⟨g, 3, none⟩ (.int .i64 x)).drew :=
    ((((Mods.refl _ _).setCell (.inl (by simp)) _).setCell (.inl (by simp)) _).setCell (.inl (by simp)) _).drew
  refine ⟨(pool_set (b := true) (h.mods hm (by simp)) (by omega) hx (by omega)).keep (fun _ _ => rfl), hr.mods hM ?_, (hm.more (by simp)).trans hM (fun k hk => .inl hk)⟩
  intro k hk hk2
  simp only [List.mem_cons, List.mem_nil_iff, or_false] at hk hk2
  omega
theorem get_any (w : World) (g m z t : Nat) (O : List Bool) (h : PoolA w g m z O t) (hl : lo O < O.length) :
    Calls Try.prog 10 #[.pointer (some ⟨g, 0, none⟩)] w fun e w' => e = .returned (.tuple #[.int .i64 (lo O), .pointer (some ⟨w.heap.size + 1, 0, none⟩), .int .i64 0]) ∧ Hid (Got w w' g m z O t) := by
  have hn := eql_pnil
  have HI := Lib.hid (ibyte_any m 0 O.length O.length (marks O) 0 w (marks_length O) (marks_at_mem h) (by decide) (by decide))
  rw [lo_idx, if_pos hl] at HI
  have HL := Lib.hid hl
  have hla := lo_at O hl
  have hc := cnt_take O _ hla
  have hc2 := cnt_le (O.set (lo O) true)
  rw [List.length_set] at hc2
  have hm := h.mem.cell (lo O)
  rw [bv_marks_at O _ false hla] at hm
  have c0 := h.row.cell 0
  have c1 := h.row.cell 1
  have c2 := h.row.cell 2
  have c3 := h.row.cell 3
  have f0 := h.row.free
  have f1 := h.mem.free
  have hz1 := h.z1
  have hz2 := h.z2
  have hmost := h.most
  have hN := h.hi
  have HH := Lib.hid h
  have HC := Lib.hid hc
  obtain ⟨n, hn2⟩ : ∃ n, n = lo O := ⟨_, rfl⟩
  rw [← hn2] at HI hm hl HC
  have HNL := Lib.hid hn2
  rw [← hn2]
  have hcc : cnt O + 1 ≤ O.length := by omega
  have hnn : n < O.length := hl
  have hlt := h.lt
  clear h hla hc hc2 hn2 hl
  obtain ⟨c, hc⟩ : ∃ c, c = cnt O := ⟨_, rfl⟩
  rw [← hc] at c2 hcc HC
  have HCE := Lib.hid hc
  obtain ⟨N, hN2⟩ : ∃ N, N = O.length := ⟨_, rfl⟩
  rw [← hN2] at c1 hcc hnn HI hmost hN
  have HNN := Lib.hid hN2
  clear hc hN2
  go_enter Try.func10, Try.ntmps10
  go_wp2_with fail
  refine HI.out.mono ?_
  rintro e w' ⟨rfl, rfl⟩
  go_wp2_with fail
  refine (new_any z w hz1 hz2).mono ?_
  rintro e w1 ⟨rfl, hr, hm1⟩
  have c1 := cell_mods c1 hm1 (by simp)
  have c2 := cell_mods c2 hm1 (by simp)
  have c3 := cell_mods c3 hm1 (by simp)
  have hm := cell_mods hm hm1 (by simp)
  have f0 : ∀ i, w1.frozen? ⟨g, i, none⟩ = false := fun i => (hm1.frozen (p := ⟨g, i, none⟩) (hlt g (by simp)) (by simp)).trans (f0 i)
  have f1 : ∀ i, w1.frozen? ⟨m, i, none⟩ = false := fun i => (hm1.frozen (p := ⟨m, i, none⟩) (hlt m (by simp)) (by simp)).trans (f1 i)
  have HR := Lib.hid hr
  have HM := Lib.hid hm1
  have HP := Lib.hid (HH.out.mods hm1 (by simp))
  have hgm : g ≠ m := HH.out.ne
  have hgm2 : m ≠ g := hgm.symm
  clear hr hm1 hlt
  go_wp2
  go_region
  all_goals go_wp2
  all_goals
    go_ret3
    exact ⟨rfl, Lib.hid (got_of HH.out HM.out HR.out HNL.out (by rw [HNL.out]; exact HL.out) (by rw [HCE.out]) (by rw [← HCE.out]; omega))⟩
/-- Numbers in a row, in a block that is not of F. -/
def NumsAt (w : World) (F : List Nat) (A : Option Addr) (l : List Int) : Prop :=
  ∀ i x, l[i]? = some x → ∃ b o, A = some ⟨b, o, none⟩ ∧ b < w.heap.size ∧ b ∉ F ∧ w.cell? ⟨b, o + i, none⟩ = some (.int .i64 x)
theorem NumsAt.mods {w w' : World} {F : List Nat} {A : Option Addr} {l : List Int} (h : NumsAt w F A l) (hm : Mods F w w') : NumsAt w' F A l := fun i x hx => by
  obtain ⟨b, o, e, hb, hF, hc⟩ := h i x hx
  exact ⟨b, o, e, Nat.lt_of_lt_of_le hb hm.size, hF, cell_mods hc hm hF⟩
/-- Numbers as cells. -/
def iv (l : List Int) : List Value := l.map (.int .i64)
theorem NumsAt.new (w : World) (F : List Nat) (t : TypeId) (l : List Int) (hF : w.heap.size ∉ F) : NumsAt (w.alloc (.cells (iv l).toArray t)) F (some ⟨w.heap.size, 0, none⟩) l := fun i x hx => by
  refine ⟨w.heap.size, 0, rfl, by simp, hF, ?_⟩
  rw [Nat.zero_add, (Row.new w t _).cell i, List.getElem?_toArray]
  simp [iv, hx]
/-- What a Put leaves. -/
def Gave (w w' : World) (g m z : Nat) (O O' : List Bool) (t : Nat) : Prop := PoolA w' g m z O' t ∧ Mods [g, m] w w'
theorem put_any (w : World) (g m z t k c : Nat) (O : List Bool) (A : Option Addr) (l : List Int) (h : PoolA w g m z O t) (hl : NumsAt w [g, m] A l) (hk : k = l.length) (hl2 : l.length ≤ 1000000) :
    Calls Try.prog 15 #[.pointer (some ⟨g, 0, none⟩), .slice A k c] w fun e w' =>
      e = .returned (.int .i64 ((cnt O : Int) - (cnt (puts O l) : Int))) ∧ Hid (Gave w w' g m z O (puts O l) t) := by
  subst hk
  have HH := Lib.hid h
  have HL := Lib.hid hl
  have hcl := cnt_le O
  have hN := h.hi
  have hcl2 : cnt O ≤ 4096 := Nat.le_trans hcl hN
  obtain ⟨q, hq⟩ : ∃ q, q = cnt O := ⟨_, rfl⟩
  rw [← hq] at hcl2 ⊢
  have HQ := Lib.hid hq
  clear h hl hcl hN hq
  go_enter Try.func15, Try.ntmps15
  go_wp2
  go_loopw [5, 7, 10] (fun n x i wr => ∃ (j p : Nat), j ≤ l.length ∧ i = .int .i64 j ∧ n = .int .i64 ((q : Int) - (p : Int)) ∧ p ≤ q ∧ Hid (p = cnt (puts O (l.take j)) ∧ Gave w wr g m z O (puts O (l.take j)) t)) (fun _ _ i _ => l.length - (intOf i).toNat)
  case atStart => exact ⟨0, q, Nat.zero_le _, rfl, by simp, Nat.le_refl _, Lib.hid ⟨HQ.out, HH.out, Mods.refl _ _⟩⟩
  case round =>
    obtain ⟨j, p, hj, rfl, rfl, hp, hd⟩ := hrel
    by_cases hlt : j < l.length
    · have HSN := Lib.hid (puts_snoc O l j hlt)
      obtain ⟨b, o, rfl, _, hb, cc⟩ := HL.out.mods hd.out.2.2 j l[j] (List.getElem?_eq_getElem hlt)
      obtain ⟨x, hx⟩ : ∃ x, x = l[j] := ⟨_, rfl⟩
      rw [← hx] at cc HSN
      obtain ⟨P, hP⟩ : ∃ P, P = puts O (l.take j) := ⟨_, rfl⟩
      rw [← hP] at hd HSN
      have HA := Lib.hid hd.out.2.1
      have HM := Lib.hid hd.out.2.2
      have HPE := Lib.hid hd.out.1
      clear hd hx hP
      have HI := Lib.hid (isLent_any wr g m z t P x HA.out)
      cases hb : lentAt P x with
      | false =>
        rw [hb] at HI
        have HSE := Lib.hid (HSN.out.trans (put1_no P x hb))
        clear hb
        go_wp2_with fail
        refine HI.out.mono ?_
        rintro e w' ⟨rfl, rfl⟩
        go_wp2
        go_roundw
        case rel => exact ⟨j + 1, p, by omega, by go_num, rfl, hp, Lib.hid (by rw [HSE.out]; exact ⟨HPE.out, HA.out, HM.out⟩)⟩
        case measure => simp [intOf]; omega
      | true =>
        rw [hb] at HI
        obtain ⟨h1, h2, h3, h4, h5⟩ := put1_yes P x hb
        obtain ⟨i, rfl⟩ : ∃ i : Nat, x = (i : Int) := ⟨x.toNat, by omega⟩
        have hi : i < P.length := by omega
        have c1 := HA.out.row.cell 1
        have c2 := HA.out.row.cell 2
        have f0 := HA.out.row.free
        have f1 := HA.out.mem.free
        have hne := HA.out.ne
        have hne2 := hne.symm
        have cm := HA.out.mem.cell i
        rw [bv_marks_at P i true (by simpa using h5)] at cm
        have hp1 : 1 ≤ p := by rw [HPE.out]; omega
        rw [← HPE.out] at c2
        have HSE := Lib.hid (show puts O (l.take (j + 1)) = P.set i false by rw [HSN.out, h1]; rfl)
        have HCE := Lib.hid (show ((p : Int) - 1) = (cnt (P.set i false) : Nat) by rw [HPE.out]; rw [h1] at h2; simp at h2; omega)
        obtain ⟨N, hN⟩ : ∃ N, N = P.length := ⟨_, rfl⟩
        rw [← hN] at c1 hi
        clear h1 h2 h3 h4 h5 hb hN
        go_wp2_with fail
        refine HI.out.mono ?_
        rintro e w' ⟨rfl, rfl⟩
        go_wp2
        go_roundw
        case rel => exact ⟨j + 1, p - 1, by omega, by go_num, by rw [show (((p - 1 : Nat)) : Int) = (p : Int) - 1 by omega]; go_num, by omega, Lib.hid (by
          rw [HSE.out]
          exact ⟨by have := HCE.out; omega, pool_set2 (b := false) HA.out HCE.out, (HM.out.setCell (.inl (by simp)) _).setCell (.inl (by simp)) _⟩)⟩
        case measure => simp [intOf]; omega
    · have HK := Lib.hid (show l.take j = l from List.take_of_length_le (by omega))
      rw [HK.out] at hd
      have HE := Lib.hid (show (p : Int) = cnt (puts O l) by rw [hd.out.1])
      go_wp2
      go_ret
      exact ⟨ret_i64 (by rw [← HE.out]), Lib.hid hd.out.2⟩
theorem put_nil (w : World) (k c : Nat) (A : Option Addr) (l : List Int) (hl : NumsAt w [] A l) (hk : k = l.length) (hl2 : l.length ≤ 1000000) :
    Calls Try.prog 15 #[.pointer none, .slice A k c] w fun e w' => e = .returned (.int .i64 0) ∧ w = w' := by
  subst hk
  have HL := Lib.hid hl
  clear hl
  go_enter Try.func15, Try.ntmps15
  go_wp2
  go_loop [5, 7, 10] (fun n x i => ∃ j : Nat, j ≤ l.length ∧ i = .int .i64 j ∧ n = .int .i64 0) (fun _ _ i => l.length - (intOf i).toNat)
  case atStart => exact ⟨0, Nat.zero_le _, rfl, rfl⟩
  case round =>
    obtain ⟨j, hj, rfl, rfl⟩ := hrel
    by_cases hlt : j < l.length
    · obtain ⟨b, o, rfl, _, hb, cc⟩ := HL.out j l[j] (List.getElem?_eq_getElem hlt)
      obtain ⟨x, hx⟩ : ∃ x, x = l[j] := ⟨_, rfl⟩
      rw [← hx] at cc
      clear hx
      go_wp2_with fail
      refine (isLent_nil _ _).mono ?_
      rintro e w' ⟨rfl, rfl⟩
      go_wp2
      go_round
      case rel => exact ⟨j + 1, by omega, by go_num, rfl⟩
      case measure => simp [intOf]; omega
    · go_wp2
      go_ret
      exact ⟨rfl, rfl⟩
#print axioms put_any
end Go.Proofs.Ytdocifbkocbiiaa
