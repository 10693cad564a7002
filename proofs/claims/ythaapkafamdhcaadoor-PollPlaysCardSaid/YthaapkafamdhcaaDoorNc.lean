/- What breakOff, take of the program's net do; Half, Reset, Shut, Open. -/
import Derived.Test.YthaapkafamdhcaaDoorNb
namespace Go.Proofs.YthaapkafamdhcaaDoor
open Go.RowKit
set_option maxRecDepth 10000
set_option linter.unusedVariables false
set_option linter.unusedSimpArgs false

theorem break_any (w : World) (x : Cb) (s : Cn) (h : CnA KP w x s) :
    Calls Tryd.prog 71 #[.pointer (some ⟨x.b, 0, none⟩)] w fun e w' => e = .returned (.tuple #[]) ∧ Hid (CnTo KP w w' x s.break_) := by
  have c2 := h.row.cell 2
  have c5 := h.row.cell 5
  have c6 := h.row.cell 6
  simp only [KP] at c2 c5 c6
  have f0 := h.row.free
  have HH := Lib.hid h
  clear h
  go_enter Tryd.func71, Tryd.ntmps71
  go_wp2
  go_end0
  refine ⟨rfl, Lib.hid ?_⟩
  refine CnTo.put (s := { s with brk := true, inn := [] }) (CnTo.nil (s := { s with brk := true }) (CnTo.put (CnTo.refl HH.out) 2 (.bool true) (fun _ => rfl) (fun _ => rfl)) 0 5 (fun _ => rfl) ?_ rfl) 6 (.int .i64 0) (fun _ => rfl) ?_
  · intro j hj
    match j, hj with
    | 1, _ => rfl
    | 2, _ => rfl
  · intro j
    match j with
    | 0 => rfl
    | 1 => rfl
    | 2 => rfl
theorem wrap_small {a : Int} (h1 : 0 ≤ a) (h2 : a ≤ 9223372036854775807) : IntKind.i64.wrap a = a := by rw [IntKind.wrap_i64]; omega
theorem take_any (w : World) (x : Cb) (s : Cn) (A : Option Addr) (l : List Int) (c : Nat) (h : CnA KP w x s) (ha : At w x.ft A l) (hc : l.length ≤ c) (hc2 : c ≤ maxLen) (hi : s.inn.length ≤ 1024) :
    Calls Tryd.prog 62 #[.pointer (some ⟨x.b, 0, none⟩), .slice A l.length c] w fun e w' =>
      e = .returned (.int .i64 (((fill s.inn l).length : Int) - s.inn.length)) ∧ Hid (CnTo KP w w' x (s.setI (fill s.inn l))) := by
  obtain ⟨i0, hi0, hz, hs, hby⟩ := info_parts u8_info3
  have HI := Lib.hid (And.intro hi0 (And.intro hz (And.intro hs (show i0.bytes ≤ 8 by omega))))
  clear hi0 hz hs hby
  obtain ⟨k, hk⟩ : ∃ k, k = min l.length (1024 - s.inn.length) := ⟨_, rfl⟩
  have hf : fill s.inn l = s.inn ++ l.take k := by rw [hk]; exact fill_cut _ _ hi
  have htk : (l.take k).length = k := by rw [List.length_take]; omega
  have HF := Lib.hid hf
  have HTK := Lib.hid htk
  rw [show ((fill s.inn l).length : Int) - s.inn.length = k by rw [hf, List.length_append, htk]; omega]
  obtain ⟨Av, cv, hv, hv1, hv2⟩ := (h.own 0).slice
  rw [bv_length] at hv hv1
  change x.v 0 = .slice Av s.inn.length cv at hv
  have c5 : w.cell? ⟨x.b, 5, none⟩ = some (.slice Av s.inn.length cv) := by rw [← hv]; exact h.row.cell 5
  have HO := Lib.hid (show Own w 5 (.slice Av s.inn.length cv) (bv s.inn) by rw [← hv]; exact h.own 0)
  have HV := Lib.hid hv
  have HH := Lib.hid h
  have HAT := Lib.hid (ha.take k)
  have HR := Lib.hid ha.range
  have HBD := Lib.hid (show (bv s.inn).length + k ≤ 1000000000 by rw [bv_length]; omega)
  unfold maxLen at hc2
  have hmn : ∀ p q : Int, (p = l.length → q = 1024 - (s.inn.length : Int) → (if q < p then q else p) = (k : Int)) := by
    intro p q h1 h2; subst h1 h2; split <;> omega
  have hmn := hmn _ _ rfl rfl
  have k1 : k ≤ l.length := by omega
  have k2 : k ≤ c := by omega
  clear h ha hf htk hk hv hv1 hv2
  go_enter Tryd.func62, Tryd.ntmps62
  go_wp2_with fail
  clear hmn
  go_region_law (refine step_append_own2 rfl (.tmp 19) (.tmp 22) 72 rfl 5 i0 (.int .u8 0) Tryd.underlying72 HI.out.1 HI.out.2.1 HI.out.2.2.1 HI.out.2.2.2 rfl (.slice Av s.inn.length cv) (bv s.inn) rfl (HO.out.keep fun _ _ => rfl) A k c (bv (l.take k)) rfl (by rw [bv_length]; exact HTK.out.symm) (HAT.out.srcs.same rfl) (bv_one _) HBD.out ?_; intro v8 w8 HO8 HM8; obtain ⟨hr8, hq8⟩ := HH.out.app (s' := (s.setI (fill s.inn l))) 0 5 HO8.out HM8.out HV.out ((Mods.refl [] w).same rfl rfl rfl rfl) rfl (by intro j hj; match j, hj with | 1, _ => rfl | 2, _ => rfl) HF.out (fun y hy => HR.out y (List.mem_of_mem_take hy)); obtain ⟨A8, n8, c8, rfl, -, -, -⟩ := HO8.out.slice'; have HQ8 := Lib.hid hq8; have c8 : w8.cell? ⟨x.b, 5, none⟩ = some (x.v 0) := hr8.cell 5; have f8 := hr8.free; clear hq8 hr8)
  all_goals
    go_wp2
    go_ret
    exact ⟨rfl, Lib.hid (HQ8.out _ rfl)⟩
/-- The facts of one connection. -/
theorem Nt.Ok.at_ {S : Nt} {m i : Nat} {s : Cn} (h : S.Ok m) (hs : S.L[i]? = some s) : 0 ≤ s.peer ∧ s.peer ≤ 255 ∧ 0 ≤ s.win ∧ s.win ≤ 1099511627776 ∧ s.inn.length ≤ 1024 ∧ s.tak.length ≤ m ∧ s.out.length ≤ m ∧ s.mr ≤ m ∧ s.mw ≤ m := h.cn s (List.mem_of_getElem? hs)
theorem half_any (w : World) (g m : Nat) (F : List Nat) (S : Nt) (c : Int) (h : NetA w g F S m) (hm : m + 1 ≤ 900000000) :
    Calls Tryd.prog 38 #[.pointer (some ⟨g, 0, none⟩), .int .i64 c] w fun e w' => e = .returned (.int .i64 (S.e1 c)) ∧ Hid (NetTo w w' g F (S.half c) (m + 1)) := by
  by_cases he : S.e1 c = 0
  · rw [show S.half c = S.upd c (S.get c).half by unfold Nt.half; rw [if_pos he], he]
    obtain ⟨i, s, rfl, hs, hi, hg, hb, ho⟩ := Nt.e1_zero he
    rw [hg]
    obtain ⟨vc, X, rfl, h⟩ := h
    obtain ⟨x, hx⟩ := h.cs.at1 hs
    have hc := h.cs.at_ i x s hx hs
    have HT := Lib.hid (theirs_at w g m i vc X S x s h hx hs hb ho)
    have c3 := hc.row.cell 3
    have c9 := hc.row.cell 9
    simp only [KP] at c3 c9
    have f0 := hc.row.free
    have hf := h.ok.at_ hs
    have HN := Lib.hid (fun (w' : World) (hq : CnTo KP w w' x s.half) => h.toC hx hs hq (h.ok.upd (n := m + 1) (by omega) hm (by simp only [Cn.half]; split <;> omega) fun hq => h.ok.op i s hs hq) rfl)
    have HH := Lib.hid hc
    have hmr : s.mr ≤ 900000000 := by omega
    clear h hx hs hg hb ho hc hf he hi
    cases hv : s.hlv with
    | true =>
      rw [hv] at c3
      have HE := Lib.hid (show s.half = { s with hlv := true } by simp [Cn.half, hv])
      rw [HE.out] at HN
      clear hv
      go_enter Tryd.func38, Tryd.ntmps38
      go_wp2_with fail
      refine HT.out.mono ?_
      rintro e w' ⟨rfl, rfl⟩
      go_wp2
      go_ret
      rw [HE.out]
      exact ⟨rfl, Lib.hid (HN.out _ (CnTo.put (CnTo.refl HH.out) 3 (.bool true) (fun _ => rfl) (fun j => by match j with | 0 => rfl | 1 => rfl | 2 => rfl)))⟩
    | false =>
      rw [hv] at c3
      have HE := Lib.hid (show s.half = { s with hlv := true, mr := s.mr + 1 } by simp [Cn.half, hv])
      rw [HE.out] at HN
      clear hv
      go_enter Tryd.func38, Tryd.ntmps38
      go_wp2_with fail
      refine HT.out.mono ?_
      rintro e w' ⟨rfl, rfl⟩
      go_wp2
      go_ret
      rw [HE.out]
      exact ⟨rfl, Lib.hid (HN.out _ (CnTo.put (s := { s with mr := s.mr + 1 }) (CnTo.put (CnTo.refl HH.out) 9 _ (fun _ => rfl) (fun j => by match j with | 0 => rfl | 1 => rfl | 2 => rfl)) 3 (.bool true) (fun _ => rfl) (fun j => by match j with | 0 => rfl | 1 => rfl | 2 => rfl)))⟩
  · rw [show S.half c = S by unfold Nt.half; rw [if_neg he]]
    have HT := Lib.hid (theirs_no w g m F S c h he)
    have HN := Lib.hid (NetTo.same (h.more (n := m + 1) (by omega) hm) (Mods.refl [] w))
    obtain ⟨e0, he0⟩ : ∃ e0, e0 = S.e1 c := ⟨_, rfl⟩
    rw [← he0] at HT he ⊢
    have hne : (e0 != 0) = true := by simpa using he
    clear h he he0
    go_enter Tryd.func38, Tryd.ntmps38
    go_wp2_with fail
    refine HT.out.mono ?_
    rintro e w' ⟨rfl, rfl⟩
    go_wp2
    go_ret
    exact ⟨rfl, HN⟩
theorem half_nil (w : World) (c : Int) : Calls Tryd.prog 38 #[.pointer none, .int .i64 c] w fun e w' => e = .returned (.int .i64 1) ∧ w = w' := by
  go_enter Tryd.func38, Tryd.ntmps38
  go_wp2_with fail
  refine (theirs_nil w c).mono ?_
  rintro e w' ⟨rfl, rfl⟩
  go_wp2
  go_ret
  exact ⟨rfl, rfl⟩
end Go.Proofs.YthaapkafamdhcaaDoor
