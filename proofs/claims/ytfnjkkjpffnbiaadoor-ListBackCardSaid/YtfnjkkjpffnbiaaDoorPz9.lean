/- The code's Params. Conditions: a text of at most a million bytes. -/
import Derived.Test.YtfnjkkjpffnbiaaDoorPw9
namespace Go.Proofs.YtfnjkkjpffnbiaaDoor
open Go.RowKit
set_option linter.unusedVariables false

def encPs (ps : List PV) : List Value := ps.flatMap fun p => [strV p.1, strV p.2]
theorem encPs_snoc (ps : List PV) (p : PV) : encPs (ps ++ [p]) = encPs ps ++ [strV p.1, strV p.2] := by simp [encPs]
/-- What Params answers: new memory, nothing that lay has turned. -/
def PrAns (t : TypeId) (w : World) (s : ByteArray) (e : Ending) (w' : World) : Prop :=
  Below w.heap.size w w' ∧
  match parsL s.data.toList with
  | some ps => ∃ v, e = .returned (.tuple #[v, .bool true]) ∧ w'.ownsRow w.heap.size t 2 v ps.length (encPs ps)
  | none => e = .returned (.tuple #[.slice none 0 0, .bool false])
theorem infoP : (Tryd.prog.info? 51).map (fun i => (i.zero, i.size, i.bytes)) = some (some (.agg #[.string ByteArray.empty, .string ByteArray.empty]), 2, 32) := by kernel_rfl
theorem infoP2 : (Tryd.prog.info? 43).map (fun i => (i.zero, i.size, i.bytes)) = some (some (.agg #[.string ByteArray.empty, .string ByteArray.empty]), 2, 32) := by kernel_rfl
theorem pres_zero {s : ByteArray} {x y : ByteArray} {n : Nat} (h : pres s = (x, y, n)) : (n = 0 ∧ pStep s.data.toList = none) ∨ ∃ p rest, n ≠ 0 ∧ n ≤ s.size ∧ pStep s.data.toList = some (p, rest) ∧ x = ba p.1 ∧ y = ba p.2 ∧ s.data.toList.drop n = rest := by
  unfold pres at h
  cases hp : pStep s.data.toList with
  | none => rw [hp] at h; injection h with h1 h2; injection h2 with h3 h4; exact .inl ⟨h4.symm, rfl⟩
  | some q =>
    obtain ⟨p, rest⟩ := q
    rw [hp] at h
    simp only [Prod.mk.injEq] at h
    obtain ⟨rfl, rfl, rfl⟩ := h
    have := pStep_count hp
    rw [len_data] at this
    exact .inr ⟨p, rest, by omega, by omega, rfl, rfl, rfl, this.2.2⟩

set_option maxRecDepth 10000 in
set_option maxHeartbeats 2000000 in
theorem params_a (s : ByteArray) (w : World) (hs : s.size ≤ 1000000) : Calls Tryd.prog 18 #[.string s] w (PrAns 51 w s) := by
  have hS0 := fun w => skip_a s w
  obtain ⟨r0, hr0⟩ : ∃ r0, r0 = skipB s := ⟨_, rfl⟩
  rw [← hr0] at hS0
  have hrl : r0.data.toList = tlL s.data.toList := by rw [hr0]; rfl
  have hrz : r0.size ≤ 1000000 := by rw [hr0]; exact Nat.le_trans (skipB_size s) hs
  have HRL := Lib.hid hrl
  have HRZ := Lib.hid hrz
  clear hr0 hrl hrz
  go_enter Tryd.func18, Tryd.ntmps18
  go_wp2_with (go_at_call 33; refine (hS0 _).mono ?_; rintro e w1 ⟨rfl, hb⟩; have HB1 := Lib.hid hb; clear hb)
  clear hS0
  go_loopw [4, 5] (fun v t wr => ∃ (ps : List PV) (rs : ByteArray), t = .string rs ∧ rs.size ≤ 1000000 ∧ tlL rs.data.toList = rs.data.toList ∧ ps.length ≤ 16 ∧ parsL s.data.toList = (parsF (16 - ps.length) rs.data.toList).map (ps ++ ·) ∧ Gat w 51 2 ps.length (encPs ps) v wr) (fun _ t _ => sizeV t)
  case atStart => exact ⟨[], r0, rfl, HRZ.out, by rw [HRL.out, tlL_idem], Nat.zero_le _, by rw [HRL.out, parsF_tl]; unfold parsL; cases parsF 16 s.data.toList <;> rfl, ⟨World.ownsRow_nil _ _ _ _, HB1.out⟩⟩
  case round =>
    obtain ⟨ps, rs, rfl, hrs, htl, h16, hp, hg⟩ := hrel
    have HTL := Lib.hid htl
    have HP := Lib.hid hp
    have HG := Lib.hid hg
    clear htl hp hg
    by_cases h0 : rs.size = 0
    · have hz2 := emp_yes h0
      have hz3 : rs.toList.isEmpty = true := by rw [hz2]; rfl
      have hall : parsL s.data.toList = some ps := by rw [HP.out, pars_end (by rw [HTL.out, nil_of_size h0])]; simp
      have HALL := Lib.hid hall
      obtain ⟨va, vc, rfl⟩ := HG.out.form
      clear h0 hall
      go_wp2
      go_ret2
      exact ⟨HG.out.low, by rw [HALL.out]; exact ⟨_, rfl, HG.out.row⟩⟩
    · obtain ⟨hz2, hz3⟩ := emp_no (s := rs) (by omega)
      have hne : tlL rs.data.toList ≠ [] := by rw [HTL.out]; intro e; exact h0 (by rw [← len_data, e]; rfl)
      have hpa := fun w => param_a rs w hrs
      obtain ⟨x, hx⟩ : ∃ x, x = (pres rs).1 := ⟨_, rfl⟩
      obtain ⟨y, hy⟩ : ∃ y, y = (pres rs).2.1 := ⟨_, rfl⟩
      obtain ⟨n, hn⟩ : ∃ n, n = (pres rs).2.2 := ⟨_, rfl⟩
      have hpr : pres rs = (x, y, n) := by rw [hx, hy, hn]
      unfold PAns at hpa
      rw [← hx, ← hy, ← hn] at hpa
      have HNE := Lib.hid hne
      clear hx hy hn hne
      rcases pres_zero hpr with ⟨rfl, hnone⟩ | ⟨p, rest, hn0, hns, hstep, rfl, rfl, hdrop⟩
      · have HN := Lib.hid (show parsL s.data.toList = none by rw [HP.out, pars_bad HNE.out (by rw [HTL.out]; exact hnone)]; rfl)
        clear hnone hpr
        go_wp2_with (go_at_call 34; refine (hpa _).mono ?_; rintro e w2 ⟨rfl, hb⟩; have HB2 := Lib.hid (HG.out.low.trans (hb.mono HG.out.low.size)); clear hb)
        go_ret2
        exact ⟨HB2.out.alloc HB2.out.size _, by rw [HN.out]; rfl⟩
      · have hnz : ((n : Int) == 0) = false := by rw [beq_eq_false_iff_ne]; omega
        by_cases hfull : ps.length = 16
        · have HN := Lib.hid (show parsL s.data.toList = none by rw [HP.out, hfull, pars_full HNE.out]; rfl)
          have hl16 : ((ps.length : Int) == 16) = true := by rw [hfull]; rfl
          obtain ⟨va, vc, rfl⟩ := HG.out.form
          clear hfull hpr hstep hdrop
          go_wp2_with (go_at_call 34; refine (hpa _).mono ?_; rintro e w2 ⟨rfl, hb⟩; have HB2 := Lib.hid (HG.out.low.trans (hb.mono HG.out.low.size)); clear hb)
          go_ret2
          exact ⟨HB2.out.alloc HB2.out.size _, by rw [HN.out]; rfl⟩
        · have hl16 : ((ps.length : Int) == 16) = false := by rw [beq_eq_false_iff_ne]; omega
          have HLT := Lib.hid (show ps.length + 1 ≤ 16 by omega)
          obtain ⟨va, vc, rfl⟩ := HG.out.form
          have hnext : parsL s.data.toList = (parsF (16 - (ps ++ [p]).length) (tlL rest)).map ((ps ++ [p]) ++ ·) := by
            rw [HP.out, parsF_tl, show 16 - ps.length = (16 - (ps ++ [p]).length) + 1 by simp; omega, pars_one HNE.out (by rw [HTL.out]; exact hstep), Option.map_map]
            cases parsF (16 - (ps ++ [p]).length) rest <;> simp
          have HX := Lib.hid hnext
          have hd2 : (rs.extract n rs.size).data.toList = rest := by rw [ext_drop]; exact hdrop
          have hS := fun w => skip_a (rs.extract n rs.size) w
          obtain ⟨r2, hr2⟩ : ∃ r2, r2 = skipB (rs.extract n rs.size) := ⟨_, rfl⟩
          rw [← hr2] at hS
          have hr2l : r2.data.toList = tlL rest := by rw [hr2]; show tlL (rs.extract n rs.size).data.toList = _; rw [hd2]
          have hr2s : r2.size < rs.size := by
            have h1 := skipB_size (rs.extract n rs.size)
            rw [← hr2, extract_size _ _ _ (Nat.le_refl _)] at h1; omega
          have HR2 := Lib.hid hr2l
          clear hpr hstep hdrop hnext hd2 hr2 hr2l hfull
          go_wp2_with (first
            | (go_at_call 34; refine (hpa _).mono ?_; rintro e w2 ⟨rfl, hb⟩; have hg2 := (HG.out.below hb).below ((Below.refl _ w2).alloc (Nat.le_refl _) (.cells #[.string (ba p.1), .string (ba p.2)] 51)); obtain ⟨g, n', c', w3, hrun, hg4⟩ := app_gat hg2 Tryd.underlying35 infoP rfl (by decide) (by omega) (by decide) [.string (ba p.1), .string (ba p.2)] rfl (by simp [Value.oneCell']); simp only [World.size_alloc] at hrun; have HG4 := Lib.hid hg4; clear hb hg2 hg4)
            | (at_builtin; refine wpList_run_app rfl (.tmp 26) (.tmp 28) 35 rfl rfl rfl hrun ?_)
            | (go_at_call 33; refine (hS _).mono ?_; rintro e w4 ⟨rfl, hb⟩; have hg5 := HG4.out.below hb; have HG5 := Lib.hid hg5; clear hb hg5))
          go_roundw
          case rel => exact ⟨ps ++ [p], r2, rfl, by omega, by rw [HR2.out, tlL_idem], by rw [List.length_append]; exact HLT.out, by rw [HR2.out]; exact HX.out, by rw [encPs_snoc, List.length_append]; exact HG5.out⟩
          case measure => exact hr2s
end Go.Proofs.YtfnjkkjpffnbiaaDoor
