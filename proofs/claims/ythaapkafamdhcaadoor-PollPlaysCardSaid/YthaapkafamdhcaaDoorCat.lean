/- What slices.Grow and slices.Concat answer, of rows of bytes. -/
import Derived.Test.YthaapkafamdhcaaDoorRw
import Derived.Test.YthaapkafamdhcaaDoorApp
import Derived.OwnWalk
import Derived.Lib.AppendZeros
namespace Go.Proofs.YthaapkafamdhcaaDoor
open Go.RowKit
set_option maxRecDepth 10000
set_option linter.unusedVariables false
set_option linter.unusedSimpArgs false

/-- v is a new slice of the bytes l. -/
def Fresh (w w' : World) (v : Value) (l : List Int) : Prop :=
  w'.ownsRow 0 5 1 v l.length (bv l) ∧ Mods [] w w' ∧ ∀ k ∈ v.ownBlock.toList, w.heap.size ≤ k
theorem grow_any (n : Nat) (w : World) (h : n ≤ 1000000000) :
    Calls Tryd.prog 84 #[.slice none 0 0, .int .i64 n] w fun e w' => ∃ v, e = .returned v ∧ Hid (Fresh w w' v []) := by
  obtain ⟨i, hi, hz, hs, hb⟩ := info_parts u8_info3
  by_cases h0 : n = 0
  · subst h0
    go_enter Tryd.func84, Tryd.ntmps84
    go_wp2
    go_ret
    exact ⟨_, rfl, Lib.hid ⟨World.ownsRow_nil _ _ _ _, Mods.refl _ _, by simp [Value.ownBlock]⟩⟩
  · have hp : 0 < n := by omega
    have hr := fun ty => Lib.run_append_nil_zeros (P := Tryd.prog) w 72 3 ty 5 i (.int .u8 0) .i64 .i64 Tryd.underlying72 Tryd.underlying3 hi hz n hp (by omega) (by omega) (by rw [hb]; omega)
    have hg := grownCap_ge w n 0 5
    have hg2 := grownCap_le_maxLen w n 0 5 (by unfold maxLen; omega)
    obtain ⟨G, hG⟩ : ∃ G, G = grownCap w n 0 5 := ⟨_, rfl⟩
    rw [← hG] at hr hg hg2
    obtain ⟨cs, hcs⟩ : ∃ cs, cs = Builtin.zeroCells (Value.int .u8 0).cells n ++ Builtin.zeroCells (Value.int .u8 0).cells (G - n) := ⟨_, rfl⟩
    have HC := Lib.hid (show cs.size = G * 1 by rw [hcs, Array.size_append, size_zeroCells, size_zeroCells]; simp [Value.cells]; omega)
    rw [← hcs] at hr
    have HM := Lib.hid hg2
    unfold maxLen at hg2
    clear hG hcs h0
    go_enter Tryd.func84, Tryd.ntmps84
    go_wp2_with (at_builtin; refine Lib.wpList_append_run _ rfl _ _ _ _ rfl _ _ rfl rfl _ _ (hr _) ?_)
    go_ret
    exact ⟨_, rfl, Lib.hid ⟨World.ownsRow_made w.drew cs G (Nat.zero_le _) HM.out HC.out, ((Mods.refl _ _).drew).alloc _, by simp [Value.ownBlock]⟩⟩
theorem Fresh.more {w w1 w2 : World} {v v' : Value} {l l' : List Int} (h : Fresh w w1 v l) (hw : w2.ownsRow 0 5 1 v' l'.length (bv l')) (hm : Mods v.ownBlock.toList w1 w2) (ht : v'.ownBlock = v.ownBlock ∨ v'.ownBlock = some w1.heap.size) : Fresh w w2 v' l' := by
  refine ⟨hw, h.2.1.trans hm (fun k hk => .inr (h.2.2 k hk)), fun k hk => ?_⟩
  rcases ht with e | e
  · rw [e] at hk; exact h.2.2 k hk
  · rw [e] at hk
    have := h.2.1.size
    simp at hk
    omega
theorem concat_any (w : World) (b : Nat) (rs : List Rw) (hr : RowsAt w [] b rs) (hl : rs.length ≤ 4) (ht : (flatR rs).length ≤ 1000000000) :
    Calls Tryd.prog 64 #[.slice (some ⟨b, 0, none⟩) rs.length rs.length] w fun e w' => ∃ v, e = .returned v ∧ Hid (Fresh w w' v (flatR rs)) := by
  obtain ⟨i, hi, hz, hs, hb⟩ := info_parts u8_info3
  have HI := Lib.hid (And.intro hi (And.intro hz (And.intro hs hb)))
  have HR := Lib.hid hr
  have HL : ∀ k, k ≤ rs.length → (flatR (rs.take k)).length ≤ (flatR rs).length := fun k hk => by
    have : flatR rs = flatR (rs.take k) ++ flatR (rs.drop k) := by unfold flatR; rw [← List.flatMap_append, List.take_append_drop]
    rw [this, List.length_append]; omega
  have HT := Lib.hid HL
  clear hi hz hs hb hr HL
  go_enter Tryd.func64, Tryd.ntmps64
  go_wp2
  go_loop [3, 5, 11] (fun n u i => ∃ k : Nat, k ≤ rs.length ∧ i = .int .i64 k ∧ n = .int .i64 (flatR (rs.take k)).length) (fun _ _ i => rs.length - (intOf i).toNat)
  case atStart => exact ⟨0, by omega, rfl, by simp [flatR]⟩
  case round =>
    obtain ⟨k, hk, rfl, rfl⟩ := hrel
    have hb1 := HT.out k hk
    by_cases hlt : k < rs.length
    · have c0 := HR.out.cell k rs[k] (List.getElem?_eq_getElem hlt)
      have HSN := Lib.hid (show (flatR (rs.take (k + 1))).length = (flatR (rs.take k)).length + rs[k].l.length by rw [flatR_snoc rs k hlt, List.length_append])
      have hb2 := HT.out (k + 1) (by omega)
      rw [HSN.out] at hb2
      go_wp2
      go_round
      case rel => exact ⟨k + 1, by omega, by go_num, by rw [HSN.out]; go_num⟩
      case measure => simp [intOf]; omega
    · have HK := Lib.hid (show rs.take k = rs from List.take_of_length_le (by omega))
      rw [HK.out]
      go_wp2_with fail
      refine (grow_any (flatR rs).length w ht).mono ?_
      rintro e w1 ⟨v, rfl, hf⟩
      go_wp2_with fail
      go_loopw [6, 8, 27] (fun v u i wr => ∃ k : Nat, k ≤ rs.length ∧ i = .int .i64 k ∧ Hid (Fresh w wr v (flatR (rs.take k)))) (fun _ _ i _ => rs.length - (intOf i).toNat)
      case atStart => exact ⟨0, by omega, rfl, by simpa [flatR] using hf⟩
      case round =>
        obtain ⟨k, hk, rfl, hd⟩ := hrel
        by_cases hlt : k < rs.length
        · have hrk := HR.out.mods hd.out.2.1
          have c0 := hrk.cell k rs[k] (List.getElem?_eq_getElem hlt)
          have HAT := Lib.hid (hrk.at_ rs[k] (List.getElem_mem hlt)).1
          have hb2 := HT.out (k + 1) (by omega)
          have HSN := Lib.hid (flatR_snoc rs k hlt)
          have HB2 := Lib.hid (show (flatR (rs.take k)).length + rs[k].l.length ≤ 1000000000 by rw [HSN.out, List.length_append] at hb2; omega)
          clear hb2 hb1
          go_wp2_with (at_builtin; refine wpList_append_bytes _ rfl (.tmp 31) (.tmp 32) 72 rfl 5 i (.int .u8 0) Tryd.underlying72 HI.out.1 HI.out.2.1 HI.out.2.2.1 HI.out.2.2.2 rfl u6 (flatR (rs.take k)).length (flatR (rs.take k)) rfl hd.out.1 [] rs[k].A rs[k].l.length rs[k].c rs[k].l rfl rfl HAT.out HB2.out ?_; intro v2 w2 HO2 HM2)
          go_roundw
          case rel => exact ⟨k + 1, by omega, by go_num, Lib.hid (by rw [HSN.out]; exact hd.out.more (by rw [List.length_append]; exact HO2.out) HM2.out.1 HM2.out.2)⟩
          case measure => simp [intOf]; omega
        · have HK := Lib.hid (show rs.take k = rs from List.take_of_length_le (by omega))
          rw [HK.out] at hd
          go_wp2
          go_ret
          exact ⟨_, rfl, hd⟩
/-- A new slice of k bytes. -/
def New (w w' : World) (A : Option Addr) (k c : Nat) (P : List Int) : Prop :=
  k ≤ c ∧ c ≤ maxLen ∧ w'.ownsRow 0 5 1 (.slice A k c) k (bv P) ∧ Mods [] w w' ∧ P.length = k ∧ (∀ x ∈ P, 0 ≤ x ∧ x ≤ 255) ∧ ∀ b ∈ (Value.slice A k c).ownBlock.toList, w.heap.size ≤ b
theorem New.drew {w w' : World} {A : Option Addr} {k c : Nat} {P : List Int} (h : New w.drew w' A k c P) : New w w' A k c P := ⟨h.1, h.2.1, h.2.2.1, of_drew h.2.2.2.1, h.2.2.2.2⟩
theorem New.mods {w w' : World} {A : Option Addr} {k c : Nat} {P : List Int} (h : New w w' A k c P) : Mods [] w w' := h.2.2.2.1
theorem New.at_ {w w' w2 : World} {F : List Nat} {A : Option Addr} {k c : Nat} {P : List Int} (h : New w w' A k c P) (hm : Mods F w' w2) (hF : ∀ b ∈ (Value.slice A k c).ownBlock.toList, b ∉ F) : At w2 F A P :=
  (At.of_own h.2.2.1 hF h.2.2.2.2.2.1).mods hm
theorem New.at0 {w w' w2 : World} {A : Option Addr} {k c : Nat} {P : List Int} (h : New w w' A k c P) (hm : Mods [] w' w2) : At w2 [] A P := h.at_ hm (by simp)
/-- append as one step of a region that draws its order. -/
theorem step_append_bytes {P : Program} {ops : Array Oper} {o : Oper} {a : Act} {w : World} {K : Act → World → Prop} {Q : Exit → Act → World → Prop} {E : Prop} (hgd : o.guard = none) (s x : Operand) (t : TypeId)
    (ho : o.op = .call { callee := .builtin .append, args := #[s, x], argTypes := #[t, t] })
    (e : TypeId) (i : TypeInfo) (z : Value) (ht : P.underlying t = some (.slice e)) (hi : P.info? e = some i) (hz : i.zero = some z) (hs : i.size = 1) (hb : i.bytes = 1) (hzs : z.cells.size = 1)
    (v : Value) (n : Nat) (xs : List Int) (hsv : a.eval s = v) (hown : w.ownsRow 0 e 1 v n (bv xs)) (F : List Nat) (A : Option Addr) (m c : Nat) (l : List Int) (hx : a.eval x = .slice A m c) (hm : m = l.length) (ha : At w F A l) (hl : n + l.length ≤ 1000000000)
    (h : ∀ v' w', Hid (w'.ownsRow 0 e 1 v' (n + m) (bv (xs ++ l))) → Hid (Mods v.ownBlock.toList w w' ∧ (v'.ownBlock = v.ownBlock ∨ v'.ownBlock = some w.heap.size)) → K (a.put o.dst v') w') :
    if Region.wanted o (yielded ops a.tmps) = true then Oper.wp P o a w K Q else E := by
  have hw : Region.wanted o (yielded ops a.tmps) = true := by simp [Region.wanted, hgd]
  rw [if_pos hw]
  obtain ⟨v', w', hr, h2, h3, h5⟩ := run_append_bytes (P := P) w t o.type e i z ht hi hz hs hb hzs v n xs hown F A m c l hm ha hl
  unfold Oper.wp execOp
  simp only [ho, resolve, invoke, builtin, Sem.run_bind, Sem.run_pure, Result.andThen_ok, List.map_toArray, List.map_cons, List.map_nil, hsv, hx, hr]
  exact h v' w' (Lib.hid h2) (Lib.hid ⟨(Mods.refl _ _).grown h3 (fun k hk => .inl (by rw [hk]; simp)), h5⟩)
theorem New.of_app {w wx w' : World} {v : Value} {q : Nat} {P : List Int}
    (hm : Mods (Value.slice (some ⟨w.heap.size, 0, none⟩) 0 0).ownBlock.toList wx w' ∧ (v.ownBlock = (Value.slice (some ⟨w.heap.size, 0, none⟩) 0 0).ownBlock ∨ v.ownBlock = some wx.heap.size))
    (hx : Mods [w.heap.size] w wx) (ho : w'.ownsRow 0 5 1 v (0 + q) (bv ([] ++ P))) (hP : P.length = q) (hr : ∀ x ∈ P, 0 ≤ x ∧ x ≤ 255) :
    ∃ A c, v = .slice A q c ∧ New w w' A q c P := by
  obtain ⟨A, c, rfl, h1, h2⟩ := own_slice ho
  have h0 : 0 + q = q := Nat.zero_add q
  rw [h0] at ho h1 hm
  rw [h0]
  have hz := hx.size
  refine ⟨A, c, rfl, h1, h2, ho, (hx.trans hm.1 (fun k hk => .inl (by simpa [Value.ownBlock, eq_comm] using hk))).drop, hP, hr, fun b hb => ?_⟩
  rcases hm.2 with e | e
  · rw [e] at hb
    simp [Value.ownBlock] at hb
    omega
  · rw [e] at hb
    simp at hb
    omega
end Go.Proofs.YthaapkafamdhcaaDoor
