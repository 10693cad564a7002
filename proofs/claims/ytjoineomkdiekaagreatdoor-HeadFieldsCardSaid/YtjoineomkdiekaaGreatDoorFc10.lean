/- A row that a function gathers, and a Fields in memory; kept, Len, Values of the code. Conditions: texts of at most a million bytes, 24 fields. -/
import Derived.Test.YtjoineomkdiekaaGreatDoorFb10
import Derived.Laws.IdiomStrings
import Derived.Maps.OwnIn
import Derived.RangeFuncBox
namespace Go.Proofs.YtjoineomkdiekaaGreatDoor
open Go.RowKit
set_option linter.unusedVariables false
set_option linter.unusedSimpArgs false

/-- append, by how it runs. -/
theorem wpList_run_appF {P : Program} {ops : Array Oper} {rest : List Oper} {o : Oper} {a : Act} {w w' : World} {Q : Exit → Act → World → Prop} (hgd : o.guard = none) (s x : Operand) (t : TypeId)
    (ho : o.op = .call { callee := .builtin .append, args := #[s, x], argTypes := #[t, t] }) {v u v' : Value} (hs : a.eval s = v) (hx : a.eval x = u)
    (hr : (Builtin.append_ #[t, t] o.type #[v, u]).run P w = .ok v' w') (h : wpList P ops Q rest (a.put o.dst v') w') : wpList P ops Q (o :: rest) a w := by
  refine wpList_plain hgd fun K hK => ?_
  unfold Oper.wp
  simp [execOp, ho, resolve, invoke, builtin, hs, hx, hr, Result.andThen]
  exact hK _ _ h
theorem step_run_app {P : Program} {o : Oper} {a : Act} {w w' : World} {K : Act → World → Prop} {Q : Exit → Act → World → Prop} {s x : Operand} {t : TypeId} {v u v' : Value}
    (ho : o.op = .call { callee := .builtin .append, args := #[s, x], argTypes := #[t, t] }) (hs : a.eval s = v) (hx : a.eval x = u)
    (hr : (Builtin.append_ #[t, t] o.type #[v, u]).run P w = .ok v' w') (hK : K (a.put o.dst v') w') : Oper.wp P o a w K Q := by
  unfold Oper.wp
  simp [execOp, ho, resolve, invoke, builtin, hs, hx, hr, Result.andThen]
  exact hK

/-- A row of n elements of a type that a function of w0 has gathered. -/
structure Gt (w0 : World) (t : TypeId) (size n : Nat) (xs : List Value) (v : Value) (w : World) : Prop where
  row : w.ownsRow w0.heap.size t size v n xs
  low : Mods [] w0 w
theorem own_base {w w' : World} {B B' size n : Nat} {t : TypeId} {v : Value} {xs : List Value} (h : w.ownsRow B t size v n xs) (hb : B' ≤ B) : w.ownsRow B' t size v n xs := by
  refine ⟨h.1, ?_⟩
  rcases h.2 with h | ⟨g, cap, cur, hv, h0, r⟩
  · exact .inl h
  · exact .inr ⟨g, cap, cur, hv, by omega, r⟩
theorem own_modsB {F : List Nat} {w w' : World} {B size n : Nat} {t : TypeId} {v : Value} {xs : List Value} (h : w.ownsRow B t size v n xs) (hm : Mods F w w') (hn : ∀ k ∈ v.ownBlock.toList, k ∉ F) : w'.ownsRow B t size v n xs := by
  refine ⟨h.1, ?_⟩
  rcases h.2 with h | ⟨g, cap, cur, rfl, hb, hg, r⟩
  · exact .inl h
  · exact .inr ⟨g, cap, cur, rfl, hb, (hm.block g (Array.getElem?_eq_some_iff.1 hg).1 (hn g (by simp [Value.ownBlock]))).trans hg, r⟩
theorem Gt.mods {w0 w w' : World} {t : TypeId} {size n : Nat} {xs : List Value} {v : Value} (h : Gt w0 t size n xs v w) (hm : Mods [] w w') : Gt w0 t size n xs v w' :=
  ⟨own_modsB h.row hm (by simp), h.low.trans hm (fun _ h => nomatch h)⟩
theorem Gt.nil (w : World) (t : TypeId) (size : Nat) : Gt w t size 0 [] (.slice none 0 0) w := ⟨World.ownsRow_nil _ _ _ _, Mods.refl _ _⟩
theorem Gt.form {w0 w : World} {t : TypeId} {size n : Nat} {xs : List Value} {v : Value} (h : Gt w0 t size n xs v w) : ∃ a c, v = .slice a n c := by
  rcases h.row.2 with ⟨hv, h0⟩ | ⟨g, cap, cur, rfl, _⟩
  · exact ⟨none, 0, by rw [hv, h0]⟩
  · exact ⟨_, _, rfl⟩
theorem Gt.news {w0 w : World} {t : TypeId} {size n : Nat} {xs : List Value} {v : Value} (h : Gt w0 t size n xs v w) : ∀ k ∈ v.ownBlock.toList, w0.heap.size ≤ k := by
  rcases h.row.2 with ⟨rfl, _⟩ | ⟨g, cap, cur, rfl, hb, _⟩
  · intro k hk; simp [Value.ownBlock] at hk
  · intro k hk
    have : k = g := by simpa [Value.ownBlock, eq_comm] using hk
    omega
theorem add_noneF (b o j : Nat) : (⟨b, o, none⟩ : Addr).add j = ⟨b, o + j, none⟩ := by unfold Addr.add; split <;> simp_all
theorem cells_newF (w : World) (l : List Value) (t : TypeId) : ∀ (j : Nat) u, l[j]? = some u → (w.alloc (.cells l.toArray t)).cell? ((⟨w.heap.size, 0, none⟩ : Addr).add j) = some u := by
  intro j u hj
  rw [add_noneF, Nat.zero_add, (Row.new w t l.toArray).cell]
  simpa using hj
theorem Gt.app {w0 w : World} {st t : TypeId} {z : Value} {size bytes n : Nat} {xs : List Value} {v : Value} (h : Gt w0 t size n xs v w) (hu : Tryz.prog.underlying st = some (.slice t))
    (hinfo : (Tryz.prog.info? t).map (fun i => (i.zero, i.size, i.bytes)) = some (some z, size, bytes)) (hz : z.cells.size = size) (h0 : 0 < size) (hroom : n + 1 ≤ 1000000) (hby : bytes ≤ 1000)
    (l : List Value) (hl : l.length = size) (h1 : ∀ u ∈ l, u.oneCell' = true) :
    ∃ (g n' c' : Nat) (w' : World), (Builtin.append_ #[st, st] st #[v, .slice (some ⟨w.heap.size, 0, none⟩) 1 1]).run Tryz.prog (w.alloc (.cells l.toArray t)) = .ok (.slice (some ⟨g, 0, none⟩) n' c') w' ∧
      Gt w0 t size (n + 1) (xs ++ l) (.slice (some ⟨g, 0, none⟩) n' c') w' := by
  obtain ⟨i0, hi, hz0, hz1, hz2⟩ := info_parts hinfo
  obtain ⟨v', w5, hrun, hown', hgrow, -, -⟩ := run_append_own_at (P := Tryz.prog) (w := w.alloc (.cells l.toArray t)) w0.heap.size st st t i0 z size bytes hu hi hz0 hz1 hz2 hz h0
    v n xs (own_modsB h.row ((Mods.refl [] w).alloc _) (by simp)) ⟨w.heap.size, 0, none⟩ 1 1 l (by omega) (cells_newF w l t) h1 (by unfold maxLen; omega) (by have := Nat.mul_le_mul hroom hby; omega) (by have := h.low.size; simp; omega)
  obtain ⟨g, c', rfl⟩ := ownsRow_succ hown'
  exact ⟨g, _, c', w5, hrun, hown', (h.low.alloc _).grown hgrow fun k e => .inr (h.news k (by rw [e]; simp))⟩
theorem infoSt : (Tryz.prog.info? 9).map (fun i => (i.zero, i.size, i.bytes)) = some (some (.string ByteArray.empty), 1, 16) := by kernel_rfl
theorem infoFl : (Tryz.prog.info? 49).map (fun i => (i.zero, i.size, i.bytes)) = some (some (.agg #[.string ByteArray.empty, .string ByteArray.empty]), 2, 32) := by kernel_rfl

/-- A Fields: its block g, its slice v, its fields S; R is what stands behind the slice in its block (an object that has it embedded). -/
structure FldE (t : TypeId) (R : List Value) (w : World) (g : Nat) (v : Value) (S : List FV) : Prop where
  row : Row w g t (v :: R).toArray
  own : w.ownsRow 0 49 2 v S.length (encF S)
  len : S.length ≤ 24
  small : Small S
abbrev Fld (t : TypeId) (w : World) (g : Nat) (v : Value) (S : List FV) : Prop := FldE t [] w g v S
section
variable {t : TypeId} {R : List Value} {w w' : World} {g : Nat} {v : Value} {S : List FV} {F : List Nat}
theorem FldE.mods (h : FldE t R w g v S) (hm : Mods F w w') (hg : g ∉ F) (hv : ∀ k ∈ v.ownBlock.toList, k ∉ F) : FldE t R w' g v S :=
  ⟨h.row.mods hm hg, own_mods h.own hm hv, h.len, h.small⟩
theorem FldE.low (h : FldE t R w g v S) (hm : Mods [] w w') : FldE t R w' g v S := h.mods hm (by simp) (by simp)
theorem FldE.fs (h : FldE t R w g v S) : FsAt w v S := FsAt.of_row h.own
theorem FldE.form (h : FldE t R w g v S) : ∃ a c, v = .slice a S.length c := h.fs.len
theorem FldE.lt (h : FldE t R w g v S) : ∀ k ∈ v.ownBlock.toList, k < w.heap.size := own_lt h.own
theorem FldE.cell (h : FldE t R w g v S) : w.cell? ⟨g, 0, none⟩ = some v := by rw [h.row.cell 0]; simp
theorem FldE.ne (h : FldE t R w g v S) (ht : 49 ≠ t) : ∀ k ∈ v.ownBlock.toList, k ≠ g := own_ne_row h.own h.row ht
theorem row_put {u : Value} (h : Row w g t (v :: R).toArray) : Row (w.setCell ⟨g, 0, none⟩ u) g t (u :: R).toArray := by
  have := h.set 0 u
  simpa using this
end
abbrev ptr (g : Nat) : Value := .pointer (some ⟨g, 0, none⟩)

set_option maxRecDepth 10000 in
theorem kept_a {g : Nat} {v : Value} {S : List FV} (w : World) (h : Fld 81 w g v S) : Calls Tryz.prog 34 #[ptr g] w fun e w' => e = .returned v ∧ w = w' := by
  have hc := h.cell
  obtain ⟨a, c, rfl⟩ := h.form
  have hl := h.len
  clear h
  unfold ptr
  go_enter Tryz.func34, Tryz.ntmps34
  go_wp2
  go_ret
  exact ⟨rfl, rfl⟩
theorem kept_nil (w : World) : Calls Tryz.prog 34 #[.pointer none] w fun e w' => e = .returned (.slice none 0 0) ∧ w = w' := by
  go_enter Tryz.func34, Tryz.ntmps34
  go_wp2
  go_ret
  exact ⟨rfl, rfl⟩
theorem len_a {g : Nat} {v : Value} {S : List FV} (w : World) (h : Fld 81 w g v S) : Calls Tryz.prog 33 #[ptr g] w fun e w' => e = .returned (.int .i64 S.length) ∧ w = w' := by
  have hk := fun w' h' => kept_a (g := g) (v := v) (S := S) w' h'
  obtain ⟨a, c, rfl⟩ := h.form
  have H := Lib.hid h
  have HK := Lib.hid hk
  clear h hk
  unfold ptr
  go_enter Tryz.func33, Tryz.ntmps33
  go_wp2_with (go_at_call 34; refine (HK.out _ H.out).mono ?_; rintro e w' ⟨rfl, rfl⟩)
  go_ret
  exact ⟨rfl, rfl⟩
theorem len_nil (w : World) : Calls Tryz.prog 33 #[.pointer none] w fun e w' => e = .returned (.int .i64 0) ∧ w = w' := by
  go_enter Tryz.func33, Tryz.ntmps33
  go_wp2_with (go_at_call 34; refine (kept_nil _).mono ?_; rintro e w' ⟨rfl, rfl⟩)
  go_ret
  exact ⟨rfl, rfl⟩
theorem sameK (a b : ByteArray) {r : Bool} (h : sameL a b = r) (ha : a.size ≤ 1000000) (hb : b.size ≤ 1000000) (w : World) : Calls Tryz.prog 39 #[.string a, .string b] w fun e w' => e = .returned (.bool r) ∧ Mods [] w w' := by
  subst h
  exact (same_a a b w (by unfold maxLen; omega) (by unfold maxLen; omega)).mono fun e w' ⟨h1, n, h2⟩ => ⟨h1, by rw [h2]; exact (Mods.refl _ _).drewN n⟩

set_option maxRecDepth 10000 in
theorem vals_a {g : Nat} {v : Value} {S : List FV} (n : ByteArray) (w : World) (h : Fld 81 w g v S) (hn : n.size ≤ 1000000) :
    Calls Tryz.prog 103 #[ptr g, .string n] w fun e w' => ∃ u, e = .returned u ∧ Gt w 9 1 (valsF S n).length (encS (valsF S n)) u w' := by
  have HK := Lib.hid (fun w' h' => kept_a (g := g) (v := v) (S := S) w' h')
  have H := Lib.hid h
  have hl := h.len
  have HF := Lib.hid h.fs
  have HS := Lib.hid h.small
  unfold ptr
  by_cases h0 : S.length = 0
  · obtain rfl : S = [] := List.eq_nil_of_length_eq_zero h0
    obtain ⟨a, c, rfl⟩ := h.form
    clear h h0
    go_enter Tryz.func103, Tryz.ntmps103
    go_wp2_with (go_at_call 34; refine (HK.out _ H.out).mono ?_; rintro e w' ⟨rfl, rfl⟩)
    refine wp_loop_rounds 1 ?_
    rw [rounds_succ]
    go_wp2
    go_ret
    exact ⟨_, rfl, Gt.nil _ _ _⟩
  · rcases HF.out with ⟨rfl, _⟩ | ⟨b, off, cap, rfl, -, hb, hc⟩
    · exact absurd rfl h0
    have HC := Lib.hid hc
    clear h hc h0
    go_enter Tryz.func103, Tryz.ntmps103
    go_wp2_with (go_at_call 34; refine (HK.out _ H.out).mono ?_; rintro e w' ⟨rfl, rfl⟩)
    go_loopw [5, 11] (fun u i wr => ∃ (k : Nat), k ≤ S.length ∧ i = .int .i64 k ∧ Gt w 9 1 (valsF (S.take k) n).length (encS (valsF (S.take k) n)) u wr) (fun _ i _ => S.length - (intOf i).toNat)
    case atStart => exact ⟨0, Nat.zero_le _, rfl, Gt.nil _ _ _⟩
    case round =>
      obtain ⟨k, hk, rfl, hG⟩ := hrel
      have HG := Lib.hid hG
      clear hG
      by_cases hlt : k < S.length
      · have c0 : wr.cell? ⟨b, off + k * 2, none⟩ = some (.string S[k].1) := cell_mods (HC.out k hlt).1 HG.out.low (by simp)
        have c1 : wr.cell? ⟨b, off + k * 2 + 1, none⟩ = some (.string S[k].2) := cell_mods (HC.out k hlt).2 HG.out.low (by simp)
        have HT := Lib.hid (valsF_snoc (S.take k) S[k] n)
        have HTK := Lib.hid (List.take_succ_eq_append_getElem hlt)
        have hs1 := (HS.out.at k hlt).1
        have hs2 := (HS.out.at k hlt).2
        have HLN := Lib.hid (valsF_len (S.take k) n)
        obtain ⟨x, hx⟩ : ∃ x, x = S[k].1 := ⟨_, rfl⟩
        obtain ⟨y, hy⟩ : ∃ y, y = S[k].2 := ⟨_, rfl⟩
        rw [← hx] at c0 HT hs1
        rw [← hy] at c1 HT hs2
        clear hx hy
        have hz : wr.heap.size < (wr.alloc (.cells #[.string x, .string y] 49)).heap.size := by simp
        cases hsm : sameL x n with
        | true =>
          have HSM := Lib.hid (fun w => sameK x n hsm hs1 hn w)
          rw [hsm, if_pos rfl] at HT
          clear hsm
          have HCL := Lib.hid (fun w => cloneK y hs2 w)
          obtain ⟨va, vc, rfl⟩ := HG.out.form
          have hroom : (valsF (S.take k) n).length + 1 ≤ 1000000 := by have := HLN.out; rw [List.length_take] at this; omega
          go_wp2_with (first
            | (go_at_call 39; refine (HSM.out _).mono ?_; rintro e w1 ⟨rfl, hm⟩; have c2 := ((Row.new wr 49 #[.string x, .string y]).mods hm (by simp)).cell 1; have HG1 := Lib.hid ((HG.out.mods ((Mods.refl [] wr).alloc _)).mods hm); simp only [List.getElem?_toArray, List.getElem?_cons_zero, List.getElem?_cons_succ] at c2; clear hm)
            | (go_at_call 21; refine (HCL.out _).mono ?_; rintro e w2 ⟨rfl, hm⟩; obtain ⟨g5, n5, c5, w3, hrun, hG5⟩ := (HG1.out.mods hm).app Tryz.underlying22 infoSt rfl (by decide) hroom (by decide) [.string y] rfl (by simp [Value.oneCell']); have HG5 := Lib.hid hG5; clear hm hG5)
            | (at_builtin; refine wpList_run_appF rfl (.tmp 19) (.tmp 23) 22 rfl rfl rfl hrun ?_))
          go_roundw
          case rel => exact ⟨k + 1, by omega, by go_num, by rw [HTK.out, HT.out, List.length_append, show encS (valsF (S.take k) n ++ [y]) = encS (valsF (S.take k) n) ++ [.string y] by simp [encS]]; exact HG5.out⟩
          case measure => simp [intOf]; omega
        | false =>
          have HSM := Lib.hid (fun w => sameK x n hsm hs1 hn w)
          rw [hsm, if_neg (by simp), List.append_nil] at HT
          clear hsm
          go_wp2_with (go_at_call 39; refine (HSM.out _).mono ?_; rintro e w1 ⟨rfl, hm⟩; have HG1 := Lib.hid ((HG.out.mods ((Mods.refl [] wr).alloc _)).mods hm); clear hm)
          go_roundw
          case rel => exact ⟨k + 1, by omega, by go_num, by rw [HTK.out, HT.out]; exact HG1.out⟩
          case measure => simp [intOf]; omega
      · obtain rfl : k = S.length := by omega
        obtain ⟨va, vc, hv⟩ := HG.out.form
        have HE := HG.out
        rw [List.take_length] at HE
        have HE := Lib.hid HE
        go_wp2
        go_ret
        exact ⟨_, rfl, HE.out⟩
end Go.Proofs.YtjoineomkdiekaaGreatDoor
