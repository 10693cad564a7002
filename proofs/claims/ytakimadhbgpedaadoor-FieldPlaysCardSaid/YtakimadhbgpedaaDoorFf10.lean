/- The library's DeleteFunc with the code's closure; Drop of the code. Conditions: texts of at most a million bytes, 24 fields. -/
import Derived.Test.YtakimadhbgpedaaDoorFe10
namespace Go.Proofs.YtakimadhbgpedaaDoor
open Go.RowKit
set_option linter.unusedVariables false
set_option linter.unusedSimpArgs false

section
variable {w w' : World} {g n m cap k : Nat} {e : TypeId} {A : Option Addr} {xs : List Value}
theorem own_setCellsF (h : w.ownsRow 0 e k (.slice (some ⟨g, 0, none⟩) n cap) n xs) (vs : List Value) (o : Nat) (ho : o + vs.length ≤ xs.length) :
    (w.setCells g o vs).ownsRow 0 e k (.slice (some ⟨g, 0, none⟩) n cap) n (xs.take o ++ vs ++ xs.drop (o + vs.length)) ∧ Mods [g] w (w.setCells g o vs) := by
  induction vs generalizing w o xs with
  | nil => simp only [World.setCells, List.append_nil, List.length_nil, Nat.add_zero, List.take_append_drop]; exact ⟨h, Mods.refl _ _⟩
  | cons v vs ih =>
    simp only [List.length_cons] at ho
    obtain ⟨h1, h2⟩ := World.ownsRow.stored h o v
    obtain ⟨h3, h4⟩ := ih h1 (o + 1) (by simp; omega)
    refine ⟨?_, ((Mods.refl [g] w).setCell (.inl (by simp)) v).trans h4 fun k hk => .inl hk⟩
    have e1 : (xs.set o v).take (o + 1) = xs.take o ++ [v] := by
      rw [List.take_set, List.take_succ_eq_append_getElem (by omega), List.set_append_right _ _ (by simp; omega)]
      simp [Nat.min_eq_left (show o ≤ xs.length by omega)]
    have e2 : (xs.set o v).drop (o + 1 + vs.length) = xs.drop (o + (vs.length + 1)) := by
      rw [List.drop_set_of_lt (by omega), show o + 1 + vs.length = o + (vs.length + 1) by omega]
    rw [e1, e2] at h3
    simp only [World.setCells, List.length_cons]
    simpa [List.append_assoc] using h3
theorem own_lessF (h : w.ownsRow 0 e k (.slice A n cap) n xs) (hm : m ≤ n) (h0 : 0 < n) : w.ownsRow 0 e k (.slice A m cap) m (xs.take (m * k)) := by
  have hmk : m * k ≤ n * k := Nat.mul_le_mul_right k hm
  rcases h.2 with ⟨_, rfl⟩ | ⟨g, cap', cur, hv, hb, hg, h1, h2, h3, h4⟩
  · omega
  · injection hv with e1 e2 e3
    subst e1 e3
    refine ⟨by rw [List.length_take, h.1]; omega, .inr ⟨g, cap, cur, rfl, hb, hg, by omega, h2, h3, ?_⟩⟩
    rw [← h4, List.take_take, Nat.min_eq_left hmk]
end
theorem encF_set (T : List FV) (i : Nat) (p : FV) (h : i < T.length) : (encF T).take (i * 2) ++ [.string p.1, .string p.2] ++ (encF T).drop (i * 2 + 2) = encF (T.set i p) := by
  rw [show i * 2 + 2 = (i + 1) * 2 by omega, ← encF_take, ← encF_drop]
  have : T.set i p = T.take i ++ [p] ++ T.drop (i + 1) := by
    rw [List.set_eq_take_append_cons_drop, if_pos h]; simp
  rw [this, encF_append, encF_append]; rfl
/-- The row while fields are taken out: the first i are kept, from j on nothing has turned. -/
structure Cutting (p : FV → Bool) (w : World) (S : List FV) (b cap i j : Nat) (wr : World) : Prop where
  ex : ∃ T : List FV, wr.ownsRow 0 23 2 (.slice (some ⟨b, 0, none⟩) S.length cap) S.length (encF T) ∧ T.length = S.length ∧ T.take i = (S.take j).filter (fun x => !p x) ∧ T.drop j = S.drop j
  lt : i < j
  le : j ≤ S.length
  low : Mods [b] w wr
section
variable {p : FV → Bool} {w wr w' : World} {S : List FV} {b cap i j : Nat}
theorem Cutting.mods (h : Cutting p w S b cap i j wr) (hm : Mods [] wr w') : Cutting p w S b cap i j w' := by
  obtain ⟨T, h1, r⟩ := h.ex
  exact ⟨⟨T, own_mods h1 hm (by simp), r⟩, h.lt, h.le, h.low.trans hm (fun _ h => nomatch h)⟩
theorem Cutting.cell (h : Cutting p w S b cap i j wr) (hj : j < S.length) : wr.cell? ⟨b, j * 2, none⟩ = some (.string S[j].1) ∧ wr.cell? ⟨b, j * 2 + 1, none⟩ = some (.string S[j].2) := by
  obtain ⟨T, h1, h2, _, h4⟩ := h.ex
  have e : T[j]'(by omega) = S[j] := by
    have := congrArg (fun l => l[0]?) h4
    simp only [List.getElem?_drop, Nat.add_zero] at this
    rw [List.getElem?_eq_getElem (by omega), List.getElem?_eq_getElem hj] at this
    exact Option.some.inj this
  have := encF_at T j (by omega)
  rw [e] at this
  exact ⟨(h1.cellAt _ (by omega)).trans this.1, (h1.cellAt _ (by omega)).trans this.2⟩
theorem Cutting.there (h : Cutting p w S b cap i j wr) (k : Nat) (hk : k < S.length * 2) : (∃ u, wr.cell? ⟨b, k, none⟩ = some u) ∧ wr.frozen? ⟨b, k, none⟩ = false := by
  obtain ⟨T, h1, h2, _⟩ := h.ex
  refine ⟨⟨(encF T)[k]'(by rw [encF_len]; omega), ?_⟩, h1.frozenAt k⟩
  rw [h1.cellAt k hk, List.getElem?_eq_getElem (by rw [encF_len]; omega)]
theorem Cutting.skip (h : Cutting p w S b cap i j wr) (hj : j < S.length) (hp : p S[j] = true) : Cutting p w S b cap i (j + 1) wr := by
  obtain ⟨T, h1, h2, h3, h4⟩ := h.ex
  refine ⟨⟨T, h1, h2, ?_, ?_⟩, by have := h.lt; omega, by omega, h.low⟩
  · rw [List.take_succ_eq_append_getElem hj, List.filter_append, h3]; simp [hp]
  · rw [← List.drop_drop, h4, List.drop_drop]
theorem Cutting.move (h : Cutting p w S b cap i j wr) (hj : j < S.length) (hp : p S[j] = false) :
    Cutting p w S b cap (i + 1) (j + 1) ((wr.setCell ⟨b, i * 2, none⟩ (.string S[j].1)).setCell ⟨b, i * 2 + 1, none⟩ (.string S[j].2)) := by
  obtain ⟨T, h1, h2, h3, h4⟩ := h.ex
  have hi := h.lt
  have hs := own_setCellsF h1 [.string S[j].1, .string S[j].2] (i * 2) (by rw [encF_len]; simp; omega)
  rw [show [Value.string S[j].1, .string S[j].2].length = 2 from rfl, encF_set T i S[j] (by omega)] at hs
  refine ⟨⟨T.set i S[j], hs.1, by simp [h2], ?_, ?_⟩, by omega, by omega, h.low.trans hs.2 fun _ h => .inl h⟩
  · rw [List.take_succ_eq_append_getElem hj, List.filter_append, ← h3, List.take_succ_eq_append_getElem (by simp; omega), List.take_set_of_le (Nat.le_refl _)]
    simp [hp]
  · rw [List.drop_set_of_lt (by omega), ← List.drop_drop, h4, List.drop_drop]
end
theorem zeroCells_one (n : Nat) : (Builtin.zeroCells #[Value.string ByteArray.empty, .string ByteArray.empty] n).size = n * 2 ∧ ∀ u ∈ (Builtin.zeroCells #[Value.string ByteArray.empty, .string ByteArray.empty] n).toList, u.oneCell' = true := by
  refine ⟨by simp [Builtin.zeroCells], fun u hu => ?_⟩
  simp only [Builtin.zeroCells, Array.toList_map, List.mem_map] at hu
  obtain ⟨i, _, rfl⟩ := hu
  have : i % 2 = 0 ∨ i % 2 = 1 := by omega
  rcases this with h | h <;> simp [h, Value.oneCell']
theorem zero_fl (w : World) : (zeroValue 23).run Tryd.prog w = .ok (.agg #[.string ByteArray.empty, .string ByteArray.empty]) w := by kernel_rfl
theorem clear_f (w : World) (ty : TypeId) (b o m c : Nat) (hm : 0 < m) (hc : ∀ j, j < m * 2 → (w.cell? ⟨b, o + j, none⟩).isSome = true) (hf : ∀ j, j < m * 2 → w.frozen? ⟨b, o + j, none⟩ = false) :
    (Builtin.clear_ #[31] ty #[.slice (some ⟨b, o, none⟩) m c]).run Tryd.prog w = .ok (.tuple #[]) (w.setCells b o (Builtin.zeroCells #[.string ByteArray.empty, .string ByteArray.empty] m).toList) := by
  obtain ⟨m, rfl⟩ : ∃ k, m = k + 1 := ⟨m - 1, by omega⟩
  obtain ⟨hz1, hz2⟩ := zeroCells_one (m + 1)
  have hst := run_storeCells_cells (P := Tryd.prog) b o (Builtin.zeroCells #[.string ByteArray.empty, .string ByteArray.empty] (m + 1)).toList 0 w (by simpa [hz1] using hc) (by simpa [hz1] using hf) hz2
  simp only [Nat.add_zero] at hst
  have ht := run_underlying (P := Tryd.prog) (w := w) Tryd.underlying31
  have hz := zero_fl w
  simp [Builtin.clear_, ht, hz, hst, Value.cells]
theorem Cutting.done {p : FV → Bool} {w wr : World} {S : List FV} {b cap i : Nat} (h : Cutting p w S b cap i S.length wr) (vs : List Value) (hv : vs.length = (S.length - i) * 2) :
    (wr.setCells b (i * 2) vs).ownsRow 0 23 2 (.slice (some ⟨b, 0, none⟩) i cap) i (encF (S.filter fun x => !p x)) ∧ Mods [b] w (wr.setCells b (i * 2) vs) ∧ (S.filter fun x => !p x).length = i := by
  obtain ⟨T, h1, h2, h3, h4⟩ := h.ex
  have hi := h.lt
  have hs := own_setCellsF h1 vs (i * 2) (by rw [encF_len]; omega)
  have hl := own_lessF hs.1 (m := i) (by omega) (by omega)
  rw [List.take_length] at h3
  refine ⟨?_, h.low.trans hs.2 fun _ h => .inl h, ?_⟩
  · rw [List.append_assoc, List.take_append_of_le_length (by rw [List.length_take, encF_len]; omega), List.take_take, Nat.min_self, ← encF_take, h3] at hl
    exact hl
  · rw [← h3, List.length_take]; omega

set_option maxRecDepth 10000 in
set_option maxHeartbeats 1000000 in
theorem del_a (B : Nat) (p : FV → Bool) (v : Value) (S : List FV) (w : World) (h : w.ownsRow 0 23 2 v S.length (encF S)) (hl : S.length ≤ 24)
    (hp : ∀ (W : World) (x : FV), x ∈ S → Mods v.ownBlock.toList w W → Calls Tryd.prog 41 #[.agg #[.string x.1, .string x.2], ptr B] W fun e w' => e = .returned (.bool (p x)) ∧ Mods [] W w') :
    Calls Tryd.prog 40 #[v, .func (.func 41) #[] #[ptr B]] w fun e w' => ∃ u, e = .returned u ∧ u.ownBlock = v.ownBlock ∧ (S.filter fun x => !p x).length ≤ S.length ∧
      w'.ownsRow 0 23 2 u (S.filter fun x => !p x).length (encF (S.filter fun x => !p x)) ∧ Mods v.ownBlock.toList w w' := by
  have hfl := List.length_filter_le (fun x => !p x) S
  have HI := Lib.hid (index_d B p v S w (FsAt.of_row h) (by omega) (fun W x hx hm => hp W x hx (hm.more (fun _ h => nomatch h))))
  have H := Lib.hid h
  have HP := Lib.hid hp
  unfold ptr at *
  cases hf : S.findIdx? p with
  | none =>
    have hno : S.filter (fun x => !p x) = S := by
      rw [List.findIdx?_eq_none_iff] at hf
      exact List.filter_eq_self.2 fun x hx => by simp [hf x hx]
    rw [hno]
    rw [show idxI p S = -1 by unfold idxI; rw [hf]] at HI
    obtain ⟨a, c, rfl⟩ := (FsAt.of_row h).len
    clear h hp hf hno hfl
    go_enter Tryd.func40, Tryd.ntmps40
    go_wp2_with (go_at_call 55; refine HI.out.mono ?_; rintro e w1 ⟨rfl, hm⟩; have M1 := Lib.hid hm; clear hm)
    go_ret
    exact ⟨_, rfl, rfl, Nat.le_refl _, own_mods H.out M1.out (by simp), M1.out.more (fun _ h => nomatch h)⟩
  | some i =>
    obtain ⟨hi, hpi, hpj⟩ := List.findIdx?_eq_some_iff_getElem.1 hf
    rw [show idxI p S = (i : Int) by unfold idxI; rw [hf]] at HI
    rcases h.2 with ⟨_, h0⟩ | ⟨b, cap, cur, rfl, -, hg, hc1, hc2, -⟩
    · omega
    have hb : (Value.slice (some ⟨b, 0, none⟩) S.length cap).ownBlock.toList = [b] := rfl
    rw [hb] at HP
    have hcut : ∀ w1, Mods [] w w1 → Cutting p w S b cap i (i + 1) w1 := fun w1 hm => by
      refine ⟨⟨S, own_mods H.out hm (by simp), rfl, ?_, rfl⟩, by omega, by omega, hm.more (fun _ h => nomatch h)⟩
      rw [List.take_succ_eq_append_getElem hi, List.filter_append]
      have e : (S.take i).filter (fun x => !p x) = S.take i := List.filter_eq_self.2 fun x hx => by
        obtain ⟨j, hj, rfl⟩ := List.mem_iff_getElem.1 hx
        rw [List.length_take] at hj
        rw [List.getElem_take]
        have := hpj j (by omega)
        simpa using this
      rw [e]; simp [hpi]
    have HC := Lib.hid hcut
    have hi1 : ((i : Int) == -1) = false := by rw [beq_eq_false_iff_ne]; omega
    unfold maxLen at hc2
    clear h hp hf hg hpi hpj hcut hb
    go_enter Tryd.func40, Tryd.ntmps40
    go_wp2_with (go_at_call 55; refine HI.out.mono ?_; rintro e w1 ⟨rfl, hm⟩; have M1 := Lib.hid (HC.out _ hm); clear hm)
    go_loopw [5, 6] (fun i j wr => ∃ (k m : Nat), i = .int .i64 k ∧ j = .int .i64 m ∧ Cutting p w S b cap k m wr) (fun _ j _ => S.length - (intOf j).toNat)
    case atStart => exact ⟨i, i + 1, rfl, by go_num, M1.out⟩
    case round =>
      obtain ⟨k, m, rfl, rfl, hG⟩ := hrel
      have HG := Lib.hid hG
      have hkm := hG.lt
      have hms := hG.le
      clear hG
      by_cases hlt : m < S.length
      · obtain ⟨c0, c1⟩ := HG.out.cell hlt
        have HX := Lib.hid (fun W hW => HP.out W S[m] (List.getElem_mem hlt) hW)
        have HSK := Lib.hid (fun (w2 : World) (h : Cutting p w S b cap k m w2) (hp : p S[m] = true) => h.skip hlt hp)
        have HMV := Lib.hid (fun (w2 : World) (h : Cutting p w S b cap k m w2) (hp : p S[m] = false) => h.move hlt hp)
        obtain ⟨q, hq⟩ : ∃ q, q = S[m] := ⟨_, rfl⟩
        rw [← hq] at HX HSK HMV c0 c1
        obtain ⟨x, y⟩ := q
        simp only at c0 c1
        clear hq
        have hz : wr.heap.size < (wr.alloc (.cells #[.string x, .string y] 23)).heap.size := by simp
        cases hpx : p (x, y) with
        | true =>
          rw [hpx] at HX
          have HPX := Lib.hid hpx
          clear hpx
          go_wp2_with (go_at_call 41; refine (HX.out _ (HG.out.low.alloc _)).mono ?_; rintro e w2 ⟨rfl, hm⟩; have HG2 := Lib.hid ((HG.out.mods ((Mods.refl [] wr).alloc _)).mods hm); clear hm)
          go_roundw
          case rel => exact ⟨k, m + 1, rfl, by go_num, HSK.out _ HG2.out HPX.out⟩
          case measure => simp [intOf]; omega
        | false =>
          rw [hpx] at HX
          have HPX := Lib.hid hpx
          clear hpx
          go_wp2_with (go_at_call 41; refine (HX.out _ (HG.out.low.alloc _)).mono ?_; rintro e w2 ⟨rfl, hm⟩; have R2 := (Row.new wr 23 #[.string x, .string y]).mods hm (by simp); have b0 := R2.cell 0; have b1 := R2.cell 1; have hG2 := (HG.out.mods ((Mods.refl [] wr).alloc _)).mods hm; obtain ⟨⟨d0, e0⟩, f0⟩ := hG2.there (k * 2) (by omega); obtain ⟨⟨d1, e1⟩, f1⟩ := hG2.there (k * 2 + 1) (by omega); have HG2 := Lib.hid hG2; simp only [List.getElem?_toArray, List.getElem?_cons_zero, List.getElem?_cons_succ] at b0 b1; clear hm hG2 R2)
          go_roundw
          case rel => exact ⟨k + 1, m + 1, by go_num, by go_num, HMV.out _ HG2.out HPX.out⟩
          case measure => simp [intOf]; omega
      · obtain rfl : m = S.length := by omega
        have hcl := fun ty => clear_f wr ty b (k * 2) (S.length - k) (cap - k) (by omega) (fun j hj => by obtain ⟨⟨u, hu⟩, _⟩ := HG.out.there (k * 2 + j) (by omega); rw [hu]; rfl) (fun j hj => (HG.out.there (k * 2 + j) (by omega)).2)
        have hd := HG.out.done (Builtin.zeroCells #[.string ByteArray.empty, .string ByteArray.empty] (S.length - k)).toList (by rw [Array.length_toList, (zeroCells_one _).1])
        obtain ⟨W1, hW1⟩ : ∃ W1, W1 = wr.setCells b (k * 2) (Builtin.zeroCells #[.string ByteArray.empty, .string ByteArray.empty] (S.length - k)).toList := ⟨_, rfl⟩
        rw [← hW1] at hcl hd
        have HD := Lib.hid hd
        have hne : ¬ cap = k := by omega
        have hkc : k ≤ cap := by omega
        clear hW1 hd
        go_wp2
        go_ret
        refine ⟨_, rfl, rfl, ?_, ?_, HD.out.2.1⟩
        · rw [HD.out.2.2]; have := HG.out.lt; omega
        · rw [HD.out.2.2]; exact HD.out.1

set_option maxRecDepth 10000 in
theorem drop_a {g : Nat} {v : Value} {S : List FV} (vs : Value) (ns : List ByteArray) (w : World) (h : Fld 62 w g v S) (hA : SsAt w vs ns) (hl : ns.length ≤ 1000000) (hs : SmallS ns)
    (hd : ∀ k ∈ vs.ownBlock.toList, k ∉ v.ownBlock.toList) :
    Calls Tryd.prog 23 #[ptr g, vs] w fun e w' => ∃ u, e = .returned (.int .i64 ((S.length : Int) - ((dropF S ns).length : Int))) ∧ u.ownBlock = v.ownBlock ∧ Fld 62 w' g u (dropF S ns) ∧ Mods (g :: v.ownBlock.toList) w w' := by
  have hne := h.ne (by decide)
  have hlt := h.lt
  obtain ⟨A, n, C, hvs⟩ : ∃ A n C, vs = .slice A n C := by obtain ⟨A, C, e⟩ := hA.len; exact ⟨A, _, C, e⟩
  have h0 := h.low ((Mods.refl [] w).alloc (.cells #[vs] 47))
  have hA0 := hA.low ((Mods.refl [] w).alloc (.cells #[vs] 47))
  have hdel := del_a w.heap.size (fun x => isIn ns x.1) v S _ h0.own h0.len (fun W x hx hm => drop_clo x vs ns w.heap.size W
    (cell_mods ((Row.new w 47 #[vs]).cell 0) hm (fun hk => Nat.lt_irrefl _ (hlt _ hk))) (hA0.mods hm hd) hl hs (h.small x hx).1)
  change Calls _ _ _ _ (fun e w' => ∃ u, e = .returned u ∧ u.ownBlock = v.ownBlock ∧ (dropF S ns).length ≤ S.length ∧ w'.ownsRow 0 23 2 u (dropF S ns).length (encF (dropF S ns)) ∧ Mods v.ownBlock.toList (w.alloc (.cells #[vs] 47)) w') at hdel
  have HDL := Lib.hid hdel
  have HS := Lib.hid (dropF_small h.small ns)
  have HNE := Lib.hid (fun hk => hne g hk rfl : g ∉ v.ownBlock.toList)
  have R0 := Lib.hid h0.row
  have hl24 := h.len
  have HM0 := Lib.hid ((Mods.refl (g :: v.ownBlock.toList) w).alloc (.cells #[vs] 47))
  obtain ⟨a, c, rfl⟩ := h.form
  subst hvs
  have k0 := cell_alloc h.cell (.cells #[.slice A n C] 47)
  obtain ⟨vb, hvb⟩ : ∃ vb, vb = (Value.slice a S.length c).ownBlock := ⟨_, rfl⟩
  rw [← hvb] at HDL HNE HM0 ⊢
  clear hdel hA hA0 hd hlt h h0 hne hvb
  unfold ptr at *
  go_enter Tryd.func23, Tryd.ntmps23
  go_wp2_with fail
  refine HDL.out.mono ?_
  rintro e w1 ⟨u, rfl, hub, hle, hown, hm⟩
  have R1 := Lib.hid (R0.out.mods hm HNE.out)
  have HO := Lib.hid hown
  have HU := Lib.hid hub
  have HM1 := Lib.hid (HM0.out.trans hm fun k hk => .inl (List.mem_cons_of_mem _ hk))
  have d0 := R1.out.cell 0
  have f0 := R1.out.free 0
  obtain ⟨b, d, rfl⟩ := (FsAt.of_row hown).len
  simp only [List.getElem?_toArray, List.getElem?_cons_zero] at d0
  clear hub hown hm
  go_wp2
  go_ret
  refine ⟨_, rfl, HU.out, ⟨R1.out.set 0 _, ?_, by omega, HS.out⟩, HM1.out.setCell (.inl (by simp)) _⟩
  refine own_mods HO.out ((Mods.refl [g] w1).setCell (.inl (by simp)) _) (fun k hk => ?_)
  rw [HU.out] at hk
  intro hg
  rw [List.mem_singleton] at hg
  subst hg
  exact HNE.out hk
theorem drop_nil (A : Option Addr) (n C : Nat) (w : World) : Calls Tryd.prog 23 #[.pointer none, .slice A n C] w fun e w' => e = .returned (.int .i64 0) ∧ Mods [] w w' := by
  go_enter Tryd.func23, Tryd.ntmps23
  go_wp2
  go_ret
  exact ⟨rfl, (Mods.refl [] w).alloc _⟩
end Go.Proofs.YtakimadhbgpedaaDoor
