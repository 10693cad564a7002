/- What Open, Connect of the reference's net do. -/
import Derived.Test.YtogcfeplfclobaaRb
namespace Go.Proofs.Ytogcfeplfclobaa
open Go.RowKit
set_option maxRecDepth 10000
set_option linter.unusedVariables false
set_option linter.unusedSimpArgs false

theorem ropen_any (w : World) (g m : Nat) (F : List Nat) (S : Nt) (c n : Int) (h : RefA w g F S m) (hm : m + 1 ≤ 900000000) :
    Calls Try.prog 42 #[.pointer (some ⟨g, 0, none⟩), .int .i64 c, .int .i64 n] w fun e w' => e = .returned (.int .i64 (S.openE c n)) ∧ Hid (RefTo w w' g F (S.open_ c n) (m + 1)) := by
  have HN0 := Lib.hid (RefTo.same (h.more (n := m + 1) (by omega) hm) (Mods.refl [] w))
  by_cases hn : n < 0
  · have he : S.openE c n = 1 := by unfold Nt.openE; rw [if_pos hn]
    rw [show S.open_ c n = S by unfold Nt.open_; rw [he]; rfl, he]
    clear h he
    go_enter Try.func42, Try.ntmps42
    go_wp2
    go_ret
    exact ⟨rfl, HN0⟩
  have he1 : S.openE c n = S.e1 c := by unfold Nt.openE; rw [if_neg hn]
  rw [he1]
  by_cases he : S.e1 c = 0
  · rw [show S.open_ c n = S.upd c ((S.get c).open_ n) by unfold Nt.open_; rw [he1, if_pos he], he]
    obtain ⟨i, s, rfl, hs, hi, hg, hb, ho⟩ := Nt.e1_zero he
    rw [hg]
    obtain ⟨vl, vn, X, R, rfl, h⟩ := h
    obtain ⟨x, r, hx, hr, rfl, hc, ha⟩ := h.at_ hs
    have HT := Lib.hid (rtheirs_at w g m i vl vn X R S x r h hx hr hb ho)
    have hf := h.ok.at_ hs
    have HN := Lib.hid (fun (w' : World) (hq : CnTo KR w w' x { r with c := r.c.open_ n }) => h.toC hx hr hq (ha.same rfl rfl rfl (.inl rfl) id) (h.ok.upd (n := m + 1) (by omega) hm (by simp only [Cn.open_]; split <;> omega) fun hq => h.ok.op i _ hs hq))
    have c10 := hc.row.cell 10
    have c12 := hc.row.cell 12
    simp only [KR] at c10 c12
    have f0 := hc.row.free
    have HH := Lib.hid hc
    have hmw : r.c.mw ≤ 900000000 := by omega
    have hw1 : 0 ≤ r.c.win := by omega
    have hw2 : r.c.win ≤ 1099511627776 := by omega
    obtain ⟨u, hu⟩ : ∃ u, u = r.c.win + min n (1099511627776 - r.c.win) := ⟨_, rfl⟩
    have HU := Lib.hid hu
    have hmn : r.c.win + (if 1099511627776 - r.c.win < n then 1099511627776 - r.c.win else n) = u := by subst hu; split <;> omega
    clear h hx hs hg hb ho hc hf he hi he1 hu hr ha
    by_cases h0 : 0 < n
    · have HE := Lib.hid (show r.c.open_ n = { r.c with win := u, mw := r.c.mw + 1 } by simp [Cn.open_, h0, HU.out])
      rw [HE.out] at HN
      go_enter Try.func42, Try.ntmps42
      go_wp2_with fail
      refine HT.out.mono ?_
      rintro e w' ⟨rfl, rfl⟩
      go_wp2_with fail
      go_region
      all_goals go_wp2
      all_goals
        go_ret
        rw [HE.out]
        refine ⟨rfl, Lib.hid (HN.out _ ?_)⟩
        exact CnTo.put (s := { r with c := { r.c with win := u } }) (CnTo.put ((CnTo.refl HH.out).quiet ((Mods.refl _ _).drew)) 10 (.int .i64 u) (fun _ => rfl) (rbs_all rfl rfl rfl)) 12 (.int .i64 ((r.c.mw : Int) + 1)) (fun _ => rfl) (rbs_all rfl rfl rfl)
    · have hnn : n = 0 := by omega
      subst hnn
      have HE := Lib.hid (show r.c.open_ 0 = { r.c with win := u } by simp [Cn.open_, HU.out])
      rw [HE.out] at HN
      clear h0
      go_enter Try.func42, Try.ntmps42
      go_wp2_with fail
      refine HT.out.mono ?_
      rintro e w' ⟨rfl, rfl⟩
      go_wp2_with fail
      go_region
      all_goals go_wp2
      all_goals
        go_ret
        rw [HE.out]
        refine ⟨rfl, Lib.hid (HN.out _ ?_)⟩
        rw [show u = r.c.win by have := HU.out; omega]
        exact CnTo.put (s' := r) ((CnTo.refl HH.out).quiet ((Mods.refl _ _).drew)) 10 (.int .i64 r.c.win) (fun _ => rfl) (rbs_all rfl rfl rfl)
  · rw [show S.open_ c n = S by unfold Nt.open_; rw [he1, if_neg he]]
    have HT := Lib.hid (rtheirs_no w g m F S c h he)
    obtain ⟨e0, he0⟩ : ∃ e0, e0 = S.e1 c := ⟨_, rfl⟩
    rw [← he0] at HT he ⊢
    have hne : (e0 != 0) = true := by simpa using he
    clear h he he0 he1
    go_enter Try.func42, Try.ntmps42
    go_wp2_with fail
    refine HT.out.mono ?_
    rintro e w' ⟨rfl, rfl⟩
    go_wp2
    go_ret
    exact ⟨rfl, HN0⟩
theorem rptr_info3 : (Try.prog.info? 90).map (fun i => (i.zero, i.size, i.bytes)) = some (some (.pointer none), 1, 8) := by kernel_rfl
theorem int_info3 : (Try.prog.info? 3).map (fun i => (i.zero, i.size, i.bytes)) = some (some (.int .i64 0), 1, 8) := by kernel_rfl
def rnew (p : Int) : Rn := ⟨Cn.new p, true, false, []⟩
theorem rnew_conn (w : World) (p : Int) : CnA KR (w.alloc (.cells #[.int .i64 p, .bool true, .bool false, .bool false, .bool false, .bool false, .bool false, .slice none 0 0, .slice none 0 0, .slice none 0 0, .int .i64 0, .int .i64 0, .int .i64 0] 89)) ⟨w.heap.size, fun _ => .slice none 0 0⟩ (rnew p) :=
  ⟨Row.new w _ _, rbs_all (Own.nil _ _) (Own.nil _ _) (Own.nil _ _), fun i j _ k hk => by simp [Value.ownBlock] at hk, rbs_all (by simp [KR, rbs, rnew, Cn.new]) (by simp [KR, rbs, rnew, Cn.new]) (by simp [KR, rbs, rnew, Cn.new])⟩
/-- A connection is new, its pointer appended and stored; the line is as it was. -/
structure RMid (w w1 : World) (g m : Nat) (vl vn : Value) (X : List Cb) (R : List Rn) (S : Nt) (p : Int) (v8 : Value) (X' : List Cb) : Prop where
  row : Row w1 g 42 #[.int .i64 S.back, v8, vn, .int .i64 S.fail, .bool S.stop, .int .i64 (S.L.length : Nat)]
  ptr : Own w1 90 v8 (pv X')
  num : Own w1 3 vn (iv (lineN S.first (S.L.length - S.first)))
  cs : Cs KR w1 X' (R ++ [rnew p])
  mods : Mods (rfoot g vl vn X) w w1
  sub : ∀ k, k ∈ v8.ownBlock.toList ∨ k ∈ fts X' → k ∈ rfoot g vl vn X ∨ w.heap.size ≤ k
theorem rconn1 {w w1 w2 w8 : World} {g m : Nat} {vl vn v8 : Value} {X : List Cb} {R : List Rn} {S : Nt} {p : Int} (h : RefF w g vl vn X R S m) (hw : Mods [] w w1) (hs : w1.heap.size = w.heap.size)
    (h2 : w2 = (w1.alloc (.cells #[.int .i64 p, .bool true, .bool false, .bool false, .bool false, .bool false, .bool false, .slice none 0 0, .slice none 0 0, .slice none 0 0, .int .i64 0, .int .i64 0, .int .i64 0] 89)).alloc (.cells #[.pointer (some ⟨w1.heap.size, 0, none⟩)] 90))
    (ho : Own w8 90 v8 (pv X ++ [.pointer (some ⟨w1.heap.size, 0, none⟩)])) (hm : Mods vl.ownBlock.toList w2 w8 ∧ (v8.ownBlock = vl.ownBlock ∨ v8.ownBlock = some w2.heap.size)) :
    Row w8 g 42 #[.int .i64 S.back, vl, vn, .int .i64 S.fail, .bool S.stop, .int .i64 (S.L.length : Nat)] ∧ ∀ w9, w9 = w8.setCell ⟨g, 1, none⟩ v8 → RMid w w9 g m vl vn X R S p v8 (X ++ [⟨w1.heap.size, fun _ => .slice none 0 0⟩]) := by
  have hsz : w2.heap.size = w.heap.size + 2 := by rw [h2]; simp; omega
  have hq2 : Mods [] w w2 := by rw [h2]; exact (hw.alloc _).alloc _
  have hF2 := h.keep (w' := w2) fun k hk => hq2.block k (h.lt k hk) (by simp)
  have hvc : ∀ k ∈ vl.ownBlock.toList, k ≠ g := h.ptr.ne_row h.row (by decide)
  have hr8 : Row w8 g _ _ := hF2.row.mods hm.1 fun hk => hvc _ hk rfl
  have hcn : CnA KR w2 ⟨w1.heap.size, fun _ => .slice none 0 0⟩ (rnew p) := by
    rw [h2]; exact (rnew_conn w1 p).mods ((Mods.refl [] _).alloc _) (by simp)
  have hft : (⟨w1.heap.size, fun _ => .slice none 0 0⟩ : Cb).ft = [w1.heap.size] := rfl
  have hcs8 : Cs KR w8 X R := hF2.cs.mods hm.1 fun k hk hk2 => h.vl_fts k hk2 hk
  have hnum8 : Own w8 3 vn (iv (lineN S.first (S.L.length - S.first))) := hF2.num.mods hm.1 fun k hk hk2 => h.num.ne h.ptr (by decide) k hk hk2
  have hcn8 : CnA KR w8 ⟨w1.heap.size, fun _ => .slice none 0 0⟩ (rnew p) := hcn.mods hm.1 fun k hk hk2 => by
    rw [hft] at hk
    simp at hk
    have := h.ptr.lt k hk2
    omega
  have hgl := h.row.lt
  have hcs8' : Cs KR w8 (X ++ [⟨w1.heap.size, fun _ => .slice none 0 0⟩]) (R ++ [rnew p]) := h.cs.snoc hcn8 hcs8 (by rw [hft]; simp; omega)
  refine ⟨hr8, fun w9 e9 => ?_⟩
  subst e9
  refine ⟨?_, ?_, ?_, ?_, ?_, fun k hk => ?_⟩
  · have := hr8.set 1 v8
    simpa using this
  · rw [pv_snoc]
    exact ho.keep fun k hk => heap_setCell_other w8 ⟨g, 1, none⟩ k v8 (ho.ne_row hr8 (by decide) k hk)
  · exact hnum8.keep fun k hk => heap_setCell_other w8 ⟨g, 1, none⟩ k v8 (hnum8.ne_row hr8 (by decide) k hk)
  · refine hcs8'.keep fun k hk => heap_setCell_other w8 ⟨g, 1, none⟩ k v8 fun e => ?_
    have e : k = g := e
    subst e
    rw [fts_snoc, hft] at hk
    rcases List.mem_append.1 hk with hk | hk
    · exact h.g_fts hk
    · simp at hk; omega
  · refine (((hq2.more (by simp)).trans hm.1 (F1 := rfoot g vl vn X) fun k hk => .inl (mem_rfoot.2 (.inr (.inl hk))))).setCell (.inl (mem_rfoot.2 (.inl rfl))) _
  · rcases hk with hk | hk
    · rcases hm.2 with e | e
      · rw [e] at hk; exact .inl (mem_rfoot.2 (.inr (.inl hk)))
      · rw [e] at hk; simp at hk; right; omega
    · rw [fts_snoc, hft] at hk
      rcases List.mem_append.1 hk with hk | hk
      · exact .inl (mem_rfoot.2 (.inr (.inr (.inr hk))))
      · simp at hk; right; omega
theorem rconn2 {w w1 wx w2 : World} {g m : Nat} {vl vn v8 v9 v0 : Value} {X X' : List Cb} {R : List Rn} {S : Nt} {p a : Int} (h : RefF w g vl vn X R S m) (hM : RMid w w1 g m vl vn X R S p v8 X')
    (ho : Own w2 3 v9 (iv (lineN S.first (S.L.length - S.first)) ++ [.int .i64 (S.L.length : Nat)])) (hm : Mods v0.ownBlock.toList wx w2 ∧ (v9.ownBlock = v0.ownBlock ∨ v9.ownBlock = some wx.heap.size)) (hv0 : vn = v0) (hX : Mods [] w1 wx)
    (hp1 : 0 ≤ p) (hp2 : p ≤ 255) (hl : S.L.length < 65536) (ha : a = (S.L.length : Nat) + 1) :
    Row w2 g 42 #[.int .i64 S.back, v8, vn, .int .i64 S.fail, .bool S.stop, .int .i64 (S.L.length : Nat)] ∧ ∀ w9, w9 = (w2.setCell ⟨g, 2, none⟩ v9).setCell ⟨g, 5, none⟩ (.int .i64 a) → RefTo w w9 g (rfoot g vl vn X) { S with L := S.L ++ [Cn.new p] } m := by
  subst ha hv0
  have n1 := h.ok.n1
  have hng : ∀ k ∈ vn.ownBlock.toList, k ≠ g := h.num.ne_row h.row (by decide)
  have hr2 : Row w2 g _ _ := (hM.row.mods hX (by simp)).mods hm.1 fun hk => hng _ hk rfl
  have hp2' : Own w2 90 v8 (pv X') := (hM.ptr.mods hX (by simp)).mods hm.1 fun k hk hk2 => hM.ptr.ne hM.num (by decide) k hk hk2
  have hc2 : Cs KR w2 X' (R ++ [rnew p]) := (hM.cs.mods hX (by simp)).mods hm.1 fun k hk hk2 => hM.cs.slice hM.num (by decide) (by decide) k hk2 hk
  have hg2 : g ∉ fts X' := hc2.row hr2 (by decide) (by decide)
  have far : ∀ (k : Nat) (u z : Value), k ≠ g → ((w2.setCell ⟨g, 2, none⟩ u).setCell ⟨g, 5, none⟩ z).heap[k]? = w2.heap[k]? := fun k u z hk =>
    (heap_setCell_other _ ⟨g, 5, none⟩ k z hk).trans (heap_setCell_other w2 ⟨g, 2, none⟩ k u hk)
  refine ⟨hr2, fun w9 e9 => ?_⟩
  subst e9
  have hXs := hX.size
  have hMs := hM.mods.size
  refine ⟨rfoot g v8 v9 X', ⟨v8, v9, X', R ++ [rnew p], rfl, ⟨?_, ?_, ?_, ?_, ?_, fun i r hi => ?_, ?_⟩⟩, ?_, fun k hk => ?_⟩
  · have := (hr2.set 2 v9).set 5 (.int .i64 ((S.L.length : Nat) + 1))
    rw [List.length_append]
    simpa using this
  · exact hp2'.keep fun k hk => far k _ _ (hp2'.ne_row hr2 (by decide) k hk)
  · have e : iv (lineN S.first (S.L.length - S.first)) ++ [.int .i64 (S.L.length : Nat)] = iv (lineN S.first ((S.L ++ [Cn.new p]).length - S.first)) := by
      rw [show (S.L ++ [Cn.new p]).length - S.first = (S.L.length - S.first) + 1 by simp; omega, ← lineN_snoc, show S.first + (S.L.length - S.first) = S.L.length by omega]
      simp [iv]
    rw [e] at ho
    exact ho.keep fun k hk => far k _ _ (ho.ne_row hr2 (by decide) k hk)
  · exact hc2.keep fun k hk => far k _ _ fun e => hg2 (by rw [← e]; exact hk)
  · rw [List.map_append, h.ag]; rfl
  · by_cases hi2 : i < R.length
    · rw [List.getElem?_append_left hi2] at hi
      exact h.st i r hi
    · rw [List.getElem?_append_right (by omega)] at hi
      have hlen : R.length = S.L.length := by rw [← h.ag, List.length_map]
      have := List.mem_of_getElem? hi
      simp at this
      subst this
      exact ⟨by simp [rnew]; omega, fun _ => rfl, fun _ => by simp [rnew]; omega⟩
  · refine ⟨h.ok.b1, h.ok.b2, h.ok.f1, h.ok.f2, by simp; omega, by simp; omega, fun s hs => ?_, fun i s hi hop => ?_, h.ok.mm⟩
    · rcases List.mem_append.1 hs with hs | hs
      · exact h.ok.cn s hs
      · simp at hs; subst hs; simp [Cn.new]; omega
    · by_cases hi2 : i < S.L.length
      · rw [List.getElem?_append_left hi2] at hi
        exact h.ok.op i s hi hop
      · rw [List.getElem?_append_right (by omega)] at hi
        have := List.mem_of_getElem? hi
        simp at this; subst this
        simp [Cn.new] at hop
  · refine ((((hM.mods.trans hX (by simp)).trans hm.1 (fun k hk => .inl (mem_rfoot.2 (.inr (.inr (.inl hk))))))).setCell (.inl (mem_rfoot.2 (.inl rfl))) _).setCell (.inl (mem_rfoot.2 (.inl rfl))) _
  · rcases mem_rfoot.1 hk with h1 | h1 | h1 | h1
    · exact .inl (mem_rfoot.2 (.inl h1))
    · exact hM.sub k (.inl h1)
    · rcases hm.2 with e | e
      · rw [e] at h1; exact .inl (mem_rfoot.2 (.inr (.inr (.inl h1))))
      · rw [e] at h1; simp at h1; right; omega
    · exact hM.sub k (.inr h1)
end Go.Proofs.Ytogcfeplfclobaa
