/- Plain mathematics for a poller beside the document's: what is ready has a mark. No text of the program. -/
import Derived.Test.YthaapkafamdhcaaDoorMgE
import Derived.Test.YthaapkafamdhcaaDoorNa
import Derived.Test.YthaapkafamdhcaaDoorMgN
import Derived.Test.YthaapkafamdhcaaDoorMgH
import Derived.Carry
import Derived.BigQuiet
import Derived.Test.YthaapkafamdhcaaDoorMgG
import Derived.StillTailTactics
namespace Go.Proofs.YthaapkafamdhcaaDoor
set_option linter.unusedVariables false
set_option linter.unusedSimpArgs false

/-- What is ready of it has a mark. -/
def Cn.Gd (s : Cn) : Prop := ((0 < s.inn.length ∨ s.hlv = true ∨ s.brk = true) → 1 ≤ s.mr) ∧ ((0 < s.win ∨ s.brk = true) → 1 ≤ s.mw)
/-- Of all that are open, or wait, what is ready has a mark. -/
def Nt.Mk (S : Nt) : Prop := ∀ (i : Nat) (s : Cn), S.L[i]? = some s → (s.opn = true ∨ S.first ≤ i) → s.Gd
section
variable {S : Nt} {c : Int} {s : Cn}
theorem Nt.Mk.new (b : Int) : (Nt.new b).Mk := fun i s h => by simp [Nt.new] at h
theorem Nt.Mk.upd (h : S.Mk) {s s' : Cn} (hs : S.at? c = some s) (h1 : s.Gd → s'.Gd) (h2 : s'.opn = true → s.opn = true ∨ s'.Gd) : (S.upd c s').Mk := by
  obtain ⟨j, rfl, hj, hl⟩ := Nt.at_some hs
  intro i x hx ho
  simp only [Nt.upd, Int.toNat_natCast, List.getElem?_set] at hx ho
  by_cases e : j = i
  · subst e
    rw [if_pos rfl, if_pos hl] at hx
    obtain rfl := Option.some.inj hx
    rcases ho with ho | ho
    · rcases h2 ho with h3 | h3
      · exact h1 (h j s hj (.inl h3))
      · exact h3
    · exact h1 (h j s hj (.inr ho))
  · rw [if_neg e] at hx
    exact h i x hx ho
theorem Nt.at_of_e1 (h : S.e1 c = 0) : ∃ s, S.at? c = some s ∧ S.get c = s ∧ s.brk = false := by
  unfold Nt.e1 at h
  cases hs : S.at? c with
  | none => rw [hs] at h; cases h
  | some s =>
    rw [hs] at h
    refine ⟨s, rfl, Nt.get_some hs, ?_⟩
    cases hb : s.brk with
    | false => rfl
    | true => simp [hb] at h
theorem Nt.at_of_e2 (h : S.e2 c = 0) : ∃ s, S.at? c = some s ∧ S.get c = s := by
  unfold Nt.e2 at h
  cases hs : S.at? c with
  | none => rw [hs] at h; cases h
  | some s => exact ⟨s, rfl, Nt.get_some hs⟩
theorem Nt.Mk.conn (h : S.Mk) (p : Int) : (S.conn p).Mk := by
  unfold Nt.conn
  split
  · intro i x hx ho
    simp only [List.getElem?_append] at hx
    split at hx
    · exact h i x hx ho
    · have : x = Cn.new p := by
        rename_i hi
        rcases Nat.eq_zero_or_pos (i - S.L.length) with e | e
        · rw [e] at hx; exact (Option.some.inj hx).symm
        · rw [List.getElem?_eq_none (by simp; omega)] at hx; cases hx
      subst this
      simp [Cn.Gd, Cn.new]
  · exact h
theorem Nt.Mk.send (h : S.Mk) (c : Int) (l : List Int) : (S.send c l).Mk := by
  unfold Nt.send
  split
  · rename_i he
    have he1 : S.e1 c = 0 := by
      unfold Nt.sendE at he
      split at he
      · assumption
      · exact he
    obtain ⟨s, h1, h2, h3⟩ := Nt.at_of_e1 he1
    rw [h2]
    refine h.upd h1 (fun hg => ?_) (fun ho => .inl ho)
    refine ⟨fun hh => ?_, hg.2⟩
    show 1 ≤ s.mr + _
    by_cases hlt : s.inn.length < (fill s.inn l).length
    · rw [if_pos hlt]; omega
    · rw [if_neg hlt, Nat.add_zero]
      refine hg.1 ?_
      rcases hh with hh | hh
      · left
        have : 0 < (fill s.inn l).length := hh
        omega
      · exact .inr hh
  · exact h
theorem Nt.Mk.half (h : S.Mk) (c : Int) : (S.half c).Mk := by
  unfold Nt.half
  split
  · rename_i he
    obtain ⟨s, h1, h2, h3⟩ := Nt.at_of_e1 he
    rw [h2]
    refine h.upd h1 (fun hg => ⟨fun hh => ?_, hg.2⟩) (fun ho => .inl ho)
    show 1 ≤ s.mr + _
    cases hv : s.hlv with
    | false => simp
    | true => have := hg.1 (.inr (.inl hv)); simp; omega
  · exact h
theorem Nt.Mk.reset (h : S.Mk) (c : Int) : (S.reset c).Mk := by
  unfold Nt.reset
  split
  · rename_i he
    obtain ⟨s, h1, h2, h3⟩ := Nt.at_of_e1 he
    rw [h2]
    exact h.upd h1 (fun hg => ⟨fun _ => Nat.le_add_left _ _, fun _ => Nat.le_add_left _ _⟩) (fun ho => .inl ho)
  · exact h
theorem Nt.Mk.open_ (h : S.Mk) (c n : Int) : (S.open_ c n).Mk := by
  unfold Nt.open_
  split
  · rename_i he
    have he1 : S.e1 c = 0 ∧ 0 ≤ n := by
      unfold Nt.openE at he
      split at he
      · cases he
      · exact ⟨he, by omega⟩
    obtain ⟨s, h1, h2, h3⟩ := Nt.at_of_e1 he1.1
    rw [h2]
    refine h.upd h1 (fun hg => ⟨hg.1, fun hh => ?_⟩) (fun ho => .inl ho)
    show 1 ≤ s.mw + _
    by_cases hn : 0 < n
    · rw [if_pos hn]; omega
    · rw [if_neg hn, Nat.add_zero]
      refine hg.2 ?_
      rcases hh with hh | hh
      · left
        have hh : 0 < s.win + min n (1099511627776 - s.win) := hh
        omega
      · exact .inr hh
  · exact h
theorem Nt.Mk.acc {m : Nat} (h : S.Mk) (ok : S.Ok m) : S.acc.Mk := by
  unfold Nt.acc
  split
  · rename_i he
    intro i x hx ho
    simp only [List.getElem?_set] at hx
    by_cases e : S.first = i
    · subst e
      rw [if_pos rfl] at hx
      split at hx
      · rename_i hl
        obtain rfl := Option.some.inj hx
        have hs : S.at? (S.first : Int) = some S.L[S.first] := by rw [Nt.at_nat]; exact List.getElem?_eq_getElem hl
        have := h S.first S.L[S.first] (List.getElem?_eq_getElem hl) (.inr (Nat.le_refl _))
        rw [Nt.get_some hs]
        exact this
      · cases hx
    · rw [if_neg e] at hx
      refine h i x hx ?_
      rcases ho with ho | ho
      · exact .inl ho
      · right
        have : S.first + 1 ≤ i := ho
        omega
  · split
    · exact h
    · exact h
theorem Nt.Mk.read (h : S.Mk) (c m : Int) : (S.read c m).Mk := by
  unfold Nt.read
  split
  · rename_i he
    have he2 : S.e2 c = 0 := by
      unfold Nt.readE at he
      split at he
      · cases he
      · split at he
        · assumption
        · exact he
    obtain ⟨s, h1, h2⟩ := Nt.at_of_e2 he2
    rw [h2]
    refine h.upd h1 (fun hg => ⟨fun hh => hg.1 ?_, hg.2⟩) (fun ho => .inl ho)
    rcases hh with hh | hh
    · left
      have hh : 0 < (s.inn.drop m.toNat).length := hh
      rw [List.length_drop] at hh
      omega
    · exact .inr hh
  · exact h
theorem Nt.Mk.write {m : Nat} (h : S.Mk) (c : Int) (l : List Int) : (S.write c l).Mk := by
  unfold Nt.write
  split
  · rename_i he
    have he2 : S.e2 c = 0 := by
      unfold Nt.writeE at he
      split at he
      · assumption
      · exact he
    obtain ⟨s, h1, h2⟩ := Nt.at_of_e2 he2
    rw [h2]
    refine h.upd h1 (fun hg => ⟨hg.1, fun hh => hg.2 ?_⟩) (fun ho => .inl ho)
    rcases hh with hh | hh
    · left
      have hh : 0 < s.win - ((l.take (S.writeK c l)).length : Int) := hh
      omega
    · exact .inr hh
  · exact h
theorem Nt.Mk.shut (h : S.Mk) (c : Int) : (S.shut c).Mk := by
  unfold Nt.shut
  split
  · rename_i he
    obtain ⟨s, h1, h2⟩ := Nt.at_of_e2 he
    rw [h2]
    exact h.upd h1 (fun hg => hg) (fun ho => .inl ho)
  · exact h
theorem Nt.Mk.close1 (h : S.Mk) (c : Int) : (S.close1 c).Mk := by
  unfold Nt.close1
  split
  · rename_i he
    cases hs : S.at? c with
    | none => unfold Nt.isO at he; rw [Nt.get_none hs] at he; cases he
    | some s =>
      rw [Nt.get_some hs]
      refine h.upd hs (fun hg => ⟨fun hh => hg.1 ?_, hg.2⟩) (fun ho => by cases ho)
      rcases hh with hh | hh
      · exact absurd hh (by simp)
      · exact .inr hh
  · exact h
theorem Nt.Mk.close (h : S.Mk) (l : List Int) : (S.close l).Mk := by
  unfold Nt.close
  induction l generalizing S with
  | nil => exact h
  | cons c l ih => exact ih (h.close1 c)
theorem Nt.Mk.stopped {m : Nat} (h : S.Mk) (ok : S.Ok m) : S.stopped.Mk := by
  intro i x hx ho
  have hn := ok.n1
  simp only [Nt.stopped, List.getElem?_append, List.length_take, Nat.min_eq_left hn] at hx ho
  split at hx
  · rename_i hi
    rw [List.getElem?_take] at hx
    rw [if_pos hi] at hx
    rcases ho with ho | ho
    · exact h i x hx (.inl ho)
    · omega
  · rename_i hi
    rw [List.getElem?_map, List.getElem?_drop] at hx
    obtain ⟨s, hs, rfl⟩ := Option.map_eq_some_iff.1 hx
    rcases ho with ho | ho
    · have := ok.op _ s hs ho
      omega
    · have hl := (List.getElem?_eq_some_iff.1 hs).1
      omega
/-- What is ready has a mark. -/
theorem Nt.Mk.readyR (h : S.Mk) (hr : S.readyR c = true) : 1 ≤ S.markR c := by
  unfold Nt.readyR at hr
  unfold Nt.markR
  split
  · rename_i hc
    rw [if_pos hc] at hr
    have := of_decide_eq_true hr
    unfold Nt.wait at this
    omega
  · rename_i hc
    rw [if_neg hc] at hr
    split at hr
    · rename_i ho
      cases hs : S.at? c with
      | none => unfold Nt.isO at ho; rw [Nt.get_none hs] at ho; cases ho
      | some s =>
        obtain ⟨i, rfl, hi, _⟩ := Nt.at_some hs
        unfold Nt.isO at ho
        rw [Nt.get_some hs] at ho hr ⊢
        have hg := h i s hi (.inl ho)
        have := hg.1 (by
          simp only [Bool.or_eq_true, decide_eq_true_eq] at hr
          rcases hr with (hr | hr) | hr
          · exact .inl hr
          · exact .inr (.inl hr)
          · exact .inr (.inr hr))
        omega
    · cases hr
theorem Nt.Mk.readyW (h : S.Mk) (hr : S.readyW c = true) : 1 ≤ S.markW c := by
  unfold Nt.readyW at hr
  unfold Nt.markW
  split
  · rename_i hc
    rw [if_pos hc] at hr
    cases hr
  · rename_i hc
    rw [if_neg hc] at hr
    split at hr
    · rename_i ho
      cases hs : S.at? c with
      | none => unfold Nt.isO at ho; rw [Nt.get_none hs] at ho; cases ho
      | some s =>
        obtain ⟨i, rfl, hi, _⟩ := Nt.at_some hs
        unfold Nt.isO at ho
        rw [Nt.get_some hs] at ho hr ⊢
        have hg := h i s hi (.inl ho)
        have := hg.2 (by
          simp only [Bool.or_eq_true, Bool.and_eq_true, decide_eq_true_eq] at hr
          rcases hr with hr | hr
          · exact .inl hr.1
          · exact .inr hr)
        omega
    · cases hr
end
/-- When the document says that a mark was told last: -1, never. -/
def tldZ (t : Nat) : Int := if t = 0 then -1 else t
theorem tldZ_lt {t m : Nat} (h : 1 ≤ m) : decide (tldZ t < (m : Int)) = decide (t < m) := by
  unfold tldZ
  split
  · rw [decide_eq_true (by omega), decide_eq_true (by omega)]
  · by_cases h2 : t < m
    · rw [decide_eq_true h2, decide_eq_true (by omega)]
    · rw [decide_eq_false h2, decide_eq_false (by omega)]
#print axioms Nt.Mk.readyW
end Go.Proofs.YthaapkafamdhcaaDoor

/- Maps from numbers to pointers in memory. No text of the program. -/
namespace Go.Proofs.YthaapkafamdhcaaDoor
open Go.RowKit Go.ChangeMaps Go.MapKept
open Go.Maps (Keyed)
set_option linter.unusedVariables false
set_option linter.unusedSimpArgs false

/-- How a pointer to the head of a block reads. -/
def ptrElem : Value → Option (DataW Unit × List MemPlace)
  | .pointer none => some (.lit (.int .i64 (-1)), [])
  | .pointer (some ⟨b, 0, none⟩) => some (.lit (.int .i64 (b : Int)), [])
  | _ => none
def ptrV (o : Option Nat) : Value := .pointer (o.map fun b => ⟨b, 0, none⟩)
def ptrD (o : Option Nat) : DataW Unit := .lit (.int .i64 (match o with | none => -1 | some b => (b : Int)))
theorem ptrElem_mk (o : Option Nat) : ptrElem (ptrV o) = some (ptrD o, []) := by cases o <;> rfl
theorem ptrElem_inv {v : Value} {o : Option Nat} {ps : List MemPlace} (h : ptrElem v = some (ptrD o, ps)) : v = ptrV o := by
  unfold ptrElem at h
  split at h
  · cases o with
    | none => rfl
    | some b => simp [ptrD] at h
  · rename_i b
    cases o with
    | none => simp [ptrD] at h
    | some c => simp [ptrD] at h; obtain ⟨h, -⟩ := h; obtain rfl : b = c := by omega
                rfl
  · cases h
section
variable {w w' : World} {b n : Nat}
/-- Block b is a map from numbers to pointers, of at most n entries. -/
def PMap (w : World) (b n : Nat) (f : Int → Option Nat) : Prop := ∃ D : DataW Unit, w.ownsMap Tryd.prog 3 ptrElem b n D ∧ ∀ a, D.atKey (.int .i64 a) (ptrD none) = ptrD (f a)
theorem PMap.keep {f : Int → Option Nat} (h : PMap w b n f) (e : w'.heap[b]? = w.heap[b]?) : PMap w' b n f := by
  obtain ⟨D, h1, h2⟩ := h
  exact ⟨D, ownsMap_keep h1 e, h2⟩
theorem PMap.lt {f : Int → Option Nat} (h : PMap w b n f) : b < w.heap.size := by obtain ⟨D, h1, h2⟩ := h; exact h1.lt
theorem PMap.mono {f : Int → Option Nat} (h : PMap w b n f) {m : Nat} (hm : n ≤ m) : PMap w b m f := by obtain ⟨D, h1, h2⟩ := h; exact ⟨D, h1.mono hm, h2⟩
theorem PMap.same {f g : Int → Option Nat} (h : PMap w b n f) (e : ∀ a, f a = g a) : PMap w b n g := by obtain ⟨D, h1, h2⟩ := h; exact ⟨D, h1, fun a => (h2 a).trans (by rw [e a])⟩
theorem PMap.made (w : World) : PMap (w.alloc (.map #[] 0)) w.heap.size 0 fun _ => none := ⟨_, World.ownsMap_made w _ _ _, fun a => rfl⟩
theorem PMap.look {f : Int → Option Nat} (h : PMap w b n f) {a : Int} (ha : -9223372036854775808 ≤ a ∧ a ≤ 9223372036854775807) : (Instr.lookup 58 (.map (some b)) (.int .i64 a) false).run Tryd.prog w = .ok (ptrV (f a)) w := by
  obtain ⟨D, h1, h2⟩ := h
  obtain ⟨v, ps, hr, hv⟩ := h1.lookup kint Tryd.underlying58 (z := .pointer none) (by kernel_rfl) (ptrElem_mk none) (key_int ha)
  rw [h2] at hv
  rw [hr, ptrElem_inv hv]
theorem PMap.put {f : Int → Option Nat} (h : PMap w b n f) (hn : n < maxLen) {a : Int} (ha : -9223372036854775808 ≤ a ∧ a ≤ 9223372036854775807) (k : Nat) : ∃ w', (Instr.mapUpdate 58 (.map (some b)) (.int .i64 a) (.pointer (some ⟨k, 0, none⟩))).run Tryd.prog w = .ok () w' ∧ PMap w' b (n + 1) (fun z => if z = a then some k else f z) ∧ Mods [b] w w' := by
  obtain ⟨D, h1, h2⟩ := h
  obtain ⟨w', hr, h3, h4⟩ := h1.store kint Tryd.underlying58 hn (key_int ha) (ptrElem_mk (some k))
  refine ⟨w', hr, ⟨_, h3, fun z => ?_⟩, Mods.turned h4⟩
  show (D.put (.int .i64 a) (ptrD (some k))).atKey (.int .i64 z) (ptrD none) = ptrD (if z = a then some k else f z)
  by_cases e : z = a
  · subst e
    rw [if_pos rfl, Maps.atKey_put_same h1.isMap lit_key]
  · rw [if_neg e, ← h2, Maps.atKey_put_other (lit_ne e)]
end
#print axioms PMap.put
end Go.Proofs.YthaapkafamdhcaaDoor

/- The reference's poller in memory, over the same plain poller; what New answers. -/
namespace Go.Proofs.YthaapkafamdhcaaDoor
open Go.RowKit
set_option maxRecDepth 10000
set_option linter.unusedVariables false
set_option linter.unusedSimpArgs false

/-- A watch of the reference's. -/
def rwc (c : Int) (x : Wch) : List Value := [.int .i64 c, .bool x.rd, .bool x.wr, .bool x.eg, .int .i64 (tldZ x.tr), .int .i64 (tldZ x.tw)]
theorem eql_rnet (p : Option Addr) (w : World) : (binOp .eql 31 (.pointer p) (.pointer none)).run Tryd.prog w = .ok (.bool p.isNone) w :=
  run_eql_pointer_nil _ _ _ (by kernel_rfl)
/-- The reference's poller behind pointer p: its parts lie apart. K: how often a slot was used at most. -/
structure RolF (w : World) (x : Ft) (p g h mb : Nat) (bs : List Nat) (P : Plr) (m K : Nat) : Prop where
  row : Row w p 60 #[.pointer (some ⟨g, 0, none⟩), .pointer (some ⟨h, 0, none⟩), .map (some mb)]
  net : RefA w g (x.c 0) P.net m
  slb : SlabB w h (x.c 1) P.sl K
  map : PMap w mb K fun a => if a < 0 then none else bs[a.toNat]?
  ws : ∀ i b, bs[i]? = some b → Row w b 117 (rwc (P.id i) (P.wch i)).toArray
  len : bs.length = P.ws.length
  nod : bs.Nodup
  c2 : x.c 2 = bs
  c3 : x.c 3 = [mb]
  c4 : x.c 4 = [p]
  apt : x.Apart
  ok : P.Ok K
  mks : P.net.Mk
def RolA (w : World) (p g : Nat) (F : List Nat) (P : Plr) (m K : Nat) : Prop := ∃ x h mb bs, F = x.all ∧ RolF w x p g h mb bs P m K
/-- What a call leaves. -/
def RolTo (w w' : World) (p g : Nat) (F : List Nat) (P : Plr) (m K : Nat) : Prop := ∃ F', RolA w' p g F' P m K ∧ Mods F w w' ∧ ∀ k ∈ F', k ∈ F ∨ w.heap.size ≤ k
section
variable {w w' w1 : World} {x : Ft} {p g h mb m K m' K' : Nat} {bs : List Nat} {P P' : Plr} {F G : List Nat} {i j : Fin 5} {l : List Nat}
theorem RolF.lt (H : RolF w x p g h mb bs P m K) : ∀ i, ∀ k ∈ x.c i, k < w.heap.size := by
  intro i k hk
  match i, hk with
  | 0, hk => exact H.net.lt k hk
  | 1, hk => exact slabB_lt H.slb k hk
  | 2, hk =>
    rw [H.c2] at hk
    obtain ⟨i, hi⟩ := List.getElem?_of_mem hk
    exact (H.ws i k hi).lt
  | 3, hk => rw [H.c3] at hk; simp at hk; rw [hk]; exact H.map.lt
  | 4, hk => rw [H.c4] at hk; simp at hk; rw [hk]; exact H.row.lt
theorem RolF.keep (H : RolF w x p g h mb bs P m K) (e : ∀ i, ∀ k ∈ x.c i, w'.heap[k]? = w.heap[k]?) : RolF w' x p g h mb bs P m K :=
  ⟨H.row.keep (e 4 p (by rw [H.c4]; simp)), H.net.keep (e 0), slabB_keep H.slb (e 1), H.map.keep (e 3 mb (by rw [H.c3]; simp)), fun i b hb => (H.ws i b hb).keep (e 2 b (by rw [H.c2]; exact List.mem_of_getElem? hb)), H.len, H.nod, H.c2, H.c3, H.c4, H.apt, H.ok, H.mks⟩
theorem RolF.mods (H : RolF w x p g h mb bs P m K) (hm : Mods G w w') (hd : ∀ k ∈ x.all, k ∉ G) : RolF w' x p g h mb bs P m K :=
  H.keep fun i k hk => hm.block k (H.lt i k hk) (hd k (x.sub i k hk))
theorem RolF.quiet (H : RolF w x p g h mb bs P m K) (hm : Mods [] w w') : RolF w' x p g h mb bs P m K := H.mods hm (by simp)
/-- While part i turns the others stay. -/
theorem RolF.stay (H : RolF w x p g h mb bs P m K) (hm : Mods (x.c i) w w') (hij : j ≠ i) : ∀ k ∈ x.c j, w'.heap[k]? = w.heap[k]? := fun k hk => hm.block k (H.lt j k hk) fun hk2 => H.apt j i hij k hk hk2
theorem RolA.lt (H : RolA w p g F P m K) : ∀ k ∈ F, k < w.heap.size := by
  obtain ⟨x, h, mb, bs, rfl, H⟩ := H
  intro k hk
  obtain ⟨i, hi⟩ := Ft.mem_all.1 hk
  exact H.lt i k hi
theorem RolA.mods (H : RolA w p g F P m K) (hm : Mods G w w') (hd : ∀ k ∈ F, k ∉ G) : RolA w' p g F P m K := by
  obtain ⟨x, h, mb, bs, rfl, H⟩ := H
  exact ⟨x, h, mb, bs, rfl, H.mods hm hd⟩
theorem RolA.quiet (H : RolA w p g F P m K) (hm : Mods [] w w') : RolA w' p g F P m K := H.mods hm (by simp)
theorem RolA.ok (H : RolA w p g F P m K) : P.Ok K := by obtain ⟨x, h, mb, bs, rfl, H⟩ := H; exact H.ok
theorem RolA.nok (H : RolA w p g F P m K) : P.net.Ok m := by obtain ⟨x, h, mb, bs, rfl, H⟩ := H; exact H.net.ok
theorem RolA.more (H : RolA w p g F P m K) (hm : m ≤ m') (hm' : m' ≤ 900000000) : RolA w p g F P m' K := by
  obtain ⟨x, h, mb, bs, rfl, H⟩ := H
  exact ⟨x, h, mb, bs, rfl, H.row, H.net.more hm hm', H.slb, H.map, H.ws, H.len, H.nod, H.c2, H.c3, H.c4, H.apt, H.ok, H.mks⟩
/-- The pointer to the net that is embedded. -/
theorem RolA.cell (H : RolA w p g F P m K) : w.cell? ⟨p, 0, none⟩ = some (.pointer (some ⟨g, 0, none⟩)) := by
  obtain ⟨x, h, mb, bs, rfl, H⟩ := H
  exact H.row.cell 0
theorem RolTo.same (H : RolA w p g F P m K) (hm : Mods [] w w') : RolTo w w' p g F P m K := ⟨F, H.quiet hm, hm.more (by simp), fun k hk => .inl hk⟩
theorem RolTo.quiet (H : RolTo w w1 p g F P m K) (hm : Mods [] w1 w') : RolTo w w' p g F P m K := by
  obtain ⟨F', h1, h2, h3⟩ := H
  exact ⟨F', h1.quiet hm, h2.trans hm (by simp), h3⟩
theorem RolTo.trans {F1 : List Nat} (hm : Mods F w w1) (hf : ∀ k ∈ F1, k ∈ F ∨ w.heap.size ≤ k) (H : RolTo w1 w' p g F1 P m K) : RolTo w w' p g F P m K := by
  obtain ⟨F', h1, h2, h3⟩ := H
  refine ⟨F', h1, hm.trans h2 hf, fun k hk => ?_⟩
  rcases h3 k hk with h | h
  · exact hf k h
  · exact .inr (Nat.le_trans hm.size h)
/-- The net has gone on. -/
theorem RolF.netTo {S : Nt} (H : RolF w x p g h mb bs P m K) (hn : RefTo w w' g (x.c 0) S m') (hmk : S.Mk) : RolTo w w' p g x.all { P with net := S } m' K := by
  obtain ⟨N, h1, h2, h3⟩ := hn
  refine ⟨(x.set 0 N).all, ⟨x.set 0 N, h, mb, bs, rfl, H.row.keep (H.stay h2 (j := 4) (by decide) p (by rw [H.c4]; simp)), ?_, ?_, H.map.keep (H.stay h2 (j := 3) (by decide) mb (by rw [H.c3]; simp)), fun i b hb => (H.ws i b hb).keep (H.stay h2 (j := 2) (by decide) b (by rw [H.c2]; exact List.mem_of_getElem? hb)), H.len, H.nod, ?_, ?_, ?_, H.apt.set H.lt h3, ⟨H.ok.len, H.ok.lim, H.ok.dis, H.ok.sl, H.ok.rng, H.ok.tld⟩, hmk⟩, h2.more fun k hk => .inl (x.sub 0 k hk), Ft.set_all h3⟩
  · rw [Ft.set_same]; exact h1
  · rw [Ft.set_ne _ _ (by decide)]; exact slabB_keep H.slb (H.stay h2 (by decide))
  · rw [Ft.set_ne _ _ (by decide)]; exact H.c2
  · rw [Ft.set_ne _ _ (by decide)]; exact H.c3
  · rw [Ft.set_ne _ _ (by decide)]; exact H.c4
/-- For a call on the net that is embedded. -/
theorem RolA.open_ (H : RolA w p g F P m K) : ∃ N, RefA w g N P.net m ∧ (∀ k ∈ N, k ∈ F) ∧ ∀ w' S m', S.Mk → RefTo w w' g N S m' → RolTo w w' p g F { P with net := S } m' K := by
  obtain ⟨x, h, mb, bs, rfl, H⟩ := H
  exact ⟨x.c 0, H.net, x.sub 0, fun w' S m' hk hn => H.netTo hn hk⟩
theorem RolA.mks (H : RolA w p g F P m K) : P.net.Mk := by obtain ⟨x, h, mb, bs, rfl, H⟩ := H; exact H.mks
end
theorem RolA.born {w w1 : World} {g m : Nat} {N : List Nat} {S : Nt} (h : RefA w g N S m) (hk : S.Mk) (hs : SlabB w1 w.heap.size [w.heap.size] ⟨4096, [], [], []⟩ 0) (hm : Mods [] w w1) (cs : Array Value)
    (hc : cs = #[.pointer (some ⟨g, 0, none⟩), .pointer (some ⟨w.heap.size, 0, none⟩), .map (some w1.heap.size)]) :
    ∃ F, RolA ((w1.alloc (.map #[] 0)).alloc (.cells cs 60)) (w1.heap.size + 1) g F (Plr.new S) m 0 ∧ Mods [] w ((w1.alloc (.map #[] 0)).alloc (.cells cs 60)) ∧ ∀ k ∈ F, k ∈ N ∨ w.heap.size ≤ k := by
  subst hc
  have hlt := slabB_lt hs w.heap.size (by simp)
  have hq : Mods [] w1 ((w1.alloc (.map #[] 0)).alloc (.cells #[.pointer (some ⟨g, 0, none⟩), .pointer (some ⟨w.heap.size, 0, none⟩), .map (some w1.heap.size)] 60)) := ((Mods.refl [] w1).alloc _).alloc _
  have hN := fun k hk => h.lt k hk
  refine ⟨_, ⟨⟨fun i => match i with | 0 => N | 1 => [w.heap.size] | 2 => [] | 3 => [w1.heap.size] | 4 => [w1.heap.size + 1]⟩, w.heap.size, w1.heap.size, [], rfl, ?_, ?_, ?_, ?_, ?_, rfl, List.nodup_nil, rfl, rfl, rfl, ?_, Plr.new_ok S, hk⟩, hm.trans hq (by simp), ?_⟩
  · have := Row.new (w1.alloc (.map #[] 0)) 60 #[.pointer (some ⟨g, 0, none⟩), .pointer (some ⟨w.heap.size, 0, none⟩), .map (some w1.heap.size)]
    simpa using this
  · exact h.quiet (hm.trans hq (by simp))
  · exact slabB_mods hs hq (by simp)
  · refine (PMap.same (PMap.made w1) fun a => ?_).keep ?_
    · simp
    · exact Below.heap_alloc (w1.alloc (.map #[] 0)) _ _ (by simp)
  · intro i b hb; simp at hb
  · intro i j hij k hi hj
    match i, j with
    | 0, 0 => exact hij rfl
    | 0, 1 => simp at hi hj; have := hN k hi; omega
    | 0, 2 => simp at hj
    | 0, 3 => simp at hi hj; have := hN k hi; omega
    | 0, 4 => simp at hi hj; have := hN k hi; omega
    | 1, 0 => simp at hi hj; have := hN k hj; omega
    | 1, 1 => exact hij rfl
    | 1, 2 => simp at hj
    | 1, 3 => simp at hi hj; omega
    | 1, 4 => simp at hi hj; omega
    | 2, _ => simp at hi
    | 3, 0 => simp at hi hj; have := hN k hj; omega
    | 3, 1 => simp at hi hj; omega
    | 3, 2 => simp at hj
    | 3, 3 => exact hij rfl
    | 3, 4 => simp at hi hj; omega
    | 4, 0 => simp at hi hj; have := hN k hj; omega
    | 4, 1 => simp at hi hj; omega
    | 4, 2 => simp at hj
    | 4, 3 => simp at hi hj; omega
    | 4, 4 => exact hij rfl
  · intro k hk
    simp only [Ft.all, List.mem_append, List.mem_cons, List.mem_nil_iff, or_false, false_or] at hk
    rcases hk with hk | hk | hk | hk
    · exact .inl hk
    · exact .inr (by omega)
    · exact .inr (by omega)
    · exact .inr (by omega)
set_option maxHeartbeats 1000000 in
theorem rlnew_any (w : World) (g m : Nat) (N : List Nat) (S : Nt) (h : RefA w g N S m) (hk : S.Mk) :
    Calls Tryd.prog 12 #[.pointer (some ⟨g, 0, none⟩)] w fun e w' => ∃ p, e = .returned (.tuple #[.pointer (some ⟨p, 0, none⟩), .int .i64 0]) ∧ Hid (∃ F, RolA w' p g F (Plr.new S) m 0 ∧ Mods [] w w' ∧ ∀ k ∈ F, k ∈ N ∨ w.heap.size ≤ k) := by
  have hnn := eql_rnet
  have hmm := @run_makeMap Tryd.prog
  have HH := Lib.hid h
  clear h
  go_enter Tryd.func12, Tryd.ntmps12
  go_wp2_with fail
  refine (rsnew_any 4096 w (by omega) (by omega)).mono ?_
  rintro e w1 ⟨rfl, hs, hm⟩
  have H1 := Lib.hid (And.intro hs hm)
  clear hs hm
  go_wp2
  go_ret2
  exact ⟨_, rfl, Lib.hid (RolA.born HH.out hk H1.out.1 H1.out.2 _ rfl)⟩
#print axioms rlnew_any
end Go.Proofs.YthaapkafamdhcaaDoor

/- What Change of the reference's poller answers; one watch of it turns. -/
namespace Go.Proofs.YthaapkafamdhcaaDoor
open Go.RowKit
set_option maxRecDepth 10000
set_option linter.unusedVariables false
set_option linter.unusedSimpArgs false

section
variable {w w' w1 : World} {x : Ft} {p g h mb m K i b : Nat} {bs : List Nat} {P : Plr} {y : Wch} {F : List Nat}
theorem wch_set (P : Plr) {i : Nat} (hi : i < P.ws.length) (y : Wch) (j : Nat) : ({ P with ws := P.ws.set i y } : Plr).wch j = if i = j then y else P.wch j := by
  unfold Plr.wch
  simp only [List.getD_eq_getElem?_getD, List.getElem?_set]
  by_cases e : i = j
  · subst e; simp [hi]
  · simp [e]
/-- One watch has turned. -/
theorem RolF.wTo (H : RolF w x p g h mb bs P m K) (hb : bs[i]? = some b) (hr : Row w' b 117 (rwc (P.id i) y).toArray) (hm : Mods [b] w w') (ht : y.tr ≤ 900000000 ∧ y.tw ≤ 900000000) :
    RolF w' x p g h mb bs { P with ws := P.ws.set i y } m K ∧ Mods x.all w w' := by
  have hi : i < P.ws.length := by rw [← H.len]; exact (List.getElem?_eq_some_iff.1 hb).1
  have hbc : b ∈ x.c 2 := by rw [H.c2]; exact List.mem_of_getElem? hb
  have hm2 : Mods (x.c 2) w w' := hm.more (by simp [hbc])
  refine ⟨⟨H.row.keep (H.stay hm2 (j := 4) (by decide) p (by rw [H.c4]; simp)), ?_, slabB_keep H.slb (H.stay hm2 (by decide)), H.map.keep (H.stay hm2 (j := 3) (by decide) mb (by rw [H.c3]; simp)), fun j c hc => ?_, by rw [H.len]; simp, H.nod, H.c2, H.c3, H.c4, H.apt, ⟨by rw [← H.ok.len]; simp, H.ok.lim, H.ok.dis, H.ok.sl, H.ok.rng, fun z hz => ?_⟩, H.mks⟩, hm.more (by simp [x.sub 2 b hbc])⟩
  · exact H.net.keep (H.stay hm2 (by decide))
  · rw [wch_set P hi]
    by_cases e : i = j
    · subst e
      rw [hb] at hc
      obtain rfl := Option.some.inj hc
      rw [if_pos rfl]
      exact hr
    · rw [if_neg e]
      have hne : c ≠ b := by
        rintro rfl
        obtain ⟨h1l, h1e⟩ := List.getElem?_eq_some_iff.1 hb
        obtain ⟨h2l, h2e⟩ := List.getElem?_eq_some_iff.1 hc
        have hd := List.pairwise_iff_getElem.1 H.nod
        rcases Nat.lt_or_gt_of_ne e with h | h
        · exact hd i j h1l h2l h (h1e.trans h2e.symm)
        · exact hd j i h2l h1l h (h2e.trans h1e.symm)
      exact (H.ws j c hc).mods hm (by simpa using hne)
  · rcases mem_set_or hz with h | h
    · exact H.ok.tld z h
    · rw [h]; exact ht
theorem RolF.at_ (H : RolF w x p g h mb bs P m K) (hi : i < P.ws.length) : ∃ b, bs[i]? = some b := ⟨_, List.getElem?_eq_getElem (by rw [H.len]; exact hi)⟩
end
theorem rlchange_no (w : World) (p g m K : Nat) (F : List Nat) (P : Plr) (h : RolA w p g F P m K) (a b : Int) (r s : Bool) (ha : -9223372036854775808 ≤ a ∧ a ≤ 9223372036854775807) (hi : P.sl.is a b = false) :
    Calls Tryd.prog 30 #[.pointer (some ⟨p, 0, none⟩), .agg #[.int .i64 a, .int .i64 b], .bool r, .bool s] w fun e w' => e = .returned (.int .i64 10) ∧ Mods [] w w' := by
  obtain ⟨x, hs, mb, bs, rfl, H⟩ := h
  have c1 : (w.alloc (.cells #[.int .i64 a, .int .i64 b] 47)).cell? ⟨p, 1, none⟩ = some (.pointer (some ⟨hs, 0, none⟩)) := cell_alloc (H.row.cell 1) _
  have d0 : (w.alloc (.cells #[.int .i64 a, .int .i64 b] 47)).cell? ⟨w.heap.size, 0, none⟩ = some (.int .i64 a) := (Row.new w 47 #[.int .i64 a, .int .i64 b]).cell 0
  have d1 : (w.alloc (.cells #[.int .i64 a, .int .i64 b] 47)).cell? ⟨w.heap.size, 1, none⟩ = some (.int .i64 b) := (Row.new w 47 #[.int .i64 a, .int .i64 b]).cell 1
  have HH := Lib.hid H.slb
  have HI := Lib.hid hi
  have HB := Lib.hid ha
  clear H hi ha
  go_enter Tryd.func30, Tryd.ntmps30
  go_upto_region 1 with fail
  go_region_held3 (fun w' => w'.cell? ⟨p, 1, none⟩ = some (.pointer (some ⟨hs, 0, none⟩)) ∧ w'.cell? ⟨w.heap.size, 0, none⟩ = some (.int .i64 a) ∧ w'.cell? ⟨w.heap.size, 1, none⟩ = some (.int .i64 b)) (go_keep)
    ((go_at_call 68; refine Calls.mono (is_any _ hs a b (x.c 1) P.sl K HB.out.1 HB.out.2 (slabB_mods HH.out (((Mods.refl [] w).alloc _).same rfl rfl rfl rfl) (by simp))) ?_; rintro e w1 ⟨rfl, hd⟩; rw [HI.out]; have H1 := Lib.hid (of_drew hd); have c1' := cell_mods c1 (of_drew hd) (by simp); have d0' := cell_mods d0 (of_drew hd) (by simp); have d1' := cell_mods d1 (of_drew hd) (by simp); clear hd))
  all_goals go_wp2
  all_goals go_ret
  all_goals exact ⟨rfl, ((Mods.refl [] w).alloc _).trans H1.out (by simp)⟩
#print axioms rlchange_no
set_option maxHeartbeats 4000000 in
theorem rlchange_yes (w : World) (p g m K i : Nat) (F : List Nat) (P : Plr) (h : RolA w p g F P m K) (b : Int) (r s : Bool) (hi : P.sl.is i b = true) :
    Calls Tryd.prog 30 #[.pointer (some ⟨p, 0, none⟩), .agg #[.int .i64 i, .int .i64 b], .bool r, .bool s] w fun e w' => e = .returned (.int .i64 0) ∧ Hid (RolTo w w' p g F (P.change i b r s) m K) := by
  obtain ⟨x, hs, mb, bs, rfl, H⟩ := h
  obtain ⟨-, hlt, -, -⟩ := Slb.is_lt hi
  rw [Int.toNat_natCast] at hlt
  have hok := H.ok.sl
  have h4 := hok.len
  have h5 := hok.hi
  have hlw : i < P.ws.length := by rw [H.ok.len]; exact hlt
  obtain ⟨v, hv⟩ := H.at_ hlw
  have c1 : (w.alloc (.cells #[.int .i64 i, .int .i64 b] 47)).cell? ⟨p, 1, none⟩ = some (.pointer (some ⟨hs, 0, none⟩)) := cell_alloc (H.row.cell 1) _
  have c2 : (w.alloc (.cells #[.int .i64 i, .int .i64 b] 47)).cell? ⟨p, 2, none⟩ = some (.map (some mb)) := cell_alloc (H.row.cell 2) _
  have d0 : (w.alloc (.cells #[.int .i64 i, .int .i64 b] 47)).cell? ⟨w.heap.size, 0, none⟩ = some (.int .i64 i) := (Row.new w 47 #[.int .i64 i, .int .i64 b]).cell 0
  have d1 : (w.alloc (.cells #[.int .i64 i, .int .i64 b] 47)).cell? ⟨w.heap.size, 1, none⟩ = some (.int .i64 b) := (Row.new w 47 #[.int .i64 i, .int .i64 b]).cell 1
  have HH := Lib.hid H
  have HI := Lib.hid hi
  have HV := Lib.hid hv
  have HB := Lib.hid (show -9223372036854775808 ≤ (i : Int) ∧ (i : Int) ≤ 9223372036854775807 by omega)
  clear H hi hok h4 h5 hlt hlw hv
  go_enter Tryd.func30, Tryd.ntmps30
  go_upto_region 1 with fail
  go_region_held3 (fun w' => w'.cell? ⟨p, 1, none⟩ = some (.pointer (some ⟨hs, 0, none⟩)) ∧ w'.cell? ⟨w.heap.size, 0, none⟩ = some (.int .i64 i) ∧ w'.cell? ⟨w.heap.size, 1, none⟩ = some (.int .i64 b)) (go_keep)
    ((go_at_call 68; refine Calls.mono (is_any _ hs i b (x.c 1) P.sl K HB.out.1 HB.out.2 (slabB_mods HH.out.slb (((Mods.refl [] w).alloc _).same rfl rfl rfl rfl) (by simp))) ?_; rintro e w1 ⟨rfl, hd⟩; rw [HI.out]; have H1 := Lib.hid (of_drew hd); have c1' := cell_mods c1 (of_drew hd) (by simp); have d1' := cell_mods d1 (of_drew hd) (by simp); have c2' := cell_mods c2 (of_drew hd) (by simp); have d0' := cell_mods d0 (of_drew hd) (by simp); clear hd))
  all_goals clear c1 c2 d0 d1
  all_goals go_upto_region 3 with fail
  all_goals
    have HM := Lib.hid (((Mods.refl [] w).alloc _).trans H1.out (by simp))
    have HF := Lib.hid (HH.out.quiet HM.out)
    have hlk : (Instr.lookup 58 (.map (some mb)) (.int .i64 (i : Int)) false).run Tryd.prog w1 = .ok (.pointer (some ⟨v, 0, none⟩)) w1 := by
      have := HF.out.map.look HB.out
      rw [if_neg (by omega), Int.toNat_natCast, HV.out] at this
      exact this
    have hlkd : (Instr.lookup 58 (.map (some mb)) (.int .i64 (i : Int)) false).run Tryd.prog w1.drew = .ok (.pointer (some ⟨v, 0, none⟩)) w1.drew := by
      have := (HF.out.map.keep (w' := w1.drew) rfl).look HB.out
      rw [if_neg (by omega), Int.toNat_natCast, HV.out] at this
      exact this
    have HR := Lib.hid (HF.out.ws i v HV.out)
    go_region_held3 (fun w' => w'.cell? ⟨p, 2, none⟩ = some (.map (some mb)) ∧ w'.cell? ⟨w.heap.size, 0, none⟩ = some (.int .i64 i) ∧ (Instr.lookup 58 (.map (some mb)) (.int .i64 (i : Int)) false).run Tryd.prog w' = .ok (.pointer (some ⟨v, 0, none⟩)) w') (go_keep) (fail)
    have z0 : w1.cell? ⟨v, 0, none⟩ = some (.int .i64 (P.id i)) := HR.out.cell 0
    have z1 : w1.cell? ⟨v, 1, none⟩ = some (.bool (P.wch i).rd) := HR.out.cell 1
    have z2 : w1.cell? ⟨v, 2, none⟩ = some (.bool (P.wch i).wr) := HR.out.cell 2
    have z4 : w1.cell? ⟨v, 4, none⟩ = some (.int .i64 (tldZ (P.wch i).tr)) := HR.out.cell 4
    have z5 : w1.cell? ⟨v, 5, none⟩ = some (.int .i64 (tldZ (P.wch i).tw)) := HR.out.cell 5
    have y1 : w1.frozen? ⟨v, 1, none⟩ = false := HR.out.free 1
    have y2 : w1.frozen? ⟨v, 2, none⟩ = false := HR.out.free 2
    have y4 : w1.frozen? ⟨v, 4, none⟩ = false := HR.out.free 4
    have y5 : w1.frozen? ⟨v, 5, none⟩ = false := HR.out.free 5
    go_wp2_with fail
  all_goals go_ret
  all_goals
    refine ⟨rfl, Lib.hid ?_⟩
    have e : P.change i b r s = { P with ws := P.ws.set i ((P.wch i).asked r s) } := by unfold Plr.change; rw [if_pos HI.out]; rfl
    rw [e]
    have M4 : Mods [v] w1 ((((w1.setCell ⟨v, 1, none⟩ (.bool r)).setCell ⟨v, 2, none⟩ (.bool s)).setCell ⟨v, 4, none⟩ (.int .i64 (-1))).setCell ⟨v, 5, none⟩ (.int .i64 (-1))).drew := (((((Mods.refl [v] w1).setCell (.inl (by simp)) _).setCell (.inl (by simp)) _).setCell (.inl (by simp)) _).setCell (.inl (by simp)) _).drew
    have R3 : Row ((((w1.setCell ⟨v, 1, none⟩ (.bool r)).setCell ⟨v, 2, none⟩ (.bool s)).setCell ⟨v, 4, none⟩ (.int .i64 (-1))).setCell ⟨v, 5, none⟩ (.int .i64 (-1))) v 117 (rwc (P.id i) ((P.wch i).asked r s)).toArray := by
      have := (((HR.out.set 1 (.bool r)).set 2 (.bool s)).set 4 (.int .i64 (-1))).set 5 (.int .i64 (-1))
      simpa [rwc, Wch.asked, tldZ] using this
    have R4 : Row ((((w1.setCell ⟨v, 1, none⟩ (.bool r)).setCell ⟨v, 2, none⟩ (.bool s)).setCell ⟨v, 4, none⟩ (.int .i64 (-1))).setCell ⟨v, 5, none⟩ (.int .i64 (-1))).drew v 117 (rwc (P.id i) ((P.wch i).asked r s)).toArray := R3
    obtain ⟨q1, q2⟩ := HF.out.wTo HV.out R4 M4 (by simp [Wch.asked])
    exact ⟨x.all, ⟨x, hs, mb, bs, rfl, q1⟩, (HM.out.more (by simp)).trans q2 (fun k hk => .inl hk), fun k hk => .inl hk⟩
#print axioms rlchange_yes
end Go.Proofs.YthaapkafamdhcaaDoor

/- What Drop of the reference's poller answers; its slab turns. -/
namespace Go.Proofs.YthaapkafamdhcaaDoor
open Go.RowKit
set_option maxRecDepth 10000
set_option linter.unusedVariables false
set_option linter.unusedSimpArgs false

section
variable {w w' w1 : World} {x : Ft} {p g h mb m K : Nat} {bs : List Nat} {P : Plr}
theorem takes_vs (S : Slb) (l : List (Int × Int)) : (S.takes l).vs = S.vs := by
  unfold Slb.takes
  induction l generalizing S with
  | nil => rfl
  | cons y l ih => exact (ih (S.take1 y)).trans (Slb.take1_vs S y)
/-- Of the slab some have been taken. -/
theorem RolF.dropTo (H : RolF w x p g h mb bs P m K) (l : List (Int × Int)) (hs : SlabB w' h (x.c 1) (P.sl.takes l) K) (hm : Mods (x.c 1) w w') : RolF w' x p g h mb bs (P.drop l) m K ∧ Mods x.all w w' := by
  have hk := H.ok.drop l
  refine ⟨⟨H.row.keep (H.stay hm (j := 4) (by decide) p (by rw [H.c4]; simp)), H.net.keep (H.stay hm (by decide)), hs, H.map.keep (H.stay hm (j := 3) (by decide) mb (by rw [H.c3]; simp)), fun i b hb => ?_, H.len, H.nod, H.c2, H.c3, H.c4, H.apt, hk, H.mks⟩, hm.more fun k hk => .inl (x.sub 1 k hk)⟩
  have := (H.ws i b hb).keep (H.stay hm (j := 2) (by decide) b (by rw [H.c2]; exact List.mem_of_getElem? hb))
  have e : (P.drop l).id i = P.id i := by unfold Plr.id Plr.drop; simp only [takes_vs]
  rw [e]
  exact this
end
set_option maxHeartbeats 1000000 in
theorem rldrop_any (w : World) (p g m K hb cc : Nat) (F : List Nat) (P : Plr) (l : List (Int × Int)) (h : RolA w p g F P m K) (hl : l.length ≤ 1000) (hp : Pairs w hb l) (hbF : hb ∉ F) :
    Calls Tryd.prog 31 #[.pointer (some ⟨p, 0, none⟩), .slice (some ⟨hb, 0, none⟩) l.length cc] w fun e w' => e = .returned (.int .i64 (P.sl.taken l : Nat)) ∧ Hid (RolTo w w' p g F (P.drop l) m K) := by
  obtain ⟨x, hs, mb, bs, rfl, H⟩ := h
  have HH := Lib.hid H
  have HP := Lib.hid (And.intro hp (fun hk => hbF (x.sub 1 hb hk)))
  have c1 : w.cell? ⟨p, 1, none⟩ = some (.pointer (some ⟨hs, 0, none⟩)) := H.row.cell 1
  clear H hp hbF
  go_enter Tryd.func31, Tryd.ntmps31
  go_wp2_with fail
  refine (rtake_any w hs hb cc l (x.c 1) P.sl K HH.out.slb (by omega) HP.out.1 HP.out.2).mono ?_
  rintro e w1 ⟨rfl, h1, h2⟩
  have H1 := Lib.hid (HH.out.dropTo l h1 h2)
  clear h1 h2
  go_wp2
  go_ret
  exact ⟨rfl, Lib.hid ⟨x.all, ⟨x, hs, mb, bs, rfl, H1.out.1⟩, H1.out.2, fun k hk => .inl hk⟩⟩
#print axioms rldrop_any
end Go.Proofs.YthaapkafamdhcaaDoor

/- What Watch of the reference's poller answers where there is no such connection. -/
namespace Go.Proofs.YthaapkafamdhcaaDoor
open Go.RowKit
set_option maxRecDepth 10000
set_option linter.unusedVariables false
set_option linter.unusedSimpArgs false

set_option maxHeartbeats 1000000 in
theorem rlwatch_none (w : World) (p g m K : Nat) (F : List Nat) (P : Plr) (h : RolA w p g F P m K) (c : Int) (r s e : Bool) (hc : c ≠ -1) (ho : P.net.isO c = false) :
    Calls Tryd.prog 29 #[.pointer (some ⟨p, 0, none⟩), .int .i64 c, .bool r, .bool s, .bool e] w fun e' w' => e' = .returned (.tuple #[.agg #[.int .i64 0, .int .i64 0], .int .i64 2]) ∧ Mods [] w w' := by
  obtain ⟨x, hs, mb, bs, rfl, H⟩ := h
  obtain ⟨vl, vn, X, R, hX, N⟩ := H.net
  have c0 : w.cell? ⟨p, 0, none⟩ = some (.pointer (some ⟨g, 0, none⟩)) := H.row.cell 0
  obtain ⟨A, cc, rfl, -, -⟩ := N.slice
  have c1 := N.row.cell 1
  have hl := N.ok.n2
  by_cases h0 : c < 0
  · clear H N
    go_enter Tryd.func29, Tryd.ntmps29
    go_wp2
    exact ret_hand2 Tryd.results29 (Row.new w _ _) rfl rfl rfl ⟨rfl, (Mods.refl [] w).alloc _⟩
  · have a0 : (w.alloc (.cells #[.int .i64 0, .int .i64 0] 47)).cell? ⟨p, 0, none⟩ = some (.pointer (some ⟨g, 0, none⟩)) := cell_alloc c0 _
    have a1 : (w.alloc (.cells #[.int .i64 0, .int .i64 0] 47)).cell? ⟨g, 1, none⟩ = some (.slice A P.net.L.length cc) := cell_alloc c1 _
    have R1 := Lib.hid (Row.new w 47 #[.int .i64 0, .int .i64 0])
    have M1 := Lib.hid ((Mods.refl [] w).alloc (.cells #[.int .i64 0, .int .i64 0] 47))
    by_cases h1 : (P.net.L.length : Int) ≤ c
    · have hn0 : decide (c < 0) = false := by simp; omega
      have hn1 : decide ((P.net.L.length : Int) ≤ c) = true := by simpa using h1
      clear H N
      go_enter Tryd.func29, Tryd.ntmps29
      go_wp2
      first
        | exact ret_hand2 Tryd.results29 R1.out rfl rfl rfl ⟨rfl, M1.out⟩
        | exact ret_hand2 Tryd.results29 R1.out rfl rfl rfl ⟨rfl, M1.out.drew⟩
        | exact ret_hand2 Tryd.results29 R1.out rfl rfl rfl ⟨rfl, M1.out.drewN _⟩
    · obtain ⟨i, rfl⟩ : ∃ i : Nat, c = (i : Int) := ⟨c.toNat, by omega⟩
      have hi : i < P.net.L.length := by omega
      obtain ⟨y, q, hy, hq, hqs, hcn, hag⟩ := N.at_ (List.getElem?_eq_getElem hi)
      obtain ⟨pb, po, rfl, ci⟩ := N.cell hy
      have d2 := hcn.row.cell 2
      simp only [KR] at d2
      have hop : q.c.opn = false := by
        rw [hqs]
        unfold Nt.isO at ho
        rw [Nt.get_some (by rw [Nt.at_nat]; exact List.getElem?_eq_getElem hi)] at ho
        exact ho
      rw [hop] at d2
      have b0 : (w.alloc (.cells #[.int .i64 0, .int .i64 0] 47)).cell? ⟨pb, po + i, none⟩ = some (.pointer (some ⟨y.b, 0, none⟩)) := cell_alloc ci _
      have b2 : (w.alloc (.cells #[.int .i64 0, .int .i64 0] 47)).cell? ⟨y.b, 2, none⟩ = some (.bool false) := cell_alloc d2 _
      have hn0 : decide ((i : Int) < 0) = false := by simp
      have hn1 : decide ((P.net.L.length : Int) ≤ (i : Int)) = false := by simp; omega
      have hk2 : (i : Int) < (P.net.L.length : Int) := by omega
      clear H N hy hq hqs hcn hag d2 ci hop
      go_enter Tryd.func29, Tryd.ntmps29
      go_wp2
      first
        | exact ret_hand2 Tryd.results29 R1.out rfl rfl rfl ⟨rfl, M1.out⟩
        | exact ret_hand2 Tryd.results29 R1.out rfl rfl rfl ⟨rfl, M1.out.drew⟩
        | exact ret_hand2 Tryd.results29 R1.out rfl rfl rfl ⟨rfl, M1.out.drewN _⟩
#print axioms rlwatch_none
end Go.Proofs.YthaapkafamdhcaaDoor

/- What Watch of the reference's poller answers of one that is watched. -/
namespace Go.Proofs.YthaapkafamdhcaaDoor
open Go.RowKit
set_option maxRecDepth 10000
set_option linter.unusedVariables false
set_option linter.unusedSimpArgs false

theorem allTo_mem (S : Slb) {i k : Nat} (hk : i < k) (hu : S.us.getD i false = true) : ((i : Int), ((S.gs.getD i 0 : Nat) : Int)) ∈ S.allTo k := by
  induction k with
  | zero => omega
  | succ k ih =>
    simp only [Slb.allTo, List.mem_append]
    rcases Nat.lt_or_ge i k with h | h
    · exact .inl (ih h)
    · obtain rfl : i = k := by omega
      right
      rw [hu]
      simp
theorem all_mem (S : Slb) {i : Nat} (hu : S.us.getD i false = true) : ((i : Int), ((S.gs.getD i 0 : Nat) : Int)) ∈ S.all := allTo_mem S (getD_lt hu) hu
/-- It is there: the first check of Watch is passed. -/
theorem rl_row {w : World} {x : Ft} {p g h mb m K : Nat} {bs : List Nat} {P : Plr} {c : Int} (H : RolF w x p g h mb bs P m K) (ho : c = -1 ∨ P.net.isO c = true) : c = -1 ∨ ∃ (i pb po cc y : Nat), c = (i : Int) ∧ i < P.net.L.length ∧ w.cell? ⟨g, 1, none⟩ = some (.slice (some ⟨pb, po, none⟩) P.net.L.length cc) ∧ w.cell? ⟨pb, po + i, none⟩ = some (.pointer (some ⟨y, 0, none⟩)) ∧ w.cell? ⟨y, 2, none⟩ = some (.bool true) := by
  rcases ho with ho | ho
  · exact .inl ho
  · obtain ⟨vl, vn, X, R, hX, N⟩ := H.net
    cases hs : P.net.at? c with
    | none => unfold Nt.isO at ho; rw [Nt.get_none hs] at ho; cases ho
    | some s =>
      obtain ⟨i, rfl, h1, h2⟩ := Nt.at_some hs
      obtain ⟨y, q, hy, hq, hqs, hcn, hag⟩ := N.at_ h1
      obtain ⟨A, cc, rfl, -, -⟩ := N.slice
      obtain ⟨pb, po, rfl, ci⟩ := N.cell hy
      have d2 := hcn.row.cell 2
      simp only [KR] at d2
      have hop : q.c.opn = true := by
        rw [hqs]
        unfold Nt.isO at ho
        rw [Nt.get_some hs] at ho
        exact ho
      rw [hop] at d2
      exact .inr ⟨i, pb, po, cc, y.b, rfl, h2, N.row.cell 1, ci, d2⟩
set_option maxHeartbeats 4000000 in
theorem rlwatch_dup (w : World) (p g m K : Nat) (F : List Nat) (P : Plr) (h : RolA w p g F P m K) (c : Int) (r s e : Bool) (ho : c = -1 ∨ P.net.isO c = true) (hd : P.sl.hasV c = true) :
    Calls Tryd.prog 29 #[.pointer (some ⟨p, 0, none⟩), .int .i64 c, .bool r, .bool s, .bool e] w fun e' w' => e' = .returned (.tuple #[.agg #[.int .i64 0, .int .i64 0], .int .i64 11]) ∧ Mods [] w w' := by
  obtain ⟨x, hs, mb, bs, rfl, H⟩ := h
  have c0 : w.cell? ⟨p, 0, none⟩ = some (.pointer (some ⟨g, 0, none⟩)) := H.row.cell 0
  have c1 : w.cell? ⟨p, 1, none⟩ = some (.pointer (some ⟨hs, 0, none⟩)) := H.row.cell 1
  have a0 : (w.alloc (.cells #[.int .i64 0, .int .i64 0] 47)).cell? ⟨p, 0, none⟩ = some (.pointer (some ⟨g, 0, none⟩)) := cell_alloc c0 _
  have a1 : (w.alloc (.cells #[.int .i64 0, .int .i64 0] 47)).cell? ⟨p, 1, none⟩ = some (.pointer (some ⟨hs, 0, none⟩)) := cell_alloc c1 _
  have R1 := Lib.hid (Row.new w 47 #[.int .i64 0, .int .i64 0])
  have M1 := Lib.hid ((Mods.refl [] w).alloc (.cells #[.int .i64 0, .int .i64 0] 47))
  have HD := Lib.hid hd
  have HH := Lib.hid H
  rcases rl_row H ho with rfl | ⟨ci, pb, po, cc, y, rfl, hi, b1, b2, b3⟩
  · clear H hd ho c0 c1
    go_enter Tryd.func29, Tryd.ntmps29
    go_wp2_with fail
    refine (rall_any _ hs (x.c 1) P.sl K (slabB_mods HH.out.slb M1.out (by simp))).mono ?_
    rintro e1 w1 ⟨va, rfl, hd⟩
    obtain ⟨q1, q2, q3⟩ := hd.out
    obtain ⟨A, ca, rfl, l1, l2⟩ := own_slice q1
    obtain ⟨n, hn⟩ : ∃ n, n = P.sl.all.length := ⟨_, rfl⟩
    rw [← hn] at l1 ⊢
    have HN := Lib.hid hn
    have hn4 : n ≤ 4096 := by
      have h1 := P.sl.allTo_len P.sl.us.length
      have h2 := HH.out.ok.sl.len
      have h3 := HH.out.ok.sl.hi
      rw [hn]
      show (P.sl.allTo P.sl.us.length).length ≤ 4096
      omega
    clear hn
    have M2 := Lib.hid (M1.out.trans q3 (by simp))
    have OA := Lib.hid q1
    have a2 : w1.cell? ⟨p, 2, none⟩ = some (.map (some mb)) := (HH.out.quiet M2.out).row.cell 2
    have R2 := Lib.hid (R1.out.mods q3 (by simp))
    clear q1 q2 q3 hd a0 a1 R1
    go_wp2_with fail
    go_loopw [13] (fun iv wr => ∃ j : Nat, j ≤ n ∧ iv = .int .i64 (j : Int) ∧ Hid (Mods [] w1 wr ∧ ∀ (k : Nat) (q : Int × Int), k < j → P.sl.all[k]? = some q → P.id q.1.toNat ≠ (-1))) (fun iv _ => n - (intOf iv).toNat)
    case atStart => exact ⟨0, by omega, rfl, Lib.hid ⟨Mods.refl _ _, fun k q hk => absurd hk (by omega)⟩⟩
    case round =>
      obtain ⟨j, hj, rfl, hr⟩ := hrel
      by_cases hlt : j < n
      · have t1 : (j : Int) < (n : Int) := by omega
        obtain ⟨q, hq⟩ : ∃ q, P.sl.all[j]? = some q := ⟨_, List.getElem?_eq_getElem (by rw [← HN.out]; exact hlt)⟩
        obtain ⟨i, hi, hqi, hiu, his⟩ := Slb.all_at hq
        have hiw : i < P.ws.length := by rw [HH.out.ok.len]; exact hi
        obtain ⟨v, hv⟩ := HH.out.at_ hiw
        obtain ⟨ab, rfl⟩ : ∃ b, A = some ⟨b, 0, none⟩ := by
          obtain ⟨g', c', e', _⟩ := own_some OA.out (by rw [← HN.out]; omega)
          injection e' with e1 e2 e3
          exact ⟨g', e1⟩
        have MR := Lib.hid (M2.out.trans hr.out.1 (by simp))
        have HF := Lib.hid (HH.out.quiet MR.out)
        have z1 : wr.cell? ⟨ab, j * 2, none⟩ = some (.int .i64 (i : Int)) := by
          have := (OwnPairs.cell OA.out rfl hq).1
          rw [hqi] at this
          exact cell_mods this hr.out.1 (by simp)
        have hib : -9223372036854775808 ≤ (i : Int) ∧ (i : Int) ≤ 9223372036854775807 := by
          have := HH.out.ok.sl.len; have := HH.out.ok.sl.hi; omega
        have hlk : (Instr.lookup 58 (.map (some mb)) (.int .i64 (i : Int)) false).run Tryd.prog wr = .ok (.pointer (some ⟨v, 0, none⟩)) wr := by
          have := HF.out.map.look hib
          rw [if_neg (by omega), Int.toNat_natCast, hv] at this
          exact this
        have hlkd : (Instr.lookup 58 (.map (some mb)) (.int .i64 (i : Int)) false).run Tryd.prog wr.drew = .ok (.pointer (some ⟨v, 0, none⟩)) wr.drew := by
          have := (HF.out.map.keep (w' := wr.drew) rfl).look hib
          rw [if_neg (by omega), Int.toNat_natCast, hv] at this
          exact this
        have z2 : wr.cell? ⟨p, 2, none⟩ = some (.map (some mb)) := HF.out.row.cell 2
        have z3 : wr.cell? ⟨v, 0, none⟩ = some (.int .i64 (P.id i)) := (HF.out.ws i v hv).cell 0
        have HQ := Lib.hid (And.intro hq (And.intro hqi hv))
        have HR := Lib.hid hr.out
        clear hq hqi hv hiu his hib hr a2
        go_wp2_with fail
        go_region_held3 (fun w' => w'.cell? ⟨p, 2, none⟩ = some (.map (some mb)) ∧ w'.cell? ⟨ab, j * 2, none⟩ = some (.int .i64 (i : Int)) ∧ w'.cell? ⟨v, 0, none⟩ = some (.int .i64 (P.id i)) ∧ (Instr.lookup 58 (.map (some mb)) (.int .i64 (i : Int)) false).run Tryd.prog w' = .ok (.pointer (some ⟨v, 0, none⟩)) w') (go_keep) (fail)
        have MD : Mods [] w1 wr.drew := HR.out.1.drew
        by_cases he : P.id i = -1
        · have he2 : (P.id i == -1) = true := by simpa using he
          have RR := Lib.hid (R2.out.mods HR.out.1 (by simp))
          have k0 : wr.cell? ⟨w.heap.size, 0, none⟩ = some (.int .i64 0) := RR.out.cell 0
          have k1 : wr.cell? ⟨w.heap.size, 1, none⟩ = some (.int .i64 0) := RR.out.cell 1
          have k2 : wr.frozen? ⟨w.heap.size, 0, none⟩ = false := RR.out.free 0
          have k3 : wr.frozen? ⟨w.heap.size, 1, none⟩ = false := RR.out.free 1
          go_wp2
          exact ret_hand2 Tryd.results29 (x := 0) (y := 0) ((RR.out.set 0 (.int .i64 0)).set 1 (.int .i64 0)) rfl rfl rfl ⟨rfl, (MR.out.drew.setCell (.inr (Nat.le_refl _)) _).setCell (.inr (Nat.le_refl _)) _⟩
        · have he2 : (P.id i == -1) = false := by simpa using he
          go_wp2
          go_roundw
          case rel =>
            refine ⟨j + 1, by omega, by go_num, Lib.hid ⟨HR.out.1.drew, fun k q hk hq => ?_⟩⟩
            rcases Nat.lt_or_ge k j with h | h
            · exact HR.out.2 k q h hq
            · obtain rfl : k = j := by omega
              rw [HQ.out.1] at hq
              obtain rfl := Option.some.inj hq
              rw [HQ.out.2.1]
              simpa using he
          case measure => simp [intOf]; omega
      · exfalso
        obtain rfl : j = n := by omega
        obtain ⟨i, hu, hv⟩ := (P.sl.hasV_iff _).1 HD.out
        obtain ⟨k, hk⟩ := List.getElem?_of_mem (all_mem P.sl hu)
        exact hr.out.2 k _ (by rw [HN.out]; exact (List.getElem?_eq_some_iff.1 hk).1) hk hv
  · have d1 : (w.alloc (.cells #[.int .i64 0, .int .i64 0] 47)).cell? ⟨g, 1, none⟩ = some (.slice (some ⟨pb, po, none⟩) P.net.L.length cc) := cell_alloc b1 _
    have d2 : (w.alloc (.cells #[.int .i64 0, .int .i64 0] 47)).cell? ⟨pb, po + ci, none⟩ = some (.pointer (some ⟨y, 0, none⟩)) := cell_alloc b2 _
    have d3 : (w.alloc (.cells #[.int .i64 0, .int .i64 0] 47)).cell? ⟨y, 2, none⟩ = some (.bool true) := cell_alloc b3 _
    have hn0 : decide ((ci : Int) < 0) = false := by simp
    have hn1 : decide ((P.net.L.length : Int) ≤ (ci : Int)) = false := by simp; omega
    have hk2 : (ci : Int) < (P.net.L.length : Int) := by omega
    have hk3 : ((ci : Int) != -1) = true := by simp
    clear H hd ho c0 c1 b1 b2 b3
    go_enter Tryd.func29, Tryd.ntmps29
    go_wp2_with fail
    refine (rall_any _ hs (x.c 1) P.sl K (slabB_mods HH.out.slb (show Mods [] w _ by first | exact M1.out | exact M1.out.drew | exact M1.out.drewN _) (by simp))).mono ?_
    rintro e1 w1 ⟨va, rfl, hd⟩
    obtain ⟨q1, q2, q3⟩ := hd.out
    obtain ⟨A, ca, rfl, l1, l2⟩ := own_slice q1
    obtain ⟨n, hn⟩ : ∃ n, n = P.sl.all.length := ⟨_, rfl⟩
    rw [← hn] at l1 ⊢
    have HN := Lib.hid hn
    have hn4 : n ≤ 4096 := by
      have h1 := P.sl.allTo_len P.sl.us.length
      have h2 := HH.out.ok.sl.len
      have h3 := HH.out.ok.sl.hi
      rw [hn]
      show (P.sl.allTo P.sl.us.length).length ≤ 4096
      omega
    clear hn
    have M2 := Lib.hid (Mods.trans (F1 := []) (show Mods [] w _ by first | exact M1.out | exact M1.out.drew | exact M1.out.drewN _) q3 (by simp))
    have OA := Lib.hid q1
    have a2 : w1.cell? ⟨p, 2, none⟩ = some (.map (some mb)) := (HH.out.quiet M2.out).row.cell 2
    have R2 := Lib.hid (Row.mods (hm := q3) (h := R1.out.keep rfl) (hn := by simp))
    clear q1 q2 q3 hd a0 a1 R1 d1 d2 d3
    go_wp2_with fail
    go_loopw [13] (fun iv wr => ∃ j : Nat, j ≤ n ∧ iv = .int .i64 (j : Int) ∧ Hid (Mods [] w1 wr ∧ ∀ (k : Nat) (q : Int × Int), k < j → P.sl.all[k]? = some q → P.id q.1.toNat ≠ ((ci : Nat) : Int))) (fun iv _ => n - (intOf iv).toNat)
    case atStart => exact ⟨0, by omega, rfl, Lib.hid ⟨Mods.refl _ _, fun k q hk => absurd hk (by omega)⟩⟩
    case round =>
      obtain ⟨j, hj, rfl, hr⟩ := hrel
      by_cases hlt : j < n
      · have t1 : (j : Int) < (n : Int) := by omega
        obtain ⟨q, hq⟩ : ∃ q, P.sl.all[j]? = some q := ⟨_, List.getElem?_eq_getElem (by rw [← HN.out]; exact hlt)⟩
        obtain ⟨i, hi, hqi, hiu, his⟩ := Slb.all_at hq
        have hiw : i < P.ws.length := by rw [HH.out.ok.len]; exact hi
        obtain ⟨v, hv⟩ := HH.out.at_ hiw
        obtain ⟨ab, rfl⟩ : ∃ b, A = some ⟨b, 0, none⟩ := by
          obtain ⟨g', c', e', _⟩ := own_some OA.out (by rw [← HN.out]; omega)
          injection e' with e1 e2 e3
          exact ⟨g', e1⟩
        have MR := Lib.hid (M2.out.trans hr.out.1 (by simp))
        have HF := Lib.hid (HH.out.quiet MR.out)
        have z1 : wr.cell? ⟨ab, j * 2, none⟩ = some (.int .i64 (i : Int)) := by
          have := (OwnPairs.cell OA.out rfl hq).1
          rw [hqi] at this
          exact cell_mods this hr.out.1 (by simp)
        have hib : -9223372036854775808 ≤ (i : Int) ∧ (i : Int) ≤ 9223372036854775807 := by
          have := HH.out.ok.sl.len; have := HH.out.ok.sl.hi; omega
        have hlk : (Instr.lookup 58 (.map (some mb)) (.int .i64 (i : Int)) false).run Tryd.prog wr = .ok (.pointer (some ⟨v, 0, none⟩)) wr := by
          have := HF.out.map.look hib
          rw [if_neg (by omega), Int.toNat_natCast, hv] at this
          exact this
        have hlkd : (Instr.lookup 58 (.map (some mb)) (.int .i64 (i : Int)) false).run Tryd.prog wr.drew = .ok (.pointer (some ⟨v, 0, none⟩)) wr.drew := by
          have := (HF.out.map.keep (w' := wr.drew) rfl).look hib
          rw [if_neg (by omega), Int.toNat_natCast, hv] at this
          exact this
        have z2 : wr.cell? ⟨p, 2, none⟩ = some (.map (some mb)) := HF.out.row.cell 2
        have z3 : wr.cell? ⟨v, 0, none⟩ = some (.int .i64 (P.id i)) := (HF.out.ws i v hv).cell 0
        have HQ := Lib.hid (And.intro hq (And.intro hqi hv))
        have HR := Lib.hid hr.out
        clear hq hqi hv hiu his hib hr a2
        go_wp2_with fail
        go_region_held3 (fun w' => w'.cell? ⟨p, 2, none⟩ = some (.map (some mb)) ∧ w'.cell? ⟨ab, j * 2, none⟩ = some (.int .i64 (i : Int)) ∧ w'.cell? ⟨v, 0, none⟩ = some (.int .i64 (P.id i)) ∧ (Instr.lookup 58 (.map (some mb)) (.int .i64 (i : Int)) false).run Tryd.prog w' = .ok (.pointer (some ⟨v, 0, none⟩)) w') (go_keep) (fail)
        have MD : Mods [] w1 wr.drew := HR.out.1.drew
        by_cases he : P.id i = ((ci : Nat) : Int)
        · have he2 : (P.id i == ((ci : Nat) : Int)) = true := by simpa using he
          have RR := Lib.hid (R2.out.mods HR.out.1 (by simp))
          have k0 : wr.cell? ⟨w.heap.size, 0, none⟩ = some (.int .i64 0) := RR.out.cell 0
          have k1 : wr.cell? ⟨w.heap.size, 1, none⟩ = some (.int .i64 0) := RR.out.cell 1
          have k2 : wr.frozen? ⟨w.heap.size, 0, none⟩ = false := RR.out.free 0
          have k3 : wr.frozen? ⟨w.heap.size, 1, none⟩ = false := RR.out.free 1
          go_wp2
          exact ret_hand2 Tryd.results29 (x := 0) (y := 0) ((RR.out.set 0 (.int .i64 0)).set 1 (.int .i64 0)) rfl rfl rfl ⟨rfl, (MR.out.drew.setCell (.inr (Nat.le_refl _)) _).setCell (.inr (Nat.le_refl _)) _⟩
        · have he2 : (P.id i == ((ci : Nat) : Int)) = false := by simpa using he
          go_wp2
          go_roundw
          case rel =>
            refine ⟨j + 1, by omega, by go_num, Lib.hid ⟨HR.out.1.drew, fun k q hk hq => ?_⟩⟩
            rcases Nat.lt_or_ge k j with h | h
            · exact HR.out.2 k q h hq
            · obtain rfl : k = j := by omega
              rw [HQ.out.1] at hq
              obtain rfl := Option.some.inj hq
              rw [HQ.out.2.1]
              simpa using he
          case measure => simp [intOf]; omega
      · exfalso
        obtain rfl : j = n := by omega
        obtain ⟨i, hu, hv⟩ := (P.sl.hasV_iff _).1 HD.out
        obtain ⟨k, hk⟩ := List.getElem?_of_mem (all_mem P.sl hu)
        exact hr.out.2 k _ (by rw [HN.out]; exact (List.getElem?_eq_some_iff.1 hk).1) hk hv
#print axioms rlwatch_dup
end Go.Proofs.YthaapkafamdhcaaDoor

/- One more watch of the reference's poller, plainly. -/
namespace Go.Proofs.YthaapkafamdhcaaDoor
open Go.RowKit
set_option maxRecDepth 10000
set_option linter.unusedVariables false
set_option linter.unusedSimpArgs false

/-- At slot i, or behind the last. -/
def putAt {α : Type} (l : List α) (i : Nat) (y : α) : List α := if i = l.length then l ++ [y] else l.set i y
theorem putAt_at {α : Type} {l : List α} {i : Nat} (hi : i ≤ l.length) (y : α) (j : Nat) : (putAt l i y)[j]? = if j = i then some y else l[j]? := by
  unfold putAt
  split
  · rename_i h
    subst h
    rw [List.getElem?_append]
    split
    · rename_i h2; rw [if_neg (by omega)]
    · rename_i h2
      by_cases e : j = l.length
      · subst e; simp
      · rw [if_neg e, List.getElem?_eq_none (by simp; omega), List.getElem?_eq_none (by omega)]
  · rename_i h
    rw [List.getElem?_set]
    by_cases e : i = j
    · subst e; rw [if_pos rfl, if_pos (by omega), if_pos rfl]
    · rw [if_neg e, if_neg (Ne.symm e)]
theorem putAt_len {α β : Type} {l : List α} {m : List β} (h : l.length = m.length) (i : Nat) (y : α) (z : β) : (putAt l i y).length = (putAt m i z).length := by
  unfold putAt
  rw [h]
  split <;> simp [h]
theorem putAt_mem {α : Type} {l : List α} {i : Nat} {y z : α} (h : z ∈ putAt l i y) : z ∈ l ∨ z = y := by
  unfold putAt at h
  split at h
  · simpa using h
  · exact List.mem_or_eq_of_mem_set h
theorem putAt_nodup {l : List Nat} {i n : Nat} (hi : i ≤ l.length) (h : l.Nodup) (hn : ∀ k ∈ l, k ≠ n) : (putAt l i n).Nodup := by
  rw [List.nodup_iff_pairwise_ne, List.pairwise_iff_getElem]
  intro a b ha hb hab e
  have ea : (putAt l i n)[a]? = some (putAt l i n)[a] := List.getElem?_eq_getElem ha
  have eb : (putAt l i n)[b]? = some (putAt l i n)[b] := List.getElem?_eq_getElem hb
  rw [putAt_at hi] at ea eb
  rw [← e] at eb
  by_cases h1 : a = i
  · rw [if_pos h1] at ea
    rw [if_neg (by omega), ← ea] at eb
    exact hn n (List.mem_of_getElem? eb) rfl
  · rw [if_neg h1] at ea
    by_cases h2 : b = i
    · rw [if_pos h2, ← ea] at eb
      exact hn n (List.mem_of_getElem? (ea.trans (by rw [← ea, ← eb]))) rfl
    · rw [if_neg h2, ← ea] at eb
      obtain ⟨l1, e1⟩ := List.getElem?_eq_some_iff.1 ea
      obtain ⟨l2, e2⟩ := List.getElem?_eq_some_iff.1 (eb.trans ea)
      exact List.pairwise_iff_getElem.1 h a b l1 l2 hab (e1.trans e2.symm)
theorem watch_eq {P : Plr} {c : Int} {r s e : Bool} (hE : P.watchE c = 0) : P.watch c r s e = ⟨P.net, P.sl.put c, putAt P.ws P.sl.least ⟨r, s, e, 0, 0⟩⟩ := by
  unfold Plr.watch putAt
  rw [if_pos hE]
/-- One more is watched: the slab, then a new block, then the map. -/
theorem RolF.watchTo {w w1 w2 w3 : World} {x : Ft} {p g h mb m K nb : Nat} {bs F1 : List Nat} {P : Plr} {c : Int} {r s e : Bool} (H : RolF w x p g h mb bs P m K) (hE : P.watchE c = 0) (hr : -1 ≤ c ∧ c ≤ 65536) (hcnt : P.sl.cnt < 4096)
    (hs : SlabB w1 h F1 (P.sl.put c) (K + 1)) (hm1 : Mods (x.c 1) w w1) (hf : ∀ k ∈ F1, k ∈ x.c 1 ∨ w.heap.size ≤ k) (hq : Mods [] w1 w2) (hn1 : w1.heap.size ≤ nb)
    (hrow : Row w3 nb 117 (rwc c ⟨r, s, e, 0, 0⟩).toArray)
    (hmap : PMap w3 mb (K + 1) fun z => if z = (P.sl.least : Int) then some nb else if z < 0 then none else bs[z.toNat]?) (hm3 : Mods [mb] w2 w3) :
    RolTo w w3 p g x.all (P.watch c r s e) m (K + 1) := by
  have hle : P.sl.least ≤ bs.length := by rw [H.len, H.ok.len]; exact P.sl.least_le
  have hmbl : mb < w.heap.size := H.lt 3 mb (by rw [H.c3]; simp)
  have hs1 := hm1.size
  have hs2 := hq.size
  have hM : Mods (x.c 1 ++ x.c 3) w w3 := ((hm1.trans hq (by simp)).more (fun k hk => .inl (List.mem_append_left _ hk))).trans hm3 (fun k hk => by
    rw [H.c3]; left; exact List.mem_append_right _ hk)
  have keep : ∀ j : Fin 5, j ≠ 1 → j ≠ 3 → ∀ k ∈ x.c j, w3.heap[k]? = w.heap[k]? := fun j h1 h3 k hk => hM.block k (H.lt j k hk) fun hk2 => by
    rcases List.mem_append.1 hk2 with h | h
    · exact H.apt j 1 h1 k hk h
    · exact H.apt j 3 h3 k hk h
  have hbs : ∀ k ∈ putAt bs P.sl.least nb, k ∈ (x.set 1 F1).c 2 ∨ w.heap.size ≤ k := fun k hk => by
    rw [Ft.set_ne _ _ (by decide), H.c2]
    rcases putAt_mem hk with h | h
    · exact .inl h
    · right; omega
  have hlt1 : ∀ i, ∀ k ∈ (x.set 1 F1).c i, k < w1.heap.size := fun i k hk => by
    by_cases e : i = 1
    · subst e; rw [Ft.set_same] at hk; exact slabB_lt hs k hk
    · rw [Ft.set_ne _ _ e] at hk; have := H.lt i k hk; omega
  have hbs1 : ∀ k ∈ putAt bs P.sl.least nb, k ∈ (x.set 1 F1).c 2 ∨ w1.heap.size ≤ k := fun k hk => by
    rw [Ft.set_ne _ _ (by decide), H.c2]
    rcases putAt_mem hk with h | h
    · exact .inl h
    · right; omega
  have hok := H.ok.watch (r := r) (s := s) (e := e) hE hr hcnt
  rw [watch_eq hE] at hok ⊢
  refine ⟨((x.set 1 F1).set 2 (putAt bs P.sl.least nb)).all, ⟨(x.set 1 F1).set 2 (putAt bs P.sl.least nb), h, mb, putAt bs P.sl.least nb, rfl, H.row.keep (keep 4 (by decide) (by decide) p (by rw [H.c4]; simp)), ?_, ?_, hmap.same fun a => ?_, fun j b hb => ?_, putAt_len H.len _ _ _, ?_, Ft.set_same _ _ _, ?_, ?_, (H.apt.set H.lt hf).set hlt1 hbs1, hok, H.mks⟩, ?_, fun k hk => ?_⟩
  · rw [Ft.set_ne _ _ (by decide), Ft.set_ne _ _ (by decide)]; exact H.net.keep (keep 0 (by decide) (by decide))
  · rw [Ft.set_ne _ _ (by decide), Ft.set_same]
    refine slabB_mods (slabB_mods hs hq (by simp)) hm3 fun k hk hk2 => ?_
    obtain rfl := List.mem_singleton.1 hk2
    rcases hf k hk with h | h
    · exact H.apt 1 3 (by decide) k h (by rw [H.c3]; simp)
    · omega
  · by_cases ha : a < 0
    · rw [if_neg (by omega), if_pos ha, if_pos ha]
    · rw [if_neg ha, if_neg ha, putAt_at hle]
      by_cases e1 : a = (P.sl.least : Int)
      · rw [if_pos e1, if_pos (by omega)]
      · rw [if_neg e1, if_neg (by omega)]
  · rw [putAt_at hle] at hb
    have hid : (⟨P.net, P.sl.put c, putAt P.ws P.sl.least ⟨r, s, e, 0, 0⟩⟩ : Plr).id j = if j = P.sl.least then c else P.id j := Slb.put_vs H.ok.sl c j
    have hwc : (⟨P.net, P.sl.put c, putAt P.ws P.sl.least ⟨r, s, e, 0, 0⟩⟩ : Plr).wch j = if j = P.sl.least then ⟨r, s, e, 0, 0⟩ else P.wch j := by
      unfold Plr.wch
      simp only [List.getD_eq_getElem?_getD]
      rw [putAt_at (by rw [← H.len]; exact hle)]
      split <;> rfl
    rw [hid, hwc]
    by_cases e1 : j = P.sl.least
    · rw [if_pos e1] at hb
      obtain rfl := Option.some.inj hb
      rw [if_pos e1, if_pos e1]
      exact hrow
    · rw [if_neg e1] at hb
      rw [if_neg e1, if_neg e1]
      exact (H.ws j b hb).keep (keep 2 (by decide) (by decide) b (by rw [H.c2]; exact List.mem_of_getElem? hb))
  · refine putAt_nodup hle H.nod fun k hk => ?_
    have := H.lt 2 k (by rw [H.c2]; exact hk)
    omega
  · rw [Ft.set_ne _ _ (by decide), Ft.set_ne _ _ (by decide)]; exact H.c3
  · rw [Ft.set_ne _ _ (by decide), Ft.set_ne _ _ (by decide)]; exact H.c4
  · refine hM.more fun k hk => ?_
    rcases List.mem_append.1 hk with h | h
    · exact .inl (x.sub 1 k h)
    · exact .inl (x.sub 3 k h)
  · rcases Ft.set_all hbs k hk with h | h
    · exact Ft.set_all hf k h
    · exact .inr h
#print axioms RolF.watchTo
end Go.Proofs.YthaapkafamdhcaaDoor

/- What Watch of the reference's poller answers of one that is not watched yet. -/
namespace Go.Proofs.YthaapkafamdhcaaDoor
open Go.RowKit
set_option maxRecDepth 10000
set_option linter.unusedVariables false
set_option linter.unusedSimpArgs false

set_option maxHeartbeats 4000000 in
theorem rlwatch_yes (w : World) (p g m K : Nat) (F : List Nat) (P : Plr) (h : RolA w p g F P m K) (c : Int) (r s e : Bool) (ho : c = -1 ∨ P.net.isO c = true) (hd : P.sl.hasV c = false) (hcnt : P.sl.cnt < 4096) (hK : K ≤ 4000000000000) :
    Calls Tryd.prog 29 #[.pointer (some ⟨p, 0, none⟩), .int .i64 c, .bool r, .bool s, .bool e] w fun e' w' => e' = .returned (.tuple #[.agg #[.int .i64 P.sl.least, .int .i64 P.sl.gen], .int .i64 0]) ∧ Hid (RolTo w w' p g F (P.watch c r s e) m (K + 1)) := by
  obtain ⟨x, hs, mb, bs, rfl, H⟩ := h
  have c0 : w.cell? ⟨p, 0, none⟩ = some (.pointer (some ⟨g, 0, none⟩)) := H.row.cell 0
  have c1 : w.cell? ⟨p, 1, none⟩ = some (.pointer (some ⟨hs, 0, none⟩)) := H.row.cell 1
  have a0 : (w.alloc (.cells #[.int .i64 0, .int .i64 0] 47)).cell? ⟨p, 0, none⟩ = some (.pointer (some ⟨g, 0, none⟩)) := cell_alloc c0 _
  have a1 : (w.alloc (.cells #[.int .i64 0, .int .i64 0] 47)).cell? ⟨p, 1, none⟩ = some (.pointer (some ⟨hs, 0, none⟩)) := cell_alloc c1 _
  have R1 := Lib.hid (Row.new w 47 #[.int .i64 0, .int .i64 0])
  have M1 := Lib.hid ((Mods.refl [] w).alloc (.cells #[.int .i64 0, .int .i64 0] 47))
  have HD := Lib.hid hd
  have HH := Lib.hid H
  rcases rl_row H ho with rfl | ⟨ci, pb, po, cc, y, rfl, hi, b1, b2, b3⟩
  · clear H hd ho c0 c1
    go_enter Tryd.func29, Tryd.ntmps29
    go_wp2_with fail
    refine (rall_any _ hs (x.c 1) P.sl K (slabB_mods HH.out.slb M1.out (by simp))).mono ?_
    rintro e1 w1 ⟨va, rfl, hd⟩
    obtain ⟨q1, q2, q3⟩ := hd.out
    obtain ⟨A, ca, rfl, l1, l2⟩ := own_slice q1
    obtain ⟨n, hn⟩ : ∃ n, n = P.sl.all.length := ⟨_, rfl⟩
    rw [← hn] at l1 ⊢
    have HN := Lib.hid hn
    have hn4 : n ≤ 4096 := by
      have h1 := P.sl.allTo_len P.sl.us.length
      have h2 := HH.out.ok.sl.len
      have h3 := HH.out.ok.sl.hi
      rw [hn]
      show (P.sl.allTo P.sl.us.length).length ≤ 4096
      omega
    clear hn
    have M2 := Lib.hid (M1.out.trans q3 (by simp))
    have OA := Lib.hid q1
    have a2 : w1.cell? ⟨p, 2, none⟩ = some (.map (some mb)) := (HH.out.quiet M2.out).row.cell 2
    have R2 := Lib.hid (R1.out.mods q3 (by simp))
    clear q1 q2 q3 hd a0 a1 R1
    go_wp2_with fail
    go_loopw [13] (fun iv wr => ∃ j : Nat, j ≤ n ∧ iv = .int .i64 (j : Int) ∧ Hid (Mods [] w1 wr ∧ ∀ (k : Nat) (q : Int × Int), k < j → P.sl.all[k]? = some q → P.id q.1.toNat ≠ (-1))) (fun iv _ => n - (intOf iv).toNat)
    case atStart => exact ⟨0, by omega, rfl, Lib.hid ⟨Mods.refl _ _, fun k q hk => absurd hk (by omega)⟩⟩
    case round =>
      obtain ⟨j, hj, rfl, hr⟩ := hrel
      by_cases hlt : j < n
      · have t1 : (j : Int) < (n : Int) := by omega
        obtain ⟨q, hq⟩ : ∃ q, P.sl.all[j]? = some q := ⟨_, List.getElem?_eq_getElem (by rw [← HN.out]; exact hlt)⟩
        obtain ⟨i, hi, hqi, hiu, his⟩ := Slb.all_at hq
        have hiw : i < P.ws.length := by rw [HH.out.ok.len]; exact hi
        obtain ⟨v, hv⟩ := HH.out.at_ hiw
        obtain ⟨ab, rfl⟩ : ∃ b, A = some ⟨b, 0, none⟩ := by
          obtain ⟨g', c', e', _⟩ := own_some OA.out (by rw [← HN.out]; omega)
          injection e' with e1 e2 e3
          exact ⟨g', e1⟩
        have MR := Lib.hid (M2.out.trans hr.out.1 (by simp))
        have HF := Lib.hid (HH.out.quiet MR.out)
        have z1 : wr.cell? ⟨ab, j * 2, none⟩ = some (.int .i64 (i : Int)) := by
          have := (OwnPairs.cell OA.out rfl hq).1
          rw [hqi] at this
          exact cell_mods this hr.out.1 (by simp)
        have hib : -9223372036854775808 ≤ (i : Int) ∧ (i : Int) ≤ 9223372036854775807 := by
          have := HH.out.ok.sl.len; have := HH.out.ok.sl.hi; omega
        have hlk : (Instr.lookup 58 (.map (some mb)) (.int .i64 (i : Int)) false).run Tryd.prog wr = .ok (.pointer (some ⟨v, 0, none⟩)) wr := by
          have := HF.out.map.look hib
          rw [if_neg (by omega), Int.toNat_natCast, hv] at this
          exact this
        have hlkd : (Instr.lookup 58 (.map (some mb)) (.int .i64 (i : Int)) false).run Tryd.prog wr.drew = .ok (.pointer (some ⟨v, 0, none⟩)) wr.drew := by
          have := (HF.out.map.keep (w' := wr.drew) rfl).look hib
          rw [if_neg (by omega), Int.toNat_natCast, hv] at this
          exact this
        have z2 : wr.cell? ⟨p, 2, none⟩ = some (.map (some mb)) := HF.out.row.cell 2
        have z3 : wr.cell? ⟨v, 0, none⟩ = some (.int .i64 (P.id i)) := (HF.out.ws i v hv).cell 0
        have HQ := Lib.hid (And.intro hq (And.intro hqi hv))
        have HU := Lib.hid hiu
        have HR := Lib.hid hr.out
        clear hq hqi hv hiu his hib hr a2
        go_wp2_with fail
        go_region_held3 (fun w' => w'.cell? ⟨p, 2, none⟩ = some (.map (some mb)) ∧ w'.cell? ⟨ab, j * 2, none⟩ = some (.int .i64 (i : Int)) ∧ w'.cell? ⟨v, 0, none⟩ = some (.int .i64 (P.id i)) ∧ (Instr.lookup 58 (.map (some mb)) (.int .i64 (i : Int)) false).run Tryd.prog w' = .ok (.pointer (some ⟨v, 0, none⟩)) w') (go_keep) (fail)
        have MD : Mods [] w1 wr.drew := HR.out.1.drew
        have he : P.id i ≠ -1 := fun h0 => by
          have := (P.sl.hasV_iff (-1)).2 ⟨i, HU.out, h0⟩
          rw [HD.out] at this; cases this
        have he2 : (P.id i == -1) = false := by simpa using he
        go_wp2
        go_roundw
        case rel =>
          refine ⟨j + 1, by omega, by go_num, Lib.hid ⟨HR.out.1.drew, fun k q hk hq => ?_⟩⟩
          rcases Nat.lt_or_ge k j with h | h
          · exact HR.out.2 k q h hq
          · obtain rfl : k = j := by omega
            rw [HQ.out.1] at hq
            obtain rfl := Option.some.inj hq
            rw [HQ.out.2.1]
            simpa using he
        case measure => simp [intOf]; omega
      · have t1 : ¬ (j : Int) < (n : Int) := by omega
        have MR := Lib.hid (M2.out.trans hr.out.1 (by simp))
        have HF := Lib.hid (HH.out.quiet MR.out)
        have RR := Lib.hid (R2.out.mods hr.out.1 (by simp))
        have z1 : wr.cell? ⟨p, 1, none⟩ = some (.pointer (some ⟨hs, 0, none⟩)) := HF.out.row.cell 1
        clear hr a2
        go_wp2_with fail
        refine (rput_any wr hs (-1) (x.c 1) P.sl K HF.out.slb (by rw [HF.out.ok.lim]; exact hcnt) hK).mono ?_
        rintro e2 w3 ⟨rfl, hd⟩
        obtain ⟨F1, hs1, hm1, hf1⟩ := hd.out
        have HS := Lib.hid (And.intro hs1 (And.intro hm1 hf1))
        have far : ∀ k, k ∉ x.c 1 → k < wr.heap.size → w3.heap[k]? = wr.heap[k]? := fun k h1 h2 => hm1.block k h2 h1
        have z2 : w3.cell? ⟨p, 2, none⟩ = some (.map (some mb)) := cell_mods (HF.out.row.cell 2) hm1 (fun hk => HF.out.apt 4 1 (by decide) p (by rw [HF.out.c4]; simp) hk)
        have RS := Lib.hid (RR.out.mods hm1 (fun hk => by have := HH.out.lt 1 _ hk; omega))
        clear hs1 hm1 hf1 hd z1
        go_wp2_with fail
        have z3 : (w3.alloc (.cells #[.int .i64 P.sl.least, .int .i64 P.sl.gen] 47)).cell? ⟨p, 2, none⟩ = some (.map (some mb)) := cell_alloc z2 _
        have z4 : (w3.alloc (.cells #[.int .i64 P.sl.least, .int .i64 P.sl.gen] 47)).cell? ⟨w3.heap.size, 0, none⟩ = some (.int .i64 P.sl.least) := (Row.new w3 47 #[.int .i64 P.sl.least, .int .i64 P.sl.gen]).cell 0
        obtain ⟨wb, hwb⟩ : ∃ wb, wb = ((w3.alloc (.cells #[.int .i64 P.sl.least, .int .i64 P.sl.gen] 47)).alloc (.cells #[.int .i64 (-1), .bool r, .bool s, .bool e, .int .i64 (-1), .int .i64 (-1)] 117)).drew := ⟨_, rfl⟩
        have MB : Mods [] w3 wb := by rw [hwb]; exact (((Mods.refl [] w3).alloc _).alloc _).drew
        have hmp : PMap wb mb K fun a => if a < 0 then none else bs[a.toNat]? := HF.out.map.keep (by
          have hml : mb < wr.heap.size := HF.out.map.lt
          have h1 : mb ∉ x.c 1 := fun hk => HF.out.apt 3 1 (by decide) mb (by rw [HF.out.c3]; simp) hk
          rw [MB.block mb (by have := HS.out.2.1.size; omega) (by simp)]
          exact far mb h1 hml)
        have hll : P.sl.least < 4096 := by
          have h1 := HH.out.ok.sl.len; have h2 := HH.out.ok.lim
          have h3 := Slb.least_lt HH.out.ok.sl (by rw [h2]; exact hcnt)
          omega
        obtain ⟨w5, hr5, hp5, hm5⟩ := hmp.put (by unfold maxLen; omega) (a := (P.sl.least : Int)) (by omega) (w3.heap.size + 1)
        rw [hwb] at hr5
        have H5 := Lib.hid (And.intro hp5 hm5)
        have y2 : w5.cell? ⟨p, 2, none⟩ = some (.map (some mb)) := cell_mods (cell_mods z2 MB (by simp)) hm5 (by simp; rintro rfl; exact HF.out.apt 4 3 (by decide) p (by rw [HF.out.c4]; simp) (by rw [HF.out.c3]; simp))
        have y4 : w5.cell? ⟨w3.heap.size, 0, none⟩ = some (.int .i64 P.sl.least) := by
          refine cell_mods (w := wb) (F := [mb]) ?_ hm5 ?_
          · rw [hwb]; exact (((Row.new w3 47 #[.int .i64 P.sl.least, .int .i64 P.sl.gen]).alloc _)).cell 0
          · have hml : mb < wr.heap.size := HF.out.map.lt
            have := HS.out.2.1.size
            simp; omega
        have hmw : mb < w.heap.size := HH.out.map.lt
        have MR5 : Mods [mb] w3 w5 := (MB.more (by simp)).trans hm5 (fun k hk => .inl hk)
        have Rb : Row wb w3.heap.size 47 #[.int .i64 P.sl.least, .int .i64 P.sl.gen] := by rw [hwb]; exact (Row.new w3 47 #[.int .i64 P.sl.least, .int .i64 P.sl.gen]).alloc _
        have y5 : w5.cell? ⟨w3.heap.size, 1, none⟩ = some (.int .i64 P.sl.gen) := (Rb.mods hm5 (by have := HS.out.2.1.size; have := HF.out.map.lt; simp; omega)).cell 1
        have R5 := Lib.hid (RS.out.mods MR5 (by simp; omega))
        have k0 : w5.cell? ⟨w.heap.size, 0, none⟩ = some (.int .i64 0) := R5.out.cell 0
        have k1 : w5.cell? ⟨w.heap.size, 1, none⟩ = some (.int .i64 0) := R5.out.cell 1
        have k2 : w5.frozen? ⟨w.heap.size, 0, none⟩ = false := R5.out.free 0
        have k3 : w5.frozen? ⟨w.heap.size, 1, none⟩ = false := R5.out.free 1
        have Rn : Row wb (w3.heap.size + 1) 117 #[.int .i64 (-1), .bool r, .bool s, .bool e, .int .i64 (-1), .int .i64 (-1)] := by
          have t : Row ((w3.alloc (.cells #[.int .i64 P.sl.least, .int .i64 P.sl.gen] 47)).alloc (.cells #[.int .i64 (-1), .bool r, .bool s, .bool e, .int .i64 (-1), .int .i64 (-1)] 117)) (w3.heap.size + 1) 117 #[.int .i64 (-1), .bool r, .bool s, .bool e, .int .i64 (-1), .int .i64 (-1)] := by
            have := Row.new (w3.alloc (.cells #[.int .i64 P.sl.least, .int .i64 P.sl.gen] 47)) 117 #[.int .i64 (-1), .bool r, .bool s, .bool e, .int .i64 (-1), .int .i64 (-1)]
            simpa using this
          rw [hwb]
          exact t
        have HT := Lib.hid (show ∀ w6, Mods [w.heap.size] w5 w6 → RolTo w w6 p g x.all (P.watch (-1) r s e) m (K + 1) from fun w6 h6 => by
          have hE : P.watchE (-1) = 0 := by unfold Plr.watchE; rw [if_neg (by simp), HD.out]; rfl
          have hrow := Rn.mods hm5 (by have := HS.out.2.1.size; have := HF.out.map.lt; simp; omega)
          obtain ⟨F', g1, g2, g3⟩ := HF.out.watchTo (r := r) (s := s) (e := e) hE (by omega) hcnt HS.out.1 HS.out.2.1 HS.out.2.2 MB (Nat.le_succ _) (by simpa [rwc, tldZ] using hrow) (by exact hp5) hm5
          have hwl : w.heap.size < wr.heap.size := RR.out.lt
          refine ⟨F', g1.mods h6 (fun k hk hk2 => ?_), ((MR.out.more (by simp)).trans g2 (fun k hk => .inl hk)).trans h6 (fun k hk => by simp at hk; omega), fun k hk => ?_⟩
          · obtain rfl := List.mem_singleton.1 hk2
            rcases g3 _ hk with h | h
            · obtain ⟨i, hi⟩ := Ft.mem_all.1 h
              exact Nat.lt_irrefl _ (HH.out.lt i _ hi)
            · omega
          · rcases g3 k hk with h | h
            · exact .inl h
            · right; omega)
        clear hp5 hm5 hmp hwb MB z2 Rn Rb MR5
        go_region_held3 (fun w' => w'.cell? ⟨p, 2, none⟩ = some (.map (some mb)) ∧ w'.cell? ⟨w3.heap.size, 0, none⟩ = some (.int .i64 P.sl.least)) (go_keep) (fail)
        go_wp2_with fail
        exact ret_hand2 Tryd.results29 ((R5.out.set 0 _).set 1 _) rfl rfl rfl ⟨rfl, Lib.hid (HT.out _ (((Mods.refl _ w5).setCell (.inl (by simp)) _).setCell (.inl (by simp)) _))⟩
  · have d1 : (w.alloc (.cells #[.int .i64 0, .int .i64 0] 47)).cell? ⟨g, 1, none⟩ = some (.slice (some ⟨pb, po, none⟩) P.net.L.length cc) := cell_alloc b1 _
    have d2 : (w.alloc (.cells #[.int .i64 0, .int .i64 0] 47)).cell? ⟨pb, po + ci, none⟩ = some (.pointer (some ⟨y, 0, none⟩)) := cell_alloc b2 _
    have d3 : (w.alloc (.cells #[.int .i64 0, .int .i64 0] 47)).cell? ⟨y, 2, none⟩ = some (.bool true) := cell_alloc b3 _
    have hn0 : decide ((ci : Int) < 0) = false := by simp
    have hn1 : decide ((P.net.L.length : Int) ≤ (ci : Int)) = false := by simp; omega
    have hk2 : (ci : Int) < (P.net.L.length : Int) := by omega
    have hk3 : ((ci : Int) != -1) = true := by simp
    have hci : ci ≤ 65536 := by
      obtain ⟨_, _, _, _, _, N⟩ := H.net
      have := N.ok.n2
      omega
    have HO := Lib.hid (show P.net.isO ((ci : Nat) : Int) = true by
      rcases ho with h | h
      · omega
      · exact h)
    clear H hd ho c0 c1 b1 b2 b3
    go_enter Tryd.func29, Tryd.ntmps29
    go_wp2_with fail
    refine (rall_any _ hs (x.c 1) P.sl K (slabB_mods HH.out.slb (show Mods [] w _ by first | exact M1.out | exact M1.out.drew | exact M1.out.drewN _) (by simp))).mono ?_
    rintro e1 w1 ⟨va, rfl, hd⟩
    obtain ⟨q1, q2, q3⟩ := hd.out
    obtain ⟨A, ca, rfl, l1, l2⟩ := own_slice q1
    obtain ⟨n, hn⟩ : ∃ n, n = P.sl.all.length := ⟨_, rfl⟩
    rw [← hn] at l1 ⊢
    have HN := Lib.hid hn
    have hn4 : n ≤ 4096 := by
      have h1 := P.sl.allTo_len P.sl.us.length
      have h2 := HH.out.ok.sl.len
      have h3 := HH.out.ok.sl.hi
      rw [hn]
      show (P.sl.allTo P.sl.us.length).length ≤ 4096
      omega
    clear hn
    have M2 := Lib.hid (Mods.trans (F1 := []) (show Mods [] w _ by first | exact M1.out | exact M1.out.drew | exact M1.out.drewN _) q3 (by simp))
    have OA := Lib.hid q1
    have a2 : w1.cell? ⟨p, 2, none⟩ = some (.map (some mb)) := (HH.out.quiet M2.out).row.cell 2
    have R2 := Lib.hid (Row.mods (hm := q3) (h := R1.out.keep rfl) (hn := by simp))
    clear q1 q2 q3 hd a0 a1 R1 d1 d2 d3
    go_wp2_with fail
    go_loopw [13] (fun iv wr => ∃ j : Nat, j ≤ n ∧ iv = .int .i64 (j : Int) ∧ Hid (Mods [] w1 wr ∧ ∀ (k : Nat) (q : Int × Int), k < j → P.sl.all[k]? = some q → P.id q.1.toNat ≠ ((ci : Nat) : Int))) (fun iv _ => n - (intOf iv).toNat)
    case atStart => exact ⟨0, by omega, rfl, Lib.hid ⟨Mods.refl _ _, fun k q hk => absurd hk (by omega)⟩⟩
    case round =>
      obtain ⟨j, hj, rfl, hr⟩ := hrel
      by_cases hlt : j < n
      · have t1 : (j : Int) < (n : Int) := by omega
        obtain ⟨q, hq⟩ : ∃ q, P.sl.all[j]? = some q := ⟨_, List.getElem?_eq_getElem (by rw [← HN.out]; exact hlt)⟩
        obtain ⟨i, hi, hqi, hiu, his⟩ := Slb.all_at hq
        have hiw : i < P.ws.length := by rw [HH.out.ok.len]; exact hi
        obtain ⟨v, hv⟩ := HH.out.at_ hiw
        obtain ⟨ab, rfl⟩ : ∃ b, A = some ⟨b, 0, none⟩ := by
          obtain ⟨g', c', e', _⟩ := own_some OA.out (by rw [← HN.out]; omega)
          injection e' with e1 e2 e3
          exact ⟨g', e1⟩
        have MR := Lib.hid (M2.out.trans hr.out.1 (by simp))
        have HF := Lib.hid (HH.out.quiet MR.out)
        have z1 : wr.cell? ⟨ab, j * 2, none⟩ = some (.int .i64 (i : Int)) := by
          have := (OwnPairs.cell OA.out rfl hq).1
          rw [hqi] at this
          exact cell_mods this hr.out.1 (by simp)
        have hib : -9223372036854775808 ≤ (i : Int) ∧ (i : Int) ≤ 9223372036854775807 := by
          have := HH.out.ok.sl.len; have := HH.out.ok.sl.hi; omega
        have hlk : (Instr.lookup 58 (.map (some mb)) (.int .i64 (i : Int)) false).run Tryd.prog wr = .ok (.pointer (some ⟨v, 0, none⟩)) wr := by
          have := HF.out.map.look hib
          rw [if_neg (by omega), Int.toNat_natCast, hv] at this
          exact this
        have hlkd : (Instr.lookup 58 (.map (some mb)) (.int .i64 (i : Int)) false).run Tryd.prog wr.drew = .ok (.pointer (some ⟨v, 0, none⟩)) wr.drew := by
          have := (HF.out.map.keep (w' := wr.drew) rfl).look hib
          rw [if_neg (by omega), Int.toNat_natCast, hv] at this
          exact this
        have z2 : wr.cell? ⟨p, 2, none⟩ = some (.map (some mb)) := HF.out.row.cell 2
        have z3 : wr.cell? ⟨v, 0, none⟩ = some (.int .i64 (P.id i)) := (HF.out.ws i v hv).cell 0
        have HQ := Lib.hid (And.intro hq (And.intro hqi hv))
        have HU := Lib.hid hiu
        have HR := Lib.hid hr.out
        clear hq hqi hv hiu his hib hr a2
        go_wp2_with fail
        go_region_held3 (fun w' => w'.cell? ⟨p, 2, none⟩ = some (.map (some mb)) ∧ w'.cell? ⟨ab, j * 2, none⟩ = some (.int .i64 (i : Int)) ∧ w'.cell? ⟨v, 0, none⟩ = some (.int .i64 (P.id i)) ∧ (Instr.lookup 58 (.map (some mb)) (.int .i64 (i : Int)) false).run Tryd.prog w' = .ok (.pointer (some ⟨v, 0, none⟩)) w') (go_keep) (fail)
        have MD : Mods [] w1 wr.drew := HR.out.1.drew
        have he : P.id i ≠ ((ci : Nat) : Int) := fun h0 => by
          have := (P.sl.hasV_iff ((ci : Nat) : Int)).2 ⟨i, HU.out, h0⟩
          rw [HD.out] at this; cases this
        have he2 : (P.id i == ((ci : Nat) : Int)) = false := by simpa using he
        go_wp2
        go_roundw
        case rel =>
          refine ⟨j + 1, by omega, by go_num, Lib.hid ⟨HR.out.1.drew, fun k q hk hq => ?_⟩⟩
          rcases Nat.lt_or_ge k j with h | h
          · exact HR.out.2 k q h hq
          · obtain rfl : k = j := by omega
            rw [HQ.out.1] at hq
            obtain rfl := Option.some.inj hq
            rw [HQ.out.2.1]
            simpa using he
        case measure => simp [intOf]; omega
      · have t1 : ¬ (j : Int) < (n : Int) := by omega
        have MR := Lib.hid (M2.out.trans hr.out.1 (by simp))
        have HF := Lib.hid (HH.out.quiet MR.out)
        have RR := Lib.hid (R2.out.mods hr.out.1 (by simp))
        have z1 : wr.cell? ⟨p, 1, none⟩ = some (.pointer (some ⟨hs, 0, none⟩)) := HF.out.row.cell 1
        clear hr a2
        go_wp2_with fail
        refine (rput_any wr hs ((ci : Nat) : Int) (x.c 1) P.sl K HF.out.slb (by rw [HF.out.ok.lim]; exact hcnt) hK).mono ?_
        rintro e2 w3 ⟨rfl, hd⟩
        obtain ⟨F1, hs1, hm1, hf1⟩ := hd.out
        have HS := Lib.hid (And.intro hs1 (And.intro hm1 hf1))
        have far : ∀ k, k ∉ x.c 1 → k < wr.heap.size → w3.heap[k]? = wr.heap[k]? := fun k h1 h2 => hm1.block k h2 h1
        have z2 : w3.cell? ⟨p, 2, none⟩ = some (.map (some mb)) := cell_mods (HF.out.row.cell 2) hm1 (fun hk => HF.out.apt 4 1 (by decide) p (by rw [HF.out.c4]; simp) hk)
        have RS := Lib.hid (RR.out.mods hm1 (fun hk => by have := HH.out.lt 1 _ hk; omega))
        clear hs1 hm1 hf1 hd z1
        go_wp2_with fail
        have z3 : (w3.alloc (.cells #[.int .i64 P.sl.least, .int .i64 P.sl.gen] 47)).cell? ⟨p, 2, none⟩ = some (.map (some mb)) := cell_alloc z2 _
        have z4 : (w3.alloc (.cells #[.int .i64 P.sl.least, .int .i64 P.sl.gen] 47)).cell? ⟨w3.heap.size, 0, none⟩ = some (.int .i64 P.sl.least) := (Row.new w3 47 #[.int .i64 P.sl.least, .int .i64 P.sl.gen]).cell 0
        obtain ⟨wb, hwb⟩ : ∃ wb, wb = ((w3.alloc (.cells #[.int .i64 P.sl.least, .int .i64 P.sl.gen] 47)).alloc (.cells #[.int .i64 ((ci : Nat) : Int), .bool r, .bool s, .bool e, .int .i64 (-1), .int .i64 (-1)] 117)).drew := ⟨_, rfl⟩
        have MB : Mods [] w3 wb := by rw [hwb]; exact (((Mods.refl [] w3).alloc _).alloc _).drew
        have hmp : PMap wb mb K fun a => if a < 0 then none else bs[a.toNat]? := HF.out.map.keep (by
          have hml : mb < wr.heap.size := HF.out.map.lt
          have h1 : mb ∉ x.c 1 := fun hk => HF.out.apt 3 1 (by decide) mb (by rw [HF.out.c3]; simp) hk
          rw [MB.block mb (by have := HS.out.2.1.size; omega) (by simp)]
          exact far mb h1 hml)
        have hll : P.sl.least < 4096 := by
          have h1 := HH.out.ok.sl.len; have h2 := HH.out.ok.lim
          have h3 := Slb.least_lt HH.out.ok.sl (by rw [h2]; exact hcnt)
          omega
        obtain ⟨w5, hr5, hp5, hm5⟩ := hmp.put (by unfold maxLen; omega) (a := (P.sl.least : Int)) (by omega) (w3.heap.size + 1)
        rw [hwb] at hr5
        have H5 := Lib.hid (And.intro hp5 hm5)
        have y2 : w5.cell? ⟨p, 2, none⟩ = some (.map (some mb)) := cell_mods (cell_mods z2 MB (by simp)) hm5 (by simp; rintro rfl; exact HF.out.apt 4 3 (by decide) p (by rw [HF.out.c4]; simp) (by rw [HF.out.c3]; simp))
        have y4 : w5.cell? ⟨w3.heap.size, 0, none⟩ = some (.int .i64 P.sl.least) := by
          refine cell_mods (w := wb) (F := [mb]) ?_ hm5 ?_
          · rw [hwb]; exact (((Row.new w3 47 #[.int .i64 P.sl.least, .int .i64 P.sl.gen]).alloc _)).cell 0
          · have hml : mb < wr.heap.size := HF.out.map.lt
            have := HS.out.2.1.size
            simp; omega
        have hmw : mb < w.heap.size := HH.out.map.lt
        have MR5 : Mods [mb] w3 w5 := (MB.more (by simp)).trans hm5 (fun k hk => .inl hk)
        have Rb : Row wb w3.heap.size 47 #[.int .i64 P.sl.least, .int .i64 P.sl.gen] := by rw [hwb]; exact (Row.new w3 47 #[.int .i64 P.sl.least, .int .i64 P.sl.gen]).alloc _
        have y5 : w5.cell? ⟨w3.heap.size, 1, none⟩ = some (.int .i64 P.sl.gen) := (Rb.mods hm5 (by have := HS.out.2.1.size; have := HF.out.map.lt; simp; omega)).cell 1
        have R5 := Lib.hid (RS.out.mods MR5 (by simp; omega))
        have k0 : w5.cell? ⟨w.heap.size, 0, none⟩ = some (.int .i64 0) := R5.out.cell 0
        have k1 : w5.cell? ⟨w.heap.size, 1, none⟩ = some (.int .i64 0) := R5.out.cell 1
        have k2 : w5.frozen? ⟨w.heap.size, 0, none⟩ = false := R5.out.free 0
        have k3 : w5.frozen? ⟨w.heap.size, 1, none⟩ = false := R5.out.free 1
        have Rn : Row wb (w3.heap.size + 1) 117 #[.int .i64 ((ci : Nat) : Int), .bool r, .bool s, .bool e, .int .i64 (-1), .int .i64 (-1)] := by
          have t : Row ((w3.alloc (.cells #[.int .i64 P.sl.least, .int .i64 P.sl.gen] 47)).alloc (.cells #[.int .i64 ((ci : Nat) : Int), .bool r, .bool s, .bool e, .int .i64 (-1), .int .i64 (-1)] 117)) (w3.heap.size + 1) 117 #[.int .i64 ((ci : Nat) : Int), .bool r, .bool s, .bool e, .int .i64 (-1), .int .i64 (-1)] := by
            have := Row.new (w3.alloc (.cells #[.int .i64 P.sl.least, .int .i64 P.sl.gen] 47)) 117 #[.int .i64 ((ci : Nat) : Int), .bool r, .bool s, .bool e, .int .i64 (-1), .int .i64 (-1)]
            simpa using this
          rw [hwb]
          exact t
        have HT := Lib.hid (show ∀ w6, Mods [w.heap.size] w5 w6 → RolTo w w6 p g x.all (P.watch ((ci : Nat) : Int) r s e) m (K + 1) from fun w6 h6 => by
          have hE : P.watchE ((ci : Nat) : Int) = 0 := by unfold Plr.watchE; rw [if_neg (by rw [HO.out]; simp), HD.out]; rfl
          have hrow := Rn.mods hm5 (by have := HS.out.2.1.size; have := HF.out.map.lt; simp; omega)
          obtain ⟨F', g1, g2, g3⟩ := HF.out.watchTo (r := r) (s := s) (e := e) hE (by omega) hcnt HS.out.1 HS.out.2.1 HS.out.2.2 MB (Nat.le_succ _) (by simpa [rwc, tldZ] using hrow) (by exact hp5) hm5
          have hwl : w.heap.size < wr.heap.size := RR.out.lt
          refine ⟨F', g1.mods h6 (fun k hk hk2 => ?_), ((MR.out.more (by simp)).trans g2 (fun k hk => .inl hk)).trans h6 (fun k hk => by simp at hk; omega), fun k hk => ?_⟩
          · obtain rfl := List.mem_singleton.1 hk2
            rcases g3 _ hk with h | h
            · obtain ⟨i, hi⟩ := Ft.mem_all.1 h
              exact Nat.lt_irrefl _ (HH.out.lt i _ hi)
            · omega
          · rcases g3 k hk with h | h
            · exact .inl h
            · right; omega)
        clear hp5 hm5 hmp hwb MB z2 Rn Rb MR5
        go_region_held3 (fun w' => w'.cell? ⟨p, 2, none⟩ = some (.map (some mb)) ∧ w'.cell? ⟨w3.heap.size, 0, none⟩ = some (.int .i64 P.sl.least)) (go_keep) (fail)
        go_wp2_with fail
        exact ret_hand2 Tryd.results29 ((R5.out.set 0 _).set 1 _) rfl rfl rfl ⟨rfl, Lib.hid (HT.out _ (((Mods.refl _ w5).setCell (.inl (by simp)) _).setCell (.inl (by simp)) _))⟩
#print axioms rlwatch_yes
end Go.Proofs.YthaapkafamdhcaaDoor
