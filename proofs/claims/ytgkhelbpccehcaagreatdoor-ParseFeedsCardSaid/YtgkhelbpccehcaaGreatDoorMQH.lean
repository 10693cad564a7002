/- A reader of chunks: what holds behind each byte, and how the code counts it. No program but for what Parse answers. -/
import Derived.Test.YtgkhelbpccehcaaGreatDoorMQG
import Derived.Test.YtgkhelbpccehcaaGreatDoorChecked
import Derived.ProofKit
import Derived.OpenShut
import Derived.SizedLaws
import Derived.Deep.Slices
import Derived.Deep.Fields
import Derived.ChangeSlices
import Derived.Test.YtgkhelbpccehcaaGreatDoorMQB
import Derived.Deep.RegionHeld3
import Derived.BigRegion
import Derived.BigQuiet
import Derived.Lib.SliceRun
import Derived.Lib.SmallJoins
import Derived.Test.YtgkhelbpccehcaaGreatDoorMQA
import Derived.Deep.CutBlock
import Derived.Deep.DeepCutAuto
import Derived.Deep.RegionWith
import Derived.Deep.RegionLaw
namespace Go.Proofs.YtgkhelbpccehcaaGreatDoor
open Go.RowKit
set_option linter.unusedVariables false
set_option linter.unusedSimpArgs false

/-- What holds of every reader that bytes have made. -/
structure ChOk (r : ChP) : Prop where
  st : r.state ≤ 3
  body : r.body.length ≤ 2048
  room : r.state = 1 → 1 ≤ r.left ∧ r.body.length + r.left ≤ 2048
  crlf : r.state = 2 → r.line = [] ∨ r.line = [13]
  data : r.state = 1 → r.line = []
  size : r.state = 0 → r.line.length ≤ 65
  line : r.line.length ≤ 257
  ends : r.ends ≤ 512
  len : r.trail.length ≤ 8
  small : ∀ p ∈ r.trail, p.1.size ≤ 256 ∧ p.2.size ≤ 256
theorem newC_ok : ChOk newC := ⟨by decide, by decide, (fun h => by cases h), (fun h => by cases h), (fun h => by cases h), (fun _ => by decide), by decide, by decide, by decide, (fun _ h => nomatch h)⟩
theorem done_no {r : ChP} (h : doneC r = false) : r.whole = false ∧ r.status = 0 := by
  unfold doneC at h
  rw [Bool.or_eq_false_iff] at h
  exact ⟨h.1, by have := h.2; simpa using this⟩
theorem done_of {r : ChP} (h1 : r.whole = false) (h2 : r.status = 0) : doneC r = false := by unfold doneC; rw [h1, h2]; rfl
theorem parR_size {s : ByteArray} (h : (parR s).2 = 0) : (parR s).1.1.size ≤ 256 ∧ (parR s).1.2.size ≤ 256 := by
  by_cases hl : 256 < s.size
  · rw [parR_long hl] at h; cases h
  · rcases colon_cases s with hc | ⟨i, hc, hi⟩
    · rw [parR_none hl hc] at h; cases h
    · cases hok : okF (fldAt s i) with
      | false => rw [parR_bad hl hc hok] at h; cases h
      | true =>
        rw [parR_yes hl hc hok]
        have h2 := fldAt_size s i
        exact ⟨show (fldAt s i).1.size ≤ 256 by omega, show (fldAt s i).2.size ≤ 256 by omega⟩
/-! A size line. -/
/-- What sizeOf answers. -/
def szO (s : List UInt8) : Nat × Bool := if (hxs s).length < 1 ∨ 6 < (hxs s).length then (0, false) else if parsL (s.drop (hxs s).length) = none then (0, false) else (hxn s, true)
theorem sizeP_szo (r : ChP) (s : List UInt8) : sizeP r s = if (szO s).2 = false then { r with status := 400 } else if 2048 < r.body.length + (szO s).1 then { r with status := 413 } else if (szO s).1 = 0 then { r with state := 3 } else { r with state := 1, left := (szO s).1 } := by
  unfold sizeP szO
  split
  · simp
  · split
    · simp
    · simp
theorem sizeP_bad {r : ChP} {s : List UInt8} (h : (szO s).2 = false) : sizeP r s = { r with status := 400 } := by rw [sizeP_szo, if_pos h]
theorem sizeP_much {r : ChP} {s : List UInt8} (h : (szO s).2 = true) (h2 : 2048 < r.body.length + (szO s).1) : sizeP r s = { r with status := 413 } := by rw [sizeP_szo, if_neg (by rw [h]; simp), if_pos h2]
theorem sizeP_last {r : ChP} {s : List UInt8} (h : (szO s).2 = true) (h2 : ¬ 2048 < r.body.length + (szO s).1) (h3 : (szO s).1 = 0) : sizeP r s = { r with state := 3 } := by rw [sizeP_szo, if_neg (by rw [h]; simp), if_neg h2, if_pos h3]
theorem sizeP_more {r : ChP} {s : List UInt8} (h : (szO s).2 = true) (h2 : ¬ 2048 < r.body.length + (szO s).1) (h3 : ¬ (szO s).1 = 0) : sizeP r s = { r with state := 1, left := (szO s).1 } := by rw [sizeP_szo, if_neg (by rw [h]; simp), if_neg h2, if_neg h3]
theorem sizeP_ok {r : ChP} {s : List UInt8} (o : ChOk r) (hl : r.line = []) (h0 : r.state = 0) : ChOk (sizeP r s) := by
  rw [sizeP_szo]
  split
  · exact ⟨o.st, o.body, o.room, o.crlf, o.data, o.size, o.line, o.ends, o.len, o.small⟩
  · split
    · exact ⟨o.st, o.body, o.room, o.crlf, o.data, o.size, o.line, o.ends, o.len, o.small⟩
    · split
      · exact ⟨show (3 : Nat) ≤ 3 by decide, o.body, (fun h => by cases h), (fun h => by cases h), (fun h => by cases h), (fun h => by cases h), o.line, o.ends, o.len, o.small⟩
      · exact ⟨show (1 : Nat) ≤ 3 by decide, o.body, (fun _ => ⟨by show 1 ≤ (szO s).1; omega, by show r.body.length + (szO s).1 ≤ 2048; omega⟩), (fun h => by cases h), (fun _ => hl), (fun h => by cases h), o.line, o.ends, o.len, o.small⟩
/-! A trailer. -/
theorem trailP_end (r : ChP) : trailP r [] = { r with whole := true } := by unfold trailP; rw [if_pos rfl]
theorem trailP_bad {r : ChP} {s : List UInt8} (h0 : s ≠ []) (h : (parR (ofL s)).2 ≠ 0) : trailP r s = { r with status := 400 } := by unfold trailP; rw [if_neg h0, if_pos h]
theorem trailP_much {r : ChP} {s : List UInt8} (h0 : s ≠ []) (h : (parR (ofL s)).2 = 0) (h1 : r.trail.length = 8 ∨ 512 < r.ends + (s.length + 2)) : trailP r s = { r with status := 431 } := by unfold trailP; rw [if_neg h0, if_neg (by simpa using h), if_pos h1]
theorem trailP_more {r : ChP} {s : List UInt8} (h0 : s ≠ []) (h : (parR (ofL s)).2 = 0) (h1 : ¬ (r.trail.length = 8 ∨ 512 < r.ends + (s.length + 2))) : trailP r s = { r with ends := r.ends + (s.length + 2), trail := r.trail ++ [(parR (ofL s)).1] } := by unfold trailP; rw [if_neg h0, if_neg (by simpa using h), if_neg h1]
theorem trailP_ok {r : ChP} {s : List UInt8} (o : ChOk r) (h3 : r.state = 3) : ChOk (trailP r s) := by
  by_cases h0 : s = []
  · subst h0; rw [trailP_end]; exact ⟨o.st, o.body, o.room, o.crlf, o.data, o.size, o.line, o.ends, o.len, o.small⟩
  · by_cases h : (parR (ofL s)).2 = 0
    · by_cases h1 : r.trail.length = 8 ∨ 512 < r.ends + (s.length + 2)
      · rw [trailP_much h0 h h1]; exact ⟨o.st, o.body, o.room, o.crlf, o.data, o.size, o.line, o.ends, o.len, o.small⟩
      · rw [trailP_more h0 h h1]
        rw [not_or] at h1
        refine ⟨o.st, o.body, o.room, o.crlf, o.data, o.size, o.line, by show r.ends + (s.length + 2) ≤ 512; omega, ?_, ?_⟩
        · have := o.len
          show (r.trail ++ _).length ≤ 8
          rw [List.length_append]; simp; omega
        · intro p hp
          rcases List.mem_append.1 hp with hp | hp
          · exact o.small p hp
          · rw [List.mem_singleton] at hp; subst hp; exact parR_size h
    · rw [trailP_bad h0 h]; exact ⟨o.st, o.body, o.room, o.crlf, o.data, o.size, o.line, o.ends, o.len, o.small⟩
/-! All bytes. -/
theorem ChOk.fresh {r : ChP} (o : ChOk r) : ChOk { r with line := [] } := ⟨o.st, o.body, o.room, (fun _ => .inl rfl), (fun _ => rfl), (fun _ => show (0 : Nat) ≤ 65 by decide), show (0 : Nat) ≤ 257 by decide, o.ends, o.len, o.small⟩
theorem ChOk.bad {r : ChP} (o : ChOk r) (n : Int) : ChOk { r with status := n } := ⟨o.st, o.body, o.room, o.crlf, o.data, o.size, o.line, o.ends, o.len, o.small⟩
theorem ChOk.one {r : ChP} (o : ChOk r) (c : UInt8) : ChOk (oneP r c) := by
  unfold oneP
  split
  · rename_i h1
    obtain ⟨hl, hb⟩ := o.room h1
    have hd := o.data h1
    refine ⟨?_, ?_, ?_, ?_, ?_, ?_, ?_, o.ends, o.len, o.small⟩
    · show (if r.left = 1 then 2 else 1) ≤ 3; split <;> omega
    · show (r.body ++ [c]).length ≤ 2048; rw [List.length_append]; simp; omega
    · intro h
      have hne : r.left ≠ 1 := by intro e; simp only [dataP, e, if_true] at h; cases h
      exact ⟨by show 1 ≤ r.left - 1; omega, by show (r.body ++ [c]).length + (r.left - 1) ≤ 2048; rw [List.length_append]; simp; omega⟩
    · intro _; left; show (if r.left = 1 then [] else r.line) = []; split
      · rfl
      · exact hd
    · intro _; show (if r.left = 1 then [] else r.line) = []; split
      · rfl
      · exact hd
    · intro _; show (if r.left = 1 then [] else r.line).length ≤ 65; split
      · decide
      · rw [hd]; decide
    · show (if r.left = 1 then [] else r.line).length ≤ 257; split
      · decide
      · rw [hd]; decide
  · split
    · rename_i h1 h2
      unfold crlfP
      split
      · split
        · exact ⟨o.st, o.body, o.room, (fun _ => .inr rfl), (fun h => absurd h h1), (fun h => by rw [show r.state = 2 from h2] at h; cases h), by show [(13 : UInt8)].length ≤ 257; decide, o.ends, o.len, o.small⟩
        · exact o.bad 400
      · split
        · exact ⟨show (0 : Nat) ≤ 3 by decide, o.body, (fun h => by cases h), (fun h => by cases h), (fun h => by cases h), (fun _ => show (0 : Nat) ≤ 65 by decide), show (0 : Nat) ≤ 257 by decide, o.ends, o.len, o.small⟩
        · exact o.bad 400
    · rename_i h1 h2
      split
      · unfold endP
        split
        · split
          · rename_i h0; exact sizeP_ok o.fresh rfl h0
          · rename_i h0; exact trailP_ok o.fresh (by show r.state = 3; have := o.st; omega)
        · exact o.bad 400
      · unfold growP
        split
        · exact o.bad 400
        · split
          · exact o.bad 431
          · rename_i h3 h4
            have hcnt : ∀ c, r.line.length ≤ cntL r.line c := fun c => by unfold cntL; split <;> omega
            have hc := hcnt c
            have hc2 : r.line.length + 1 ≤ cntL r.line c + 1 := by omega
            refine ⟨o.st, o.body, o.room, (fun h => absurd h h2), (fun h => absurd h h1), ?_, ?_, o.ends, o.len, o.small⟩
            · intro h0
              have : ¬ 64 < cntL r.line c := fun h => h3 ⟨h0, h⟩
              show (r.line ++ [c]).length ≤ 65; rw [List.length_append]; simp; omega
            · show (r.line ++ [c]).length ≤ 257
              rw [List.length_append]; simp
              by_cases h0 : r.state = 0
              · have : ¬ 64 < cntL r.line c := fun h => h3 ⟨h0, h⟩
                omega
              · have : ¬ 256 < cntL r.line c := fun h => h4 ⟨h0, .inl h⟩
                omega
theorem ChOk.feed : ∀ (l : List UInt8) {r : ChP}, ChOk r → ChOk (feedP r l).1
  | [], r, o => o
  | c :: l, r, o => by
    cases h : doneC r with
    | true => rw [feed_done h]; exact o
    | false => rw [feed_cons h]; exact ChOk.feed l (o.one c)

/-! How the code counts. -/
def lnC (r : ChP) : List UInt8 := if r.state = 1 ∨ r.state = 2 then [] else r.line
def lfC (r : ChP) : Nat := if r.state = 1 then r.left + 2 else if r.state = 2 then (if r.line = [] then 2 else 1) else 0
def laC (r : ChP) : Bool := decide (r.state = 3)
/-- How many bytes of a line count. -/
def cntT (L : List UInt8) : Nat := if L.getLast? = some 13 then L.length - 1 else L.length
theorem cntT_snoc (L : List UInt8) (c : UInt8) : cntT (L ++ [c]) = cntL L c := by
  unfold cntT cntL
  rw [List.getLast?_append]
  simp
/-- What weigh answers. -/
def wgS (last : Bool) (e : Nat) (L : List UInt8) : Int := if last = false then (if 64 < cntT L then 400 else 0) else if 256 < cntT L ∨ 512 < e + cntT L then 431 else 0
theorem grow_wg {r : ChP} {c : UInt8} (h0 : r.status = 0) (hs : r.state = 0 ∨ r.state = 3) : (growP r c).status = wgS (laC r) r.ends (r.line ++ [c]) ∧ (growP r c).body = r.body ∧ (growP r c).trail = r.trail ∧ (growP r c).whole = r.whole ∧ ((growP r c).status = 0 → growP r c = { r with line := r.line ++ [c] }) := by
  unfold growP wgS
  rw [cntT_snoc]
  rcases hs with hs | hs
  · have e1 : laC r = false := by unfold laC; rw [hs]; rfl
    rw [e1, if_pos rfl]
    by_cases h : 64 < cntL r.line c
    · rw [if_pos ⟨hs, h⟩, if_pos h]; exact ⟨rfl, rfl, rfl, rfl, fun h => by cases h⟩
    · rw [if_neg (fun x => h x.2), if_neg (fun x => x.1 hs), if_neg h]; exact ⟨h0, rfl, rfl, rfl, fun _ => rfl⟩
  · have e1 : laC r = true := by unfold laC; rw [hs]; rfl
    have hs0 : r.state ≠ 0 := by omega
    rw [e1, if_neg (show ¬ (r.state = 0 ∧ 64 < cntL r.line c) from fun x => hs0 x.1), if_neg (show ¬ (true = false) by decide)]
    by_cases h : 256 < cntL r.line c ∨ 512 < r.ends + cntL r.line c
    · rw [if_pos ⟨hs0, h⟩, if_pos h]; exact ⟨rfl, rfl, rfl, rfl, fun h => by cases h⟩
    · rw [if_neg (fun x => h x.2), if_neg h]; exact ⟨h0, rfl, rfl, rfl, fun _ => rfl⟩
end Go.Proofs.YtgkhelbpccehcaaGreatDoor

/- Rows of bytes behind a slice of slices. No text of the program. -/
namespace Go.Proofs.YtgkhelbpccehcaaGreatDoor
open Go.RowKit
set_option linter.unusedVariables false
set_option linter.unusedSimpArgs false

end Go.Proofs.YtgkhelbpccehcaaGreatDoor

/- Bytes, rows of bytes, numbers that came in. Condition: they lie within the reach. -/
namespace Go.Proofs.YtgkhelbpccehcaaGreatDoor
open Go.ChangeShapes Go.WideShapes Go.ChangeAt Go.RowKit Go.Deep
set_option maxRecDepth 10000
set_option linter.unusedVariables false
set_option linter.unusedSimpArgs false

theorem u8_wf14 {n : Int} (h : (Lit.int .u8 n).wf = true) : 0 ≤ n ∧ n ≤ 255 := by simpa [Lit.wf, IntKind.min, IntKind.max, IntKind.signed, IntKind.bits] using h
theorem ofNat_toNat14 {z : Int} (h : 0 ≤ z ∧ z ≤ 255) : ((UInt8.ofNat z.toNat).toNat : Int) = z := by
  rw [UInt8.toNat_ofNat']; omega
theorem addr_add14 (b off j : Nat) : (⟨b, off, none⟩ : Addr).add j = ⟨b, off + j, none⟩ := by
  unfold Addr.add; split <;> simp_all
section
variable {H : Type} {enc : TypeId × Value → H} {W : World} {base : Nat} {held : Bool} {b0 : Nat}
theorem trod_bs {fuel : Nat} {c : Value} {x : DataW H × List MemPlace} (h : DataW.trod enc Tryz.prog W base (fun _ => true) held fuel 22 [c] = some x) (hsz : ∀ n ∈ x.1.weights Tryz.prog 22, n ≤ reachBytes) :
    ∃ l : List UInt8, BsAt W c l := by
  rcases open_ints Tryz.underlying22 Tryz.underlying5 (by kernel_rfl) h with ⟨hcs, _⟩ | ⟨x, l, cp, zs, hcs, _, hl, hm, hz, hx, hcell, hws⟩
  · injection hcs with hcs
    subst hcs
    exact ⟨[], .inl ⟨rfl, _, _, rfl⟩⟩
  · injection hcs with hcs
    subst hcs
    have hz' : zs.length = cp := by simpa using hz
    have hcp : cp ≤ reachBytes := by
      have hb : Tryz.prog.bytesOf 5 = 1 := by kernel_rfl
      have := hsz _ (by rw [hx]; simp only [DataW.weights, Tryz.underlying22]; exact List.mem_cons_self)
      simp only [lits, List.length_map, List.length_take, List.length_drop, hb] at this
      omega
    have hrb : reachBytes = 140737488351232 := rfl
    have hlen : ((zs.take l).map fun z => UInt8.ofNat z.toNat).length = l := by rw [List.length_map, List.length_take]; omega
    by_cases h0 : l = 0
    · subst h0
      exact ⟨[], .inl ⟨rfl, _, _, rfl⟩⟩
    · obtain ⟨b, off, spot⟩ := x
      have hc0 := hcell 0 (by omega)
      have hspot : spot = none := by simpa [Addr.add] using World.cell?_spot hc0
      subst hspot
      refine ⟨(zs.take l).map fun z => UInt8.ofNat z.toNat, .inr ⟨b, off, cp, by rw [hlen], by rw [hlen]; omega, ?_, by rw [hlen]; omega, by omega, fun i hi => ?_⟩⟩
      · have := World.block_lt_of_cell? W _ hc0
        simpa [addr_add14] using this
      · rw [hlen] at hi
        have hi2 : i < zs.length := by omega
        have hc := hcell i hi2
        rw [List.getD_eq_getElem?_getD, List.getElem?_eq_getElem hi2, Option.getD_some, addr_add14] at hc
        rw [hc]
        simp only [List.getElem_map, List.getElem_take]
        rw [ofNat_toNat14 (u8_wf14 (hws _ (List.getElem_mem hi2)))]
theorem open_bs14 {v : Value} {d : DataW H} {p : List MemPlace} (hv : Value.okWide Tryz.prog W .any b0 22 v) (h : DataW.Trod enc Tryz.prog W base (fun _ => true) held 22 v d p) (hsz : ∀ n ∈ d.weights Tryz.prog 22, n ≤ reachBytes) :
    ∃ l : List UInt8, BsAt W v l := by
  obtain ⟨a0, len0, cap0, rfl⟩ := okWide_slice Tryz.underlying22 hv
  obtain ⟨fuel, hf⟩ := h
  exact trod_bs hf hsz
end
end Go.Proofs.YtgkhelbpccehcaaGreatDoor

/- Readers of chunks in memory, the code's and the document's, over one plain reader. No program but for the types' numbers. -/
namespace Go.Proofs.YtgkhelbpccehcaaGreatDoor
open Go.RowKit
set_option linter.unusedVariables false
set_option linter.unusedSimpArgs false

/-- What turned of blocks F, and which ones are held behind it. -/
structure Grew (F F' : List Nat) (w w' : World) : Prop where
  mods : Mods F w w'
  news : ∀ k ∈ F', k ∈ F ∨ w.heap.size ≤ k
theorem Grew.refl (F : List Nat) (w : World) : Grew F F w w := ⟨Mods.refl _ _, fun k hk => .inl hk⟩
theorem Grew.trans {F F1 F2 : List Nat} {w w1 w2 : World} (h1 : Grew F F1 w w1) (h2 : Grew F1 F2 w1 w2) : Grew F F2 w w2 :=
  ⟨h1.mods.trans h2.mods h1.news, fun k hk => by
    rcases h2.news k hk with h | h
    · exact h1.news k h
    · exact .inr (Nat.le_trans h1.mods.size h)⟩
theorem Grew.low {F F1 : List Nat} {w w1 w2 : World} (h1 : Grew F F1 w w1) (h2 : Mods [] w1 w2) : Grew F F1 w w2 := ⟨h1.mods.trans h2 (fun _ h => nomatch h), h1.news⟩
theorem Grew.of_low {F : List Nat} {w w1 : World} (h : Mods [] w w1) : Grew F F w w1 := ⟨h.more (fun _ h => nomatch h), fun k hk => .inl hk⟩
theorem own_ne_own {w : World} {e e' : TypeId} {s s' n n' : Nat} {v v' : Value} {xs xs' : List Value} (h : w.ownsRow 0 e s v n xs) (h' : w.ownsRow 0 e' s' v' n' xs') (hne : e ≠ e') : ∀ k ∈ v.ownBlock.toList, k ∉ v'.ownBlock.toList := by
  intro k hk hk'
  rcases h'.2 with ⟨rfl, _⟩ | ⟨g', cap, cur, rfl, _, hh, _⟩
  · simp [Value.ownBlock] at hk'
  · have : k = g' := by simpa [Value.ownBlock, eq_comm] using hk'
    subst this
    exact own_ne_row h (show Row w k e' cur from hh) hne k hk rfl

/-- An object with three rows of its own: bytes of a line, bytes of a body, fields. -/
structure Rd3 (t : TypeId) (cs : Value → Value → Value → Array Value) (g : Nat) (vl vb vt : Value) (w : World) (L B : List UInt8) (T : List FV) : Prop where
  row : Row w g t (cs vl vb vt)
  line : BRow w vl L
  body : BRow w vb B
  trail : w.ownsRow 0 81 2 vt T.length (encF T)
  apart : ∀ k ∈ vl.ownBlock.toList, k ∉ vb.ownBlock.toList
/-- Its blocks. -/
abbrev rdb (g : Nat) (vl vb vt : Value) : List Nat := g :: (vl.ownBlock.toList ++ (vb.ownBlock.toList ++ vt.ownBlock.toList))
section
variable {t : TypeId} {cs cs' : Value → Value → Value → Array Value} {g : Nat} {vl vb vt v' : Value} {w w' w4 : World} {L B L' B' : List UInt8} {T T' : List FV} {F : List Nat}
theorem Rd3.mods (c : Rd3 t cs g vl vb vt w L B T) (hm : Mods F w w') (hF : ∀ k ∈ rdb g vl vb vt, k ∉ F) : Rd3 t cs g vl vb vt w' L B T :=
  ⟨c.row.mods hm (hF g (by simp)), c.line.mods hm (fun k hk => hF k (by simp [hk])), c.body.mods hm (fun k hk => hF k (by simp [hk])), own_mods c.trail hm (fun k hk => hF k (by simp [hk])), c.apart⟩
theorem Rd3.low (c : Rd3 t cs g vl vb vt w L B T) (hm : Mods [] w w') : Rd3 t cs g vl vb vt w' L B T := c.mods hm (by simp)
theorem Rd3.lt (c : Rd3 t cs g vl vb vt w L B T) : ∀ k ∈ rdb g vl vb vt, k < w.heap.size := by
  intro k hk
  simp only [List.mem_cons, List.mem_append] at hk
  rcases hk with rfl | hk | hk | hk
  · exact c.row.lt
  · exact c.line.lt k hk
  · exact c.body.lt k hk
  · exact own_lt c.trail k hk
theorem Rd3.ne_l (c : Rd3 t cs g vl vb vt w L B T) (ht : 5 ≠ t := by decide) : ∀ k ∈ vl.ownBlock.toList, k ≠ g := own_ne_row c.line c.row ht
theorem Rd3.ne_b (c : Rd3 t cs g vl vb vt w L B T) (ht : 5 ≠ t := by decide) : ∀ k ∈ vb.ownBlock.toList, k ≠ g := own_ne_row c.body c.row ht
theorem Rd3.ne_t (c : Rd3 t cs g vl vb vt w L B T) (ht : 81 ≠ t := by decide) : ∀ k ∈ vt.ownBlock.toList, k ≠ g := own_ne_row c.trail c.row ht
/-- A cell that is none of the three slices. -/
theorem Rd3.set (c : Rd3 t cs g vl vb vt w L B T) (i : Nat) (u : Value) (he : (cs vl vb vt).setIfInBounds i u = cs' vl vb vt) (ht : 5 ≠ t := by decide) (hf : 81 ≠ t := by decide) :
    Rd3 t cs' g vl vb vt (w.setCell ⟨g, i, none⟩ u) L B T := by
  have hm : Mods [g] w (w.setCell ⟨g, i, none⟩ u) := (Mods.refl [g] w).setCell (.inl (by simp)) u
  exact ⟨he ▸ c.row.set i u, c.line.mods hm (fun k hk => by simpa using c.ne_l ht k hk), c.body.mods hm (fun k hk => by simpa using c.ne_b ht k hk), own_mods c.trail hm (fun k hk => by simpa using c.ne_t hf k hk), c.apart⟩
theorem Rd3.put (c : Rd3 t cs g vl vb vt w L B T) (i : Nat) (u : Value) (hm : Mods F w w4) (hF : ∀ k ∈ F, k ∈ rdb g vl vb vt) (hn : ∀ k ∈ rdb g v' vb vt, k ∈ rdb g vl vb vt ∨ w.heap.size ≤ k) : Grew (rdb g vl vb vt) (rdb g v' vb vt) w (w4.setCell ⟨g, i, none⟩ u) :=
  ⟨(hm.more (fun k hk => .inl (hF k hk))).setCell (.inl (by simp)) u, hn⟩
theorem Rd3.set_grew (c : Rd3 t cs g vl vb vt w L B T) (i : Nat) (u : Value) : Grew (rdb g vl vb vt) (rdb g vl vb vt) w (w.setCell ⟨g, i, none⟩ u) :=
  ⟨(Mods.refl _ w).setCell (.inl (by simp)) u, fun k hk => .inl hk⟩
/-- The line's row is another one. -/
theorem Rd3.putL (c : Rd3 t cs g vl vb vt w L B T) (h : BRow w4 v' L') (hm : Mods vl.ownBlock.toList w w4) (hn : ∀ k ∈ v'.ownBlock.toList, k ∈ vl.ownBlock.toList ∨ w.heap.size ≤ k) (i : Nat) (he : (cs vl vb vt).setIfInBounds i v' = cs' v' vb vt)
    (ht : 5 ≠ t := by decide) (hf : 81 ≠ t := by decide) :
    Rd3 t cs' g v' vb vt (w4.setCell ⟨g, i, none⟩ v') L' B T ∧ Grew (rdb g vl vb vt) (rdb g v' vb vt) w (w4.setCell ⟨g, i, none⟩ v') := by
  have hr := c.row.mods hm (fun hk => c.ne_l ht g hk rfl)
  have hm2 : Mods [g] w4 (w4.setCell ⟨g, i, none⟩ v') := (Mods.refl [g] w4).setCell (.inl (by simp)) v'
  refine ⟨⟨he ▸ hr.set i v', h.mods hm2 (fun k hk => by simpa using own_ne_row h hr ht k hk), ?_, ?_, ?_⟩, ⟨(hm.more (fun k hk => .inl (by simp [hk]))).setCell (.inl (by simp)) v', ?_⟩⟩
  · exact (c.body.mods hm (fun k hk hk2 => c.apart k hk2 hk)).mods hm2 (fun k hk => by simpa using c.ne_b ht k hk)
  · exact own_mods (own_mods c.trail hm (fun k hk hk2 => own_ne_own c.line c.trail (by decide) k hk2 hk)) hm2 (fun k hk => by simpa using c.ne_t hf k hk)
  · intro k hk hb
    rcases hn k hk with h | h
    · exact c.apart k h hb
    · have := c.body.lt k hb; omega
  · intro k hk
    simp only [List.mem_cons, List.mem_append] at hk ⊢
    rcases hk with hk | hk | hk | hk
    · exact .inl (.inl hk)
    · rcases hn k hk with h | h
      · exact .inl (.inr (.inl h))
      · exact .inr h
    · exact .inl (.inr (.inr (.inl hk)))
    · exact .inl (.inr (.inr (.inr hk)))
/-- The body's row is another one. -/
theorem Rd3.putB (c : Rd3 t cs g vl vb vt w L B T) (h : BRow w4 v' B') (hm : Mods vb.ownBlock.toList w w4) (hn : ∀ k ∈ v'.ownBlock.toList, k ∈ vb.ownBlock.toList ∨ w.heap.size ≤ k) (i : Nat) (he : (cs vl vb vt).setIfInBounds i v' = cs' vl v' vt)
    (ht : 5 ≠ t := by decide) (hf : 81 ≠ t := by decide) :
    Rd3 t cs' g vl v' vt (w4.setCell ⟨g, i, none⟩ v') L B' T ∧ Grew (rdb g vl vb vt) (rdb g vl v' vt) w (w4.setCell ⟨g, i, none⟩ v') := by
  have hr := c.row.mods hm (fun hk => c.ne_b ht g hk rfl)
  have hm2 : Mods [g] w4 (w4.setCell ⟨g, i, none⟩ v') := (Mods.refl [g] w4).setCell (.inl (by simp)) v'
  refine ⟨⟨he ▸ hr.set i v', ?_, h.mods hm2 (fun k hk => by simpa using own_ne_row h hr ht k hk), ?_, ?_⟩, ⟨(hm.more (fun k hk => .inl (by simp [hk]))).setCell (.inl (by simp)) v', ?_⟩⟩
  · exact (c.line.mods hm (fun k hk hk2 => c.apart k hk hk2)).mods hm2 (fun k hk => by simpa using c.ne_l ht k hk)
  · exact own_mods (own_mods c.trail hm (fun k hk hk2 => own_ne_own c.body c.trail (by decide) k hk2 hk)) hm2 (fun k hk => by simpa using c.ne_t hf k hk)
  · intro k hk hb
    rcases hn k hb with h | h
    · exact c.apart k hk h
    · have := c.line.lt k hk; omega
  · intro k hk
    simp only [List.mem_cons, List.mem_append] at hk ⊢
    rcases hk with hk | hk | hk | hk
    · exact .inl (.inl hk)
    · exact .inl (.inr (.inl hk))
    · rcases hn k hk with h | h
      · exact .inl (.inr (.inr (.inl h)))
      · exact .inr h
    · exact .inl (.inr (.inr (.inr hk)))
/-- The fields' row is another one. -/
theorem Rd3.putT (c : Rd3 t cs g vl vb vt w L B T) (h : w4.ownsRow 0 81 2 v' T'.length (encF T')) (hm : Mods vt.ownBlock.toList w w4) (hn : ∀ k ∈ v'.ownBlock.toList, k ∈ vt.ownBlock.toList ∨ w.heap.size ≤ k) (i : Nat) (he : (cs vl vb vt).setIfInBounds i v' = cs' vl vb v')
    (ht : 5 ≠ t := by decide) (hf : 81 ≠ t := by decide) :
    Rd3 t cs' g vl vb v' (w4.setCell ⟨g, i, none⟩ v') L B T' ∧ Grew (rdb g vl vb vt) (rdb g vl vb v') w (w4.setCell ⟨g, i, none⟩ v') := by
  have hr := c.row.mods hm (fun hk => c.ne_t hf g hk rfl)
  have hm2 : Mods [g] w4 (w4.setCell ⟨g, i, none⟩ v') := (Mods.refl [g] w4).setCell (.inl (by simp)) v'
  refine ⟨⟨he ▸ hr.set i v', ?_, ?_, own_mods h hm2 (fun k hk => by simpa using own_ne_row h hr hf k hk), c.apart⟩, ⟨(hm.more (fun k hk => .inl (by simp [hk]))).setCell (.inl (by simp)) v', ?_⟩⟩
  · exact (c.line.mods hm (fun k hk hk2 => own_ne_own c.line c.trail (by decide) k hk hk2)).mods hm2 (fun k hk => by simpa using c.ne_l ht k hk)
  · exact (c.body.mods hm (fun k hk hk2 => own_ne_own c.body c.trail (by decide) k hk hk2)).mods hm2 (fun k hk => by simpa using c.ne_b ht k hk)
  · intro k hk
    simp only [List.mem_cons, List.mem_append] at hk ⊢
    rcases hk with hk | hk | hk | hk
    · exact .inl (.inl hk)
    · exact .inl (.inr (.inl hk))
    · exact .inl (.inr (.inr (.inl hk)))
    · rcases hn k hk with h | h
      · exact .inl (.inr (.inr (.inr h)))
      · exact .inr h
end

/-! The code's reader. -/
def ckCells (left : Nat) (last : Bool) (e : Nat) (whole : Bool) (st : Int) (vl vb vt : Value) : Array Value := #[vl, .int .i64 left, vb, .bool last, .int .i64 e, vt, .bool whole, .int .i64 st]
abbrev CkC (g : Nat) (vl vb vt : Value) (w : World) (L : List UInt8) (left : Nat) (last : Bool) (e : Nat) (B : List UInt8) (T : List FV) (whole : Bool) (st : Int) : Prop := Rd3 109 (ckCells left last e whole st) g vl vb vt w L B T
theorem CkC.facts {g : Nat} {vl vb vt : Value} {w : World} {L B : List UInt8} {left e : Nat} {last whole : Bool} {T : List FV} {st : Int} (c : CkC g vl vb vt w L left last e B T whole st) :
    w.cell? ⟨g, 0, none⟩ = some vl ∧ w.cell? ⟨g, 1, none⟩ = some (.int .i64 left) ∧ w.cell? ⟨g, 2, none⟩ = some vb ∧ w.cell? ⟨g, 3, none⟩ = some (.bool last) ∧ w.cell? ⟨g, 4, none⟩ = some (.int .i64 e) ∧ w.cell? ⟨g, 5, none⟩ = some vt ∧ w.cell? ⟨g, 6, none⟩ = some (.bool whole) ∧ w.cell? ⟨g, 7, none⟩ = some (.int .i64 st) :=
  ⟨c.row.cell 0, c.row.cell 1, c.row.cell 2, c.row.cell 3, c.row.cell 4, c.row.cell 5, c.row.cell 6, c.row.cell 7⟩
/-- How the code counts where it is. -/
def RelC (r : ChP) (L : List UInt8) (left : Nat) (last : Bool) (e : Nat) : Prop := doneC r = false → L = lnC r ∧ left = lfC r ∧ last = laC r ∧ e = r.ends
/-- The code's reader, as a law holds it: F are its blocks. -/
structure CkA (F : List Nat) (w : World) (g : Nat) (r : ChP) : Prop where
  ex : ∃ vl vb vt L left last e, CkC g vl vb vt w L left last e r.body r.trail r.whole r.status ∧ F = rdb g vl vb vt ∧ RelC r L left last e
  ok : ChOk r
/-- What a byte has made, ahead of the storing of its status. -/
def TookC (g : Nat) (vl vb vt : Value) (w : World) (r : ChP) (w' : World) : Prop :=
  ∃ ul ub ut L left last e, CkC g ul ub ut w' L left last e r.body r.trail r.whole 0 ∧ RelC r L left last e ∧ Grew (rdb g vl vb vt) (rdb g ul ub ut) w w'
theorem CkA.mods {F G : List Nat} {w w' : World} {g : Nat} {r : ChP} (a : CkA F w g r) (hm : Mods G w w') (hF : ∀ k ∈ F, k ∉ G) : CkA F w' g r := by
  obtain ⟨vl, vb, vt, L, left, last, e, c, rfl, hz⟩ := a.ex
  exact ⟨⟨vl, vb, vt, L, left, last, e, c.mods hm hF, rfl, hz⟩, a.ok⟩
theorem CkA.low {F : List Nat} {w w' : World} {g : Nat} {r : ChP} (a : CkA F w g r) (hm : Mods [] w w') : CkA F w' g r := a.mods hm (by simp)
theorem CkA.lt {F : List Nat} {w : World} {g : Nat} {r : ChP} (a : CkA F w g r) : ∀ k ∈ F, k < w.heap.size := by
  obtain ⟨vl, vb, vt, L, left, last, e, c, rfl, hz⟩ := a.ex
  exact c.lt

/-! The document's reader. -/
def rfCells (state left e : Nat) (whole : Bool) (st : Int) (vl vb vt : Value) : Array Value := #[vb, vt, .bool whole, .int .i64 st, .int .i64 state, vl, .int .i64 left, .int .i64 e]
abbrev CkX (g : Nat) (vl vb vt : Value) (w : World) (L : List UInt8) (state left e : Nat) (B : List UInt8) (T : List FV) (whole : Bool) (st : Int) : Prop := Rd3 90 (rfCells state left e whole st) g vl vb vt w L B T
theorem CkX.facts {g : Nat} {vl vb vt : Value} {w : World} {L B : List UInt8} {state left e : Nat} {whole : Bool} {T : List FV} {st : Int} (c : CkX g vl vb vt w L state left e B T whole st) :
    w.cell? ⟨g, 0, none⟩ = some vb ∧ w.cell? ⟨g, 1, none⟩ = some vt ∧ w.cell? ⟨g, 2, none⟩ = some (.bool whole) ∧ w.cell? ⟨g, 3, none⟩ = some (.int .i64 st) ∧ w.cell? ⟨g, 4, none⟩ = some (.int .i64 state) ∧ w.cell? ⟨g, 5, none⟩ = some vl ∧ w.cell? ⟨g, 6, none⟩ = some (.int .i64 left) ∧ w.cell? ⟨g, 7, none⟩ = some (.int .i64 e) :=
  ⟨c.row.cell 0, c.row.cell 1, c.row.cell 2, c.row.cell 3, c.row.cell 4, c.row.cell 5, c.row.cell 6, c.row.cell 7⟩
/-- Where the document's reader is. -/
def RelX (r : ChP) (L : List UInt8) (state left e : Nat) : Prop := doneC r = false → L = r.line ∧ state = r.state ∧ (r.state = 1 → left = r.left) ∧ e = r.ends
structure CkR (F : List Nat) (w : World) (g : Nat) (r : ChP) : Prop where
  ex : ∃ vl vb vt L state left e, CkX g vl vb vt w L state left e r.body r.trail r.whole r.status ∧ F = rdb g vl vb vt ∧ RelX r L state left e
  ok : ChOk r
theorem CkR.mods {F G : List Nat} {w w' : World} {g : Nat} {r : ChP} (a : CkR F w g r) (hm : Mods G w w') (hF : ∀ k ∈ F, k ∉ G) : CkR F w' g r := by
  obtain ⟨vl, vb, vt, L, state, left, e, c, rfl, hz⟩ := a.ex
  exact ⟨⟨vl, vb, vt, L, state, left, e, c.mods hm hF, rfl, hz⟩, a.ok⟩
theorem CkR.low {F : List Nat} {w w' : World} {g : Nat} {r : ChP} (a : CkR F w g r) (hm : Mods [] w w') : CkR F w' g r := a.mods hm (by simp)
theorem CkR.lt {F : List Nat} {w : World} {g : Nat} {r : ChP} (a : CkR F w g r) : ∀ k ∈ F, k < w.heap.size := by
  obtain ⟨vl, vb, vt, L, state, left, e, c, rfl, hz⟩ := a.ex
  exact c.lt
end Go.Proofs.YtgkhelbpccehcaaGreatDoor

/- bytes.HasSuffix, TrimSuffix and CutSuffix at a carriage return, bytes.Clone. Conditions: rows of at most a million bytes. -/
namespace Go.Proofs.YtgkhelbpccehcaaGreatDoor
open Go.RowKit
set_option linter.unusedVariables false
set_option linter.unusedSimpArgs false

theorem eq14 {a b : ByteArray} (h : a = b) : (a.toList == b.toList) = true := by rw [h]; simp
theorem ne14 {a b : ByteArray} (h : a ≠ b) : (a.toList == b.toList) = false := by
  rw [beq_eq_false_iff_ne]; intro e; exact h (bytes_ext (by rw [← ByteArray.toList_eq, e, ByteArray.toList_eq]))
theorem equal_b (A B : List UInt8) (va vb : Value) (w : World) (ha : BsAt w va A) (hb : BsAt w vb B) {r : Bool} (hr : decide (A = B) = r) :
    Calls Tryz.prog 85 #[va, vb] w fun e w' => e = .returned (.bool r) ∧ w = w' := by
  have h1 := ha.text
  have h2 := hb.text
  have hne : ((ofL A).toList == (ofL B).toList) = r := by
    rw [← hr]
    by_cases e : A = B
    · rw [decide_eq_true e]; exact eq14 (by rw [e])
    · rw [decide_eq_false e]; exact ne14 (fun h => e (ofL_inj h))
  obtain ⟨x, hx⟩ : ∃ x, x = ofL A := ⟨_, rfl⟩
  obtain ⟨y, hy⟩ : ∃ y, y = ofL B := ⟨_, rfl⟩
  rw [← hx] at h1 hne
  rw [← hy] at h2 hne
  clear hx hy hr
  obtain ⟨a, ca, rfl⟩ := ha.len
  obtain ⟨b, cb, rfl⟩ := hb.len
  clear ha hb
  go_enter Tryz.func85, Tryz.ntmps85
  go_wp2
  go_ret
  exact ⟨rfl, rfl⟩
/-- The bytes of a literal text. -/
theorem lit_at (w : World) (l : List UInt8) (fz : Nat × Nat) (h0 : 0 < l.length) (h : l.length ≤ 1000000000) : BsAt (w.alloc (.cells (bys l).toArray 5 fz)) (.slice (some ⟨w.heap.size, 0, none⟩) l.length l.length) l := by
  refine .inr ⟨_, 0, _, rfl, h0, by simp, Nat.le_refl _, by omega, fun j hj => ?_⟩
  rw [Nat.zero_add, cell_of_row _ w.heap.size j (bys l).toArray 5 fz (heap_alloc_new w _), List.getElem?_toArray]
  exact bys_at l j hj
theorem conv_lit (w : World) (C : Array Value) (n c g : Nat) (hg : g = w.heap.size) :
    (convert 22 22 (.slice (some ⟨g, 0, none⟩) n c)).run Tryz.prog (w.alloc (.cells C 5)) = .ok (.slice (some ⟨g, 0, none⟩) n c) (w.alloc (.cells C 5 (C.size, C.size + 1))) :=
  Go.Joins.run_convert_bytes_const_at (P := Tryz.prog) w 22 5 C n c g hg Tryz.underlying22 Tryz.underlying5
theorem conv_cr (w : World) : (convert 22 22 (.slice (some ⟨w.heap.size, 0, none⟩) 1 1)).run Tryz.prog (w.alloc (.cells #[.int .u8 13] 5)) = .ok (.slice (some ⟨w.heap.size, 0, none⟩) 1 1) (w.alloc (.cells #[.int .u8 13] 5 (1, 2))) :=
  conv_lit w #[.int .u8 13] 1 1 _ rfl
theorem cr_at (w : World) : BsAt (w.alloc (.cells #[.int .u8 13] 5 (1, 2))) (.slice (some ⟨w.heap.size, 0, none⟩) 1 1) [13] := lit_at w [13] (1, 2) (by decide) (by decide)
/-- Whether bytes end with a carriage return. -/
def crE (L : List UInt8) : Bool := decide (L.getLast? = some 13)
theorem crE_nil : crE [] = false := rfl
theorem crE_drop {L : List UInt8} (h : 0 < L.length) : decide (L.drop (L.length - 1) = [13]) = crE L := by
  unfold crE
  obtain ⟨M, c, rfl⟩ : ∃ M c, L = M ++ [c] := ⟨L.dropLast, L.getLast (List.length_pos_iff.1 h), (List.dropLast_concat_getLast _).symm⟩
  simp
set_option maxRecDepth 10000 in
theorem hassuf (L : List UInt8) (v : Value) (b : Nat) (w : World) (h : BsAt w v L) (hB : BsAt w (.slice (some ⟨b, 0, none⟩) 1 1) [13]) {r : Bool} (hr : crE L = r) :
    Calls Tryz.prog 63 #[v, .slice (some ⟨b, 0, none⟩) 1 1] w fun e w' => e = .returned (.bool r) ∧ w = w' := by
  rcases h with ⟨rfl, a, cap, rfl⟩ | ⟨g, off, cap, rfl, h0, hlt, h1, h2, hc⟩
  · rw [crE_nil] at hr
    subst hr
    clear hB
    go_enter Tryz.func63, Tryz.ntmps63
    go_wp2
    go_ret
    exact ⟨rfl, rfl⟩
  · have hA : BsAt w (.slice (some ⟨g, off, none⟩) L.length cap) L := .inr ⟨g, off, cap, rfl, h0, hlt, h1, h2, hc⟩
    obtain ⟨n, hn⟩ : ∃ n, L.length = n + 1 := ⟨L.length - 1, by omega⟩
    have hD := hA.from' (L.length - 1) (by omega) (A2 := some ⟨g, off + n, none⟩) (by rw [if_neg (by omega), Option.map_some, add_none, hn]; rfl) 1 (cap - n) (by omega) (by omega)
    have HE := Lib.hid (equal_b _ _ _ _ w hD hB (r := r) (by rw [← hr]; exact crE_drop h0))
    clear hD hB hA hc hr
    rw [hn] at h1 ⊢
    have hne : ¬ cap = n := by omega
    have hoff : (if cap = n then (some ⟨g, off, none⟩ : Option Addr) else Option.map (fun x : Addr => x.add n) (some ⟨g, off, none⟩)) = some ⟨g, off + n, none⟩ := by rw [if_neg hne, Option.map_some, add_none]
    clear hn hlt h0
    go_enter Tryz.func63, Tryz.ntmps63
    go_wp2_with (go_at_call 85; refine HE.out.mono ?_; rintro e w' ⟨rfl, rfl⟩)
    go_ret
    exact ⟨rfl, rfl⟩
set_option maxRecDepth 10000 in
theorem trimsuf (L : List UInt8) (A : Option Addr) (c b : Nat) (w : World) (h : BsAt w (.slice A L.length c) L) (hl : L.length ≤ 1000000) (hB : BsAt w (.slice (some ⟨b, 0, none⟩) 1 1) [13]) :
    Calls Tryz.prog 50 #[.slice A L.length c, .slice (some ⟨b, 0, none⟩) 1 1] w fun e w' => e = .returned (.slice A (cntT L) c) ∧ w = w' := by
  have hc : 0 < L.length → L.length ≤ c := fun h0 => by
    rcases h with ⟨rfl, _⟩ | ⟨_, _, _, hv, _, _, h1, _⟩
    · cases h0
    · injection hv with _ _ e; omega
  cases hr : crE L with
  | false =>
    have HS := Lib.hid (hassuf L _ b w h hB hr)
    have HT := Lib.hid (show cntT L = L.length by unfold cntT; rw [if_neg]; unfold crE at hr; exact of_decide_eq_false hr)
    clear h hB hr hc
    go_enter Tryz.func50, Tryz.ntmps50
    go_wp2_with (go_at_call 63; refine HS.out.mono ?_; rintro e w' ⟨rfl, rfl⟩)
    go_ret
    exact ⟨by rw [HT.out]; rfl, rfl⟩
  | true =>
    have HS := Lib.hid (hassuf L _ b w h hB hr)
    have h0 : 0 < L.length := by
      cases L with
      | nil => cases hr
      | cons x r => simp
    have HT := Lib.hid (show cntT L = L.length - 1 by unfold cntT; rw [if_pos]; unfold crE at hr; exact of_decide_eq_true hr)
    have hc2 := hc h0
    clear hc
    obtain ⟨n, hn⟩ : ∃ n, L.length = n + 1 := ⟨L.length - 1, by omega⟩
    have hn2 : n ≤ 1000000 := by omega
    rw [hn] at HS HT hc2 ⊢
    clear h hB hr hl hn h0
    go_enter Tryz.func50, Tryz.ntmps50
    go_wp2_with (go_at_call 63; refine HS.out.mono ?_; rintro e w' ⟨rfl, rfl⟩)
    go_ret
    exact ⟨by rw [HT.out]; rfl, rfl⟩
set_option maxRecDepth 10000 in
theorem cutsuf (L : List UInt8) (A : Option Addr) (c b : Nat) (w : World) (h : BsAt w (.slice A L.length c) L) (hl : L.length ≤ 1000000) (hB : BsAt w (.slice (some ⟨b, 0, none⟩) 1 1) [13]) :
    Calls Tryz.prog 61 #[.slice A L.length c, .slice (some ⟨b, 0, none⟩) 1 1] w fun e w' => e = .returned (.tuple #[.slice A (cntT L) c, .bool (crE L)]) ∧ w = w' := by
  have hc : 0 < L.length → L.length ≤ c := fun h0 => by
    rcases h with ⟨rfl, _⟩ | ⟨_, _, _, hv, _, _, h1, _⟩
    · cases h0
    · injection hv with _ _ e; omega
  cases hr : crE L with
  | false =>
    have HS := Lib.hid (hassuf L _ b w h hB hr)
    have HT := Lib.hid (show cntT L = L.length by unfold cntT; rw [if_neg]; unfold crE at hr; exact of_decide_eq_false hr)
    clear h hB hr hc
    go_enter Tryz.func61, Tryz.ntmps61
    go_wp2_with (go_at_call 63; refine HS.out.mono ?_; rintro e w' ⟨rfl, rfl⟩)
    go_ret2
    exact ⟨by rw [HT.out]; rfl, rfl⟩
  | true =>
    have HS := Lib.hid (hassuf L _ b w h hB hr)
    have h0 : 0 < L.length := by
      cases L with
      | nil => cases hr
      | cons x r => simp
    have HT := Lib.hid (show cntT L = L.length - 1 by unfold cntT; rw [if_pos]; unfold crE at hr; exact of_decide_eq_true hr)
    have hc2 := hc h0
    clear hc
    obtain ⟨n, hn⟩ : ∃ n, L.length = n + 1 := ⟨L.length - 1, by omega⟩
    have hn2 : n ≤ 1000000 := by omega
    rw [hn] at HS HT hc2 ⊢
    clear h hB hr hl hn h0
    go_enter Tryz.func61, Tryz.ntmps61
    go_wp2_with (go_at_call 63; refine HS.out.mono ?_; rintro e w' ⟨rfl, rfl⟩)
    go_ret2
    exact ⟨by rw [HT.out]; rfl, rfl⟩
set_option maxRecDepth 10000 in
theorem clone_b (L : List UInt8) (v : Value) (w : World) (h : BsAt w v L) (hl : L.length ≤ 1000000) :
    Calls Tryz.prog 66 #[v] w fun e w' => ∃ u, e = .returned u ∧ Hid (GB w L u w') := by
  obtain ⟨A, c, rfl⟩ := h.len
  have hnil := fun (a : Option Addr) (n : Nat) (w : World) => Go.Lib.run_eql_slice_nil (P := Tryz.prog) w 22 5 a n c 0 0 Tryz.underlying22
  cases A with
  | none =>
    have h0 : L = [] := by
      rcases h with ⟨e, _⟩ | ⟨_, _, _, hv, _⟩
      · exact e
      · injection hv with e; cases e
    subst h0
    clear h
    go_enter Tryz.func66, Tryz.ntmps66
    go_wp2
    go_ret
    exact ⟨_, rfl, Lib.hid (gb_nilB w)⟩
  | some A =>
    obtain ⟨a, n, c', w', hrun, hg⟩ := app_bs (gb_madeB w) (h.low ((Mods.refl [] w).alloc _)) (by simp; omega)
    have HG := Lib.hid hg
    clear hg h
    go_enter Tryz.func66, Tryz.ntmps66
    go_wp2_with (at_builtin; refine wpList_run_app2 rfl (.tmp 5) (.tmp 6) 22 22 rfl rfl rfl hrun ?_)
    go_ret
    exact ⟨_, rfl, Lib.hid (by simpa using HG.out)⟩
end Go.Proofs.YtgkhelbpccehcaaGreatDoor

/- The code's size lines: digits, sizeOf, endSize. Conditions: texts of at most a million bytes. -/
namespace Go.Proofs.YtgkhelbpccehcaaGreatDoor
open Go.RowKit
set_option linter.unusedVariables false
set_option linter.unusedSimpArgs false

theorem hx_more {p : UInt8 → Bool} : ∀ {l : List UInt8} {k : Nat} (hk : k < l.length), k ≤ (l.takeWhile p).length → p l[k] = true → k + 1 ≤ (l.takeWhile p).length
  | c :: r, 0, _, _, hb => by
    have hb : p c = true := hb
    rw [List.takeWhile_cons, if_pos hb]; simp
  | c :: r, k + 1, hk, hle, hb => by
    by_cases hc : p c = true
    · rw [List.takeWhile_cons, if_pos hc] at hle ⊢
      simp only [List.length_cons] at hle ⊢
      have := hx_more (l := r) (k := k) (by simp at hk; omega) (by omega) hb
      omega
    · rw [List.takeWhile_cons, if_neg hc] at hle; simp at hle
theorem hx_stop {p : UInt8 → Bool} : ∀ {l : List UInt8} {k : Nat} (hk : k < l.length), k ≤ (l.takeWhile p).length → p l[k] = false → (l.takeWhile p).length = k
  | c :: r, 0, _, _, hb => by
    have hb : p c = false := hb
    rw [List.takeWhile_cons, if_neg (by rw [hb]; simp)]; rfl
  | c :: r, k + 1, hk, hle, hb => by
    by_cases hc : p c = true
    · rw [List.takeWhile_cons, if_pos hc] at hle ⊢
      simp only [List.length_cons] at hle ⊢
      have := hx_stop (l := r) (k := k) (by simp at hk; omega) (by omega) hb
      omega
    · rw [List.takeWhile_cons, if_neg hc] at hle; simp at hle
theorem hxs_le (l : List UInt8) : (hxs l).length ≤ l.length := by
  have := congrArg List.length (List.takeWhile_append_dropWhile (p := isHx) (l := l)); rw [List.length_append] at this; unfold hxs; omega
theorem hxs_take (l : List UInt8) : l.take (hxs l).length = hxs l := by
  have h := List.takeWhile_append_dropWhile (p := isHx) (l := l)
  unfold hxs
  conv => lhs; arg 2; rw [← h]
  rw [List.take_left']
  rfl
theorem hxs_isHx (l : List UInt8) : (hxs l).all isHx = true := by
  rw [List.all_eq_true]; intro x hx
  unfold hxs at hx
  induction l with
  | nil => simp at hx
  | cons c r ih =>
    rw [List.takeWhile_cons] at hx
    split at hx
    · rename_i hc
      rcases List.mem_cons.1 hx with rfl | hx
      · exact hc
      · exact ih hx
    · simp at hx
theorem isHx_lt {c : UInt8} (h : isHx c = true) : digB c < 16 := by unfold isHx at h; exact of_decide_eq_true h
/-- What digits make. -/
theorem numL_hx : ∀ (l : List UInt8) (n : Int), l.all isHx = true → 0 ≤ n → ∃ m : Nat, numL 16 n l = ((m : Int), true) ∧ (m : Int) < (n + 1) * 16 ^ l.length
  | [], n, _, hn => ⟨n.toNat, by rw [numL_nil, Int.toNat_of_nonneg hn], by rw [Int.toNat_of_nonneg hn]; simp; omega⟩
  | c :: r, n, h, hn => by
    rw [List.all_cons, Bool.and_eq_true] at h
    have h16 := isHx_lt h.1
    have h0 := (digB_le c).1
    obtain ⟨m, hm, hlt⟩ := numL_hx r (n * 16 + digB c) h.2 (by omega)
    refine ⟨m, by rw [numL_good h16, hm], Int.lt_of_lt_of_le hlt ?_⟩
    rw [List.length_cons, Int.pow_succ, ← Int.mul_assoc, Int.mul_right_comm]
    exact Int.mul_le_mul_of_nonneg_right (by omega) (Int.pow_nonneg (by decide))
theorem hx_num {l : List UInt8} (h0 : 0 < (hxs l).length) (h12 : (hxs l).length ≤ 12) : numB 16 12 (hxs l) = ((hxn l : Int), true) ∧ ((hxs l).length ≤ 6 → hxn l < 16777216) := by
  obtain ⟨m, hm, hlt⟩ := numL_hx (hxs l) 0 (hxs_isHx l) (Int.le_refl _)
  have e : numB 16 12 (hxs l) = ((m : Int), true) := by
    unfold numB
    rw [if_neg, hm]
    rintro (e | e)
    · rw [e] at h0; cases h0
    · omega
  have hn : hxn l = m := by unfold hxn; rw [e]; simp
  refine ⟨by rw [e, hn], fun h6 => ?_⟩
  rw [hn]
  have : (16 : Int) ^ (hxs l).length ≤ 16 ^ 6 := by
    exact_mod_cast Nat.pow_le_pow_right (by decide) h6
  have h3 : (16 : Int) ^ 6 = 16777216 := by decide
  have h4 : (0 + 1 : Int) * 16 ^ (hxs l).length = 16 ^ (hxs l).length := by rw [Int.zero_add, Int.one_mul]
  omega
theorem hx_out {l : List UInt8} (h : (hxs l).length = 0 ∨ 12 < (hxs l).length) : numB 16 12 (hxs l) = (0, false) := by
  unfold numB
  rw [if_pos]
  rcases h with h | h
  · exact .inl (List.eq_nil_of_length_eq_zero h)
  · exact .inr h
theorem szO_lt {l : List UInt8} : (szO l).1 < 16777216 := by
  unfold szO
  split
  · decide
  · rename_i h
    rw [not_or] at h
    split
    · decide
    · exact (hx_num (l := l) (by omega) (by omega)).2 (by omega)

theorem pwSz : pw 16 12 ≤ 9007199254740992 := by decide +kernel
theorem hexA (s : ByteArray) (w : World) (hs : s.size ≤ 1000000) {p : Int × Bool} (h : numB 16 12 s.data.toList = p) : Calls Tryz.prog 166 #[.string s] w fun e w' => e = .returned (.tuple #[.int .i64 p.1, .bool p.2]) ∧ w = w' := by
  have HN := Lib.hid (num_a s 16 12 w (by unfold maxLen; omega) (by decide) (by decide) pwSz (by decide))
  have HP := Lib.hid h
  clear h
  go_enter Tryz.func166, Tryz.ntmps166
  go_wp2_with (go_at_call 196; refine HN.out.mono ?_; rw [HP.out]; rintro e w' ⟨rfl, rfl⟩)
  go_ret2
  exact ⟨rfl, rfl⟩
theorem one_hx (c : UInt8) : ∃ a : Int, numB 16 12 [c] = (a, isHx c) := by
  unfold numB isHx
  rw [if_neg (by simp)]
  by_cases h : digB c < 16
  · rw [numL_good h, numL_nil, decide_eq_true h]; exact ⟨_, rfl⟩
  · rw [numL_bad (by omega), decide_eq_false h]; exact ⟨_, rfl⟩
theorem isdig (c : UInt8) (s : ByteArray) (h : s.data.toList = [c]) (w : World) : Calls Tryz.prog 195 #[.string s] w fun e w' => e = .returned (.bool (isHx c)) ∧ w = w' := by
  obtain ⟨a, ha⟩ := one_hx c
  have hsz : s.size ≤ 1000000 := by
    have h2 : s.data.toList.length = s.size := rfl
    rw [h] at h2; simp only [List.length_cons, List.length_nil] at h2; omega
  have HX := Lib.hid (hexA s w hsz (p := (a, isHx c)) (by rw [h]; exact ha))
  clear ha h hsz
  go_enter Tryz.func195, Tryz.ntmps195
  go_wp2_with (go_at_call 166; refine HX.out.mono ?_; rintro e w' ⟨rfl, rfl⟩)
  go_ret
  exact ⟨rfl, rfl⟩
theorem ext_one14 (s : ByteArray) (k : Nat) (h : k < s.size) : (s.extract k (k + 1)).data.toList = [s[k]] := by
  rw [ByteArray.data_extract, Array.toList_extract]
  simp only [List.extract]
  rw [show k + 1 - k = 1 by omega, List.drop_eq_getElem_cons (show k < s.data.toList.length from h)]
  rfl
set_option maxRecDepth 10000 in
theorem digits_c (s : ByteArray) (hs : s.size ≤ 1000000) (w : World) : Calls Tryz.prog 165 #[.string s] w fun e w' => e = .returned (.int .i64 (hxs s.data.toList).length) ∧ w = w' := by
  obtain ⟨l, hl⟩ : ∃ l, l = s.data.toList := ⟨_, rfl⟩
  have HL := Lib.hid hl
  have HLE := Lib.hid (show (hxs l).length ≤ s.size by have := hxs_le l; rw [hl] at this ⊢; exact this)
  rw [← hl]
  clear hl
  go_enter Tryz.func165, Tryz.ntmps165
  go_wp2
  go_loopw [3] (fun i wr => ∃ (k : Nat), k ≤ s.size ∧ i = .int .i64 k ∧ k ≤ (hxs l).length ∧ w = wr) (fun i _ => s.size - (intOf i).toNat)
  case atStart => exact ⟨0, Nat.zero_le _, rfl, Nat.zero_le _, rfl⟩
  case round =>
    obtain ⟨k, hk, rfl, hkx, rfl⟩ := hrel
    have HKX := Lib.hid hkx
    clear hkx
    by_cases hlt : k < s.size
    · have hkl : k < l.length := by rw [HL.out]; exact hlt
      have hlk : l[k] = s[k] := by have := HL.out; subst this; rfl
      have HI := Lib.hid (fun w => isdig s[k] (s.extract k (k + 1)) (ext_one14 s k hlt) w)
      cases hx : isHx s[k] with
      | true =>
        rw [hx] at HI
        have HM := Lib.hid (hx_more (p := isHx) hkl HKX.out (by rw [hlk]; exact hx))
        clear hx hlk hkl
        go_wp2_with (go_at_call 195; refine (HI.out _).mono ?_; rintro e w' ⟨rfl, rfl⟩)
        go_roundw
        case rel => exact ⟨k + 1, by omega, by go_num, HM.out, by first | rfl | trivial⟩
        case measure => simp [intOf]; omega
      | false =>
        rw [hx] at HI
        have HM := Lib.hid (hx_stop (p := isHx) hkl HKX.out (by rw [hlk]; exact hx))
        clear hx hlk hkl
        go_wp2_with (go_at_call 195; refine (HI.out _).mono ?_; rintro e w' ⟨rfl, rfl⟩)
        go_ret
        exact ⟨by rw [show (hxs l).length = k from HM.out]; rfl, by first | rfl | trivial⟩
    · have HM := Lib.hid (show (hxs l).length = k by have := HLE.out; have := HKX.out; omega)
      go_wp2
      go_ret
      exact ⟨by rw [HM.out]; rfl, by first | rfl | trivial⟩
theorem params_b (s : ByteArray) (w : World) (hs : s.size ≤ 1000000) {r : Bool} (hr : (parsL s.data.toList).isSome = r) : Calls Tryz.prog 167 #[.string s] w fun e w' => ∃ a n c, e = .returned (.tuple #[.slice a n c, .bool r]) ∧ Mods [] w w' :=
  (params_a s w hs).mono fun e w' h => by
    obtain ⟨hb, h⟩ := h
    subst hr
    cases hp : parsL s.data.toList with
    | none => rw [hp] at h; exact ⟨none, 0, 0, h, Mods.of_below hb⟩
    | some ps =>
      rw [hp] at h
      obtain ⟨v, he, ho⟩ := h
      rcases ho.2 with ⟨rfl, _⟩ | ⟨g, cap, cur, rfl, _⟩
      · exact ⟨none, 0, 0, he, Mods.of_below hb⟩
      · exact ⟨_, _, _, he, Mods.of_below hb⟩
set_option maxRecDepth 10000 in
set_option maxHeartbeats 1000000 in
theorem sizeof_c (s : ByteArray) (hs : s.size ≤ 1000000) (w : World) {p : Nat × Bool} (hp : szO s.data.toList = p) :
    Calls Tryz.prog 139 #[.string s] w fun e w' => e = .returned (.tuple #[.int .i64 p.1, .bool p.2]) ∧ Mods [] w w' := by
  have HD := Lib.hid (digits_c s hs w)
  obtain ⟨l, hl⟩ : ∃ l, l = s.data.toList := ⟨_, rfl⟩
  rw [← hl] at HD hp
  obtain ⟨n, hn⟩ : ∃ n, n = (hxs l).length := ⟨_, rfl⟩
  have hns : n ≤ s.size := by have := hxs_le l; rw [← hn, hl] at this; exact this
  have h0l : (s.extract 0 n).data.toList = hxs l := by
    rw [ByteArray.data_extract, Array.toList_extract]
    simp only [List.extract, List.drop_zero, Nat.sub_zero]
    rw [← hl, hn]; exact hxs_take l
  have h1l : (s.extract n s.size).data.toList = l.drop n := by rw [ext_drop, hl]
  have hz0 : (s.extract 0 n).size ≤ 1000000 := Nat.le_trans (ext_sizeF _ _ _) hs
  have hz1 : (s.extract n s.size).size ≤ 1000000 := Nat.le_trans (ext_sizeF _ _ _) hs
  rw [← hn] at HD
  by_cases hout : n = 0 ∨ 12 < n
  · have HX := Lib.hid (hexA (s.extract 0 n) w hz0 (p := (0, false)) (by rw [h0l]; exact hx_out (by rw [← hn]; exact hout)))
    obtain rfl : (0, false) = p := by rw [← hp]; unfold szO; rw [if_pos (by rw [← hn]; omega)]
    clear hp h0l h1l hz0 hz1 hl hn hout
    go_enter Tryz.func139, Tryz.ntmps139
    go_wp2_with (first
      | (go_at_call 165; refine HD.out.mono ?_; rintro e w' ⟨rfl, rfl⟩)
      | (go_at_call 166; refine HX.out.mono ?_; rintro e w' ⟨rfl, rfl⟩))
    go_ret2
    exact ⟨rfl, Mods.refl _ _⟩
  · rw [not_or] at hout
    have hv := hx_num (l := l) (by omega) (by omega)
    have HX := Lib.hid (hexA (s.extract 0 n) w hz0 (p := ((hxn l : Int), true)) (by rw [h0l]; exact hv.1))
    by_cases h6 : 6 < n
    · obtain rfl : (0, false) = p := by rw [← hp]; unfold szO; rw [if_pos (by rw [← hn]; omega)]
      clear hp h0l h1l hz0 hz1 hl hn hout hv
      generalize hxn l = x at *
      go_enter Tryz.func139, Tryz.ntmps139
      go_wp2_with (first
        | (go_at_call 165; refine HD.out.mono ?_; rintro e w' ⟨rfl, rfl⟩)
        | (go_at_call 166; refine HX.out.mono ?_; rintro e w' ⟨rfl, rfl⟩))
      go_ret2
      exact ⟨rfl, Mods.refl _ _⟩
    · cases hpl : parsL (l.drop n) with
      | none =>
        have HP := Lib.hid (params_b (s.extract n s.size) w hz1 (r := false) (by rw [h1l, hpl]; rfl))
        obtain rfl : (0, false) = p := by rw [← hp]; unfold szO; rw [if_neg (by rw [← hn]; omega), ← hn, if_pos hpl]
        clear hp h0l h1l hz0 hz1 hl hn hout hv hpl
        generalize hxn l = x at *
        go_enter Tryz.func139, Tryz.ntmps139
        go_wp2_with (first
          | (go_at_call 165; refine HD.out.mono ?_; rintro e w' ⟨rfl, rfl⟩)
          | (go_at_call 166; refine HX.out.mono ?_; rintro e w' ⟨rfl, rfl⟩)
          | (go_at_call 167; refine HP.out.mono ?_; rintro e w1 ⟨pa, pn, pc, rfl, hm⟩; have M1 := Lib.hid hm; clear hm))
        go_ret2
        exact ⟨rfl, M1.out⟩
      | some ps =>
        have HP := Lib.hid (params_b (s.extract n s.size) w hz1 (r := true) (by rw [h1l, hpl]; rfl))
        obtain rfl : (hxn l, true) = p := by rw [← hp]; unfold szO; rw [if_neg (by rw [← hn]; omega), ← hn, if_neg (by rw [hpl]; simp)]
        clear hp h0l h1l hz0 hz1 hl hn hout hv hpl
        generalize hxn l = x at *
        go_enter Tryz.func139, Tryz.ntmps139
        go_wp2_with (first
          | (go_at_call 165; refine HD.out.mono ?_; rintro e w' ⟨rfl, rfl⟩)
          | (go_at_call 166; refine HX.out.mono ?_; rintro e w' ⟨rfl, rfl⟩)
          | (go_at_call 167; refine HP.out.mono ?_; rintro e w1 ⟨pa, pn, pc, rfl, hm⟩; have M1 := Lib.hid hm; clear hm))
        go_ret2
        exact ⟨rfl, M1.out⟩
/-- A size line is weighed. -/
theorem took_bad {g : Nat} {vl vb vt : Value} {w w' : World} {r : ChP} {L : List UInt8} {left e : Nat} {last : Bool} (c : CkC g vl vb vt w L left last e r.body r.trail false 0) (hw : r.whole = false) (hm : Mods [] w w') (n : Int) (hn : n ≠ 0) : TookC g vl vb vt w { r with status := n } w' :=
  ⟨vl, vb, vt, L, left, last, e, (show CkC g vl vb vt w' L left last e r.body r.trail r.whole 0 from by rw [hw]; exact c.low hm), fun h => absurd (done_no h).2 hn, Grew.of_low hm⟩
set_option maxRecDepth 10000 in
set_option maxHeartbeats 1000000 in
theorem endsize_c {g : Nat} {vl vb vt : Value} {w : World} {r : ChP} (s : ByteArray) (hs : s.size ≤ 1000000) (c : CkC g vl vb vt w [] 0 false r.ends r.body r.trail false 0) (o : ChOk r) (h0 : r.state = 0) (hl : r.line = []) (hw : r.whole = false) (hst : r.status = 0) {r' : ChP} (hr : sizeP r s.data.toList = r') :
    Calls Tryz.prog 111 #[ptr g, .string s] w fun z w' => z = .returned (.int .i64 r'.status) ∧ Hid (TookC g vl vb vt w r' w') := by
  have HZ := Lib.hid (sizeof_c s hs w rfl)
  have hx := szO_lt (l := s.data.toList)
  have hb := o.body
  obtain ⟨A, cp, rfl, -, -⟩ := c.body.form
  obtain ⟨⟨x, ok⟩, hp⟩ : ∃ p, p = szO s.data.toList := ⟨_, rfl⟩
  rw [← hp] at HZ hx
  simp only at hx
  have C := Lib.hid c
  have O := Lib.hid (show ∀ w1, Mods [] w w1 → w1.cell? ⟨g, 2, none⟩ = some (.slice A r.body.length cp) from fun w1 hm => (CkC.facts (c.low hm)).2.2.1)
  have O1 := Lib.hid (show ∀ w1, Mods [] w w1 → (∃ u, w1.cell? ⟨g, 1, none⟩ = some u) ∧ w1.frozen? ⟨g, 1, none⟩ = false from fun w1 hm => ⟨⟨_, (CkC.facts (c.low hm)).2.1⟩, (c.low hm).row.free 1⟩)
  have O3 := Lib.hid (show ∀ w1, Mods [] w w1 → (∃ u, w1.cell? ⟨g, 3, none⟩ = some u) ∧ w1.frozen? ⟨g, 3, none⟩ = false from fun w1 hm => ⟨⟨_, (CkC.facts (c.low hm)).2.2.2.1⟩, (c.low hm).row.free 3⟩)
  have HR := Lib.hid hr
  have HP := Lib.hid hp
  have HF := Lib.hid (And.intro hw (And.intro hst (And.intro h0 hl)))
  obtain ⟨nb, hnb⟩ : ∃ nb, nb = r.body.length := ⟨_, rfl⟩
  rw [← hnb] at hb O
  have HN := Lib.hid hnb
  clear c hr hp hw hst h0 hl o hnb
  unfold ptr
  cases ok with
  | false =>
    have HE := Lib.hid (show r' = { r with status := 400 } by rw [← HR.out]; exact sizeP_bad (by rw [← HP.out]))
    go_enter Tryz.func111, Tryz.ntmps111
    go_wp2_with (go_at_call 139; refine HZ.out.mono ?_; rintro e w1 ⟨rfl, hm⟩; have M1 := Lib.hid hm; clear hm)
    go_ret
    exact ⟨by rw [HE.out]; rfl, Lib.hid (by rw [HE.out]; exact took_bad C.out HF.out.1 M1.out 400 (by decide))⟩
  | true =>
    by_cases hmuch : 2048 < nb + x
    · have HE := Lib.hid (show r' = { r with status := 413 } by rw [← HR.out]; exact sizeP_much (by rw [← HP.out]) (by rw [← HP.out, ← HN.out]; exact hmuch))
      have hd : (2048 : Int) < (nb : Int) + (x : Int) := by omega
      clear hmuch
      go_enter Tryz.func111, Tryz.ntmps111
      go_wp2_with (go_at_call 139; refine HZ.out.mono ?_; rintro e w1 ⟨rfl, hm⟩; have M1 := Lib.hid hm; have d2 := O.out w1 hm; clear hm)
      go_ret
      exact ⟨by rw [HE.out]; rfl, Lib.hid (by rw [HE.out]; exact took_bad C.out HF.out.1 M1.out 413 (by decide))⟩
    · have hd : ¬ (2048 : Int) < (nb : Int) + (x : Int) := by omega
      by_cases hx0 : x = 0
      · have HE := Lib.hid (show r' = { r with state := 3 } by rw [← HR.out]; exact sizeP_last (by rw [← HP.out]) (by rw [← HP.out, ← HN.out]; exact hmuch) (by rw [← HP.out]; exact hx0))
        subst hx0
        clear hmuch
        go_enter Tryz.func111, Tryz.ntmps111
        go_wp2_with (go_at_call 139; refine HZ.out.mono ?_; rintro e w1 ⟨rfl, hm⟩; have M1 := Lib.hid hm; have d2 := O.out w1 hm; obtain ⟨⟨u3, d3⟩, f3⟩ := O3.out w1 hm; clear hm)
        go_ret
        refine ⟨by rw [HE.out]; show _ = Ending.returned (.int .i64 r.status); rw [HF.out.2.1]; rfl, Lib.hid ?_⟩
        rw [HE.out]
        have k := C.out.low M1.out
        exact ⟨_, _, vt, [], 0, true, r.ends, (show CkC g _ _ vt _ [] 0 true r.ends r.body r.trail r.whole 0 from by rw [HF.out.1]; exact k.set (cs' := ckCells 0 true r.ends false 0) 3 (.bool true) rfl), fun _ => ⟨by unfold lnC; rw [if_neg (by show ¬ ((3 : Nat) = 1 ∨ (3 : Nat) = 2); decide)]; exact HF.out.2.2.2.symm, rfl, rfl, rfl⟩, (Grew.of_low M1.out).trans (k.set_grew 3 _)⟩
      · have HE := Lib.hid (show r' = { r with state := 1, left := x } by rw [← HR.out, sizeP_more (by rw [← HP.out]) (by rw [← HP.out, ← HN.out]; exact hmuch) (by rw [← HP.out]; exact hx0), ← HP.out])
        have hxb : ((x : Int) == 0) = false := by rw [beq_eq_false_iff_ne]; omega
        clear hmuch
        go_enter Tryz.func111, Tryz.ntmps111
        go_wp2_with (go_at_call 139; refine HZ.out.mono ?_; rintro e w1 ⟨rfl, hm⟩; have M1 := Lib.hid hm; have d2 := O.out w1 hm; obtain ⟨⟨u1, d1⟩, f1⟩ := O1.out w1 hm; clear hm)
        go_ret
        refine ⟨by rw [HE.out]; show _ = Ending.returned (.int .i64 r.status); rw [HF.out.2.1]; rfl, Lib.hid ?_⟩
        rw [HE.out]
        have k := C.out.low M1.out
        exact ⟨_, _, vt, [], x + 2, false, r.ends, (show CkC g _ _ vt _ [] (x + 2) false r.ends r.body r.trail r.whole 0 from by rw [HF.out.1]; exact k.set (cs' := ckCells (x + 2) false r.ends false 0) 1 (.int .i64 ((x : Int) + 2)) rfl), fun _ => ⟨rfl, rfl, rfl, rfl⟩, (Grew.of_low M1.out).trans (k.set_grew 1 _)⟩
end Go.Proofs.YtgkhelbpccehcaaGreatDoor

/- A line weighed, a byte of a chunk taken, of the code. Conditions: lines of at most a thousand bytes, bodies of at most 2,048. -/
namespace Go.Proofs.YtgkhelbpccehcaaGreatDoor
open Go.RowKit
set_option linter.unusedVariables false
set_option linter.unusedSimpArgs false

theorem is14 (c : UInt8) (n : Nat) (z : Int) (hz : z = (n : Int)) (hn : n < 256) : (c = UInt8.ofNat n ∧ ((c.toNat : Int) == z) = true ∧ ((c.toNat : Int) != z) = false) ∨ (c ≠ UInt8.ofNat n ∧ ((c.toNat : Int) == z) = false ∧ ((c.toNat : Int) != z) = true) := by
  subst hz
  by_cases h : c = UInt8.ofNat n
  · left
    have : c.toNat = n := by rw [h, UInt8.toNat_ofNat']; omega
    exact ⟨h, by rw [this]; simp, by rw [this]; simp⟩
  · right
    have : c.toNat ≠ n := fun e => h (by rw [← e]; exact (UInt8.ofNat_toNat).symm)
    refine ⟨h, by rw [beq_eq_false_iff_ne]; omega, ?_⟩
    simp only [bne, Bool.not_eq_true', beq_eq_false_iff_ne]; omega
theorem wgS_low {e : Nat} {L : List UInt8} (h : ¬ 64 < cntT L) : wgS false e L = 0 := by unfold wgS; rw [if_pos rfl, if_neg h]
theorem wgS_bad {e : Nat} {L : List UInt8} (h : 64 < cntT L) : wgS false e L = 400 := by unfold wgS; rw [if_pos rfl, if_pos h]
theorem wgS_much {e : Nat} {L : List UInt8} (h : 256 < cntT L ∨ 512 < e + cntT L) : wgS true e L = 431 := by unfold wgS; rw [if_neg (by decide), if_pos h]
theorem wgS_fit {e : Nat} {L : List UInt8} (h : ¬ (256 < cntT L ∨ 512 < e + cntT L)) : wgS true e L = 0 := by unfold wgS; rw [if_neg (by decide), if_neg h]
theorem cntT_le (L : List UInt8) : cntT L ≤ L.length := by unfold cntT; split <;> omega
set_option maxRecDepth 10000 in
set_option maxHeartbeats 1000000 in
theorem weigh_c {g : Nat} {vl vb vt : Value} {w : World} {L B : List UInt8} {left e : Nat} {last whole : Bool} {T : List FV} {st : Int} (c : CkC g vl vb vt w L left last e B T whole st) (hl : L.length ≤ 1000) (he : e ≤ 1000) :
    Calls Tryz.prog 92 #[ptr g] w fun r w' => r = .returned (.int .i64 (wgS last e L)) ∧ Mods [] w w' := by
  obtain ⟨A, cp, rfl, -, -⟩ := c.line.form
  have m0 : Mods [] w (w.alloc (.cells #[.int .u8 13] 5 (1, 2))) := (Mods.refl [] w).alloc _
  have HT := Lib.hid (trimsuf L A cp w.heap.size _ (c.line.at.low m0) (by omega) (cr_at w))
  have M0 := Lib.hid m0
  have c0 : w.cell? ⟨g, 0, none⟩ = some (.slice A L.length cp) := (CkC.facts c).1
  have c2 := c.low m0
  have hle := cntT_le L
  have hn1 : cntT L ≤ 1000 := by omega
  clear m0 c hle hl
  have hcv := conv_cr w
  unfold ptr
  obtain ⟨W, hW⟩ : ∃ W, W = w.alloc (.cells #[.int .u8 13] 5 (1, 2)) := ⟨_, rfl⟩
  rw [← hW] at HT M0 c2 hcv
  have d3 : W.cell? ⟨g, 3, none⟩ = some (.bool last) := (CkC.facts c2).2.2.2.1
  have d4 : W.cell? ⟨g, 4, none⟩ = some (.int .i64 e) := (CkC.facts c2).2.2.2.2.1
  have HW := Lib.hid hW
  clear c2 hW
  go_enter Tryz.func92, Tryz.ntmps92
  go_upto_region 2 with (go_at_call 50; refine HT.out.mono ?_; rintro r w1 ⟨rfl, rfl⟩)
  clear c0
  have W0 := Lib.hid (fun h => wgS_low (e := e) (L := L) h)
  have W1 := Lib.hid (fun h => wgS_bad (e := e) (L := L) h)
  have W2 := Lib.hid (fun h => wgS_much (e := e) (L := L) h)
  have W3 := Lib.hid (fun h => wgS_fit (e := e) (L := L) h)
  generalize cntT L = n at *
  cases last with
  | false =>
    by_cases h1 : 64 < n
    · go_wp2
      go_ret
      exact ⟨by rw [W1.out h1]; rfl, M0.out⟩
    · go_wp2
      go_ret
      exact ⟨by rw [W0.out h1]; rfl, M0.out⟩
  | true =>
    by_cases h1 : 256 < n
    · go_wp2
      go_ret
      exact ⟨by rw [W2.out (.inl h1)]; rfl, M0.out⟩
    · by_cases h2 : 512 < e + n
      · have h3 : (512 : Int) < (e : Int) + (n : Int) := by omega
        go_wp2
        go_ret
        exact ⟨by rw [W2.out (.inr h2)]; rfl, M0.out⟩
      · have h3 : ¬ (512 : Int) < (e : Int) + (n : Int) := by omega
        go_wp2
        go_ret
        exact ⟨by rw [W3.out (fun h => h.elim h1 h2)]; rfl, M0.out⟩
set_option maxRecDepth 10000 in
set_option maxHeartbeats 1000000 in
/-- A byte of data. -/
theorem ofchunk_d {g : Nat} {vl vb vt : Value} {w : World} {L B : List UInt8} {n e : Nat} {last whole : Bool} {T : List FV} {st : Int} (x : UInt8) (c : CkC g vl vb vt w L (n + 1) last e B T whole st) (hn : 2 ≤ n) (hn2 : n ≤ 100000) (hB : B.length ≤ 100000) :
    Calls Tryz.prog 90 #[ptr g, .int .u8 (x.toNat : Int)] w fun r w' => r = .returned (.int .i64 0) ∧ Hid (∃ u, CkC g vl u vt w' L n last e (B ++ [x]) T whole st ∧ Grew (rdb g vl vb vt) (rdb g vl u vt) w w') := by
  obtain ⟨A, cp, rfl, -, -⟩ := c.body.form
  have c1 : w.cell? ⟨g, 1, none⟩ = some (.int .i64 ((n : Int) + 1)) := by have := (CkC.facts c).2.1; rw [this]; push_cast; rfl
  have f1 := c.row.free 1
  have k1 := c.set (cs' := ckCells n last e whole st) 1 (.int .i64 (n : Int)) rfl
  have G1 := Lib.hid (c.set_grew 1 (.int .i64 (n : Int)))
  obtain ⟨W, hW⟩ : ∃ W, W = w.setCell ⟨g, 1, none⟩ (.int .i64 (n : Int)) := ⟨_, rfl⟩
  rw [← hW] at k1 G1
  have d1 : W.cell? ⟨g, 1, none⟩ = some (.int .i64 (n : Int)) := (CkC.facts k1).2.1
  have d2 : W.cell? ⟨g, 2, none⟩ = some (.slice A B.length cp) := (CkC.facts k1).2.2.1
  obtain ⟨b, c', w4, hrun, hrow, hm, hb⟩ := app_row k1.body (by omega) x
  have hng : g ∉ (Value.slice A B.length cp).ownBlock.toList := fun hk => k1.ne_b (by decide) g hk rfl
  have r4 := k1.row.mods hm hng
  have e2 : w4.cell? ⟨g, 2, none⟩ = some (.slice A B.length cp) := r4.cell 2
  have g2 := r4.free 2
  have hput := k1.putB (cs' := ckCells n last e whole st) hrow hm (fun k hk => by
    have hkb : k = b := by simpa [Value.ownBlock, eq_comm] using hk
    subst hkb
    rcases hb with h | h
    · exact .inl (by rw [← h]; simp)
    · exact .inr h) 2 rfl
  have HP := Lib.hid hput
  have hge : (2 : Int) ≤ (n : Int) := by omega
  clear c k1 hrow hm hb hng r4 hput hn
  unfold ptr
  go_enter Tryz.func90, Tryz.ntmps90
  go_upto_region 2 with fail
  rw [← hW]
  clear hW c1 f1
  go_wp2_with (at_builtin; refine wpList_run_app2 rfl (.tmp 21) (.tmp 23) 22 22 rfl rfl rfl hrun ?_)
  go_ret
  exact ⟨rfl, Lib.hid ⟨_, HP.out.1, G1.out.trans HP.out.2⟩⟩
set_option maxRecDepth 10000 in
/-- A byte of the end behind data. -/
theorem ofchunk_e {g : Nat} {vl vb vt : Value} {w : World} {L B : List UInt8} {n e : Nat} {last whole : Bool} {T : List FV} {st : Int} (x : UInt8) (c : CkC g vl vb vt w L (n + 1) last e B T whole st) (hn : n = 0 ∨ n = 1) {z : Int} (hz : (if x = (if n = 0 then 10 else 13) then 0 else 400) = z) :
    Calls Tryz.prog 90 #[ptr g, .int .u8 (x.toNat : Int)] w fun r w' => r = .returned (.int .i64 z) ∧ Hid (CkC g vl vb vt w' L n last e B T whole st ∧ Grew (rdb g vl vb vt) (rdb g vl vb vt) w w') := by
  have c1 : w.cell? ⟨g, 1, none⟩ = some (.int .i64 ((n : Int) + 1)) := by have := (CkC.facts c).2.1; rw [this]; push_cast; rfl
  have f1 := c.row.free 1
  have k1 := c.set (cs' := ckCells n last e whole st) 1 (.int .i64 (n : Int)) rfl
  have G1 := Lib.hid (c.set_grew 1 (.int .i64 (n : Int)))
  obtain ⟨W, hW⟩ : ∃ W, W = w.setCell ⟨g, 1, none⟩ (.int .i64 (n : Int)) := ⟨_, rfl⟩
  rw [← hW] at k1 G1
  have d1 : W.cell? ⟨g, 1, none⟩ = some (.int .i64 (n : Int)) := (CkC.facts k1).2.1
  have K1 := Lib.hid k1
  have hge : ¬ (2 : Int) ≤ (n : Int) := by omega
  have hn2 : n ≤ 1 := by omega
  clear c k1
  unfold ptr
  go_enter Tryz.func90, Tryz.ntmps90
  go_upto_region 2 with fail
  rw [← hW]
  clear hW c1 f1
  rcases hn with rfl | rfl
  · rcases is14 x 10 10 rfl (by decide) with ⟨ex, -, hx0⟩ | ⟨ex, -, hx0⟩
    · have hx : ((x.toNat : Int) != ((({ data := #[13, 10] } : ByteArray)[1]'(by decide)).toNat : Int)) = false := hx0
      obtain rfl : 0 = z := by rw [← hz, if_pos rfl, if_pos (show x = 10 from ex)]
      clear ex hz hx0
      go_wp2
      go_ret
      exact ⟨rfl, Lib.hid ⟨K1.out, G1.out⟩⟩
    · have hx : ((x.toNat : Int) != ((({ data := #[13, 10] } : ByteArray)[1]'(by decide)).toNat : Int)) = true := hx0
      obtain rfl : 400 = z := by rw [← hz, if_pos rfl, if_neg (show ¬ x = 10 from ex)]
      clear ex hz hx0
      go_wp2
      go_ret
      exact ⟨rfl, Lib.hid ⟨K1.out, G1.out⟩⟩
  · rcases is14 x 13 13 rfl (by decide) with ⟨ex, -, hx0⟩ | ⟨ex, -, hx0⟩
    · have hx : ((x.toNat : Int) != ((({ data := #[13, 10] } : ByteArray)[0]'(by decide)).toNat : Int)) = false := hx0
      obtain rfl : 0 = z := by rw [← hz, if_neg (show ¬ (1 : Nat) = 0 by decide), if_pos (show x = 13 from ex)]
      clear ex hz hx0
      go_wp2
      go_ret
      exact ⟨rfl, Lib.hid ⟨K1.out, G1.out⟩⟩
    · have hx : ((x.toNat : Int) != ((({ data := #[13, 10] } : ByteArray)[0]'(by decide)).toNat : Int)) = true := hx0
      obtain rfl : 400 = z := by rw [← hz, if_neg (show ¬ (1 : Nat) = 0 by decide), if_neg (show ¬ x = 13 from ex)]
      clear ex hz hx0
      go_wp2
      go_ret
      exact ⟨rfl, Lib.hid ⟨K1.out, G1.out⟩⟩
end Go.Proofs.YtgkhelbpccehcaaGreatDoor

/- A trailer's end, of the code. Conditions: lines of at most a thousand bytes. -/
namespace Go.Proofs.YtgkhelbpccehcaaGreatDoor
open Go.RowKit
set_option linter.unusedVariables false
set_option linter.unusedSimpArgs false

set_option maxRecDepth 10000 in
set_option maxHeartbeats 2000000 in
theorem endtrail_c {g : Nat} {vl vb vt : Value} {w : World} {r : ChP} (l : List UInt8) (hl0 : l ≠ []) (hlen : l.length ≤ 1000) (s : ByteArray) (hs : s = ofL l) (c : CkC g vl vb vt w [] 0 true r.ends r.body r.trail false 0) (o : ChOk r) (h3 : r.state = 3) (hl : r.line = []) (hw : r.whole = false) (hst : r.status = 0) {r' : ChP} (hr : trailP r l = r') :
    Calls Tryz.prog 112 #[ptr g, .string s] w fun z w' => z = .returned (.int .i64 r'.status) ∧ Hid (TookC g vl vb vt w r' w') := by
  have hsz : s.size = l.length := by rw [hs, ofL_size]
  have hs2 : s.size ≤ 1000 := by omega
  have HZ := Lib.hid (fparse_a s w (by omega))
  unfold FPAns at HZ
  have hps := fun h => parR_size (s := s) h
  obtain ⟨⟨⟨x, y⟩, er⟩, hp⟩ : ∃ p, p = parR s := ⟨_, rfl⟩
  have HPE := Lib.hid (show parR (ofL l) = ((x, y), er) by rw [← hs, ← hp])
  rw [← hp] at HZ hps
  simp only at HZ hps
  have C := Lib.hid c
  have HR := Lib.hid hr
  have HF := Lib.hid (And.intro hw (And.intro hst (And.intro h3 hl)))
  have OK := Lib.hid o
  have HSZ := Lib.hid hsz
  have H0 := Lib.hid hl0
  have he512 := o.ends
  have ht8 := o.len
  clear c hr hp hw hst h3 hl o hsz hs hlen hl0
  unfold ptr
  by_cases her : er = 0
  · subst her
    have HPS := Lib.hid (hps rfl)
    clear hps
    go_enter Tryz.func112, Tryz.ntmps112
    go_upto_region 2 with (go_at_call 110; refine HZ.out.mono ?_; rintro e w1 ⟨rfl, hm⟩; have M1 := Lib.hid (hm.alloc (.cells #[.string x, .string y] 81)); have RX := Lib.hid (Row.new w1 81 #[.string x, .string y]); clear hm)
    obtain ⟨Wa, hWa⟩ : ∃ Wa, Wa = w1.alloc (.cells #[.string x, .string y] 81) := ⟨_, rfl⟩
    obtain ⟨xb, hxb⟩ : ∃ xb, xb = w1.heap.size := ⟨_, rfl⟩
    rw [← hWa] at M1
    rw [← hWa, ← hxb] at RX ⊢
    clear hWa hxb w1
    have k1 := C.out.low M1.out
    have d4 : Wa.cell? ⟨g, 4, none⟩ = some (.int .i64 (r.ends : Int)) := (CkC.facts k1).2.2.2.2.1
    have f4 := k1.row.free 4
    obtain ⟨e2, he2⟩ : ∃ e2, e2 = r.ends + (s.size + 2) := ⟨_, rfl⟩
    have hz : (r.ends : Int) + ((s.size : Int) + 2) = (e2 : Int) := by omega
    have kb := k1.set (cs' := ckCells 0 true e2 false 0) 4 (.int .i64 (e2 : Int)) rfl
    have GB1 := Lib.hid ((Grew.of_low M1.out).trans (k1.set_grew 4 (.int .i64 (e2 : Int))))
    have hne : xb ≠ g := Row.type_ne RX.out k1.row (by decide)
    have rx := RX.out.far (p := ⟨g, 4, none⟩) hne (.int .i64 (e2 : Int))
    have HE2 := Lib.hid (show e2 = r.ends + (l.length + 2) by rw [he2, HSZ.out])
    have he3 : e2 ≤ 2000 := by omega
    have HZ2 := Lib.hid hz
    clear k1 he2 hz
    go_upto_region 5 with fail
    rw [HZ2.out]
    obtain ⟨Wb, hWb⟩ : ∃ Wb, Wb = Wa.setCell ⟨g, 4, none⟩ (.int .i64 (e2 : Int)) := ⟨_, rfl⟩
    rw [← hWb] at kb GB1 rx ⊢
    clear hWb d4 f4 hne
    have b4 : Wb.cell? ⟨g, 4, none⟩ = some (.int .i64 (e2 : Int)) := (CkC.facts kb).2.2.2.2.1
    have b5 : Wb.cell? ⟨g, 5, none⟩ = some vt := (CkC.facts kb).2.2.2.2.2.1
    obtain ⟨at_, ct, hvt⟩ : ∃ a c, vt = .slice a r.trail.length c := (FsAt.of_row kb.trail).len
    by_cases hmuch : r.trail.length = 8 ∨ 512 < e2
    · have HE := Lib.hid (show r' = { r with status := 431 } by rw [← HR.out]; exact trailP_much H0.out (by rw [HPE.out]) (by rw [← HE2.out]; exact hmuch))
      have HT := Lib.hid (show TookC g vl vb vt w { r with status := 431 } Wb from ⟨vl, vb, vt, [], 0, true, e2, (show CkC g vl vb vt Wb [] 0 true e2 r.body r.trail r.whole 0 from by rw [HF.out.1]; exact kb), fun h => absurd (done_no h).2 (by show ¬ (431 : Int) = 0; decide), GB1.out⟩)
      clear kb rx
      subst hvt
      obtain ⟨tn, htn⟩ : ∃ tn, tn = r.trail.length := ⟨_, rfl⟩
      rw [← htn] at hmuch b5 ht8
      clear htn
      by_cases h5 : 512 < e2
      · have h6 : (512 : Int) < (e2 : Int) := by omega
        clear hmuch
        go_wp2
        go_ret
        exact ⟨by rw [HE.out]; rfl, Lib.hid (by rw [HE.out]; exact HT.out)⟩
      · have h6 : ¬ (512 : Int) < (e2 : Int) := by omega
        obtain rfl : tn = 8 := by omega
        clear hmuch
        go_wp2
        go_ret
        exact ⟨by rw [HE.out]; rfl, Lib.hid (by rw [HE.out]; exact HT.out)⟩
    · have HE := Lib.hid (show r' = { r with ends := e2, trail := r.trail ++ [(x, y)] } by rw [← HR.out, trailP_more H0.out (by rw [HPE.out]) (by rw [← HE2.out]; exact hmuch), HPE.out, ← HE2.out])
      have h6 : ¬ (512 : Int) < (e2 : Int) := by omega
      have h8 : ((r.trail.length : Int) == 8) = false := by rw [beq_eq_false_iff_ne]; omega
      have k5 := kb.low ((Mods.refl [] Wb).drew)
      have KB := Lib.hid kb
      obtain ⟨b5', c5, w4, hrun, hown, hm4, hb4⟩ := app_fld k5.trail (by omega) (x, y)
      have x0 : Wb.cell? ⟨xb, 0, none⟩ = some (.string x) := rx.cell 0
      have x1 : Wb.cell? ⟨xb, 1, none⟩ = some (.string y) := rx.cell 1
      have e3 := cell_alloc b5 (.cells #[.string x, .string y] 81)
      have hng : g ∉ vt.ownBlock.toList := fun hk => k5.ne_t (by decide) g hk rfl
      have r4 := k5.row.mods hm4 hng
      have e4 : w4.cell? ⟨g, 5, none⟩ = some vt := r4.cell 5
      have f4 := r4.free 5
      have HPUT := Lib.hid (k5.putT (cs' := ckCells 0 true e2 false 0) hown hm4 (fun k hk => by
        have hkb : k = b5' := by simpa [Value.ownBlock, eq_comm] using hk
        subst hkb
        rcases hb4 with h | h
        · exact .inl (by rw [← h]; simp)
        · exact .inr h) 5 rfl)
      simp only [World.size_drew] at hrun
      change Sem.run _ _ (World.drew (World.alloc Wb _)) = _ at hrun
      subst hvt
      clear kb k5 hown hm4 hb4 r4 hng rx hmuch
      go_upto_region 7 with fail
      go_region_law (refine step_appF rfl rfl rfl rfl hrun ?_)
      all_goals
        clear hrun e3 e4 f4
        go_wp2
        go_ret
        refine ⟨by rw [HE.out]; show _ = Ending.returned (.int .i64 r.status); rw [HF.out.2.1]; rfl, Lib.hid ?_⟩
        rw [HE.out]
        have hg0 : Grew (rdb g vl vb (.slice at_ r.trail.length ct)) (rdb g vl vb (.slice at_ r.trail.length ct)) w Wb.drew := GB1.out.low ((Mods.refl [] Wb).drew)
        exact ⟨vl, vb, _, [], 0, true, e2, (show CkC g vl vb _ _ [] 0 true e2 r.body (r.trail ++ [(x, y)]) r.whole 0 from by rw [HF.out.1]; exact HPUT.out.1), fun _ => ⟨by unfold lnC; rw [if_neg (by show ¬ (r.state = 1 ∨ r.state = 2); rw [HF.out.2.2.1]; decide)]; exact HF.out.2.2.2.symm, by unfold lfC; rw [if_neg (by show ¬ r.state = 1; rw [HF.out.2.2.1]; decide), if_neg (by show ¬ r.state = 2; rw [HF.out.2.2.1]; decide)], by unfold laC; exact (decide_eq_true HF.out.2.2.1).symm, rfl⟩, hg0.trans HPUT.out.2⟩
  · have hne : (er != 0) = true := by simpa using her
    have HE := Lib.hid (show r' = { r with status := 400 } by rw [← HR.out]; exact trailP_bad H0.out (by rw [HPE.out]; exact her))
    clear hps her
    go_enter Tryz.func112, Tryz.ntmps112
    go_wp2_with (go_at_call 110; refine HZ.out.mono ?_; rintro e w1 ⟨rfl, hm⟩; have M1 := Lib.hid (hm.alloc (.cells #[.string x, .string y] 81)); clear hm)
    go_ret
    exact ⟨by rw [HE.out]; rfl, Lib.hid (by rw [HE.out]; exact took_bad C.out HF.out.1 M1.out 400 (by decide))⟩
end Go.Proofs.YtgkhelbpccehcaaGreatDoor

/- A line's end, a byte, of the code. Conditions: none but those of a reader. -/
namespace Go.Proofs.YtgkhelbpccehcaaGreatDoor
open Go.RowKit
set_option linter.unusedVariables false
set_option linter.unusedSimpArgs false

theorem TookC.since {g : Nat} {vl ul vb ub vt ut : Value} {w w1 w' : World} {r : ChP} (h : TookC g ul ub ut w1 r w') (hg : Grew (rdb g vl vb vt) (rdb g ul ub ut) w w1) : TookC g vl vb vt w r w' := by
  obtain ⟨xl, xb, xt, L, left, last, e, c, hr, hg2⟩ := h
  exact ⟨xl, xb, xt, L, left, last, e, c, hr, hg.trans hg2⟩
theorem cr_split {L : List UInt8} (h : crE L = true) : ∃ M, L = M ++ [13] ∧ cntT L = M.length := by
  unfold crE at h
  have h2 := of_decide_eq_true h
  have hne : L ≠ [] := by rintro rfl; cases h2
  refine ⟨L.dropLast, ?_, ?_⟩
  · have e := List.dropLast_concat_getLast hne
    rw [List.getLast?_eq_some_getLast hne] at h2
    injection h2 with h2
    rw [h2] at e; exact e.symm
  · unfold cntT; rw [if_pos h2, List.length_dropLast]
theorem endP_bad {r : ChP} (h : crE r.line = false) : endP r = { r with status := 400 } := by unfold crE at h; unfold endP; rw [if_neg (of_decide_eq_false h)]
theorem endP_size {r : ChP} {M : List UInt8} (h : r.line = M ++ [13]) (h0 : r.state = 0) : endP r = sizeP { r with line := [] } M := by
  unfold endP; rw [h, if_pos (by simp), if_pos h0, List.dropLast_concat]
theorem endP_trail {r : ChP} {M : List UInt8} (h : r.line = M ++ [13]) (h0 : r.state = 3) : endP r = trailP { r with line := [] } M := by
  unfold endP; rw [h, if_pos (by simp), if_neg (by omega), List.dropLast_concat]
set_option maxRecDepth 10000 in
set_option maxHeartbeats 2000000 in
theorem endline_c {g : Nat} {vl vb vt : Value} {w : World} {r : ChP} (c : CkC g vl vb vt w r.line 0 (laC r) r.ends r.body r.trail false 0) (o : ChOk r) (hs : r.state = 0 ∨ r.state = 3) (hw : r.whole = false) (hst : r.status = 0) {r' : ChP} (hr : endP r = r') :
    Calls Tryz.prog 91 #[ptr g] w fun z w' => z = .returned (.int .i64 r'.status) ∧ Hid (TookC g vl vb vt w r' w') := by
  obtain ⟨A, cp, rfl, hcp, -⟩ := c.line.form
  have hlen := o.line
  have m0 : Mods [] w (w.alloc (.cells #[.int .u8 13] 5 (1, 2))) := (Mods.refl [] w).alloc _
  have HT := Lib.hid (cutsuf r.line A cp w.heap.size _ (c.line.at.low m0) (by omega) (cr_at w))
  have hcv := conv_cr w
  have c0 : w.cell? ⟨g, 0, none⟩ = some (.slice A r.line.length cp) := (CkC.facts c).1
  have k1 := c.low m0
  have M0 := Lib.hid m0
  obtain ⟨W, hW⟩ : ∃ W, W = w.alloc (.cells #[.int .u8 13] 5 (1, 2)) := ⟨_, rfl⟩
  rw [← hW] at HT M0 k1 hcv
  have d0 : W.cell? ⟨g, 0, none⟩ = some (.slice A r.line.length cp) := (CkC.facts k1).1
  have f0 := k1.row.free 0
  have hput := k1.putL (cs' := ckCells 0 (laC r) r.ends false 0) (v' := .slice A 0 cp) k1.line.cut0 (Mods.refl _ W) (fun k hk => .inl (by rw [cut0_block A 0 cp r.line.length cp] at hk; exact hk)) 0 rfl
  have hbs := k1.line.at
  have hng : ∀ k ∈ (Value.slice A r.line.length cp).ownBlock.toList, k ≠ g := k1.ne_l (by decide)
  obtain ⟨Wb, hWb⟩ : ∃ Wb, Wb = W.setCell ⟨g, 0, none⟩ (.slice A 0 cp) := ⟨_, rfl⟩
  rw [← hWb] at hput
  have hbs2 : BsAt Wb (.slice A r.line.length cp) r.line := hbs.mods (F := [g]) (by rw [hWb]; exact (Mods.refl [g] W).setCell (.inl (by simp)) _) (fun k hk => by simpa using hng k hk)
  have KB := Lib.hid hput.1
  have GB1 := Lib.hid ((Grew.of_low M0.out).trans hput.2)
  have hl3 : Wb.cell? ⟨g, 3, none⟩ = some (.bool (laC r)) := (CkC.facts hput.1).2.2.2.1
  have hl6 : Wb.cell? ⟨g, 6, none⟩ = some (.bool false) := (CkC.facts hput.1).2.2.2.2.2.2.1
  have f6 := hput.1.row.free 6
  have BS := Lib.hid hbs2
  have HR := Lib.hid hr
  have OF := Lib.hid o.fresh
  have HF := Lib.hid (And.intro hw hst)
  obtain ⟨nl, hnl⟩ : ∃ nl, nl = r.line.length := ⟨_, rfl⟩
  have HNL := Lib.hid hnl
  rw [← hnl] at HT c0 d0 BS hlen hcp
  clear c k1 m0 hput hbs hng hbs2 hr hw hst o hnl hW
  unfold ptr
  have HBAD := Lib.hid (fun h => endP_bad (r := r) h)
  cases hcr : crE r.line with
  | false =>
    have HE := Lib.hid (show r' = { r with status := 400 } by rw [← HR.out]; exact HBAD.out hcr)
    rw [hcr] at HT
    clear hcr HBAD
    generalize cntT r.line = nt at *
    go_enter Tryz.func91, Tryz.ntmps91
    go_upto_region 2 with (go_at_call 61; refine HT.out.mono ?_; rintro z w1 ⟨rfl, rfl⟩)
    clear hcv c0
    go_upto_region 3 with fail
    rw [← hWb]
    clear hWb d0 f0
    go_wp2
    go_ret
    refine ⟨by rw [HE.out]; rfl, Lib.hid ?_⟩
    rw [HE.out]
    exact TookC.since (took_bad (r := r) KB.out HF.out.1 (Mods.refl [] _) 400 (by decide)) GB1.out
  | true =>
    rw [hcr] at HT
    obtain ⟨M, hM, hcm⟩ := cr_split hcr
    rw [hcm] at HT
    have hmn : M.length + 1 = nl := by rw [HNL.out, hM]; simp
    have BM := Lib.hid (show BsAt Wb (.slice A M.length cp) M by
      have := BS.out.to M.length (by omega)
      rw [hM] at this
      simpa using this)
    have hconv := BM.out.text
    have HM := Lib.hid hM
    have hml : M.length ≤ 256 := by omega
    clear hcr hM hcm HBAD
    rcases hs with h0 | h3
    · have hla : laC r = false := by unfold laC; rw [h0]; rfl
      have HE := Lib.hid (show sizeP { r with line := [] } M = r' by rw [← endP_size HM.out h0]; exact HR.out)
      rw [hla] at hl3 KB
      have HS := Lib.hid (endsize_c (r := { r with line := [] }) (ofL M) (by rw [ofL_size]; omega) KB.out OF.out h0 rfl HF.out.1 HF.out.2 (r' := r') (by rw [ofL_list]; exact HE.out))
      unfold ptr at HS
      clear hla h0
      obtain ⟨s, hsm⟩ : ∃ s, s = ofL M := ⟨_, rfl⟩
      rw [← hsm] at HS hconv
      clear hsm
      generalize M.length = ml at *
      go_enter Tryz.func91, Tryz.ntmps91
      go_upto_region 2 with (go_at_call 61; refine HT.out.mono ?_; rintro z w1 ⟨rfl, rfl⟩)
      clear hcv c0
      go_upto_region 3 with fail
      rw [← hWb]
      clear hWb d0 f0
      go_wp2_with (go_at_call 111; refine HS.out.mono ?_; rintro z w2 ⟨rfl, hk⟩; have HK := Lib.hid hk.out; clear hk)
      go_ret
      exact ⟨rfl, Lib.hid (TookC.since HK.out GB1.out)⟩
    · have hla : laC r = true := by unfold laC; rw [h3]; rfl
      have HE := Lib.hid (show trailP { r with line := [] } M = r' by rw [← endP_trail HM.out h3]; exact HR.out)
      rw [hla] at hl3 KB
      by_cases hm0 : M = []
      · subst hm0
        have HE2 := Lib.hid (show r' = { r with line := [], whole := true } by rw [← HE.out, trailP_end])
        have HK := Lib.hid (show TookC g (.slice A 0 cp) vb vt Wb { r with line := [], whole := true } (Wb.setCell ⟨g, 6, none⟩ (.bool true)) from ⟨.slice A 0 cp, vb, vt, [], 0, true, r.ends, KB.out.set 6 (.bool true) rfl, fun h => absurd (done_no h).1 (by show ¬ true = false; decide), KB.out.set_grew 6 _⟩)
        clear hla h3
        simp only [List.length_nil] at HT hmn hml
        have hmn2 : nl ≤ 1 := by omega
        clear hconv hmn
        go_enter Tryz.func91, Tryz.ntmps91
        go_upto_region 2 with (go_at_call 61; refine HT.out.mono ?_; rintro z w1 ⟨rfl, rfl⟩)
        clear hcv c0
        go_upto_region 3 with fail
        rw [← hWb]
        clear hWb d0 f0
        go_wp2
        go_ret
        refine ⟨by rw [HE2.out]; show _ = Ending.returned (.int .i64 r.status); rw [HF.out.2]; rfl, Lib.hid ?_⟩
        rw [HE2.out]
        exact TookC.since HK.out GB1.out
      · have HS := Lib.hid (endtrail_c (r := { r with line := [] }) M hm0 (by omega) (ofL M) rfl KB.out OF.out h3 rfl HF.out.1 HF.out.2 (r' := r') HE.out)
        unfold ptr at HS
        have hpos := List.length_pos_iff.2 hm0
        clear hla h3
        obtain ⟨s, hsm⟩ : ∃ s, s = ofL M := ⟨_, rfl⟩
        rw [← hsm] at HS hconv
        clear hsm hm0
        generalize M.length = ml at *
        go_enter Tryz.func91, Tryz.ntmps91
        go_upto_region 2 with (go_at_call 61; refine HT.out.mono ?_; rintro z w1 ⟨rfl, rfl⟩)
        clear hcv c0
        go_upto_region 3 with fail
        rw [← hWb]
        clear hWb d0 f0
        go_wp2_with (go_at_call 112; refine HS.out.mono ?_; rintro z w2 ⟨rfl, hk⟩; have HK := Lib.hid hk.out; clear hk)
        go_ret
        exact ⟨rfl, Lib.hid (TookC.since HK.out GB1.out)⟩
end Go.Proofs.YtgkhelbpccehcaaGreatDoor

/- A byte, bytes, of the code's reader; New, Body and Trailers. Conditions: rows of at most a million bytes. -/
namespace Go.Proofs.YtgkhelbpccehcaaGreatDoor
open Go.RowKit
set_option linter.unusedVariables false
set_option linter.unusedSimpArgs false

theorem one_1 {r : ChP} {x : UInt8} (h : r.state = 1) : oneP r x = dataP r x := by unfold oneP; rw [if_pos h]
theorem one_2 {r : ChP} {x : UInt8} (h : r.state = 2) : oneP r x = crlfP r x := by unfold oneP; rw [if_neg (by omega), if_pos h]
theorem one_end {r : ChP} (h : r.state = 0 ∨ r.state = 3) : oneP r 10 = endP r := by unfold oneP; rw [if_neg (by omega), if_neg (by omega), if_pos rfl]
theorem one_grow {r : ChP} {x : UInt8} (h : r.state = 0 ∨ r.state = 3) (hx : x ≠ 10) : oneP r x = growP r x := by unfold oneP; rw [if_neg (by omega), if_neg (by omega), if_neg hx]
theorem lf_1 {r : ChP} (h : r.state = 1) : lfC r = r.left + 1 + 1 := by unfold lfC; rw [if_pos h]
theorem lf_2a {r : ChP} (h : r.state = 2) (hl : r.line = []) : lfC r = 1 + 1 := by unfold lfC; rw [if_neg (by omega), if_pos h, if_pos hl]
theorem lf_2b {r : ChP} (h : r.state = 2) (hl : r.line = [13]) : lfC r = 0 + 1 := by unfold lfC; rw [if_neg (by omega), if_pos h, if_neg (by rw [hl]; simp)]
theorem lf_0 {r : ChP} (h : r.state = 0 ∨ r.state = 3) : lfC r = 0 := by unfold lfC; rw [if_neg (by omega), if_neg (by omega)]
theorem ln_12 {r : ChP} (h : r.state = 1 ∨ r.state = 2) : lnC r = [] := by unfold lnC; rw [if_pos h]
theorem ln_03 {r : ChP} (h : r.state = 0 ∨ r.state = 3) : lnC r = r.line := by unfold lnC; rw [if_neg (by omega)]
theorem la_no {r : ChP} (h : r.state ≠ 3) : laC r = false := by unfold laC; exact decide_eq_false h
theorem data_rel {r : ChP} (x : UInt8) (o : ChOk r) (h : r.state = 1) : RelC (dataP r x) [] (r.left + 1) false r.ends := fun _ => by
  have h1 := o.room h
  have hs : (dataP r x).state = 1 ∨ (dataP r x).state = 2 := by
    show (if r.left = 1 then 2 else 1) = 1 ∨ (if r.left = 1 then 2 else 1) = 2
    split <;> simp
  refine ⟨(ln_12 hs).symm, ?_, (la_no (by omega)).symm, rfl⟩
  by_cases h2 : r.left = 1
  · have e : (dataP r x).state = 2 := by show (if r.left = 1 then 2 else 1) = 2; rw [if_pos h2]
    have e2 : (dataP r x).line = [] := by show (if r.left = 1 then [] else r.line) = []; rw [if_pos h2]
    rw [lf_2a e e2, h2]
  · have e : (dataP r x).state = 1 := by show (if r.left = 1 then 2 else 1) = 1; rw [if_neg h2]
    rw [lf_1 e]; show r.left + 1 = r.left - 1 + 1 + 1; omega
set_option maxRecDepth 10000 in
set_option maxHeartbeats 2000000 in
theorem take_c {g : Nat} {vl vb vt : Value} {w : World} {r : ChP} (c : CkC g vl vb vt w (lnC r) (lfC r) (laC r) r.ends r.body r.trail false 0) (o : ChOk r) (hw : r.whole = false) (hst : r.status = 0) (x : UInt8) {r' : ChP} (hr : oneP r x = r') :
    Calls Tryz.prog 65 #[ptr g, .int .u8 (x.toNat : Int)] w fun z w' => z = .returned (.int .i64 r'.status) ∧ Hid (TookC g vl vb vt w r' w') := by
  have hst3 := o.st
  have hc1 : w.cell? ⟨g, 1, none⟩ = some (.int .i64 (lfC r : Nat)) := (CkC.facts c).2.1
  rcases (by omega : r.state = 1 ∨ r.state = 2 ∨ (r.state = 0 ∨ r.state = 3)) with h1 | h2 | h03
  · have hrm := o.room h1
    have hbd := o.body
    rw [lf_1 h1] at c hc1
    rw [ln_12 (.inl h1), la_no (by omega)] at c
    have HT := Lib.hid (ofchunk_d x c (by omega) (by omega) (by omega))
    have HE := Lib.hid (show dataP r x = r' by rw [← one_1 h1]; exact hr)
    have HRL := Lib.hid (data_rel x o h1)
    have HF := Lib.hid (And.intro hw hst)
    unfold ptr at HT ⊢
    have hpos : (0 : Int) < ((r.left + 1 + 1 : Nat) : Int) := by omega
    clear c o hr hw hst hst3 h1 hrm hbd
    generalize ((r.left + 1 + 1 : Nat) : Int) = z1 at *
    go_enter Tryz.func65, Tryz.ntmps65
    go_wp2_with (go_at_call 90; refine HT.out.mono ?_; rintro z w2 ⟨rfl, hk⟩; have HK := Lib.hid hk.out; clear hk)
    go_ret
    obtain ⟨u, k, hg⟩ := HK.out
    refine ⟨by rw [← HE.out]; show _ = Ending.returned (.int .i64 r.status); rw [HF.out.2]; rfl, Lib.hid ?_⟩
    rw [← HE.out]
    exact ⟨vl, u, vt, [], r.left + 1, false, r.ends, (show CkC g vl u vt w2 [] (r.left + 1) false r.ends (r.body ++ [x]) r.trail r.whole 0 from by rw [HF.out.1]; exact k), HRL.out, hg⟩
  · rcases o.crlf h2 with hl | hl
    · rw [lf_2a h2 hl] at c hc1
      rw [ln_12 (.inr h2), la_no (by omega)] at c
      have HE := Lib.hid (show (if x = 13 then { r with line := [13] } else { r with status := 400 } : ChP) = r' by rw [← hr, one_2 h2]; unfold crlfP; rw [if_pos hl])
      have HT := Lib.hid (ofchunk_e x c (.inr rfl) (z := r'.status) (by rw [← HE.out, if_neg (show ¬ (1 : Nat) = 0 by decide)]; by_cases h : x = 13
                                                                        · rw [if_pos h, if_pos h]; exact hst.symm
                                                                        · rw [if_neg h, if_neg h]))
      have HF := Lib.hid (And.intro hw (And.intro hst (And.intro h2 hl)))
      unfold ptr at HT ⊢
      clear c o hr hw hst hst3 h2 hl
      go_enter Tryz.func65, Tryz.ntmps65
      go_wp2_with (go_at_call 90; refine HT.out.mono ?_; rintro z w2 ⟨rfl, hk⟩; have HK := Lib.hid hk.out; clear hk)
      go_ret
      refine ⟨rfl, Lib.hid ?_⟩
      rw [← HE.out]
      by_cases h : x = 13
      · rw [if_pos h]
        exact ⟨vl, vb, vt, [], 1, false, r.ends, (show CkC g vl vb vt w2 [] 1 false r.ends r.body r.trail r.whole 0 from by rw [HF.out.1]; exact HK.out.1), fun _ => ⟨(ln_12 (r := { r with line := [13] }) (.inr HF.out.2.2.1)).symm, (lf_2b (r := { r with line := [13] }) HF.out.2.2.1 rfl).symm, (la_no (by show r.state ≠ 3; have := HF.out.2.2.1; omega)).symm, rfl⟩, HK.out.2⟩
      · rw [if_neg h]
        exact ⟨vl, vb, vt, [], 1, false, r.ends, (show CkC g vl vb vt w2 [] 1 false r.ends r.body r.trail r.whole 0 from by rw [HF.out.1]; exact HK.out.1), fun h => absurd (done_no h).2 (by show ¬ (400 : Int) = 0; decide), HK.out.2⟩
    · rw [lf_2b h2 hl] at c hc1
      rw [ln_12 (.inr h2), la_no (by omega)] at c
      have HE := Lib.hid (show (if x = 10 then { r with line := [], state := 0 } else { r with status := 400 } : ChP) = r' by rw [← hr, one_2 h2]; unfold crlfP; rw [if_neg (show ¬ r.line = [] by rw [hl]; simp)])
      have HT := Lib.hid (ofchunk_e x c (.inl rfl) (z := r'.status) (by rw [← HE.out, if_pos rfl]; by_cases h : x = 10
                                                                        · rw [if_pos h, if_pos h]; exact hst.symm
                                                                        · rw [if_neg h, if_neg h]))
      have HF := Lib.hid (And.intro hw (And.intro hst (And.intro h2 hl)))
      unfold ptr at HT ⊢
      clear c o hr hw hst hst3 h2 hl
      go_enter Tryz.func65, Tryz.ntmps65
      go_wp2_with (go_at_call 90; refine HT.out.mono ?_; rintro z w2 ⟨rfl, hk⟩; have HK := Lib.hid hk.out; clear hk)
      go_ret
      refine ⟨rfl, Lib.hid ?_⟩
      rw [← HE.out]
      by_cases h : x = 10
      · rw [if_pos h]
        exact ⟨vl, vb, vt, [], 0, false, r.ends, (show CkC g vl vb vt w2 [] 0 false r.ends r.body r.trail r.whole 0 from by rw [HF.out.1]; exact HK.out.1), fun _ => ⟨(ln_03 (r := { r with line := [], state := 0 }) (.inl rfl)).symm, (lf_0 (r := { r with line := [], state := 0 }) (.inl rfl)).symm, (la_no (by show (0 : Nat) ≠ 3; decide)).symm, rfl⟩, HK.out.2⟩
      · rw [if_neg h]
        exact ⟨vl, vb, vt, [], 0, false, r.ends, (show CkC g vl vb vt w2 [] 0 false r.ends r.body r.trail r.whole 0 from by rw [HF.out.1]; exact HK.out.1), fun h => absurd (done_no h).2 (by show ¬ (400 : Int) = 0; decide), HK.out.2⟩
  · rw [lf_0 h03] at c hc1
    rw [ln_03 h03] at c
    have hlen := o.line
    rcases is14 x 10 10 rfl (by decide) with ⟨ex, hx, -⟩ | ⟨ex, hx, -⟩
    · have HT := Lib.hid (endline_c c o h03 hw hst (r' := r') (by rw [← hr, ex]; exact (one_end h03).symm))
      unfold ptr at HT ⊢
      clear c o hr hw hst hst3 h03 ex hlen
      go_enter Tryz.func65, Tryz.ntmps65
      go_wp2_with (go_at_call 91; refine HT.out.mono ?_; rintro z w2 ⟨rfl, hk⟩; have HK := Lib.hid hk.out; clear hk)
      go_ret
      exact ⟨rfl, HK⟩
    · have hx10 : x ≠ 10 := ex
      have hgr := grow_wg (c := x) hst h03
      rw [← one_grow h03 hx10, hr] at hgr
      have HGR := Lib.hid hgr
      obtain ⟨A, cp, rfl, -, -⟩ := c.line.form
      have c0 : w.cell? ⟨g, 0, none⟩ = some (.slice A r.line.length cp) := (CkC.facts c).1
      obtain ⟨b, c', w4, hrun, hrow, hm, hb⟩ := app_row c.line (by omega) x
      have hng : g ∉ (Value.slice A r.line.length cp).ownBlock.toList := fun hk => c.ne_l (by decide) g hk rfl
      have r4 := c.row.mods hm hng
      have e0 : w4.cell? ⟨g, 0, none⟩ = some (.slice A r.line.length cp) := r4.cell 0
      have g0 := r4.free 0
      have hput := c.putL (cs' := ckCells 0 (laC r) r.ends false 0) hrow hm (fun k hk => by
        have hkb : k = b := by simpa [Value.ownBlock, eq_comm] using hk
        subst hkb
        rcases hb with h | h
        · exact .inl (by rw [← h]; simp)
        · exact .inr h) 0 rfl
      have HP := Lib.hid hput
      have he := o.ends
      obtain ⟨W, hW⟩ : ∃ W, W = w4.setCell ⟨g, 0, none⟩ (.slice (some ⟨b, 0, none⟩) (r.line.length + 1) c') := ⟨_, rfl⟩
      have HWG := Lib.hid (weigh_c hput.1 (by rw [List.length_append]; simp; omega) (by omega))
      rw [← hW] at HP HWG
      have HF := Lib.hid (And.intro hw (And.intro hst h03))
      rw [← hgr.1] at HWG
      unfold ptr at HWG ⊢
      clear c o hr hw hst hst3 h03 ex hlen hgr hrow hm hb hng r4 hput he hx10
      go_enter Tryz.func65, Tryz.ntmps65
      go_upto_region 6 with (at_builtin; refine wpList_run_app2 rfl (.tmp 23) (.tmp 25) 22 22 rfl rfl rfl hrun ?_)
      rw [← hW]
      clear hW hrun e0 g0 c0 hc1
      go_wp2_with (go_at_call 92; refine HWG.out.mono ?_; rintro z w2 ⟨rfl, hm⟩; have M2 := Lib.hid hm; clear hm)
      go_ret
      obtain ⟨-, q2, q3, q4, q5⟩ := HGR.out
      have k := HP.out.1.low M2.out
      refine ⟨rfl, Lib.hid ⟨_, vb, vt, _, 0, laC r, r.ends, (show CkC g _ vb vt w2 _ 0 (laC r) r.ends r'.body r'.trail r'.whole 0 from by rw [q2, q3, q4, HF.out.1]; exact k), fun h => ?_, HP.out.2.low M2.out⟩⟩
      have q := q5 (done_no h).2
      rw [q]
      exact ⟨(ln_03 (r := { r with line := r.line ++ [x] }) HF.out.2.2).symm, (lf_0 (r := { r with line := r.line ++ [x] }) HF.out.2.2).symm, rfl, rfl⟩
/-- What Feed leaves: the reader, what has turned. -/
def FedC (F : List Nat) (w : World) (g : Nat) (r : ChP) (w' : World) : Prop := ∃ F', CkA F' w' g r ∧ Grew F F' w w'
theorem FedC.low {F : List Nat} {w w' w2 : World} {g : Nat} {r : ChP} (h : FedC F w g r w') (hm : Mods [] w' w2) : FedC F w g r w2 := by
  obtain ⟨F', a, hg⟩ := h
  exact ⟨F', a.low hm, hg.low hm⟩
/-- The first k bytes were taken. -/
def Fed (r : ChP) (l : List UInt8) (k : Nat) (r1 : ChP) : Prop := feedP r (l.take k) = (r1, k)
theorem Fed.start (r : ChP) (l : List UInt8) : Fed r l 0 r := by unfold Fed; rw [List.take_zero]; rfl
theorem Fed.next {r r1 : ChP} {l : List UInt8} {k : Nat} (h : Fed r l k r1) (hk : k < l.length) (hd : doneC r1 = false) : Fed r l (k + 1) (oneP r1 l[k]) := by
  unfold Fed at *
  rw [List.take_succ_eq_append_getElem hk, feed_app, h]
  show ((feedP r1 [l[k]]).1, k + (feedP r1 [l[k]]).2) = _
  rw [feed_cons hd, feed_nil]
theorem Fed.stop {r r1 : ChP} {l : List UInt8} {k : Nat} (h : Fed r l k r1) (hd : doneC r1 = true ∨ l.length ≤ k) : feedP r l = (r1, k) := by
  unfold Fed at h
  rcases hd with hd | hd
  · have e := feed_app (l.take k) (l.drop k) r
    rw [List.take_append_drop, h] at e
    rw [e]
    show ((feedP r1 (l.drop k)).1, k + (feedP r1 (l.drop k)).2) = _
    rw [feed_done hd]; rfl
  · rw [List.take_of_length_le hd] at h; exact h
theorem Fed.ok {r r1 : ChP} {l : List UInt8} {k : Nat} (h : Fed r l k r1) (o : ChOk r) : ChOk r1 := by
  have := ChOk.feed (l.take k) o
  unfold Fed at h
  rw [h] at this; exact this
theorem TookC.fed {g : Nat} {vl vb vt : Value} {w w' : World} {r : ChP} (t : TookC g vl vb vt w r w') (o : ChOk r) : FedC (rdb g vl vb vt) w g r (w'.setCell ⟨g, 7, none⟩ (.int .i64 r.status)) := by
  obtain ⟨ul, ub, ut, L, left, last, e, c, hr, hg⟩ := t
  exact ⟨rdb g ul ub ut, ⟨⟨ul, ub, ut, L, left, last, e, c.set 7 (.int .i64 r.status) rfl, rfl, hr⟩, o⟩, hg.trans (c.set_grew 7 _)⟩
set_option maxRecDepth 10000 in
set_option maxHeartbeats 2000000 in
theorem feed_c {F : List Nat} {w : World} {g : Nat} {r : ChP} (p : Value) (l : List UInt8) (hp : BsAt w p l) (hF : 0 < l.length → ∀ k ∈ p.ownBlock.toList, k ∉ F) (a : CkA F w g r) (hl : l.length ≤ 1000000) :
    Calls Tryz.prog 53 #[ptr g, p] w fun z w' => z = .returned (.tuple #[.int .i64 ((feedP r l).2 : Nat), .bool (feedP r l).1.whole, .int .i64 (feedP r l).1.status]) ∧ Hid (FedC F w g (feedP r l).1 w') := by
  have HP := Lib.hid hp
  have HFF := Lib.hid hF
  have OK := Lib.hid a.ok
  have HA := Lib.hid (show FedC F w g r w from ⟨F, a, Grew.refl F w⟩)
  obtain ⟨A, c, rfl⟩ := hp.len
  clear hp hF a
  unfold ptr
  go_enter Tryz.func53, Tryz.ntmps53
  go_wp2
  go_loopw [4] (fun n wr => ∃ (k : Nat) (r1 : ChP), k ≤ l.length ∧ n = .int .i64 k ∧ Hid (Fed r l k r1) ∧ Hid (FedC F w g r1 wr)) (fun n _ => l.length - (intOf n).toNat)
  case atStart => exact ⟨0, r, Nat.zero_le _, rfl, Lib.hid (Fed.start r l), HA⟩
  case round =>
    obtain ⟨k, r1, hk, rfl, HFD, HC⟩ := hrel
    clear HA
    have HO := Lib.hid (HFD.out.ok OK.out)
    obtain ⟨F1, a1, hg1⟩ := HC.out
    obtain ⟨vl, vb, vt, L, left, last, e, cc, hF1, hz⟩ := a1.ex
    have d6 : wr.cell? ⟨g, 6, none⟩ = some (.bool r1.whole) := (CkC.facts cc).2.2.2.2.2.2.1
    have d7 : wr.cell? ⟨g, 7, none⟩ = some (.int .i64 r1.status) := (CkC.facts cc).2.2.2.2.2.2.2
    by_cases hstop : doneC r1 = true ∨ l.length ≤ k
    · have HE := Lib.hid (HFD.out.stop hstop)
      have hcase : l.length ≤ k ∨ (k < l.length ∧ (r1.whole = true ∨ (r1.whole = false ∧ (r1.status == 0) = false))) := by
        rcases (by omega : l.length ≤ k ∨ k < l.length) with h | h
        · exact .inl h
        · refine .inr ⟨h, ?_⟩
          have hd := hstop.resolve_right (by omega)
          unfold doneC at hd
          cases hw : r1.whole with
          | true => exact .inl rfl
          | false =>
            rw [hw, Bool.false_or] at hd
            exact .inr ⟨rfl, by rw [beq_eq_false_iff_ne]; exact of_decide_eq_true hd⟩
      clear hstop a1 hg1 cc hF1 hz
      obtain ⟨bw, hbw⟩ : ∃ bw, bw = r1.whole := ⟨_, rfl⟩
      obtain ⟨bs, hbs⟩ : ∃ bs, bs = r1.status := ⟨_, rfl⟩
      rw [← hbw] at d6 hcase
      rw [← hbs] at d7 hcase
      have HBW := Lib.hid hbw.symm
      have HBS := Lib.hid hbs.symm
      clear hbw hbs
      rcases hcase with h | ⟨h, rfl | ⟨rfl, h2⟩⟩
      · obtain rfl : k = l.length := by omega
        go_upto_region 6 with fail
        go_quiet (fail)
        go_wp2
        go_ret3
        exact ⟨by rw [HE.out, ← HBW.out, ← HBS.out]; rfl, Lib.hid (by rw [HE.out]; exact HC.out.low ((Mods.refl _ _).drewN _))⟩
      · go_upto_region 6 with fail
        go_quiet (fail)
        go_wp2
        go_ret3
        exact ⟨by rw [HE.out, HBW.out, ← HBS.out]; rfl, Lib.hid (by rw [HE.out]; exact HC.out.low ((Mods.refl _ _).drewN _))⟩
      · go_upto_region 6 with fail
        go_quiet (fail)
        go_wp2
        go_ret3
        exact ⟨by rw [HE.out, HBW.out, ← HBS.out]; rfl, Lib.hid (by rw [HE.out]; exact HC.out.low ((Mods.refl _ _).drewN _))⟩
    · rw [not_or] at hstop
      have hd : doneC r1 = false := by simpa using hstop.1
      obtain ⟨h1, h2⟩ := done_no hd
      have hlt : k < l.length := by omega
      obtain ⟨rfl, rfl, rfl, rfl⟩ := hz hd
      rw [h1] at d6
      rw [h2] at d7
      rw [h1, h2] at cc
      obtain ⟨b, off, cap, hv, hb, hcell⟩ : ∃ b off cap, A = some ⟨b, off, none⟩ ∧ cap = c ∧ wr.cell? ⟨b, off + k, none⟩ = some (.int .u8 (l[k].toNat : Int)) := by
        rcases HP.out with ⟨e, _⟩ | ⟨b, off, cap, hv, _, hbl, _, _, hc⟩
        · rw [e] at hlt; simp at hlt
        · injection hv with e1 e2 e3
          subst e1
          exact ⟨b, off, cap, rfl, e3.symm, cell_mods (hc k hlt) hg1.mods (HFF.out (by omega) b (by simp [Value.ownBlock]))⟩
      subst hv
      have HT := Lib.hid (take_c cc a1.ok h1 h2 l[k] rfl)
      have HN := Lib.hid (HFD.out.next hlt hd)
      have HG1 := Lib.hid hg1
      have HO2 := Lib.hid (a1.ok.one l[k])
      have f7 := cc.row.free 7
      have HF1 := Lib.hid hF1
      clear hstop hd h1 h2 a1 hg1 cc hF1 hz hb HC
      obtain ⟨x, hx⟩ : ∃ x, x = l[k] := ⟨_, rfl⟩
      rw [← hx] at HT HN HO2 hcell
      clear hx
      obtain ⟨r2, hr2⟩ : ∃ r2, r2 = oneP r1 x := ⟨_, rfl⟩
      rw [← hr2] at HT HN HO2
      clear hr2
      unfold ptr at HT
      go_wp2_with (go_at_call 65; refine HT.out.mono ?_; rintro z w2 ⟨rfl, hk2⟩; have HK := Lib.hid hk2.out; obtain ⟨e7, g7⟩ : (∃ u, w2.cell? ⟨g, 7, none⟩ = some u) ∧ w2.frozen? ⟨g, 7, none⟩ = false := (by obtain ⟨_, _, _, _, _, _, _, q, _, _⟩ := hk2.out; exact ⟨⟨_, (CkC.facts q).2.2.2.2.2.2.2⟩, q.row.free 7⟩); obtain ⟨u7, e7⟩ := e7; clear hk2)
      go_roundw
      case rel =>
        refine ⟨k + 1, r2, by omega, by go_num, HN, Lib.hid ?_⟩
        obtain ⟨F3, a3, hg3⟩ := HK.out.fed HO2.out
        rw [HF1.out] at HG1
        exact ⟨F3, a3, HG1.out.trans hg3⟩
      case measure => simp [intOf]; omega
set_option maxRecDepth 10000 in
theorem new_c (w : World) : Calls Tryz.prog 84 #[] w fun z w' => ∃ g F, z = .returned (ptr g) ∧ Hid (CkA F w' g newC ∧ Mods [] w w' ∧ ∀ k ∈ F, w.heap.size ≤ k) := by
  have HC := Lib.hid (show CkA [w.heap.size] (w.alloc (.cells (ckCells 0 false 0 false 0 (.slice none 0 0) (.slice none 0 0) (.slice none 0 0)) 109)) w.heap.size newC from
    ⟨⟨.slice none 0 0, .slice none 0 0, .slice none 0 0, [], 0, false, 0, ⟨Row.new _ _ _, BRow.nil _, BRow.nil _, World.ownsRow_nil _ _ _ _, fun k hk => by simp [Value.ownBlock] at hk⟩, rfl, fun _ => ⟨rfl, rfl, rfl, rfl⟩⟩, newC_ok⟩)
  have HM := Lib.hid ((Mods.refl [] w).alloc (.cells (ckCells 0 false 0 false 0 (.slice none 0 0) (.slice none 0 0) (.slice none 0 0)) 109))
  unfold ckCells at HC HM
  unfold ptr
  go_enter Tryz.func84, Tryz.ntmps84
  go_wp2
  go_ret
  exact ⟨_, _, rfl, Lib.hid ⟨HC.out, HM.out, fun k hk => by rw [List.mem_singleton] at hk; omega⟩⟩
set_option maxRecDepth 10000 in
theorem body_c {F : List Nat} {w : World} {g : Nat} {r : ChP} (a : CkA F w g r) : Calls Tryz.prog 54 #[ptr g] w fun z w' => ∃ u, z = .returned u ∧ Hid (GB w r.body u w') := by
  obtain ⟨vl, vb, vt, L, left, last, e, c, rfl, hz⟩ := a.ex
  have hb := a.ok.body
  have HC := Lib.hid (clone_b r.body vb w c.body.at (by omega))
  have d2 : w.cell? ⟨g, 2, none⟩ = some vb := (CkC.facts c).2.2.1
  clear a c hz hb
  unfold ptr
  go_enter Tryz.func54, Tryz.ntmps54
  go_wp2_with (go_at_call 66; refine HC.out.mono ?_; rintro z w1 ⟨u, rfl, hk⟩; have HK := Lib.hid hk.out; clear hk)
  go_ret
  exact ⟨_, rfl, HK⟩
end Go.Proofs.YtgkhelbpccehcaaGreatDoor
