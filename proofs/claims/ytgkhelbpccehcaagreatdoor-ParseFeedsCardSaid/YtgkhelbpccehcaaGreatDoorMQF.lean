/- Heads in memory, the code's and the document's, over one plain head. No program but for the types' numbers. -/
import Derived.Test.YtgkhelbpccehcaaGreatDoorMQE
import Derived.Test.YtgkhelbpccehcaaGreatDoorMQB
import Derived.Test.YtgkhelbpccehcaaGreatDoorMQD
import Derived.Test.YtgkhelbpccehcaaGreatDoorMQC
import Derived.Shelf.Strings.Split
import Derived.Lib.IndexBytes
import Derived.Test.YtgkhelbpccehcaaGreatDoorMQA
import Derived.Test.YtgkhelbpccehcaaGreatDoorSh9
import Derived.Deep.DeepCutAuto
import Derived.Deep.CutBlock
import Derived.Deep.RegionHeld3
import Derived.BigQuiet
namespace Go.Proofs.YtgkhelbpccehcaaGreatDoor
open Go.RowKit
set_option linter.unusedVariables false
set_option linter.unusedSimpArgs false

/-! Plain bounds. -/
/-- What holds of every head that lines have made. -/
structure HdOk (h : HdP) : Prop where
  bytes : h.bytes ≤ 1024
  empty : h.empty ≤ 5
  low : h.whole = false → h.status = 0 → h.empty ≤ 4
  none : h.started = false → h.meth = noB ∧ h.tgt = noT ∧ h.minor = 0 ∧ h.S = []
  len : h.S.length ≤ 24
  small : ∀ p ∈ h.S, p.1.size ≤ 256 ∧ p.2.size ≤ 256
  minor : h.minor = 0 ∨ h.minor = 1
  meth : h.meth.size ≤ 1000
  host : h.tgt.host.size ≤ 1000
  path : h.tgt.path.size ≤ 1000
  query : h.tgt.query.size ≤ 1000
theorem sizes_le {l : List ByteArray} {n : Nat} (h : ∀ x ∈ l, x.size ≤ n) : sizes l ≤ l.length * (n + 1) := by
  induction l with
  | nil => simp [sizes]
  | cons x l ih =>
    have h1 := h x (by simp)
    have h2 := ih (fun y hy => h y (by simp [hy]))
    rw [List.length_cons, Nat.add_mul, Nat.one_mul]; unfold sizes; omega
theorem HdOk.lite {h : HdP} (o : HdOk h) : Lite h.S := by
  have h1 := sizes_le (l := h.S.map (·.2)) (n := 256) (fun x hx => by
    obtain ⟨p, hp, rfl⟩ := List.mem_map.1 hx
    exact (o.small p hp).2)
  have h2 := o.len
  have h3 := Nat.mul_le_mul_right (256 + 1) h2
  rw [List.length_map] at h1
  unfold Lite; omega
theorem newH_ok : HdOk newH := ⟨by decide, by decide, fun _ _ => by decide, fun _ => ⟨rfl, rfl, rfl, rfl⟩, by decide, (fun _ h => nomatch h), .inl rfl, by decide, by decide, by decide, by decide⟩

/-! The code's head. -/
def HdP.startCells (h : HdP) : Array Value := #[.string h.meth, .int .i64 h.tgt.form, .string h.tgt.host, .string h.tgt.path, .string h.tgt.query, .int .i64 h.minor]
/-- What the head says of its start. -/
def StA (w : World) (st : Value) (h : HdP) : Prop :=
  (h.started = false ∧ st = .pointer none) ∨ (h.started = true ∧ ∃ sb, st = ptr sb ∧ Row w sb 85 h.startCells)
def stB : Value → List Nat
  | .pointer (some a) => [a.block]
  | _ => []
def headCells (g : Nat) (st : Value) (e z : Int) (h : HdP) : Array Value :=
  #[ptr g, st, .int .i64 e, .int .i64 z, .int .i64 h.how.kind, .int .i64 h.how.length, .bool h.how.close, .bool h.how.expect, .bool h.whole, .int .i64 h.status]
/-- The code's head: its block, its fields' block and slice, its start; how many empty lines and bytes it counted. -/
structure HdC (hb g : Nat) (v st : Value) (w : World) (h : HdP) (e z : Int) : Prop where
  row : Row w hb 67 (headCells g st e z h)
  fld : Fld 93 w g v h.S
  sta : StA w st h
/-- Its blocks. -/
abbrev hbl (hb g : Nat) (v st : Value) : List Nat := hb :: g :: (stB st ++ v.ownBlock.toList)
section
variable {hb g : Nat} {v st : Value} {w w' : World} {h h' : HdP} {e z : Int} {F : List Nat}
theorem StA.mods (s : StA w st h) (hm : Mods F w w') (hF : ∀ k ∈ stB st, k ∉ F) : StA w' st h := by
  rcases s with s | ⟨h1, sb, rfl, hr⟩
  · exact .inl s
  · exact .inr ⟨h1, sb, rfl, hr.mods hm (hF sb (by simp [stB]))⟩
theorem StA.lt (s : StA w st h) : ∀ k ∈ stB st, k < w.heap.size := by
  rcases s with ⟨_, rfl⟩ | ⟨_, sb, rfl, hr⟩
  · intro k hk; cases hk
  · intro k hk
    have : k = sb := by simpa [stB] using hk
    subst this; exact hr.lt
theorem StA.of_eq (s : StA w st h) (h1 : h'.started = h.started) (h2 : h'.startCells = h.startCells) : StA w st h' := by
  rcases s with ⟨a, b⟩ | ⟨a, sb, b, hr⟩
  · exact .inl ⟨by rw [h1, a], b⟩
  · exact .inr ⟨by rw [h1, a], sb, b, by rw [h2]; exact hr⟩
theorem HdC.mods (c : HdC hb g v st w h e z) (hm : Mods F w w') (hF : ∀ k ∈ hbl hb g v st, k ∉ F) : HdC hb g v st w' h e z :=
  ⟨c.row.mods hm (hF hb (by simp)), c.fld.mods hm (hF g (by simp)) (fun k hk => hF k (by simp [hk])), c.sta.mods hm (fun k hk => hF k (by simp [hk]))⟩
theorem HdC.low (c : HdC hb g v st w h e z) (hm : Mods [] w w') : HdC hb g v st w' h e z := c.mods hm (by simp)
theorem HdC.lt (c : HdC hb g v st w h e z) : ∀ k ∈ hbl hb g v st, k < w.heap.size := by
  intro k hk
  simp only [List.mem_cons, List.mem_append] at hk
  rcases hk with rfl | rfl | hk | hk
  · exact c.row.lt
  · exact c.fld.row.lt
  · exact c.sta.lt k hk
  · exact c.fld.lt k hk
/-- The blocks of a head are five different ones. -/
theorem HdC.ne_g (c : HdC hb g v st w h e z) : g ≠ hb := Row.type_ne c.fld.row c.row (by decide)
theorem HdC.ne_v (c : HdC hb g v st w h e z) : ∀ k ∈ v.ownBlock.toList, k ≠ hb ∧ k ≠ g := fun k hk => ⟨own_ne_row c.fld.own c.row (by decide) k hk, c.fld.ne (by decide) k hk⟩
theorem HdC.ne_s (c : HdC hb g v st w h e z) : ∀ k ∈ stB st, k ≠ hb ∧ k ≠ g ∧ k ∉ v.ownBlock.toList := by
  intro k hk
  rcases c.sta with ⟨_, hs⟩ | ⟨_, sb, hs, hr⟩
  · rw [hs] at hk; cases hk
  · rw [hs] at hk
    have : k = sb := by simpa [stB] using hk
    subst this
    exact ⟨Row.type_ne hr c.row (by decide), Row.type_ne hr c.fld.row (by decide), fun hk => own_ne_row c.fld.own hr (by decide) k hk rfl⟩
/-- A cell of the head's own row is stored. -/
theorem HdC.set (c : HdC hb g v st w h e z) (i : Nat) (u : Value) {h' : HdP} {e' z' : Int} (he : (headCells g st e z h).setIfInBounds i u = headCells g st e' z' h') (hS : h'.S = h.S) (h1 : h'.started = h.started) (h2 : h'.startCells = h.startCells) :
    HdC hb g v st (w.setCell ⟨hb, i, none⟩ u) h' e' z' := by
  have hm : Mods [hb] w (w.setCell ⟨hb, i, none⟩ u) := (Mods.refl [hb] w).setCell (.inl (by simp)) u
  refine ⟨he ▸ c.row.set i u, ?_, (c.sta.mods hm (fun k hk => by simpa using (c.ne_s k hk).1)).of_eq h1 h2⟩
  rw [hS]
  exact c.fld.mods hm (by simpa using c.ne_g) (fun k hk => by simpa using (c.ne_v k hk).1)
/-- The start is laid. -/
theorem HdC.born (c : HdC hb g v st w h e z) {h' : HdP} (h1 : h'.started = true) (h2 : h'.S = h.S) (h3 : h'.how = h.how) (h4 : h'.whole = h.whole) (h5 : h'.status = h.status) :
    HdC hb g v (ptr w.heap.size) ((w.alloc (.cells h'.startCells 85)).setCell ⟨hb, 1, none⟩ (ptr w.heap.size)) h' e z := by
  have hm0 : Mods [] w (w.alloc (.cells h'.startCells 85)) := (Mods.refl [] w).alloc _
  have hr := Row.new w 85 h'.startCells
  have c1 := c.low hm0
  have hne : w.heap.size ≠ hb := Row.type_ne hr c1.row (by decide)
  generalize w.alloc (.cells h'.startCells 85) = W at *
  have hm : Mods [hb] W (W.setCell ⟨hb, 1, none⟩ (ptr w.heap.size)) := (Mods.refl [hb] W).setCell (.inl (by simp)) _
  refine ⟨?_, ?_, .inr ⟨h1, _, rfl, hr.mods hm (by simpa using hne)⟩⟩
  · have := c1.row.set 1 (ptr w.heap.size)
    unfold headCells at this ⊢
    rw [h3, h4, h5]
    exact this
  · rw [h2]
    exact c1.fld.mods hm (by simpa using c1.ne_g) (fun k hk => by simpa using (c1.ne_v k hk).1)
theorem HdC.facts (c : HdC hb g v st w h e z) :
    w.cell? ⟨hb, 0, none⟩ = some (ptr g) ∧ w.cell? ⟨hb, 1, none⟩ = some st ∧ w.cell? ⟨hb, 2, none⟩ = some (.int .i64 e) ∧ w.cell? ⟨hb, 3, none⟩ = some (.int .i64 z) ∧ w.cell? ⟨hb, 4, none⟩ = some (.int .i64 h.how.kind) ∧
    w.cell? ⟨hb, 5, none⟩ = some (.int .i64 h.how.length) ∧ w.cell? ⟨hb, 6, none⟩ = some (.bool h.how.close) ∧ w.cell? ⟨hb, 7, none⟩ = some (.bool h.how.expect) ∧ w.cell? ⟨hb, 8, none⟩ = some (.bool h.whole) ∧ w.cell? ⟨hb, 9, none⟩ = some (.int .i64 h.status) :=
  ⟨c.row.cell 0, c.row.cell 1, c.row.cell 2, c.row.cell 3, c.row.cell 4, c.row.cell 5, c.row.cell 6, c.row.cell 7, c.row.cell 8, c.row.cell 9⟩
end
/-- The code's head, as a law holds it: F are its blocks. -/
structure HdA (F : List Nat) (w : World) (hb : Nat) (h : HdP) : Prop where
  ex : ∃ g v st e z, HdC hb g v st w h e z ∧ F = hbl hb g v st ∧ (h.whole = false → h.status = 0 → e = (h.empty : Int) ∧ z = (h.bytes : Int))
  ok : HdOk h
theorem HdA.mods {F G : List Nat} {w w' : World} {hb : Nat} {h : HdP} (a : HdA F w hb h) (hm : Mods G w w') (hF : ∀ k ∈ F, k ∉ G) : HdA F w' hb h := by
  obtain ⟨g, v, st, e, z, c, rfl, hz⟩ := a.ex
  exact ⟨⟨g, v, st, e, z, c.mods hm hF, rfl, hz⟩, a.ok⟩
theorem HdA.low {F : List Nat} {w w' : World} {hb : Nat} {h : HdP} (a : HdA F w hb h) (hm : Mods [] w w') : HdA F w' hb h := a.mods hm (by simp)
theorem HdA.lt {F : List Nat} {w : World} {hb : Nat} {h : HdP} (a : HdA F w hb h) : ∀ k ∈ F, k < w.heap.size := by
  obtain ⟨g, v, st, e, z, c, rfl, hz⟩ := a.ex
  exact c.lt

/-! The document's head. -/
def refCells (z e : Int) (h : HdP) : List Value :=
  [.string h.meth, .int .i64 h.tgt.form, .string h.tgt.host, .string h.tgt.path, .string h.tgt.query, .int .i64 h.minor, .int .i64 h.how.kind, .int .i64 h.how.length, .bool h.how.close, .bool h.how.expect,
   .bool h.started, .bool h.whole, .int .i64 h.status, .int .i64 z, .int .i64 e]
/-- Its block and slice; how many bytes and empty lines it counted. -/
abbrev HdX (xb : Nat) (v : Value) (w : World) (h : HdP) (z e : Int) : Prop := FldE 74 (refCells z e h) w xb v h.S
section
variable {xb : Nat} {v : Value} {w w' : World} {h h' : HdP} {e z e' z' : Int}
theorem HdX.row' (c : HdX xb v w h z e) : Row w xb 74 (v :: refCells z e h).toArray := FldE.row c
theorem HdX.set (c : HdX xb v w h z e) (i : Nat) (u : Value) (he : (v :: refCells z e h).toArray.setIfInBounds i u = (v :: refCells z' e' h').toArray) (hS : h'.S = h.S) : HdX xb v (w.setCell ⟨xb, i, none⟩ u) h' z' e' := by
  have hm : Mods [xb] w (w.setCell ⟨xb, i, none⟩ u) := (Mods.refl [xb] w).setCell (.inl (by simp)) u
  have hr := c.row'.set i u
  rw [he] at hr
  refine ⟨hr, ?_, by rw [hS]; exact c.len, by rw [hS]; exact c.small⟩
  rw [hS]
  exact own_mods c.own hm (fun k hk => by simpa using own_ne_row c.own c.row' (by decide) k hk)
theorem HdX.facts (c : HdX xb v w h z e) :
    w.cell? ⟨xb, 0, none⟩ = some v ∧ w.cell? ⟨xb, 1, none⟩ = some (.string h.meth) ∧ w.cell? ⟨xb, 2, none⟩ = some (.int .i64 h.tgt.form) ∧ w.cell? ⟨xb, 3, none⟩ = some (.string h.tgt.host) ∧ w.cell? ⟨xb, 4, none⟩ = some (.string h.tgt.path) ∧ w.cell? ⟨xb, 5, none⟩ = some (.string h.tgt.query) ∧
    w.cell? ⟨xb, 6, none⟩ = some (.int .i64 h.minor) ∧ w.cell? ⟨xb, 7, none⟩ = some (.int .i64 h.how.kind) ∧ w.cell? ⟨xb, 8, none⟩ = some (.int .i64 h.how.length) ∧ w.cell? ⟨xb, 9, none⟩ = some (.bool h.how.close) ∧ w.cell? ⟨xb, 10, none⟩ = some (.bool h.how.expect) ∧
    w.cell? ⟨xb, 11, none⟩ = some (.bool h.started) ∧ w.cell? ⟨xb, 12, none⟩ = some (.bool h.whole) ∧ w.cell? ⟨xb, 13, none⟩ = some (.int .i64 h.status) ∧ w.cell? ⟨xb, 14, none⟩ = some (.int .i64 z) ∧ w.cell? ⟨xb, 15, none⟩ = some (.int .i64 e) :=
  ⟨c.row'.cell 0, c.row'.cell 1, c.row'.cell 2, c.row'.cell 3, c.row'.cell 4, c.row'.cell 5, c.row'.cell 6, c.row'.cell 7, c.row'.cell 8, c.row'.cell 9, c.row'.cell 10, c.row'.cell 11, c.row'.cell 12, c.row'.cell 13, c.row'.cell 14, c.row'.cell 15⟩
end
structure HdR (F : List Nat) (w : World) (xb : Nat) (h : HdP) : Prop where
  ex : ∃ v z e, HdX xb v w h z e ∧ F = xb :: v.ownBlock.toList ∧ (h.whole = false → h.status = 0 → e = (h.empty : Int) ∧ z = (h.bytes : Int))
  ok : HdOk h
theorem HdR.mods {F G : List Nat} {w w' : World} {xb : Nat} {h : HdP} (a : HdR F w xb h) (hm : Mods G w w') (hF : ∀ k ∈ F, k ∉ G) : HdR F w' xb h := by
  obtain ⟨v, z, e, c, rfl, hz⟩ := a.ex
  exact ⟨⟨v, z, e, FldE.mods c hm (hF xb (by simp)) (fun k hk => hF k (by simp [hk])), rfl, hz⟩, a.ok⟩
theorem HdR.low {F : List Nat} {w w' : World} {xb : Nat} {h : HdP} (a : HdR F w xb h) (hm : Mods [] w w') : HdR F w' xb h := a.mods hm (by simp)
theorem HdR.lt {F : List Nat} {w : World} {xb : Nat} {h : HdP} (a : HdR F w xb h) : ∀ k ∈ F, k < w.heap.size := by
  obtain ⟨v, z, e, c, rfl, hz⟩ := a.ex
  intro k hk
  rcases List.mem_cons.1 hk with rfl | hk
  · exact c.row'.lt
  · exact FldE.lt c k hk
end Go.Proofs.YtgkhelbpccehcaaGreatDoor

/- What chapter 13's laws ask of a head, in plain terms. No program but for what Parse answers. -/
namespace Go.Proofs.YtgkhelbpccehcaaGreatDoor
open Go.RowKit
set_option linter.unusedVariables false
set_option linter.unusedSimpArgs false

/-! Empty lines ahead. -/
/-! A start line of a path. -/
/-! Lines that are fields. -/
end Go.Proofs.YtgkhelbpccehcaaGreatDoor

/- Up to so many fields, and bytes, are taken, and no more: chapter 13's law in plain terms. No program but for what Parse answers. -/
namespace Go.Proofs.YtgkhelbpccehcaaGreatDoor
open Go.RowKit
set_option linter.unusedVariables false
set_option linter.unusedSimpArgs false

/-- The line behind i of them is refused. -/
def badI (k i : Nat) : Prop := 256 < k + 2 ∨ 1024 < 25 + (i + 1) * (k + 4) ∨ 24 < i + 2
instance (k i : Nat) : Decidable (badI k i) := by unfold badI; infer_instance
/-! The head that the laws know. -/
end Go.Proofs.YtgkhelbpccehcaaGreatDoor

/- Contract of the library's Split at one byte at this program. Conditions: as it says. -/
namespace Go.Proofs.YtgkhelbpccehcaaGreatDoor
open Go.Shelf
def l146_ren : Go.Shelf.Ren := ⟨fun | 138 => 143 | 143 => 144 | 146 => 105 | 195 => 175 | 197 => 176 | 217 => 179 | 218 => 177 | 219 => 178 | 221 => 125 | 224 => 204 | 225 => 203 | 260 => 202 | 266 => 206 | 267 => 205 | 268 => 142 | 314 => 217 | n => n, fun | 0 => 0 | 3 => 3 | 4 => 4 | 5 => 5 | 9 => 9 | 21 => 21 | 31 => 112 | 46 => 162 | 51 => 211 | 105 => 182 | 119 => 207 | 138 => 209 | 139 => 210 | 146 => 212 | n => n, fun | 1 => 0 | 3 => 1 | 4 => 2 | n => n⟩
theorem l146 : Go.Proofs.Lays.n146 Tryz.prog l146_ren := {
  mixed := by kernel_rfl
  f138 := Tryz.func143.trans (congrArg some (by kernel_rfl))
  f143 := Tryz.func144.trans (congrArg some (by kernel_rfl))
  f146 := Tryz.func105.trans (congrArg some (by kernel_rfl))
  f195 := Tryz.func175.trans (congrArg some (by kernel_rfl))
  f197 := Tryz.func176.trans (congrArg some (by kernel_rfl))
  f217 := Tryz.func179.trans (congrArg some (by kernel_rfl))
  f218 := Tryz.func177.trans (congrArg some (by kernel_rfl))
  f219 := Tryz.func178.trans (congrArg some (by kernel_rfl))
  f221 := Tryz.func125.trans (congrArg some (by kernel_rfl))
  f224 := Tryz.func204.trans (congrArg some (by kernel_rfl))
  f225 := Tryz.func203.trans (congrArg some (by kernel_rfl))
  f260 := Tryz.func202.trans (congrArg some (by kernel_rfl))
  f266 := Tryz.func206.trans (congrArg some (by kernel_rfl))
  f267 := Tryz.func205.trans (congrArg some (by kernel_rfl))
  f268 := Tryz.func142.trans (congrArg some (by kernel_rfl))
  f314 := Tryz.func217.trans (congrArg some (by kernel_rfl))
  t0 := Tryz.underlying0
  a0 := Tryz.isAgg0
  z0 := Tryz.sizeOf0
  v0 := Tryz.zeroValue0
  t3 := Tryz.underlying3
  a3 := Tryz.isAgg3
  z3 := Tryz.sizeOf3
  v3 := Tryz.zeroValue3
  t4 := Tryz.underlying4
  a4 := Tryz.isAgg4
  z4 := Tryz.sizeOf4
  v4 := Tryz.zeroValue4
  t5 := Tryz.underlying5
  a5 := Tryz.isAgg5
  z5 := Tryz.sizeOf5
  v5 := Tryz.zeroValue5
  t9 := Tryz.underlying9
  a9 := Tryz.isAgg9
  z9 := Tryz.sizeOf9
  v9 := Tryz.zeroValue9
  t21 := Tryz.underlying21
  a21 := Tryz.isAgg21
  z21 := Tryz.sizeOf21
  v21 := Tryz.zeroValue21
  t31 := Tryz.underlying112
  a31 := Tryz.isAgg112
  z31 := Tryz.sizeOf112
  v31 := Tryz.zeroValue112
  t46 := Tryz.underlying162
  a46 := Tryz.isAgg162
  z46 := Tryz.sizeOf162
  v46 := Tryz.zeroValue162
  t51 := Tryz.underlying211
  a51 := Tryz.isAgg211
  z51 := Tryz.sizeOf211
  v51 := Tryz.zeroValue211
  t105 := Tryz.underlying182
  a105 := Tryz.isAgg182
  z105 := Tryz.sizeOf182
  v105 := Tryz.zeroValue182
  t119 := Tryz.underlying207
  a119 := Tryz.isAgg207
  z119 := Tryz.sizeOf207
  t138 := Tryz.underlying209
  a138 := Tryz.isAgg209
  z138 := Tryz.sizeOf209
  v138 := Tryz.zeroValue209
  t139 := Tryz.underlying210
  a139 := Tryz.isAgg210
  z139 := Tryz.sizeOf210
  v139 := Tryz.zeroValue210
  t146 := Tryz.underlying212
  a146 := Tryz.isAgg212
  z146 := Tryz.sizeOf212
  v146 := Tryz.zeroValue212
  g1 := by kernel_rfl
  g3 := by kernel_rfl
  g4 := by kernel_rfl }

open Go.RowKit
theorem index_at (a b : List UInt8) (c : UInt8) (h : ∀ x ∈ a, x ≠ c) : Lib.indexByte (a ++ c :: b) c = (a.length : Int) := by
  induction a with
  | nil => simp [Lib.indexByte]
  | cons x a ih =>
    have h1 := ih (fun y hy => h y (by simp [hy]))
    have hx : x ≠ c := h x (by simp)
    simp only [List.cons_append, Lib.indexByte, h1]
    simp [hx]
    try omega
theorem split_list : ∀ (k : Nat) (l : List UInt8), l.count 32 = k → Lib.splitK [32] 0 k l = wordsL l
  | 0, l, h => by
    have hn : ∀ x ∈ l, x ≠ 32 := fun x hx e => by subst e; exact absurd hx (List.count_eq_zero.1 h)
    rw [words_no hn]; rfl
  | k + 1, l, h => by
    have hm : (32 : UInt8) ∈ l := List.count_pos_iff.1 (by omega)
    obtain ⟨a, b, rfl, ha⟩ := List.eq_append_cons_of_mem hm
    have hn : ∀ x ∈ a, x ≠ 32 := fun x hx e => by subst e; exact ha hx
    have hi : Lib.index (a ++ 32 :: b) [32] = (a.length : Int) := by rw [Lib.index_one, index_at a b 32 hn]
    have hc : b.count 32 = k := by
      rw [List.count_append, List.count_cons_self, List.count_eq_zero.2 ha] at h; omega
    rw [words_at hn, Lib.splitK, hi]
    have hne : ((a.length : Int) == -1) = false := by rw [beq_eq_false_iff_ne]; omega
    rw [if_neg (by rw [hne]; simp)]
    congr 1
    · simp
    · rw [← split_list k b hc]; simp
theorem split_words (s : ByteArray) : Lib.splitB ⟨#[32]⟩ 0 (Lib.countB s ⟨#[32]⟩) s = (wordsL s.data.toList).map ofL := by
  have h := Lib.splitB_data ⟨#[32]⟩ 0 (Lib.countB s ⟨#[32]⟩) s
  have hc : Lib.countB s ⟨#[32]⟩ = s.data.toList.count 32 := Lib.count_one 32 _
  rw [hc] at h ⊢
  rw [show (⟨#[32]⟩ : ByteArray).data.toList = [32] from rfl, split_list _ _ rfl] at h
  rw [← h, List.map_map]
  conv => lhs; rw [← List.map_id (Lib.splitB _ _ _ _)]
  refine List.map_congr_left fun x _ => ?_
  exact (ofL_data x).symm
set_option maxRecDepth 10000 in
theorem split_shelf (s : ByteArray) (w : World) (hs : s.size ≤ 1000000) :
    Calls Tryz.prog 105 #[.string s, .string ⟨#[32]⟩] w fun e w' => e = .returned (.slice (some ⟨w.heap.size, 0, none⟩) (wordsL s.data.toList).length (wordsL s.data.toList).length) ∧
      w' = w.alloc (.cells (((wordsL s.data.toList).map ofL).map Value.string).toArray 9) := by
  have hle := Lib.countB_le ⟨#[32]⟩ (by decide) s.size s (Nat.le_refl _)
  have hlen := Lib.splitB_all ⟨#[32]⟩ (by decide) 0 _ s rfl
  have c := Any.strings_genSplit_core (P := Tryz.prog) (ρ := l146_ren) { l146 with } infoSt s ⟨#[32]⟩ 0 (-1) (Lib.countB s ⟨#[32]⟩ + 1) w (by omega) (by decide) (by decide)
    (fun x c hx => (Any.strings_Index_one { l146 with } x 32 _).mono fun e w' ⟨h1, h2⟩ => ⟨by rw [h1]; show _ = Ending.returned (.int .i64 (Lib.index x.data.toList [32])); rw [Lib.index_one], h2⟩)
    ((Any.strings_Count_one { l146 with } s 32 w).mono fun e w' ⟨h1, h2⟩ => ⟨by rw [h1]; show _ = Ending.returned (.int .i64 ((Lib.count s.data.toList [32] : Nat) : Int)); rw [Lib.count_one]; rfl, h2⟩)
    (by decide) (by decide) (by rw [if_pos (by decide)]; omega)
  rw [Nat.add_sub_cancel] at c
  have e2 : Lib.cellsOf (Lib.splitB ⟨#[32]⟩ 0 (Lib.countB s ⟨#[32]⟩) s) (Lib.countB s ⟨#[32]⟩ + 1) = ((Lib.splitB ⟨#[32]⟩ 0 (Lib.countB s ⟨#[32]⟩) s).map Value.string).toArray := by rw [← hlen]; exact Lib.cellsOf_full _
  rw [e2, ← hlen, split_words, List.length_map] at c
  have HC := Lib.hid c
  clear c e2 hlen hle
  go_enter Tryz.func105, Tryz.ntmps105
  go_wp2_with (go_at_call 125; refine HC.out.mono ?_; rintro e w' ⟨rfl, hw⟩; rw [hw])
  go_ret
  exact ⟨rfl, by rw [List.map_map]; rfl⟩
end Go.Proofs.YtgkhelbpccehcaaGreatDoor

/- isDigit, minorOf and pass of the code's head; digit of the document. Conditions: texts of at most a million bytes. -/
namespace Go.Proofs.YtgkhelbpccehcaaGreatDoor
open Go.RowKit
set_option linter.unusedVariables false
set_option linter.unusedSimpArgs false

set_option maxRecDepth 10000 in
theorem digit_h (c : UInt8) (w : World) : Calls Tryz.prog 128 #[.int .u8 (c.toNat : Int)] w fun e w' => e = .returned (.bool (isD c)) ∧ w = w' := by
  have hb : (c.toNat : Int) < 256 := by have := c.toNat_lt; omega
  have h0 : (0 : Int) ≤ (c.toNat : Int) := by omega
  rcases (by omega : (c.toNat : Int) < 48 ∨ (48 ≤ (c.toNat : Int) ∧ (c.toNat : Int) ≤ 57) ∨ 57 < (c.toNat : Int)) with h | ⟨h, h2⟩ | h
  all_goals
    first
      | (have HA := Lib.hid (show isD c = false by unfold isD; simp; omega)
         go_enter Tryz.func128, Tryz.ntmps128
         go_wp2
         go_ret
         exact ⟨ret_bool (by rw [HA.out]; try (simp; omega)), rfl⟩)
      | (have HA := Lib.hid (show isD c = true by unfold isD; simp; omega)
         go_enter Tryz.func128, Tryz.ntmps128
         go_wp2
         go_ret
         exact ⟨ret_bool (by rw [HA.out]; try (simp; omega)), rfl⟩)
set_option maxRecDepth 10000 in
theorem digit_x (c : UInt8) (w : World) : Calls Tryz.prog 71 #[.int .u8 (c.toNat : Int)] w fun e w' => e = .returned (.bool (isD c)) ∧ w = w' := by
  have hb : (c.toNat : Int) < 256 := by have := c.toNat_lt; omega
  have h0 : (0 : Int) ≤ (c.toNat : Int) := by omega
  rcases (by omega : (c.toNat : Int) < 48 ∨ (48 ≤ (c.toNat : Int) ∧ (c.toNat : Int) ≤ 57) ∨ 57 < (c.toNat : Int)) with h | ⟨h, h2⟩ | h
  all_goals
    first
      | (have HA := Lib.hid (show isD c = false by unfold isD; simp; omega)
         go_enter Tryz.func71, Tryz.ntmps71
         go_wp2
         go_ret
         exact ⟨ret_bool (by rw [HA.out]; try (simp; omega)), rfl⟩)
      | (have HA := Lib.hid (show isD c = true by unfold isD; simp; omega)
         go_enter Tryz.func71, Tryz.ntmps71
         go_wp2
         go_ret
         exact ⟨ret_bool (by rw [HA.out]; try (simp; omega)), rfl⟩)

/-! A version. -/
theorem verS_no {v : List UInt8} (h : hvL.isPrefixOf v = false) : verS v = 400 := by
  unfold verS
  rw [if_neg]
  rintro ⟨_, h2, _⟩
  have : hvL <+: v := ⟨v.drop 5, by rw [← h2]; exact List.take_append_drop 5 v⟩
  rw [List.isPrefixOf_iff_prefix.2 this] at h
  cases h
theorem verS_len {r : List UInt8} (h : r.length ≠ 3) : verS (hvL ++ r) = 400 := by
  unfold verS
  rw [if_neg]
  rintro ⟨h1, _⟩
  rw [List.length_append] at h1
  exact h (by have : hvL.length = 5 := rfl; omega)
theorem verS_three (a b c : UInt8) : verS (hvL ++ [a, b, c]) = if isD a = true ∧ b = 46 ∧ isD c = true then (if a = 49 then 0 else 505) else 400 := by
  unfold verS
  have h1 : (hvL ++ [a, b, c]).length = 8 := rfl
  have h2 : (hvL ++ [a, b, c]).take 5 = hvL := rfl
  have h3 : (hvL ++ [a, b, c]).getD 5 0 = a := rfl
  have h4 : (hvL ++ [a, b, c]).getD 6 0 = b := rfl
  have h5 : (hvL ++ [a, b, c]).getD 7 0 = c := rfl
  rw [h1, h2, h3, h4, h5]
  simp
theorem verM_three (a b c : UInt8) : verM (hvL ++ [a, b, c]) = if c = 48 then 0 else 1 := rfl
theorem ver5 (a b c : UInt8) : verS (hvL ++ [a, b, c]) = if (isD a && decide (b = 46) && isD c) = true then (if decide (a = 49) = true then 0 else 505) else 400 := by
  rw [verS_three]
  simp only [Bool.and_eq_true, decide_eq_true_eq, and_assoc]
/-- What minorOf answers of the minor one. -/
def minS (v : List UInt8) : Int := if verS v = 0 then verM v else 0
theorem byte_eq (c : UInt8) (k : Nat) (hk : k < 256) : ((c.toNat : Int) == (k : Int)) = decide (c = UInt8.ofNat k) := by
  rw [Bool.eq_iff_iff]
  simp only [beq_iff_eq, decide_eq_true_eq]
  constructor
  · intro h
    have : c.toNat = k := by omega
    rw [← this]; exact (UInt8.ofNat_toNat).symm
  · intro h
    subst h
    simp; omega
theorem three_of {α : Type} {r : List α} (h : r.length = 3) : ∃ a b c, r = [a, b, c] := by
  match r, h with
  | [a, b, c], _ => exact ⟨a, b, c, rfl⟩

set_option maxRecDepth 10000 in
set_option maxHeartbeats 1000000 in
theorem minor_a (s : ByteArray) (hs : s.size ≤ 1000000) (w : World) : Calls Tryz.prog 107 #[.string s] w fun e w' => e = .returned (.tuple #[.int .i64 (minS s.data.toList), .int .i64 (verS s.data.toList)]) ∧ w = w' := by
  have hc := cut_shelf s ⟨#[72, 84, 84, 80, 47]⟩ w
  cases hp : hvL.isPrefixOf s.data.toList with
  | false =>
    have hv := verS_no hp
    have HV := Lib.hid hv
    have HM := Lib.hid (show minS s.data.toList = 0 by unfold minS; rw [hv]; rfl)
    rw [show Lib.hasPrefix s.data.toList (⟨#[72, 84, 84, 80, 47]⟩ : ByteArray).data.toList = false from hp] at hc
    obtain ⟨t, ht⟩ : ∃ t : ByteArray, t = ⟨(Lib.trimPrefix s.data.toList (⟨#[72, 84, 84, 80, 47]⟩ : ByteArray).data.toList).toArray⟩ := ⟨_, rfl⟩
    rw [← ht] at hc
    have HC2 := Lib.hid hc
    clear ht hc
    clear hv hp
    go_enter Tryz.func107, Tryz.ntmps107
    go_wp2_with (go_at_call 127; refine HC2.out.mono ?_; rintro e w1 ⟨rfl, rfl⟩)
    go_ret2
    exact ⟨by rw [HV.out, HM.out]; rfl, rfl⟩
  | true =>
    obtain ⟨r, hr⟩ := List.isPrefixOf_iff_prefix.1 hp
    rw [show Lib.hasPrefix s.data.toList (⟨#[72, 84, 84, 80, 47]⟩ : ByteArray).data.toList = true from hp, show (⟨(Lib.trimPrefix s.data.toList (⟨#[72, 84, 84, 80, 47]⟩ : ByteArray).data.toList).toArray⟩ : ByteArray) = ofL r by
      unfold Lib.trimPrefix
      rw [show Lib.hasPrefix s.data.toList (⟨#[72, 84, 84, 80, 47]⟩ : ByteArray).data.toList = true from hp, if_pos rfl, ← hr]
      rfl] at hc
    have HC2 := Lib.hid hc
    rw [← hr]
    clear hc hp hr
    by_cases h3 : r.length = 3
    · obtain ⟨a, b, c, rfl⟩ := three_of h3
      have HV := Lib.hid (verS_three a b c)
      have HM := Lib.hid (show minS (hvL ++ [a, b, c]) = if verS (hvL ++ [a, b, c]) = 0 then (if c = 48 then 0 else 1) else 0 from rfl)
      have HD := Lib.hid (fun (x : UInt8) (v : Bool) (hx : isD x = v) (w : World) => hx ▸ digit_h x w)
      obtain ⟨q, hq⟩ : ∃ q, q = ofL [a, b, c] := ⟨_, rfl⟩
      have HQ := Lib.hid hq
      rw [← hq] at HC2
      have q3 : q.size = 3 := by rw [hq]; rfl
      have q0 : q[0]'(by omega) = a := by subst hq; rfl
      have q1 : q[1]'(by omega) = b := by subst hq; rfl
      have q2 : q[2]'(by omega) = c := by subst hq; rfl
      have e1 : ((b.toNat : Int) == 46) = decide (b = 46) := byte_eq b 46 (by decide)
      have e2 : ((a.toNat : Int) == 49) = decide (a = 49) := byte_eq a 49 (by decide)
      have e3 : ((c.toNat : Int) == 48) = decide (c = 48) := byte_eq c 48 (by decide)
      have n1 : ((b.toNat : Int) != 46) = !decide (b = 46) := by rw [bne, e1]
      have n2 : ((a.toNat : Int) != 49) = !decide (a = 49) := by rw [bne, e2]
      have hv := ver5 a b c
      have hm : minS (hvL ++ [a, b, c]) = if verS (hvL ++ [a, b, c]) = 0 then (if decide (c = 48) = true then 0 else 1) else 0 := by
        rw [HM.out]; simp only [decide_eq_true_eq]
      rw [hv] at hm
      have hda := HD.out a _ rfl
      have hdc := HD.out c _ rfl
      generalize isD a = t1 at *
      generalize isD c = t3 at *
      generalize decide (b = 46) = t2 at *
      generalize decide (a = 49) = t4 at *
      generalize decide (c = 48) = t5 at *
      clear hq h3 e1 e2 HV HM HD
      cases t1
      · have HDA := Lib.hid hda
        have HVV := Lib.hid (show verS (hvL ++ [a, b, c]) = 400 from hv)
        have HMM := Lib.hid (show minS (hvL ++ [a, b, c]) = 0 from hm)
        clear hda hdc hv hm n1 n2 e3
        go_enter Tryz.func107, Tryz.ntmps107
        go_wp2_with (first
          | (go_at_call 127; refine HC2.out.mono ?_; rintro e w1 ⟨rfl, rfl⟩)
          | (go_at_call 128; refine (HDA.out _).mono ?_; rintro e w1 ⟨rfl, rfl⟩))
        go_ret2
        exact ⟨by rw [HVV.out, HMM.out]; rfl, rfl⟩
      · cases t2
        · skip
          have HDA := Lib.hid hda
          have HDC := Lib.hid hdc
          have HVV := Lib.hid (show verS (hvL ++ [a, b, c]) = 400 from hv)
          have HMM := Lib.hid (show minS (hvL ++ [a, b, c]) = 0 from hm)
          simp only [Bool.not_true, Bool.not_false] at n1 n2
          clear hda hdc hv hm
          go_enter Tryz.func107, Tryz.ntmps107
          go_wp2_with (first
            | (go_at_call 127; refine HC2.out.mono ?_; rintro e w1 ⟨rfl, rfl⟩)
            | (go_at_call 128; (with_reducible show Calls _ _ #[.int .u8 (a.toNat : Int)] _ _); refine (HDA.out _).mono ?_; rintro e w1 ⟨rfl, rfl⟩)
            | (go_at_call 128; (with_reducible show Calls _ _ #[.int .u8 (c.toNat : Int)] _ _); refine (HDC.out _).mono ?_; rintro e w1 ⟨rfl, rfl⟩))
          go_ret2
          exact ⟨by rw [HVV.out, HMM.out]; rfl, rfl⟩
        · cases t3
          · skip
            have HDA := Lib.hid hda
            have HDC := Lib.hid hdc
            have HVV := Lib.hid (show verS (hvL ++ [a, b, c]) = 400 from hv)
            have HMM := Lib.hid (show minS (hvL ++ [a, b, c]) = 0 from hm)
            simp only [Bool.not_true, Bool.not_false] at n1 n2
            clear hda hdc hv hm
            go_enter Tryz.func107, Tryz.ntmps107
            go_wp2_with (first
              | (go_at_call 127; refine HC2.out.mono ?_; rintro e w1 ⟨rfl, rfl⟩)
              | (go_at_call 128; (with_reducible show Calls _ _ #[.int .u8 (a.toNat : Int)] _ _); refine (HDA.out _).mono ?_; rintro e w1 ⟨rfl, rfl⟩)
              | (go_at_call 128; (with_reducible show Calls _ _ #[.int .u8 (c.toNat : Int)] _ _); refine (HDC.out _).mono ?_; rintro e w1 ⟨rfl, rfl⟩))
            go_ret2
            exact ⟨by rw [HVV.out, HMM.out]; rfl, rfl⟩
          · cases t4
            · skip
              have HDA := Lib.hid hda
              have HDC := Lib.hid hdc
              have HVV := Lib.hid (show verS (hvL ++ [a, b, c]) = 505 from hv)
              have HMM := Lib.hid (show minS (hvL ++ [a, b, c]) = 0 from hm)
              simp only [Bool.not_true, Bool.not_false] at n1 n2
              clear hda hdc hv hm
              go_enter Tryz.func107, Tryz.ntmps107
              go_wp2_with (first
                | (go_at_call 127; refine HC2.out.mono ?_; rintro e w1 ⟨rfl, rfl⟩)
                | (go_at_call 128; (with_reducible show Calls _ _ #[.int .u8 (a.toNat : Int)] _ _); refine (HDA.out _).mono ?_; rintro e w1 ⟨rfl, rfl⟩)
                | (go_at_call 128; (with_reducible show Calls _ _ #[.int .u8 (c.toNat : Int)] _ _); refine (HDC.out _).mono ?_; rintro e w1 ⟨rfl, rfl⟩))
              go_ret2
              exact ⟨by rw [HVV.out, HMM.out]; rfl, rfl⟩
            · cases t5
              · skip
                have HDA := Lib.hid hda
                have HDC := Lib.hid hdc
                have HVV := Lib.hid (show verS (hvL ++ [a, b, c]) = 0 from hv)
                have HMM := Lib.hid (show minS (hvL ++ [a, b, c]) = 1 from hm)
                simp only [Bool.not_true, Bool.not_false] at n1 n2
                clear hda hdc hv hm
                go_enter Tryz.func107, Tryz.ntmps107
                go_wp2_with (first
                  | (go_at_call 127; refine HC2.out.mono ?_; rintro e w1 ⟨rfl, rfl⟩)
                  | (go_at_call 128; (with_reducible show Calls _ _ #[.int .u8 (a.toNat : Int)] _ _); refine (HDA.out _).mono ?_; rintro e w1 ⟨rfl, rfl⟩)
                  | (go_at_call 128; (with_reducible show Calls _ _ #[.int .u8 (c.toNat : Int)] _ _); refine (HDC.out _).mono ?_; rintro e w1 ⟨rfl, rfl⟩))
                go_ret2
                exact ⟨by rw [HVV.out, HMM.out]; rfl, rfl⟩
              · skip
                have HDA := Lib.hid hda
                have HDC := Lib.hid hdc
                have HVV := Lib.hid (show verS (hvL ++ [a, b, c]) = 0 from hv)
                have HMM := Lib.hid (show minS (hvL ++ [a, b, c]) = 0 from hm)
                simp only [Bool.not_true, Bool.not_false] at n1 n2
                clear hda hdc hv hm
                go_enter Tryz.func107, Tryz.ntmps107
                go_wp2_with (first
                  | (go_at_call 127; refine HC2.out.mono ?_; rintro e w1 ⟨rfl, rfl⟩)
                  | (go_at_call 128; (with_reducible show Calls _ _ #[.int .u8 (a.toNat : Int)] _ _); refine (HDA.out _).mono ?_; rintro e w1 ⟨rfl, rfl⟩)
                  | (go_at_call 128; (with_reducible show Calls _ _ #[.int .u8 (c.toNat : Int)] _ _); refine (HDC.out _).mono ?_; rintro e w1 ⟨rfl, rfl⟩))
                go_ret2
                exact ⟨by rw [HVV.out, HMM.out]; rfl, rfl⟩
    · have HV := Lib.hid (verS_len h3)
      have HM := Lib.hid (show minS (hvL ++ r) = 0 by unfold minS; rw [verS_len h3]; rfl)
      obtain ⟨q, hq⟩ : ∃ q, q = ofL r := ⟨_, rfl⟩
      have hz : q.size = r.length := by rw [hq, ofL_size]
      rw [← hq] at HC2
      have q3 : ((q.size : Int) != 3) = true := by rw [bne_iff_ne]; omega
      clear hq h3 hz
      go_enter Tryz.func107, Tryz.ntmps107
      go_wp2_with (go_at_call 127; refine HC2.out.mono ?_; rintro e w1 ⟨rfl, rfl⟩)
      go_ret2
      exact ⟨by rw [HV.out, HM.out]; rfl, rfl⟩

set_option maxRecDepth 10000 in
theorem pass_a {hb g : Nat} {v st : Value} {w : World} {h : HdP} {z : Int} (n : Nat) (hn : n ≤ 4) (c : HdC hb g v st w h n z) (r : Int) (hr : (if 4 < n + 1 then (400 : Int) else 0) = r) :
    Calls Tryz.prog 86 #[ptr hb] w fun e w' => e = .returned (.int .i64 r) ∧ (∃ k : Int, HdC hb g v st w' h k z ∧ (n < 4 → k = (n : Int) + 1)) ∧ Mods [hb] w w' := by
  obtain ⟨-, -, c2, -⟩ := c.facts
  have f2 := c.row.free 2
  have HS := Lib.hid (c.set 2 (.int .i64 ((n : Int) + 1)) (h' := h) (e' := (n : Int) + 1) (z' := z) rfl rfl rfl rfl)
  have HC := Lib.hid c
  clear c
  unfold ptr
  by_cases h4 : n = 4
  · subst h4
    obtain rfl : r = 400 := by rw [← hr]; rfl
    clear hr
    go_enter Tryz.func86, Tryz.ntmps86
    go_wp2
    go_ret
    exact ⟨rfl, ⟨_, HC.out, fun h => absurd h (by decide)⟩, Mods.refl _ _⟩
  · have e4 : ((n : Int) == 4) = false := by rw [beq_eq_false_iff_ne]; omega
    obtain rfl : r = 0 := by rw [← hr]; exact if_neg (by omega)
    clear hr
    go_enter Tryz.func86, Tryz.ntmps86
    go_wp2
    go_ret
    exact ⟨rfl, ⟨_, HS.out, fun _ => rfl⟩, (Mods.refl _ _).setCell (.inl (by simp)) _⟩
end Go.Proofs.YtgkhelbpccehcaaGreatDoor

/- The start line of the code's head. Conditions: lines of at most a thousand bytes. -/
namespace Go.Proofs.YtgkhelbpccehcaaGreatDoor
open Go.RowKit
set_option linter.unusedVariables false
set_option linter.unusedSimpArgs false

/-- What begin makes of a head. -/
def begP (h : HdP) (l : List UInt8) : HdP :=
  if startS l = 0 then { h with started := true, meth := ofL (wordN l 0), tgt := (parT (wordN l 0) (wordN l 1)).1, minor := verM (wordN l 2) } else h
theorem begP_no {h : HdP} {l : List UInt8} (e : startS l ≠ 0) : begP h l = h := by unfold begP; rw [if_neg e]
theorem start_tok {l a b v : List UInt8} (h : wordsL l = [a, b, v]) (ht : tokL a = false) : startS l = 400 := by rw [startS_three h, if_pos ht]
theorem start_ver {l a b v : List UInt8} (h : wordsL l = [a, b, v]) (ht : tokL a = true) (hv : verS v ≠ 0) : startS l = verS v := by rw [startS_three h, if_neg (by rw [ht]; simp), if_pos hv]
theorem start_par {l a b v : List UInt8} (h : wordsL l = [a, b, v]) (ht : tokL a = true) (hv : verS v = 0) : startS l = if (parT a b).2 = 9 then 414 else if (parT a b).2 ≠ 0 then 400 else 0 := by rw [startS_three h, if_neg (by rw [ht]; simp), if_neg (by rw [hv]; simp)]
/-- The words in memory. -/
theorem words_row {w W : World} {a b v : List UInt8} (hW : W = w.alloc (.cells ((([a, b, v] : List (List UInt8)).map ofL).map Value.string).toArray 9)) :
    W.cell? ⟨w.heap.size, 0, none⟩ = some (.string (ofL a)) ∧ W.cell? ⟨w.heap.size, 1, none⟩ = some (.string (ofL b)) ∧ W.cell? ⟨w.heap.size, 2, none⟩ = some (.string (ofL v)) ∧ Mods [] w W := by
  subst hW
  have h := Row.new w 9 ((([a, b, v] : List (List UInt8)).map ofL).map Value.string).toArray
  exact ⟨h.cell 0, h.cell 1, h.cell 2, (Mods.refl [] w).alloc _⟩

set_option maxRecDepth 10000 in
set_option maxHeartbeats 2000000 in
theorem begin_a {hb g : Nat} {v : Value} {w : World} {h : HdP} {e z : Int} (s : ByteArray) (hs : s.size ≤ 1000) (hst : h.started = false) (c : HdC hb g v (.pointer none) w h e z) :
    Calls Tryz.prog 87 #[ptr hb, .string s] w fun r w' => r = .returned (.int .i64 (startS s.data.toList)) ∧ Hid (∃ st, HdC hb g v st w' (begP h s.data.toList) e z ∧ ∀ k ∈ stB st, w.heap.size ≤ k) ∧ Mods [hb] w w' := by
  have HSP := Lib.hid (split_shelf s w (by omega))
  have hpl := fun p hp => words_parts (l := s.data.toList) (p := p) hp
  have hsl : s.data.toList.length = s.size := rfl
  have HC := Lib.hid (fun W (hm : Mods [] w W) => c.low hm)
  by_cases h3 : (wordsL s.data.toList).length = 3
  · obtain ⟨a, b, v0, hw⟩ := three_of h3
    rw [hw] at HSP hpl
    obtain ⟨W, hW⟩ : ∃ W, W = w.alloc (.cells ((([a, b, v0] : List (List UInt8)).map ofL).map Value.string).toArray 9) := ⟨_, rfl⟩
    obtain ⟨c0, c1, c2, mW⟩ := words_row hW
    rw [← hW] at HSP
    have ha := (hpl a (by simp)).2
    have hb1 := (hpl b (by simp)).2
    have hv1 := (hpl v0 (by simp)).2
    have za : (ofL a).size ≤ 1000 := by rw [ofL_size]; omega
    have zb : (ofL b).size ≤ 1000 := by rw [ofL_size]; omega
    have zv : (ofL v0).size ≤ 1000 := by rw [ofL_size]; omega
    have HI := Lib.hid (fun (t : Bool) (ht : tokL a = t) w => istokK (ofL a) (r := t) (by rw [ofL_list]; exact ht) (by omega) w)
    have HV := Lib.hid (fun w => minor_a (ofL v0) (by omega) w)
    have HT := Lib.hid (fun w => tparse_a (ofL a) (ofL b) w (by omega) (by omega))
    simp only [ofL_list] at HV HT
    have HCL := Lib.hid (fun w => cloneT (ofL a) (by omega) w)
    obtain ⟨xa, hxa⟩ : ∃ x, x = ofL a := ⟨_, rfl⟩
    obtain ⟨xb, hxb⟩ : ∃ x, x = ofL b := ⟨_, rfl⟩
    obtain ⟨xv, hxv⟩ : ∃ x, x = ofL v0 := ⟨_, rfl⟩
    rw [← hxa] at c0 HI HT HCL
    rw [← hxb] at c1 HT
    rw [← hxv] at c2 HV
    have HXA := Lib.hid hxa
    have C0 := Lib.hid (HC.out W mW)
    have MW := Lib.hid mW
    obtain ⟨pb, hpb⟩ : ∃ pb, pb = w.heap.size := ⟨_, rfl⟩
    rw [← hpb] at c0 c1 c2 HSP
    have HPB := Lib.hid hpb
    have HC0B := Lib.hid (show hb < pb by rw [hpb]; exact c.row.lt)
    have HWD := Lib.hid hw
    clear hW hpl ha hb1 hv1 za zb zv hxa hxb hxv hpb mW c hs hsl h3
    simp only [List.length_cons, List.length_nil] at HSP
    unfold ptr
    cases ht : tokL a with
    | false =>
      have HX := Lib.hid (start_tok hw ht)
      have HI := Lib.hid (HI.out false ht)
      clear ht hw
      go_enter Tryz.func87, Tryz.ntmps87
      go_wp2_with (first
        | (go_at_call 105; refine HSP.out.mono ?_; rintro e w1 ⟨rfl, hw1⟩; rw [hw1]; clear hw1)
        | (go_at_call 106; refine (HI.out _).mono ?_; rintro e w2 ⟨rfl, rfl⟩))
      go_ret
      exact ⟨by rw [HX.out]; rfl, Lib.hid ⟨_, by rw [begP_no (by rw [HX.out]; decide)]; exact C0.out, by intro k hk; cases hk⟩, MW.out.more (by simp)⟩
    | true =>
      have HI := Lib.hid (HI.out true ht)
      by_cases hv : verS v0 = 0
      · have hx := start_par hw ht hv
        have HMN := Lib.hid (show minS v0 = verM v0 by unfold minS; rw [if_pos hv])
        rw [hv] at HV
        have HWN := Lib.hid (show wordN s.data.toList 0 = a ∧ wordN s.data.toList 1 = b ∧ wordN s.data.toList 2 = v0 by unfold wordN; rw [hw]; exact ⟨rfl, rfl, rfl⟩)
        unfold TAns at HT
        obtain ⟨r, hr⟩ : ∃ r, r = parT a b := ⟨_, rfl⟩
        rw [← hr] at HT hx
        have HR := Lib.hid hr
        obtain ⟨⟨f, th, tp, tq⟩, n⟩ := r
        simp only [Tgt.cells] at HT hx
        have HX := Lib.hid hx
        clear hx hr hv ht hw
        generalize minS v0 = ms at *
        go_enter Tryz.func87, Tryz.ntmps87
        go_upto_region 7 with (first
          | (go_at_call 105; refine HSP.out.mono ?_; rintro e w1 ⟨rfl, hw1⟩; rw [hw1]; clear hw1)
          | (go_at_call 106; refine (HI.out _).mono ?_; rintro e w2 ⟨rfl, rfl⟩)
          | (go_at_call 107; refine (HV.out _).mono ?_; rintro e w3 ⟨rfl, rfl⟩))
        have hlt : pb < W.heap.size := World.block_lt_of_cell? _ _ c0
        have np1 : ¬ pb = W.heap.size := by omega
        have np2 : ¬ W.heap.size = pb := by omega
        clear hlt
        go_cut [8, 9] (fun t er wx => ∃ tb, t = .pointer (some ⟨tb, 0, none⟩) ∧ er = .int .i64 n ∧ Hid (Row wx tb 37 (⟨f, th, tp, tq⟩ : Tgt).cells ∧ Mods [] W wx))
        case first =>
          go_region_held3 (fun w' => w'.cell? ⟨pb, 0, none⟩ = some (.string xa) ∧ w'.cell? ⟨pb, 1, none⟩ = some (.string xb)) (go_keep) (first
            | (go_at_call 108; refine (HT.out _).mono ?_; rintro e w2 ⟨rfl, hm⟩; have hm2 := ((Mods.refl [] W).drew).trans hm (fun _ h => nomatch h); have M2 := Lib.hid hm2; have d0 := cell_mods c0 hm2 (by simp); have d1 := cell_mods c1 hm2 (by simp); clear hm hm2)
            | (go_at_call 108; refine (HT.out _).mono ?_; rintro e w2 ⟨rfl, hm⟩; have hm2 := (((Mods.refl [] W).alloc (.cells #[.int .i64 0, .string ⟨#[]⟩, .string ⟨#[]⟩, .string ⟨#[]⟩] 37)).drew).trans hm (fun _ h => nomatch h); have M2 := Lib.hid hm2; have R2 := Lib.hid (show Row w2 W.heap.size 37 noT.cells from (Row.new W _ _).mods (of_drewT hm) (by simp)); obtain ⟨k0, k1, k2, k3, f0, f1, f2, f3⟩ := R2.out.facts; simp only [noT, noB] at k0 k1 k2 k3; have d0 := cell_mods c0 hm2 (by simp); have d1 := cell_mods c1 hm2 (by simp); clear hm hm2))
          · go_wp2
            go_meet
            case rel => exact ⟨_, rfl, rfl, Lib.hid ⟨Row.new _ _ _, M2.out.alloc _⟩⟩
          · go_wp2
            go_meet
            case rel => exact ⟨_, rfl, rfl, Lib.hid ⟨R2.out.put ⟨f, th, tp, tq⟩, M2.out.put (.inr (Nat.le_refl _)) ⟨f, th, tp, tq⟩⟩⟩
        case rest =>
          obtain ⟨tb, rfl, rfl, hq⟩ := hcut
          have RT := Lib.hid hq.out.1
          have MT := Lib.hid hq.out.2
          clear hq
          obtain ⟨wx, rfl⟩ : ∃ wx : World, wx = wc := ⟨_, rfl⟩
          have CX := Lib.hid (C0.out.low MT.out)
          by_cases n0 : n = 0
          · subst n0
            have h0 : startS s.data.toList = 0 := HX.out
            have HB := Lib.hid (show begP h s.data.toList = { h with started := true, meth := xa, tgt := ⟨f, th, tp, tq⟩, minor := ms } by
              unfold begP
              rw [if_pos h0, HWN.out.1, HWN.out.2.1, HWN.out.2.2, ← HXA.out, ← HR.out, ← HMN.out])
            have H0 := Lib.hid h0
            have d0 := cell_mods c0 MT.out (by simp)
            obtain ⟨t0, t1, t2, t3, -⟩ := RT.out.facts
            simp only at t0 t1 t2 t3
            have hr := CX.out.row
            have p1 : wx.cell? ⟨hb, 1, none⟩ = some (.pointer none) := hr.cell 1
            have f1 := hr.free 1
            have n1 : ¬ hb = tb := Row.type_ne hr RT.out (by decide)
            have np3 : ¬ hb = pb := Nat.ne_of_lt HC0B.out
            have np4 : ¬ pb = hb := fun e => np3 e.symm
            have n2 : ¬ tb = hb := fun e => n1 e.symm
            clear hr h0 c0 c1 c2
            go_upto_region 10 with fail
            go_region_held3 (fun w' => w'.cell? ⟨pb, 0, none⟩ = some (.string xa) ∧ w'.cell? ⟨tb, 0, none⟩ = some (.int .i64 f) ∧ w'.cell? ⟨tb, 1, none⟩ = some (.string th) ∧ w'.cell? ⟨tb, 2, none⟩ = some (.string tp) ∧ w'.cell? ⟨tb, 3, none⟩ = some (.string tq)) (go_keep) ((go_at_call 40; refine (HCL.out _).mono ?_; rintro e w5 ⟨rfl, hm⟩; have hm2 := ((Mods.refl [] wx).drew).trans hm (fun _ h => nomatch h); have M5 := Lib.hid hm2; have g0 := cell_mods d0 hm2 (by simp); have s0 := cell_mods t0 hm2 (by simp); have s1 := cell_mods t1 hm2 (by simp); have s2 := cell_mods t2 hm2 (by simp); have s3 := cell_mods t3 hm2 (by simp); have q1 := cell_mods p1 hm2 (by simp); have r1 : w5.frozen? ⟨hb, 1, none⟩ = false := (CX.out.low hm2).row.free 1; have q1a := fun o => cell_alloc q1 o; have r1a := fun o => ((CX.out.low hm2).row.alloc o).free 1; have n6 : ¬ hb = w5.heap.size := Nat.ne_of_lt (CX.out.low hm2).row.lt; have n5 : ¬ w5.heap.size = hb := fun e => n6 e.symm; clear hm hm2))
            go_wp2
            go_ret
            refine ⟨by rw [H0.out]; rfl, Lib.hid ⟨ptr w5.heap.size, by rw [HB.out]; exact (CX.out.low M5.out).born (h' := { h with started := true, meth := xa, tgt := ⟨f, th, tp, tq⟩, minor := ms }) rfl rfl rfl rfl rfl, fun k hk => ?_⟩, ?_⟩
            · have hk2 : k = w5.heap.size := by simpa [stB, ptr] using hk
              have h1 := MW.out.size; have h2 := MT.out.size; have h3 := M5.out.size
              omega
            · exact (((((MW.out.trans MT.out (fun _ h => nomatch h)).trans M5.out (fun _ h => nomatch h)).alloc _).more (F2 := [hb]) (by simp)).setCell (.inl (by simp)) _)
          · have hb0 : (n == 0) = false := by simpa using n0
            have h0 : startS s.data.toList ≠ 0 := by
              rw [HX.out]
              by_cases h9 : n = 9
              · rw [if_pos h9]; decide
              · rw [if_neg h9, if_pos n0]; decide
            have HB := Lib.hid (begP_no (h := h) h0)
            clear h0 c0 c1 c2
            by_cases h9 : n = 9
            · subst h9
              have HX2 := Lib.hid (show startS s.data.toList = 414 from HX.out)
              clear n0 hb0
              go_wp2_with fail
              go_ret
              exact ⟨by rw [HX2.out]; rfl, Lib.hid ⟨_, by rw [HB.out]; exact CX.out, by intro k hk; cases hk⟩, (MW.out.trans MT.out (fun _ h => nomatch h)).more (by simp)⟩
            · have HX2 := Lib.hid (show startS s.data.toList = 400 by rw [HX.out, if_neg h9, if_pos n0])
              have hb9 : (n == 9) = false := by simpa using h9
              clear n0 h9
              go_wp2_with fail
              go_ret
              exact ⟨by rw [HX2.out]; rfl, Lib.hid ⟨_, by rw [HB.out]; exact CX.out, by intro k hk; cases hk⟩, (MW.out.trans MT.out (fun _ h => nomatch h)).more (by simp)⟩
      · have HX := Lib.hid (start_ver hw ht hv)
        have HN := Lib.hid hv
        have hne : (verS v0 != 0) = true := by simpa using hv
        generalize verS v0 = vs at *
        generalize minS v0 = ms at *
        clear ht hw hv
        go_enter Tryz.func87, Tryz.ntmps87
        go_wp2_with (first
          | (go_at_call 105; refine HSP.out.mono ?_; rintro e w1 ⟨rfl, hw1⟩; rw [hw1]; clear hw1)
          | (go_at_call 106; refine (HI.out _).mono ?_; rintro e w2 ⟨rfl, rfl⟩)
          | (go_at_call 107; refine (HV.out _).mono ?_; rintro e w3 ⟨rfl, rfl⟩))
        go_ret
        exact ⟨by rw [HX.out]; rfl, Lib.hid ⟨_, by rw [begP_no (by rw [HX.out]; exact HN.out)]; exact C0.out, by intro k hk; cases hk⟩, MW.out.more (by simp)⟩
  · have HX := Lib.hid (startS_parts h3)
    obtain ⟨n, hn⟩ : ∃ n, n = (wordsL s.data.toList).length := ⟨_, rfl⟩
    rw [← hn] at h3 HSP
    have n3 : ((n : Int) != 3) = true := by rw [bne_iff_ne]; omega
    obtain ⟨W, hW⟩ : ∃ W, W = w.alloc (.cells (((wordsL s.data.toList).map ofL).map Value.string).toArray 9) := ⟨_, rfl⟩
    have MW := Lib.hid (show Mods [] w W by rw [hW]; exact (Mods.refl [] w).alloc _)
    rw [← hW] at HSP
    clear hn h3 hW hpl c
    unfold ptr
    go_enter Tryz.func87, Tryz.ntmps87
    go_wp2_with (go_at_call 105; refine HSP.out.mono ?_; rintro e w1 ⟨rfl, hw1⟩; rw [hw1]; clear hw1)
    go_ret
    exact ⟨by rw [HX.out]; rfl, Lib.hid ⟨_, by rw [begP_no (by rw [HX.out]; decide)]; exact HC.out _ MW.out, by intro k hk; cases hk⟩, MW.out.more (by simp)⟩
end Go.Proofs.YtgkhelbpccehcaaGreatDoor

/- A field's line and the end of the code's head. Conditions: lines of at most 256 bytes. -/
namespace Go.Proofs.YtgkhelbpccehcaaGreatDoor
open Go.RowKit
set_option linter.unusedVariables false
set_option linter.unusedSimpArgs false

theorem beq_dec (n : Int) : (n == 0) = decide (n = 0) := by rw [Bool.eq_iff_iff]; simp
/-- A head that knows how it goes on. -/
def HdP.end (h : HdP) (r : HowP × Int) : HdP := { h with how := r.1, whole := decide (r.2 = 0) }
theorem HdC.ends {hb g : Nat} {v st : Value} {w : World} {h : HdP} {e z k l n : Int} {c x : Bool} (a : HdC hb g v st w h e z) :
    HdC hb g v st (((((w.setCell ⟨hb, 4, none⟩ (.int .i64 k)).setCell ⟨hb, 5, none⟩ (.int .i64 l)).setCell ⟨hb, 6, none⟩ (.bool c)).setCell ⟨hb, 7, none⟩ (.bool x)).setCell ⟨hb, 8, none⟩ (.bool (n == 0))) (h.end (⟨k, l, c, x⟩, n)) e z := by
  have h1 := a.set 4 (.int .i64 k) (h' := { h with how := ⟨k, h.how.length, h.how.close, h.how.expect⟩ }) (e' := e) (z' := z) rfl rfl rfl rfl
  have h2 := h1.set 5 (.int .i64 l) (h' := { h with how := ⟨k, l, h.how.close, h.how.expect⟩ }) (e' := e) (z' := z) rfl rfl rfl rfl
  have h3 := h2.set 6 (.bool c) (h' := { h with how := ⟨k, l, c, h.how.expect⟩ }) (e' := e) (z' := z) rfl rfl rfl rfl
  have h4 := h3.set 7 (.bool x) (h' := { h with how := ⟨k, l, c, x⟩ }) (e' := e) (z' := z) rfl rfl rfl rfl
  exact h4.set 8 (.bool (n == 0)) (h' := h.end (⟨k, l, c, x⟩, n)) (e' := e) (z' := z) (by rw [beq_dec]; rfl) rfl rfl rfl
theorem ends_mods {hb : Nat} {w : World} {k l n : Int} {c x : Bool} :
    Mods [hb] w (((((w.setCell ⟨hb, 4, none⟩ (.int .i64 k)).setCell ⟨hb, 5, none⟩ (.int .i64 l)).setCell ⟨hb, 6, none⟩ (.bool c)).setCell ⟨hb, 7, none⟩ (.bool x)).setCell ⟨hb, 8, none⟩ (.bool (n == 0))) :=
  (((((Mods.refl [hb] w).setCell (.inl (by simp)) _).setCell (.inl (by simp)) _).setCell (.inl (by simp)) _).setCell (.inl (by simp)) _).setCell (.inl (by simp)) _
theorem res_H {w w' : World} (h : Mods [] (w.alloc (.cells #[.int .i64 0, .int .i64 0, .bool false, .bool false] 65)) w') : Row w' w.heap.size 65 noH.cells ∧ Mods [] w w' :=
  ⟨(Row.new w _ _).mods h (by simp), ((Mods.refl [] w).alloc _).trans h (fun _ h => nomatch h)⟩
set_option maxRecDepth 10000 in
set_option maxHeartbeats 2000000 in
theorem end_a {hb g : Nat} {v st : Value} {w : World} {h : HdP} {e z : Int} (hst : h.started = true) (hl : Lite h.S) (c : HdC hb g v st w h e z) :
    Calls Tryz.prog 88 #[ptr hb] w fun r w' => r = .returned (.int .i64 (frm h.minor h.S).2) ∧ Hid (HdC hb g v st w' (h.end (frm h.minor h.S)) e z) ∧ Mods [hb] w w' := by
  rcases c.sta with ⟨h1, _⟩ | ⟨_, sb, rfl, hs⟩
  · rw [hst] at h1; cases h1
  have HO := Lib.hid (fun W (hm : Mods [] w W) => of_f (m := h.minor) (FP.of_fld (c.fld.low hm)) hl)
  unfold HAns at HO
  obtain ⟨r, hr⟩ : ∃ r, r = frm h.minor h.S := ⟨_, rfl⟩
  rw [← hr] at HO ⊢
  obtain ⟨⟨k, l, cl, x⟩, n⟩ := r
  simp only [howV] at HO
  have c0 : w.cell? ⟨hb, 0, none⟩ = some (ptr g) := c.row.cell 0
  have c1 : w.cell? ⟨hb, 1, none⟩ = some (ptr sb) := c.row.cell 1
  have s5 : w.cell? ⟨sb, 5, none⟩ = some (.int .i64 h.minor) := hs.cell 5
  have n1 : ¬ hb = w.heap.size := Nat.ne_of_lt c.row.lt
  have n2 : ¬ w.heap.size = hb := fun e => n1 e.symm
  have n3 : ¬ sb = w.heap.size := Nat.ne_of_lt hs.lt
  have n4 : ¬ w.heap.size = sb := fun e => n3 e.symm
  have HC := Lib.hid (fun W (hm : Mods [] w W) => c.low hm)
  clear hr hs c hl
  unfold ptr at *
  go_enter Tryz.func88, Tryz.ntmps88
  go_upto_region 1 with fail
  go_cut [3, 4] (fun t er wx => ∃ tb, t = .pointer (some ⟨tb, 0, none⟩) ∧ er = .int .i64 n ∧ Hid (Row wx tb 65 (⟨k, l, cl, x⟩ : HowP).cells ∧ Mods [] w wx))
  case first =>
    go_region_held3 (fun w' => w'.cell? ⟨hb, 0, none⟩ = some (.pointer (some ⟨g, 0, none⟩)) ∧ w'.cell? ⟨hb, 1, none⟩ = some (.pointer (some ⟨sb, 0, none⟩)) ∧ w'.cell? ⟨sb, 5, none⟩ = some (.int .i64 h.minor)) (go_keep) (first
      | (go_at_call 109; refine (HO.out _ ((Mods.refl [] w).drew)).mono ?_; rintro e w2 ⟨rfl, hm⟩; have hm2 := ((Mods.refl [] w).drew).trans hm (fun _ h => nomatch h); have M2 := Lib.hid hm2; have d0 := cell_mods c0 hm2 (by simp); have d1 := cell_mods c1 hm2 (by simp); have t5 := cell_mods s5 hm2 (by simp); clear hm hm2)
      | (go_at_call 109; refine (HO.out _ (((Mods.refl [] w).alloc (.cells #[.int .i64 0, .int .i64 0, .bool false, .bool false] 65)).drew)).mono ?_; rintro e w2 ⟨rfl, hm⟩; have hm2 := res_H (of_drewT hm); have M2 := Lib.hid hm2.2; have R2 := Lib.hid hm2.1; obtain ⟨k0, k1, k2, k3, f0, f1, f2, f3⟩ := R2.out.factsH; simp only [noH] at k0 k1 k2 k3; have d0 := cell_mods c0 hm2.2 (by simp); have d1 := cell_mods c1 hm2.2 (by simp); have t5 := cell_mods s5 hm2.2 (by simp); clear hm hm2))
    · go_wp2
      go_meet
      case rel => exact ⟨_, rfl, rfl, Lib.hid ⟨Row.new _ _ _, M2.out.alloc _⟩⟩
    · go_wp2
      go_meet
      case rel => exact ⟨_, rfl, rfl, Lib.hid ⟨R2.out.putH ⟨k, l, cl, x⟩, M2.out.putH (.inr (Nat.le_refl _)) ⟨k, l, cl, x⟩⟩⟩
  case rest =>
    obtain ⟨tb, rfl, rfl, hq⟩ := hcut
    have MT := Lib.hid hq.out.2
    have hc := HC.out _ hq.out.2
    obtain ⟨k0, k1, k2, k3, -⟩ := hq.out.1.factsH
    simp only at k0 k1 k2 k3
    obtain ⟨-, -, -, -, r4, r5, r6, r7, r8, -⟩ := hc.facts
    have f4 := hc.row.free 4
    have f5 := hc.row.free 5
    have f6 := hc.row.free 6
    have f7 := hc.row.free 7
    have f8 := hc.row.free 8
    have CX := Lib.hid hc
    clear hq hc c0 c1 s5
    obtain ⟨wx, rfl⟩ : ∃ wx : World, wx = wc := ⟨_, rfl⟩
    go_wp2_with fail
    go_ret
    exact ⟨rfl, Lib.hid CX.out.ends, MT.out.more (by simp) |>.trans ends_mods (fun k hk => .inl hk)⟩

/-- What a field's line does. -/
def layS (h : HdP) (s : ByteArray) : Int := if (parR s).2 ≠ 0 then 400 else if 24 ≤ h.S.length then 431 else 0
def layP (h : HdP) (s : ByteArray) : HdP := if layS h s = 0 then { h with S := h.S ++ [(parR s).1] } else h
theorem par_ok {s : ByteArray} (h : (parR s).2 = 0) : okF (parR s).1 = true ∧ (parR s).1.1.size ≤ s.size ∧ (parR s).1.2.size ≤ s.size := by
  unfold parR at h ⊢
  split
  · rename_i h1; rw [if_pos h1] at h; cases h
  · rename_i h1
    rw [if_neg h1] at h
    split
    · rename_i h2; rw [if_pos h2] at h; cases h
    · rename_i h2
      rw [if_neg h2] at h
      split
      · rename_i h3; exact ⟨h3, fldAt_size _ _⟩
      · rename_i h3; rw [if_neg h3] at h; cases h
theorem addR_one {n : Nat} {p : FV} (h : okF p = true) : addR n [p] = if n = 24 then (0, 3) else (1, 0) := by
  unfold addR
  rw [if_pos h]
  split
  · rfl
  · simp [addR]
theorem addF_one {S : List FV} {p : FV} (h : okF p = true) : addF S [p] = if S.length = 24 then S else S ++ [p] := by
  unfold addF
  rw [addR_one h]
  split <;> simp
/-- One field Added, from a row of one. -/
theorem add_one13 {g b : Nat} {v : Value} {S : List FV} (x y : ByteArray) {w W : World} (h : Fld 93 w g v S) (hm : Mods [] w W) (hr : Row W b 81 #[.string x, .string y]) (hb : w.heap.size ≤ b) (h1 : x.size ≤ 1000000) (h2 : y.size ≤ 1000000) :
    Calls Tryz.prog 83 #[ptr g, .slice (some ⟨b, 0, none⟩) 1 1] W fun e w' =>
      ∃ u, e = .returned (.tuple #[.int .i64 ((addR S.length [(x, y)]).1 : Nat), .int .i64 (addR S.length [(x, y)]).2]) ∧ Added 93 W g v (addF S [(x, y)]) u w' := by
  refine add_a (.slice (some ⟨b, 0, none⟩) 1 1) [(x, y)] _ (h.low hm) (.inr ⟨b, 0, 1, rfl, by simp, hr.lt, fun j hj => ?_⟩) (by simp) ?_ ?_
  · obtain rfl : j = 0 := by (have : j < 1 := hj); omega
    exact ⟨hr.cell 0, hr.cell 1⟩
  · intro p hp; rw [List.mem_singleton] at hp; subst hp; exact ⟨h1, h2⟩
  · intro _ k hk
    have hk2 : k = b := by simpa [Value.ownBlock, eq_comm] using hk
    subst hk2
    exact ⟨fun e => by have := h.row.lt; omega, fun hk3 => by have := h.lt _ hk3; omega⟩
theorem HdC.added {hb g : Nat} {v u st : Value} {W1 Wd w4 : World} {h h' : HdP} {e z : Int} {S' : List FV} (c : HdC hb g v st W1 h e z) (ha : Added 93 Wd g v S' u w4) (mm : Mods (g :: v.ownBlock.toList) W1 w4)
    (h1 : h'.S = S') (h2 : headCells g st e z h' = headCells g st e z h) (h3 : h'.started = h.started) (h4 : h'.startCells = h.startCells) : HdC hb g u st w4 h' e z := by
  refine ⟨?_, by rw [h1]; exact ha.fld, (c.sta.mods mm (fun k hk hk2 => ?_)).of_eq h3 h4⟩
  · rw [h2]
    refine c.row.mods mm (fun hk => ?_)
    rcases List.mem_cons.1 hk with e | e
    · exact c.ne_g e.symm
    · exact (c.ne_v hb e).1 rfl
  · obtain ⟨a1, a2, a3⟩ := c.ne_s k hk
    rcases List.mem_cons.1 hk2 with e | e
    · exact a2 e
    · exact a3 e
set_option maxRecDepth 10000 in
set_option maxHeartbeats 2000000 in
theorem lay_a {hb g : Nat} {v st : Value} {w : World} {h : HdP} {e z : Int} (s : ByteArray) (hs : s.size ≤ 1000) (c : HdC hb g v st w h e z) :
    Calls Tryz.prog 89 #[ptr hb, .string s] w fun r w' => r = .returned (.int .i64 (layS h s)) ∧
      Hid (∃ u, HdC hb g u st w' (layP h s) e z ∧ Mods (hbl hb g v st) w w' ∧ ∀ k ∈ u.ownBlock.toList, k ∈ v.ownBlock.toList ∨ w.heap.size ≤ k) := by
  have HP := Lib.hid (fparse_a s w (by omega))
  have HPO := Lib.hid (par_ok (s := s))
  have HLS := Lib.hid (show layS h s = if (parR s).2 ≠ 0 then 400 else if 24 ≤ h.S.length then 431 else 0 from rfl)
  have HLP := Lib.hid (show layP h s = if layS h s = 0 then { h with S := h.S ++ [(parR s).1] } else h from rfl)
  unfold FPAns at HP
  obtain ⟨r, hr⟩ : ∃ r, r = parR s := ⟨_, rfl⟩
  rw [← hr] at HP HPO HLS HLP
  clear hr
  obtain ⟨⟨x, y⟩, n⟩ := r
  simp only at HP HPO HLS HLP
  have HC := Lib.hid c
  have HCM := Lib.hid (fun W (hm : Mods [] w W) => c.low hm)
  by_cases n0 : n = 0
  · subst n0
    obtain ⟨hok, hx, hy⟩ := HPO.out rfl
    have ha := addR_one (n := h.S.length) hok
    have hf := addF_one (S := h.S) hok
    have HL := Lib.hid (show layS h s = if 24 ≤ h.S.length then 431 else 0 by rw [HLS.out]; exact if_neg (by decide))
    have h24 := c.fld.len
    obtain ⟨w1, hw1⟩ : ∃ w1 : World, True := ⟨w, trivial⟩
    have HAD := Lib.hid (fun W b (hm : Mods [] w W) (hr : Row W b 81 #[.string x, .string y]) (hb : w.heap.size ≤ b) => add_one13 x y c.fld hm hr hb (by omega) (by omega))
    rw [ha, hf] at HAD
    have HNV := Lib.hid c.ne_v
    have HNG := Lib.hid c.ne_g
    have HLT := Lib.hid c.lt
    have HNS := Lib.hid c.ne_s
    clear hw1 w1 HPO HLS hok ha hf c
    unfold ptr at *
    obtain ⟨m, hm⟩ : ∃ m, m = h.S.length := ⟨_, rfl⟩
    rw [← hm] at HAD HL h24
    obtain ⟨S', hS'⟩ : ∃ S', S' = (if m = 24 then h.S else h.S ++ [(x, y)]) := ⟨_, rfl⟩
    rw [← hS'] at HAD
    have HS' := Lib.hid hS'
    clear hS' hm
    have HHB := Lib.hid (show hb ∉ g :: v.ownBlock.toList from fun hk => by
      rcases List.mem_cons.1 hk with e | e
      · exact HNG.out e.symm
      · exact (HNV.out hb e).1 rfl)
    have HLT2 := Lib.hid (show ∀ k ∈ g :: v.ownBlock.toList, k < w.heap.size from fun k hk => by
      refine HLT.out k ?_
      rcases List.mem_cons.1 hk with e | e
      · rw [e]; simp
      · simp [e])
    by_cases hn : m = 24
    · subst hn
      have HX := Lib.hid (show layS h s = 431 from HL.out)
      have HY := Lib.hid (show layP h s = h by rw [HLP.out, HX.out]; exact if_neg (by decide))
      simp only [if_true] at HAD
      clear HL HLP h24
      go_enter Tryz.func89, Tryz.ntmps89
      go_upto_region 4 with (go_at_call 110; refine HP.out.mono ?_; rintro e w1 ⟨rfl, hm⟩; have M0 := Lib.hid hm; clear hm)
      obtain ⟨W1, hW1⟩ : ∃ W1, W1 = w1.alloc (.cells #[.string x, .string y] 81) := ⟨_, rfl⟩
      obtain ⟨tb, htb⟩ : ∃ tb, tb = w1.heap.size := ⟨_, rfl⟩
      have m1 : Mods [] w W1 := by rw [hW1]; exact M0.out.alloc _
      have r1 : Row W1 tb 81 #[.string x, .string y] := by rw [hW1, htb]; exact Row.new _ _ _
      have htw : w.heap.size ≤ tb := by rw [htb]; exact M0.out.size
      rw [← hW1, ← htb]
      have t0 : W1.cell? ⟨tb, 0, none⟩ = some (.string x) := r1.cell 0
      have t1 : W1.cell? ⟨tb, 1, none⟩ = some (.string y) := r1.cell 1
      have c1 := HCM.out _ m1
      have c0 : W1.cell? ⟨hb, 0, none⟩ = some (.pointer (some ⟨g, 0, none⟩)) := c1.row.cell 0
      have x1 : ¬ hb = W1.heap.size := Nat.ne_of_lt c1.row.lt
      have x2 : ¬ W1.heap.size = hb := fun e => x1 e.symm
      have x3 : ¬ tb = W1.heap.size := Nat.ne_of_lt r1.lt
      have x4 : ¬ W1.heap.size = tb := fun e => x3 e.symm
      have R1 := Lib.hid r1
      have M1 := Lib.hid m1
      have HTW := Lib.hid htw
      clear hW1 htb r1 m1 c1 htw
      go_region_held3 (fun w' => w'.cell? ⟨hb, 0, none⟩ = some (.pointer (some ⟨g, 0, none⟩)) ∧ w'.cell? ⟨tb, 0, none⟩ = some (.string x) ∧ w'.cell? ⟨tb, 1, none⟩ = some (.string y)) (go_keep) ((go_at_call 83; refine (HAD.out _ W1.heap.size ((M1.out.alloc (.cells #[.string x, .string y] 81)).drew) (Row.new W1 81 #[.string x, .string y]) M1.out.size).mono ?_; rintro e w4 ⟨u, rfl, ha⟩; have HA := Lib.hid ha; have mm := ((Mods.refl _ W1).alloc (.cells #[.string x, .string y] 81)).drew.trans ha.mods (fun k hk => .inl hk); have hbg : hb ∉ g :: v.ownBlock.toList := HHB.out; have htg : tb ∉ g :: v.ownBlock.toList := (fun hk => by (have h1 := HLT2.out tb hk; have h2 := HTW.out; omega)); have d0 := cell_mods c0 mm hbg; have d1 := cell_mods t0 mm htg; have d2 := cell_mods t1 mm htg; have MM := Lib.hid mm; clear ha mm hbg htg))
      go_wp2
      go_ret
      refine ⟨by rw [HX.out]; rfl, Lib.hid ⟨u, ?_, ?_, fun k hk => ?_⟩⟩
      · rw [HY.out]
        exact (HCM.out _ M1.out).added HA.out MM.out (by rw [HS'.out]; simp) rfl rfl rfl
      · exact (M1.out.more (F2 := hbl hb g v st) (by simp)).trans MM.out (fun k hk => .inl (by rcases List.mem_cons.1 hk with e | e <;> simp [e]))
      · rcases HA.out.news k hk with h1 | h1
        · exact .inl h1
        · exact .inr (by have h2 := M1.out.size; simp at h1; omega)
    · have HX := Lib.hid (show layS h s = 0 by rw [HL.out]; exact if_neg (by omega))
      have HY := Lib.hid (show layP h s = { h with S := h.S ++ [(x, y)] } by rw [HLP.out, HX.out]; exact if_pos rfl)
      have HNN := Lib.hid hn
      rw [if_neg hn] at HAD
      clear HL HLP h24 hn
      go_enter Tryz.func89, Tryz.ntmps89
      go_upto_region 4 with (go_at_call 110; refine HP.out.mono ?_; rintro e w1 ⟨rfl, hm⟩; have M0 := Lib.hid hm; clear hm)
      obtain ⟨W1, hW1⟩ : ∃ W1, W1 = w1.alloc (.cells #[.string x, .string y] 81) := ⟨_, rfl⟩
      obtain ⟨tb, htb⟩ : ∃ tb, tb = w1.heap.size := ⟨_, rfl⟩
      have m1 : Mods [] w W1 := by rw [hW1]; exact M0.out.alloc _
      have r1 : Row W1 tb 81 #[.string x, .string y] := by rw [hW1, htb]; exact Row.new _ _ _
      have htw : w.heap.size ≤ tb := by rw [htb]; exact M0.out.size
      rw [← hW1, ← htb]
      have t0 : W1.cell? ⟨tb, 0, none⟩ = some (.string x) := r1.cell 0
      have t1 : W1.cell? ⟨tb, 1, none⟩ = some (.string y) := r1.cell 1
      have c1 := HCM.out _ m1
      have c0 : W1.cell? ⟨hb, 0, none⟩ = some (.pointer (some ⟨g, 0, none⟩)) := c1.row.cell 0
      have x1 : ¬ hb = W1.heap.size := Nat.ne_of_lt c1.row.lt
      have x2 : ¬ W1.heap.size = hb := fun e => x1 e.symm
      have x3 : ¬ tb = W1.heap.size := Nat.ne_of_lt r1.lt
      have x4 : ¬ W1.heap.size = tb := fun e => x3 e.symm
      have R1 := Lib.hid r1
      have M1 := Lib.hid m1
      have HTW := Lib.hid htw
      clear hW1 htb r1 m1 c1 htw
      go_region_held3 (fun w' => w'.cell? ⟨hb, 0, none⟩ = some (.pointer (some ⟨g, 0, none⟩)) ∧ w'.cell? ⟨tb, 0, none⟩ = some (.string x) ∧ w'.cell? ⟨tb, 1, none⟩ = some (.string y)) (go_keep) ((go_at_call 83; refine (HAD.out _ W1.heap.size ((M1.out.alloc (.cells #[.string x, .string y] 81)).drew) (Row.new W1 81 #[.string x, .string y]) M1.out.size).mono ?_; rintro e w4 ⟨u, rfl, ha⟩; have HA := Lib.hid ha; have mm := ((Mods.refl _ W1).alloc (.cells #[.string x, .string y] 81)).drew.trans ha.mods (fun k hk => .inl hk); have hbg : hb ∉ g :: v.ownBlock.toList := HHB.out; have htg : tb ∉ g :: v.ownBlock.toList := (fun hk => by (have h1 := HLT2.out tb hk; have h2 := HTW.out; omega)); have d0 := cell_mods c0 mm hbg; have d1 := cell_mods t0 mm htg; have d2 := cell_mods t1 mm htg; have MM := Lib.hid mm; clear ha mm hbg htg))
      go_wp2
      go_ret
      refine ⟨by rw [HX.out]; rfl, Lib.hid ⟨u, ?_, ?_, fun k hk => ?_⟩⟩
      · rw [HY.out]
        exact (HCM.out _ M1.out).added HA.out MM.out (by rw [HS'.out, if_neg HNN.out]) rfl rfl rfl
      · exact (M1.out.more (F2 := hbl hb g v st) (by simp)).trans MM.out (fun k hk => .inl (by rcases List.mem_cons.1 hk with e | e <;> simp [e]))
      · rcases HA.out.news k hk with h1 | h1
        · exact .inl h1
        · exact .inr (by have h2 := M1.out.size; simp at h1; omega)
  · have hne : (n != 0) = true := by simpa using n0
    have HX := Lib.hid (show layS h s = 400 by rw [HLS.out, if_pos n0])
    have HY := Lib.hid (show layP h s = h by rw [HLP.out, HX.out]; exact if_neg (by decide))
    clear n0 HLS HLP HPO c
    unfold ptr
    go_enter Tryz.func89, Tryz.ntmps89
    go_wp2_with (go_at_call 110; refine HP.out.mono ?_; rintro e w1 ⟨rfl, hm⟩; have M1 := Lib.hid hm; clear hm)
    go_ret
    exact ⟨by rw [HX.out]; rfl, Lib.hid ⟨v, by rw [HY.out]; exact HCM.out _ (M1.out.alloc _), (M1.out.alloc _).more (by simp), fun k hk => .inl hk⟩⟩
end Go.Proofs.YtgkhelbpccehcaaGreatDoor

/- A line of the code's head. Conditions: lines of at most a million bytes. -/
namespace Go.Proofs.YtgkhelbpccehcaaGreatDoor
open Go.RowKit
set_option linter.unusedVariables false
set_option linter.unusedSimpArgs false

section
variable {hb g : Nat} {v u st : Value} {w w' : World} {h h' : HdP} {e z : Int}
theorem HdC.as (c : HdC hb g v st w h e z) (h1 : h'.S = h.S) (h2 : headCells g st e z h' = headCells g st e z h) (h3 : h'.started = h.started) (h4 : h'.startCells = h.startCells) : HdC hb g v st w h' e z :=
  ⟨by rw [h2]; exact c.row, by rw [h1]; exact c.fld, c.sta.of_eq h3 h4⟩
/-- Whether a head goes on. -/
def HdP.go (h : HdP) : Prop := h.whole = false ∧ h.status = 0
/-- What a line has made, ahead of the storing of its status. -/
def Took (hb g : Nat) (v st : Value) (w : World) (h' : HdP) (w' : World) : Prop :=
  ∃ (u st' : Value) (e' z' : Int), HdC hb g u st' w' { h' with status := 0 } e' z' ∧ (h'.whole = false → h'.status = 0 → e' = (h'.empty : Int) ∧ z' = (h'.bytes : Int)) ∧ Mods (hbl hb g v st) w w' ∧ ∀ k ∈ hbl hb g u st', k ∈ hbl hb g v st ∨ w.heap.size ≤ k
end
theorem longS_y {h : HdP} (a : h.started = true) : longS h = 431 := if_pos a
theorem longS_n {h : HdP} (a : h.started = false) : longS h = 414 := by unfold longS; rw [a]; rfl
/-- A head that is refused by its length. -/
theorem took_long {hb g : Nat} {v st : Value} {w W1 : World} {h : HdP} {e z n : Int} (c : HdC hb g v st W1 h e z) (hm : Mods [hb] w W1) (h0 : h.status = 0) (hn : n ≠ 0) : Took hb g v st w { h with status := n } W1 :=
  ⟨v, st, e, z, c.as rfl (by unfold headCells; rw [h0]) rfl rfl, fun _ h => absurd h hn, hm.more (by simp), fun k hk => .inl hk⟩
theorem took_pass {hb g : Nat} {v st : Value} {w w' : World} {h : HdP} {z k : Int} {n b : Nat} (c : HdC hb g v st w' h k z) (hm : Mods [hb] w w') (h0 : h.status = 0) (hn : h.empty = n) (hz : z = (b : Int)) (hk : n < 4 → k = (n : Int) + 1) :
    Took hb g v st w { h with bytes := b, empty := n + 1, status := if 4 < n + 1 then 400 else 0 } w' :=
  ⟨v, st, k, z, c.as rfl (by unfold headCells; rw [h0]) rfl rfl, fun _ h => by
    have hlt : n < 4 := by
      by_cases h4 : 4 < n + 1
      · simp only [h4, if_true] at h; cases h
      · omega
    exact ⟨by rw [hk hlt]; show (n : Int) + 1 = ((n + 1 : Nat) : Int); omega, hz⟩, hm.more (by simp), fun k hk => .inl hk⟩
theorem took_start {hb g : Nat} {v st st' : Value} {w w' : World} {h : HdP} {z : Int} {b : Nat} {l : List UInt8} (c : HdC hb g v st' w' (begP h l) h.empty z) (hm : Mods [hb] w w') (h0 : h.status = 0) (hz : z = (b : Int)) (hs : ∀ k ∈ stB st', w.heap.size ≤ k) :
    Took hb g v st w (startP { h with bytes := b } l) w' := by
  refine ⟨v, st', h.empty, z, ?_, ?_, hm.more (by simp), fun k hk => ?_⟩
  · by_cases e0 : startS l = 0
    · rw [startP_yes e0]
      unfold begP at c
      rw [if_pos e0] at c
      exact c.as rfl (by unfold headCells; simp only [h0]) rfl rfl
    · rw [startP_bad e0]
      rw [begP_no e0] at c
      exact c.as rfl (by unfold headCells; simp only [h0]) rfl rfl
  · intro _ hs
    by_cases e0 : startS l = 0
    · rw [startP_yes e0]; exact ⟨rfl, hz⟩
    · rw [startP_bad e0] at hs; exact absurd hs e0
  · simp only [List.mem_cons, List.mem_append] at hk ⊢
    rcases hk with e | e | e | e
    · exact .inl (.inl e)
    · exact .inl (.inr (.inl e))
    · exact .inr (hs k e)
    · exact .inl (.inr (.inr (.inr e)))
theorem took_end {hb g : Nat} {v st : Value} {w w' : World} {h : HdP} {z e : Int} {b : Nat} (c : HdC hb g v st w' (h.end (frm h.minor h.S)) e z) (hm : Mods [hb] w w') (h0 : h.status = 0) :
    Took hb g v st w { h with bytes := b, how := (frm h.minor h.S).1, whole := decide ((frm h.minor h.S).2 = 0), status := (frm h.minor h.S).2 } w' := by
  refine ⟨v, st, e, z, c.as rfl (by unfold headCells HdP.end; simp only [h0]) rfl rfl, fun h1 h2 => ?_, hm.more (by simp), fun k hk => .inl hk⟩
  simp only at h1 h2
  rw [h2] at h1; cases h1
theorem took_lay {hb g : Nat} {v u st : Value} {w W w' : World} {h : HdP} {z : Int} {b : Nat} {s : ByteArray} (h1 : h.started = true) (h2 : s.size ≠ 0) (hm0 : Mods [hb] w W) (c : HdC hb g u st w' (layP h s) h.empty z) (hm : Mods (hbl hb g v st) W w') (hu : ∀ k ∈ u.ownBlock.toList, k ∈ v.ownBlock.toList ∨ W.heap.size ≤ k) (h0 : h.status = 0) (hz : z = (b : Int)) :
    Took hb g v st w (bodyP { h with bytes := b } s) w' := by
  refine ⟨u, st, h.empty, z, ?_, ?_, (hm0.more (F2 := hbl hb g v st) (by simp)).trans hm (fun k hk => .inl hk), fun k hk => ?_⟩
  · by_cases e1 : (parR s).2 = 0
    · by_cases e2 : 24 ≤ h.S.length
      · rw [bodyP_full (h := { h with bytes := b }) h1 h2 e1 e2]
        have hl : layS h s = 431 := by unfold layS; rw [if_neg (by simp [e1]), if_pos e2]
        unfold layP at c
        rw [hl, if_neg (by decide)] at c
        exact c.as rfl (by unfold headCells; simp only [h0]) rfl rfl
      · rw [bodyP_add (h := { h with bytes := b }) h1 h2 e1 e2]
        have hl : layS h s = 0 := by unfold layS; rw [if_neg (by simp [e1]), if_neg e2]
        unfold layP at c
        rw [hl, if_pos rfl] at c
        exact c.as rfl (by unfold headCells; simp only [h0]) rfl rfl
    · rw [bodyP_bad (h := { h with bytes := b }) h1 h2 e1]
      have hl : layS h s = 400 := by unfold layS; rw [if_pos e1]
      unfold layP at c
      rw [hl, if_neg (by decide)] at c
      exact c.as rfl (by unfold headCells; simp only [h0]) rfl rfl
  · intro _ hs
    by_cases e1 : (parR s).2 = 0
    · by_cases e2 : 24 ≤ h.S.length
      · rw [bodyP_full (h := { h with bytes := b }) h1 h2 e1 e2] at hs; cases hs
      · rw [bodyP_add (h := { h with bytes := b }) h1 h2 e1 e2]; exact ⟨rfl, hz⟩
    · rw [bodyP_bad (h := { h with bytes := b }) h1 h2 e1] at hs; cases hs
  · simp only [List.mem_cons, List.mem_append] at hk ⊢
    rcases hk with e | e | e | e
    · exact .inl (.inl e)
    · exact .inl (.inr (.inl e))
    · exact .inl (.inr (.inr (.inl e)))
    · rcases hu k e with e2 | e2
      · exact .inl (.inr (.inr (.inr e2)))
      · exact .inr (Nat.le_trans hm0.size e2)
/-- The status of a line that is no start. -/
theorem lay_status {h : HdP} {s : ByteArray} {b : Nat} (h1 : h.started = true) (h2 : s.size ≠ 0) (h0 : h.status = 0) : (bodyP { h with bytes := b } s).status = layS h s := by
  unfold layS
  by_cases e1 : (parR s).2 = 0
  · by_cases e2 : 24 ≤ h.S.length
    · rw [bodyP_full (h := { h with bytes := b }) h1 h2 e1 e2, if_neg (by simp [e1]), if_pos e2]
    · rw [bodyP_add (h := { h with bytes := b }) h1 h2 e1 e2, if_neg (by simp [e1]), if_neg e2]; exact h0
  · rw [bodyP_bad (h := { h with bytes := b }) h1 h2 e1, if_pos e1]
theorem start_status {h : HdP} {l : List UInt8} (h0 : h.status = 0) : (startP h l).status = startS l := by
  by_cases e0 : startS l = 0
  · rw [startP_yes e0, e0]; exact h0
  · rw [startP_bad e0]
set_option maxRecDepth 10000 in
set_option maxHeartbeats 2000000 in
theorem take_a {hb g : Nat} {v st : Value} {w : World} {h : HdP} (s : ByteArray) (hs : s.size ≤ 1000000) (ok : HdOk h) (h1 : h.whole = false) (h2 : h.status = 0) (c : HdC hb g v st w h h.empty h.bytes) :
    Calls Tryz.prog 64 #[ptr hb, .string s] w fun r w' => r = .returned (.int .i64 (lineP h s).status) ∧ Hid (Took hb g v st w (lineP h s) w') := by
  have hby := ok.bytes
  have hem := ok.low h1 h2
  obtain ⟨b, hb0⟩ : ∃ b, b = h.bytes + (s.size + 2) := ⟨_, rfl⟩
  have hz : (h.bytes : Int) + ((s.size : Int) + 2) = (b : Int) := by omega
  have d3 : w.cell? ⟨hb, 3, none⟩ = some (.int .i64 (h.bytes : Int)) := c.row.cell 3
  have f3 := c.row.free 3
  have hwr1 : IntKind.i64.wrap ((s.size : Int) + 2) = (s.size : Int) + 2 := by rw [IntKind.wrap_i64]; omega
  have hwr2 : IntKind.i64.wrap ((h.bytes : Int) + ((s.size : Int) + 2)) = (b : Int) := by rw [IntKind.wrap_i64]; omega
  obtain ⟨W1, hW1⟩ : ∃ W1, W1 = w.setCell ⟨hb, 3, none⟩ (.int .i64 (b : Int)) := ⟨_, rfl⟩
  have c1 : HdC hb g v st W1 h h.empty b := by rw [hW1]; exact c.set 3 _ rfl rfl rfl rfl
  have m1 : Mods [hb] w W1 := by rw [hW1]; exact (Mods.refl _ _).setCell (.inl (by simp)) _
  have e3 : W1.cell? ⟨hb, 3, none⟩ = some (.int .i64 (b : Int)) := c1.row.cell 3
  have e1 : W1.cell? ⟨hb, 1, none⟩ = some st := c1.row.cell 1
  have HLG := Lib.hid (fun (x : 256 < s.size) => lineP_long (s := s) h1 h2 x)
  have HMU := Lib.hid (fun (x : ¬ 256 < s.size) (y : 1024 < b) => lineP_much (s := s) h1 h2 x (by rw [← hb0]; exact y))
  have HGO := Lib.hid (fun (x : ¬ 256 < s.size) (y : ¬ 1024 < b) => (show lineP h s = bodyP { h with bytes := b } s by rw [hb0]; exact lineP_go (s := s) h1 h2 x (by rw [← hb0]; exact y)))
  have H0 := Lib.hid h2
  have C1 := Lib.hid c1
  have M1 := Lib.hid m1
  unfold ptr at *
  have hbz : ((s.size : Int) == 0) = false ∨ s.size = 0 := by
    by_cases x : s.size = 0
    · exact .inr x
    · exact .inl (by rw [beq_eq_false_iff_ne]; omega)
  by_cases hl : 256 < s.size ∨ 1024 < b
  · have HX := Lib.hid (show lineP h s = { h with status := longS h } by
      by_cases x : 256 < s.size
      · exact HLG.out x
      · exact HMU.out x (hl.resolve_left x))
    have hcase : (256 < s.size) ∨ (¬ 256 < s.size ∧ 1024 < b) := by omega
    clear HLG HMU HGO hl hbz h1 h2 c m1 hem hby hb0 hz
    rcases c1.sta with ⟨a0, rfl⟩ | ⟨a0, sb, rfl, hr⟩
    · have HL := Lib.hid (longS_n a0)
      clear c1 a0
      rcases hcase with x | ⟨x, y⟩
      · have x2 : (256 : Int) < (s.size : Int) := by omega
        clear x
        go_enter Tryz.func64, Tryz.ntmps64
        go_upto_region 2 with fail
        rw [← hW1]
        clear hW1 d3 f3
        go_wp2_with fail
        go_ret
        exact ⟨by rw [HX.out, HL.out]; rfl, Lib.hid (by rw [HX.out, HL.out]; exact took_long C1.out M1.out H0.out (by decide))⟩
      · have x2 : decide ((256 : Int) < (s.size : Int)) = false := by simp; omega
        have y2 : (1024 : Int) < (b : Int) := by omega
        clear x y
        go_enter Tryz.func64, Tryz.ntmps64
        go_upto_region 2 with fail
        rw [← hW1]
        clear hW1 d3 f3
        go_wp2_with fail
        go_ret
        exact ⟨by rw [HX.out, HL.out]; rfl, Lib.hid (by rw [HX.out, HL.out]; exact took_long C1.out M1.out H0.out (by decide))⟩
    · have HL := Lib.hid (longS_y a0)
      clear c1 a0 hr
      rcases hcase with x | ⟨x, y⟩
      · have x2 : (256 : Int) < (s.size : Int) := by omega
        clear x
        go_enter Tryz.func64, Tryz.ntmps64
        go_upto_region 2 with fail
        rw [← hW1]
        clear hW1 d3 f3
        go_wp2_with fail
        go_ret
        exact ⟨by rw [HX.out, HL.out]; rfl, Lib.hid (by rw [HX.out, HL.out]; exact took_long C1.out M1.out H0.out (by decide))⟩
      · have x2 : decide ((256 : Int) < (s.size : Int)) = false := by simp; omega
        have y2 : (1024 : Int) < (b : Int) := by omega
        clear x y
        go_enter Tryz.func64, Tryz.ntmps64
        go_upto_region 2 with fail
        rw [← hW1]
        clear hW1 d3 f3
        go_wp2_with fail
        go_ret
        exact ⟨by rw [HX.out, HL.out]; rfl, Lib.hid (by rw [HX.out, HL.out]; exact took_long C1.out M1.out H0.out (by decide))⟩
  · have x1 : ¬ 256 < s.size := by omega
    have y1 : ¬ 1024 < b := by omega
    have hx := HGO.out x1 y1
    have x2 : decide ((256 : Int) < (s.size : Int)) = false := by simp; omega
    have y2 : decide ((1024 : Int) < (b : Int)) = false := by simp; omega
    clear HLG HMU HGO hl y1 hb0 hz hby
    rcases c1.sta with ⟨a0, rfl⟩ | ⟨a0, sb, rfl, hr⟩
    · by_cases z0 : s.size = 0
      · have hem2 := emp_yes z0
        have hx := hx.trans (bodyP_skip (h := { h with bytes := b }) a0 z0)
        simp only at hx
        have HP := Lib.hid (fun r hr => pass_a h.empty hem c1 r hr)
        obtain ⟨r0, hr0⟩ : ∃ r0 : Int, (if 4 < h.empty + 1 then (400 : Int) else 0) = r0 := ⟨_, rfl⟩
        have HX := Lib.hid (show (lineP h s).status = r0 by rw [hx]; exact hr0)
        have HXX := Lib.hid hx
        have HP := Lib.hid (HP.out r0 hr0)
        clear hr0 hx hbz h1 h2 c m1 c1 a0 z0 hem x1
        unfold ptr at HP
        go_enter Tryz.func64, Tryz.ntmps64
        go_upto_region 2 with fail
        rw [← hW1]
        clear hW1 d3 f3
        go_wp2_with (go_at_call 86; refine HP.out.mono ?_; rintro e w2 ⟨rfl, ⟨k, hk, hk2⟩, hm⟩; have CK := Lib.hid hk; have HK := Lib.hid hk2; have M2 := Lib.hid hm; clear hk hk2 hm)
        go_ret
        exact ⟨by rw [HX.out]; rfl, Lib.hid (by rw [HXX.out]; exact took_pass CK.out (M1.out.trans M2.out (fun k hk => .inl hk)) H0.out rfl rfl HK.out)⟩
      · have hem2 := emp_no (s := s) (by omega)
        have HX := Lib.hid (hx.trans (bodyP_start (h := { h with bytes := b }) a0 z0))
        have HB := Lib.hid (begin_a s (by omega) a0 c1)
        have HS := Lib.hid (start_status (h := { h with bytes := b }) (l := s.data.toList) h2)
        clear hx hbz h1 h2 c m1 c1 a0 z0 hem x1
        unfold ptr at HB
        go_enter Tryz.func64, Tryz.ntmps64
        go_upto_region 2 with fail
        rw [← hW1]
        clear hW1 d3 f3
        go_wp2_with (go_at_call 87; refine HB.out.mono ?_; rintro e w2 ⟨rfl, hk, hm⟩; have HK := Lib.hid hk.out; have M2 := Lib.hid hm; clear hk hm)
        go_ret
        obtain ⟨st', ck, hk⟩ := HK.out
        exact ⟨by rw [HX.out, HS.out]; rfl, Lib.hid (by rw [HX.out]; exact took_start ck (M1.out.trans M2.out (fun k hk => .inl hk)) H0.out rfl (fun k h => Nat.le_trans M1.out.size (hk k h)))⟩
    · by_cases z0 : s.size = 0
      · have hem2 := emp_yes z0
        have HX := Lib.hid (hx.trans (bodyP_end (h := { h with bytes := b }) a0 z0))
        have HE := Lib.hid (end_a a0 ok.lite c1)
        clear hx hbz h1 h2 c m1 c1 a0 z0 hem x1 hr
        unfold ptr at HE
        go_enter Tryz.func64, Tryz.ntmps64
        go_upto_region 2 with fail
        rw [← hW1]
        clear hW1 d3 f3
        go_wp2_with (go_at_call 88; refine HE.out.mono ?_; rintro e w2 ⟨rfl, hk, hm⟩; have HK := Lib.hid hk.out; have M2 := Lib.hid hm; clear hk hm)
        go_ret
        exact ⟨by rw [HX.out]; rfl, Lib.hid (by rw [HX.out]; exact took_end HK.out (M1.out.trans M2.out (fun k hk => .inl hk)) H0.out)⟩
      · have hem2 := emp_no (s := s) (by omega)
        have HX := Lib.hid hx
        have HA0 := Lib.hid a0
        have HZ0 := Lib.hid z0
        have HB := Lib.hid (lay_a s (by omega) c1)
        have HS := Lib.hid (lay_status (b := b) a0 z0 h2)
        clear hx hbz h1 h2 c m1 c1 a0 z0 hem x1 hr
        unfold ptr at HB
        go_enter Tryz.func64, Tryz.ntmps64
        go_upto_region 2 with fail
        rw [← hW1]
        clear hW1 d3 f3
        go_wp2_with (go_at_call 89; refine HB.out.mono ?_; rintro e w2 ⟨rfl, hk⟩; have HK := Lib.hid hk.out; clear hk)
        go_ret
        obtain ⟨u, ck, hm, hk⟩ := HK.out
        exact ⟨by rw [HX.out, HS.out]; rfl, Lib.hid (by rw [HX.out]; exact took_lay HA0.out HZ0.out M1.out ck hm hk H0.out rfl)⟩
end Go.Proofs.YtgkhelbpccehcaaGreatDoor

/- What holds of every head that lines have made. No program but for what Parse answers. -/
namespace Go.Proofs.YtgkhelbpccehcaaGreatDoor
open Go.RowKit
set_option linter.unusedVariables false
set_option linter.unusedSimpArgs false

def TgtLe (t : Tgt) (n : Nat) : Prop := t.host.size ≤ n ∧ t.path.size ≤ n ∧ t.query.size ≤ n
theorem noT_le (n : Nat) : TgtLe noT n := ⟨Nat.zero_le _, Nat.zero_le _, Nat.zero_le _⟩
theorem TgtLe.more {t : Tgt} {n m : Nat} (h : TgtLe t n) (hm : n ≤ m) : TgtLe t m := ⟨Nat.le_trans h.1 hm, Nat.le_trans h.2.1 hm, Nat.le_trans h.2.2 hm⟩
theorem lowL_len13 (l : List UInt8) : (lowL l).length = l.length := by simp [lowL]
theorem orgL_le {l p q : List UInt8} (h : orgL l = some (p, q)) : p.length ≤ l.length + 1 ∧ q.length ≤ l.length := by
  unfold orgL at h
  split at h
  · cases hd : decL (upL (isC 63) l) with
    | none => rw [hd] at h; cases h
    | some d =>
      rw [hd] at h
      simp only [Option.bind_some] at h
      cases hc : clnL d with
      | none => rw [hc] at h; cases h
      | some p' =>
        rw [hc] at h
        simp only [Option.map_some, Option.some.injEq, Prod.mk.injEq] at h
        obtain ⟨rfl, rfl⟩ := h
        have h1 := clnL_len hc
        have h2 := decL_len _ _ hd
        have h3 := upL_len (isC 63) l
        exact ⟨by omega, by rw [List.length_drop]; omega⟩
  · cases h
theorem orgF_le {f : Int} {x : ByteArray} {l : List UInt8} {n : Nat} (hx : x.size ≤ n) (hl : l.length + 1 ≤ n) : TgtLe (orgF f x l).1 n := by
  cases h : orgL l with
  | none => rw [orgF_no h]; exact noT_le n
  | some r =>
    obtain ⟨p, q⟩ := r
    have := orgL_le h
    rw [orgF_yes h]
    refine ⟨hx, ?_, ?_⟩
    · show (ofL p).size ≤ n; rw [ofL_size]; omega
    · show (ofL q).size ≤ n; rw [ofL_size]; omega
theorem parT_le (m l : List UInt8) (n : Nat) (hl : l.length + 2 ≤ n) : TgtLe (parT m l).1 n := by
  unfold parT
  split
  · exact noT_le n
  split
  · unfold authL
    split
    · exact ⟨by show (ofL (lowL l)).size ≤ n; rw [ofL_size, lowL_len13]; omega, Nat.zero_le _, Nat.zero_le _⟩
    · exact noT_le n
  split
  · exact noT_le n
  split
  · exact orgF_le (Nat.zero_le _) (by omega)
  split
  · unfold absL
    split
    · have h1 : (hostOf (l.drop 7)).length ≤ l.length := by
        have := upL_len endB (l.drop 7)
        rw [List.length_drop] at this
        unfold hostOf; omega
      refine orgF_le (by rw [ofL_size, lowL_len13]; omega) ?_
      unfold restOf
      split
      · rw [List.length_drop, List.length_drop]; omega
      · rw [List.length_cons, List.length_drop, List.length_drop]; omega
    · exact noT_le n
  · exact noT_le n
theorem wordN_le (l : List UInt8) (k : Nat) : (wordN l k).length ≤ l.length := by
  unfold wordN
  rw [List.getD_eq_getElem?_getD]
  cases h : (wordsL l)[k]? with
  | none => exact Nat.zero_le _
  | some p => exact (words_parts (List.mem_of_getElem? h)).2
theorem verM_or (v : List UInt8) : verM v = 0 ∨ verM v = 1 := by unfold verM; split <;> simp

theorem HdOk.long {h : HdP} (o : HdOk h) (n : Int) (hn : n ≠ 0) : HdOk { h with status := n } :=
  ⟨o.bytes, o.empty, fun _ e => absurd e hn, o.none, o.len, o.small, o.minor, o.meth, o.host, o.path, o.query⟩
theorem HdOk.body {h : HdP} (o : HdOk h) (s : ByteArray) (hs : s.size ≤ 256) (h1 : h.whole = false) (h2 : h.status = 0) : HdOk (bodyP h s) := by
  have he := o.low h1 h2
  have hsl : s.data.toList.length = s.size := rfl
  cases hst : h.started with
  | false =>
    by_cases z0 : s.size = 0
    · rw [bodyP_skip hst z0]
      refine ⟨o.bytes, by show h.empty + 1 ≤ 5; omega, fun _ e => ?_, o.none, o.len, o.small, o.minor, o.meth, o.host, o.path, o.query⟩
      by_cases h4 : 4 < h.empty + 1
      · simp only [h4, if_true] at e; cases e
      · show h.empty + 1 ≤ 4; omega
    · rw [bodyP_start hst z0]
      by_cases e0 : startS s.data.toList = 0
      · rw [startP_yes e0]
        have ht := parT_le (wordN s.data.toList 0) (wordN s.data.toList 1) 1000 (by have := wordN_le s.data.toList 1; omega)
        refine ⟨o.bytes, o.empty, fun _ _ => he, fun e => by simp at e, o.len, o.small, verM_or _, ?_, ht.1, ht.2.1, ht.2.2⟩
        show (ofL (wordN s.data.toList 0)).size ≤ 1000
        rw [ofL_size]
        have := wordN_le s.data.toList 0
        omega
      · rw [startP_bad e0]; exact o.long _ e0
  | true =>
    by_cases z0 : s.size = 0
    · rw [bodyP_end hst z0]
      exact ⟨o.bytes, o.empty, fun _ _ => he, o.none, o.len, o.small, o.minor, o.meth, o.host, o.path, o.query⟩
    · by_cases e1 : (parR s).2 = 0
      · by_cases e2 : 24 ≤ h.S.length
        · rw [bodyP_full hst z0 e1 e2]; exact o.long _ (by decide)
        · rw [bodyP_add hst z0 e1 e2]
          have hp := par_ok e1
          refine ⟨o.bytes, o.empty, fun _ _ => he, (fun e => by simp only at e; rw [hst] at e; cases e), by show (h.S ++ [(parR s).1]).length ≤ 24; rw [List.length_append]; simp; omega, fun p hp2 => ?_, o.minor, o.meth, o.host, o.path, o.query⟩
          rcases List.mem_append.1 hp2 with hp2 | hp2
          · exact o.small p hp2
          · rw [List.mem_singleton] at hp2
            subst hp2
            exact ⟨by omega, by omega⟩
      · rw [bodyP_bad hst z0 e1]; exact o.long _ (by decide)
theorem HdOk.line {h : HdP} (o : HdOk h) (s : ByteArray) : HdOk (lineP h s) := by
  by_cases he : h.whole = true ∨ h.status ≠ 0
  · rw [lineP_end s he]; exact o
  · have h1 : h.whole = false := by cases hw : h.whole with | false => rfl | true => exact absurd (.inl hw) he
    have h2 : h.status = 0 := by
      by_cases e : h.status = 0
      · exact e
      · exact absurd (.inr e) he
    have hl : longS h ≠ 0 := by unfold longS; split <;> decide
    by_cases h3 : 256 < s.size
    · rw [lineP_long h1 h2 h3]; exact o.long _ hl
    by_cases h4 : 1024 < h.bytes + (s.size + 2)
    · rw [lineP_much h1 h2 h3 h4]; exact o.long _ hl
    rw [lineP_go h1 h2 h3 h4]
    exact HdOk.body (h := { h with bytes := h.bytes + (s.size + 2) }) ⟨by show h.bytes + (s.size + 2) ≤ 1024; omega, o.empty, o.low, o.none, o.len, o.small, o.minor, o.meth, o.host, o.path, o.query⟩ s (by omega) h1 h2
end Go.Proofs.YtgkhelbpccehcaaGreatDoor

/- Line, Start, How and New of the code's head. Conditions: lines of at most a million bytes. -/
namespace Go.Proofs.YtgkhelbpccehcaaGreatDoor
open Go.RowKit
set_option linter.unusedVariables false
set_option linter.unusedSimpArgs false

/-- The end of a function that answers a target alone. -/
theorem end_T1 {fn : Func} {a : Act} {w W : World} {r : Nat} {t0 : Tgt} {f : Int} {h p k : ByteArray} {q : Tmp} (hres : fn.results = #[.cell q 37])
    (hrow : Row W r 37 t0.cells) (h2 : a.tmps.getD q undef = .pointer (some ⟨r, 0, none⟩)) (hd : a.defers = []) (hn : w.heap.size ≤ r) (hM : Mods [] w W) :
    bodyPost Tryz.prog fn (fun e w' => e = .returned (.agg #[.int .i64 f, .string h, .string p, .string k]) ∧ Mods [] w w') .ret a ((((W.setCell ⟨r, 0, none⟩ (.int .i64 f)).setCell ⟨r, 1, none⟩ (.string h)).setCell ⟨r, 2, none⟩ (.string p)).setCell ⟨r, 3, none⟩ (.string k)) := by
  have hR := hrow.put ⟨f, h, p, k⟩
  have hM2 := hM.put (.inr hn) ⟨f, h, p, k⟩
  change bodyPost Tryz.prog fn _ .ret a (setT W r ⟨f, h, p, k⟩)
  generalize setT W r ⟨f, h, p, k⟩ = w6 at hR hM2 ⊢
  refine bodyPost_ret (v := .agg #[.int .i64 f, .string h, .string p, .string k]) ?_ hd ⟨rfl, hM2⟩
  have g2 : a.tmps[q]?.getD undef = .pointer (some ⟨r, 0, none⟩) := by simpa using h2
  have c0 := hR.cell 0
  have c1 := hR.cell 1
  have c2 := hR.cell 2
  have c3 := hR.cell 3
  simp only [Tgt.cells, List.getElem?_toArray, List.getElem?_cons_zero, List.getElem?_cons_succ] at c0 c1 c2 c3
  have ha := Tryz.isAgg37 w6
  have hs := Tryz.sizeOf37 w6
  simp [results, hres, go_sem, g2, c0, c1, c2, c3, ha, hs]
/-- What a call leaves: the head, what has turned. -/
def Lined (F : List Nat) (w : World) (hb : Nat) (h' : HdP) (w' : World) : Prop := ∃ F', HdA F' w' hb h' ∧ Mods F w w' ∧ ∀ k ∈ F', k ∈ F ∨ w.heap.size ≤ k
theorem Lined.of_took {hb g : Nat} {v st : Value} {w w' : World} {h' : HdP} (t : Took hb g v st w h' w') (o : HdOk h') : Lined (hbl hb g v st) w hb h' (w'.setCell ⟨hb, 9, none⟩ (.int .i64 h'.status)) := by
  obtain ⟨u, st', e', z', c, hz, hm, hn⟩ := t
  refine ⟨hbl hb g u st', ⟨⟨g, u, st', e', z', c.set 9 _ (h' := h') rfl rfl rfl rfl, rfl, hz⟩, o⟩, hm.setCell (.inl (by simp)) _, hn⟩
theorem Lined.low {F : List Nat} {w w' w2 : World} {hb : Nat} {h' : HdP} (l : Lined F w hb h' w') (hm : Mods [] w' w2) : Lined F w hb h' w2 := by
  obtain ⟨F', a, hm0, hn⟩ := l
  exact ⟨F', a.low hm, hm0.trans hm (fun _ h => nomatch h), hn⟩
set_option maxRecDepth 10000 in
set_option maxHeartbeats 2000000 in
theorem line_a {F : List Nat} {w : World} {hb : Nat} {h : HdP} (s : ByteArray) (hs : s.size ≤ 1000000) (a : HdA F w hb h) :
    Calls Tryz.prog 51 #[ptr hb, .string s] w fun r w' => r = .returned (.tuple #[.bool (lineP h s).whole, .int .i64 (lineP h s).status]) ∧ Hid (Lined F w hb (lineP h s) w') := by
  obtain ⟨g, v, st, e, z, c, rfl, hz⟩ := a.ex
  have ok := a.ok
  have HO := Lib.hid (ok.line s)
  have HA := Lib.hid a
  have c8 : w.cell? ⟨hb, 8, none⟩ = some (.bool h.whole) := c.row.cell 8
  have c9 : w.cell? ⟨hb, 9, none⟩ = some (.int .i64 h.status) := c.row.cell 9
  unfold ptr
  by_cases he : h.whole = true ∨ h.status ≠ 0
  · have HX := Lib.hid (lineP_end s he)
    have HL := Lib.hid (show Lined (hbl hb g v st) w hb h w from ⟨_, a, Mods.refl _ _, fun k hk => .inl hk⟩)
    have hcase : h.whole = true ∨ (h.whole = false ∧ (h.status == 0) = false) := by
      cases hw : h.whole with
      | true => exact .inl rfl
      | false => exact .inr ⟨rfl, by rw [beq_eq_false_iff_ne]; exact he.resolve_left (by rw [hw]; simp)⟩
    clear a c he hz ok
    obtain ⟨b0, hb0⟩ : ∃ b0, b0 = h.whole := ⟨_, rfl⟩
    obtain ⟨n0, hn0⟩ : ∃ n0, n0 = h.status := ⟨_, rfl⟩
    rw [← hb0] at c8 hcase
    rw [← hn0] at c9 hcase
    have HB := Lib.hid hb0.symm
    have HN := Lib.hid hn0.symm
    clear hb0 hn0
    rcases hcase with rfl | ⟨rfl, hn⟩
    all_goals
      go_enter Tryz.func51, Tryz.ntmps51
      go_upto_region 5 with fail
      go_quiet (fail)
      go_wp2
      go_ret2
      exact ⟨by rw [HX.out, HB.out, HN.out]; rfl, Lib.hid (by rw [HX.out]; exact HL.out.low (by exact (Mods.refl _ _).drewN _))⟩
  · have h1 : h.whole = false := by cases hw : h.whole with | false => rfl | true => exact absurd (.inl hw) he
    have h2 : h.status = 0 := by
      by_cases e : h.status = 0
      · exact e
      · exact absurd (.inr e) he
    obtain ⟨rfl, rfl⟩ := hz h1 h2
    have HT := Lib.hid (take_a s hs ok h1 h2 c)
    rw [h1] at c8
    rw [h2] at c9
    clear a c he hz ok h1 h2
    unfold ptr at HT
    generalize lineP h s = h' at *
    go_enter Tryz.func51, Tryz.ntmps51
    go_upto_region 5 with (go_at_call 64; refine HT.out.mono ?_; rintro e w1 ⟨rfl, hk⟩; have HK := Lib.hid hk.out; obtain ⟨u1, st1, e1, z1, k1, -⟩ := hk.out; have d9 : w1.cell? ⟨hb, 9, none⟩ = some (.int .i64 0) := k1.row.cell 9; have f9 := k1.row.free 9; clear hk k1)
    have hl := Lined.of_took HK.out HO.out
    obtain ⟨W2, hW2⟩ : ∃ W2, W2 = w1.setCell ⟨hb, 9, none⟩ (.int .i64 h'.status) := ⟨_, rfl⟩
    rw [← hW2] at hl ⊢
    clear hW2 d9 f9 c8 c9 u1 st1 e1 z1
    have HL := Lib.hid hl
    obtain ⟨F', a2, -, -⟩ := hl
    obtain ⟨g2, v2, st2, e2, z2, cc, -, -⟩ := a2.ex
    have d8 : W2.cell? ⟨hb, 8, none⟩ = some (.bool h'.whole) := cc.row.cell 8
    have d9 : W2.cell? ⟨hb, 9, none⟩ = some (.int .i64 h'.status) := cc.row.cell 9
    clear a2 cc F' g2 v2 st2 e2 z2
    go_quiet (fail)
    go_wp2
    go_ret2
    exact ⟨rfl, Lib.hid (HL.out.low (by exact (Mods.refl _ _).drewN _))⟩
set_option maxRecDepth 10000 in
set_option maxHeartbeats 2000000 in
theorem copied_h (t : Tgt) (w : World) (h1 : t.host.size ≤ 1000000) (h2 : t.path.size ≤ 1000000) (h3 : t.query.size ≤ 1000000) : Calls Tryz.prog 41 #[.agg t.cells] w fun e w' => e = .returned (.agg t.cells) ∧ Mods [] w w' := by
  obtain ⟨f, x, y, z⟩ := t
  simp only [Tgt.cells] at *
  have HX := Lib.hid (fun w => cloneT x h1 w)
  have HY := Lib.hid (fun w => cloneT y h2 w)
  have HZ := Lib.hid (fun w => cloneT z h3 w)
  have m0 := ((Mods.refl [] w).alloc (.cells #[.int .i64 f, .string x, .string y, .string z] 37)).alloc (.cells #[.int .i64 0, .string ⟨#[]⟩, .string ⟨#[]⟩, .string ⟨#[]⟩] 37)
  have r0 := (Row.new w 37 #[.int .i64 f, .string x, .string y, .string z]).alloc (.cells #[.int .i64 0, .string ⟨#[]⟩, .string ⟨#[]⟩, .string ⟨#[]⟩] 37)
  have r1 := Row.new (w.alloc (.cells #[.int .i64 f, .string x, .string y, .string z] 37)) 37 noT.cells
  rw [World.size_alloc] at r1
  obtain ⟨W, hW⟩ : ∃ W, W = (w.alloc (.cells #[.int .i64 f, .string x, .string y, .string z] 37)).alloc (.cells #[.int .i64 0, .string ⟨#[]⟩, .string ⟨#[]⟩, .string ⟨#[]⟩] 37) := ⟨_, rfl⟩
  obtain ⟨b, hb⟩ : ∃ b, b = w.heap.size := ⟨_, rfl⟩
  have r1 : Row W (b + 1) 37 noT.cells := by rw [hW, hb]; exact r1
  rw [← hW, ← hb] at r0
  rw [← hW] at m0
  have M0 := Lib.hid m0
  have c1 : W.cell? ⟨b, 1, none⟩ = some (.string x) := r0.cell 1
  have c2 : W.cell? ⟨b, 2, none⟩ = some (.string y) := r0.cell 2
  have c3 : W.cell? ⟨b, 3, none⟩ = some (.string z) := r0.cell 3
  have R0 := Lib.hid r0
  have R1 := Lib.hid r1
  have HB := Lib.hid (show w.heap.size ≤ b by rw [hb]; exact Nat.le_refl _)
  clear r0 r1 m0
  go_enter Tryz.func41, Tryz.ntmps41
  go_upto_region 1 with fail
  rw [← hW, ← hb]
  clear hW hb
  go_cut [] (fun wx => Hid (Row wx b 37 #[.int .i64 f, .string x, .string y, .string z] ∧ Row wx (b + 1) 37 noT.cells ∧ Mods [] w wx))
  case first =>
    go_region_held3 (fun w' => w'.cell? ⟨b, 1, none⟩ = some (.string x) ∧ w'.cell? ⟨b, 2, none⟩ = some (.string y) ∧ w'.cell? ⟨b, 3, none⟩ = some (.string z)) (simp [*, World.cell?_alloc_some, World.cell?_setCell_same', World.cell?_setCell_other]) (first
      | (go_at_call 40; (with_reducible show Calls _ _ #[.string x] _ _); refine (HX.out _).mono ?_; rintro e v0 ⟨rfl, hm⟩; have MA0 := Lib.hid (show Mods [] W v0 by first | exact hm | exact of_drewT hm); have c01 := cell_mods c1 MA0.out (by simp); have c02 := cell_mods c2 MA0.out (by simp); have c03 := cell_mods c3 MA0.out (by simp); have FR0 := Lib.hid (R0.out.mods MA0.out (by simp)); have f01 := FR0.out.free 1; have f02 := FR0.out.free 2; have f03 := FR0.out.free 3; clear hm)
      | (go_at_call 40; (with_reducible show Calls _ _ #[.string y] _ _); refine (HY.out _).mono ?_; rintro e v1 ⟨rfl, hm⟩; have MA1 := Lib.hid (show Mods [] v0 v1 by first | exact hm | exact of_drewT hm); have c11 := cell_mods c01 MA1.out (by simp); have c12 := cell_mods c02 MA1.out (by simp); have c13 := cell_mods c03 MA1.out (by simp); have FR1 := Lib.hid (FR0.out.mods MA1.out (by simp)); have f11 := FR1.out.free 1; have f12 := FR1.out.free 2; have f13 := FR1.out.free 3; clear hm)
      | (go_at_call 40; (with_reducible show Calls _ _ #[.string z] _ _); refine (HZ.out _).mono ?_; rintro e v2 ⟨rfl, hm⟩; have MA2 := Lib.hid (show Mods [] v1 v2 by first | exact hm | exact of_drewT hm); have c21 := cell_mods c11 MA2.out (by simp); have c22 := cell_mods c12 MA2.out (by simp); have c23 := cell_mods c13 MA2.out (by simp); have FR2 := Lib.hid (FR1.out.mods MA2.out (by simp)); have f21 := FR2.out.free 1; have f22 := FR2.out.free 2; have f23 := FR2.out.free 3; clear hm))
    go_wp2
    go_meet
    case rel => exact Lib.hid ⟨((FR2.out.set 1 _).set 2 _).set 3 _, ((R1.out.mods MA0.out (by simp)).mods MA1.out (by simp)).mods MA2.out (by simp) |>.far (by show b + 1 ≠ b; omega) _ |>.far (by show b + 1 ≠ b; omega) _ |>.far (by show b + 1 ≠ b; omega) _, ((((M0.out.on MA0.out).on MA1.out).on MA2.out).setCell (.inr HB.out) _ |>.setCell (.inr HB.out) _).setCell (.inr HB.out) _⟩
  case rest =>
    obtain ⟨q0, q1, q2⟩ := hcut.out
    have Q1 := Lib.hid q1
    have Q2 := Lib.hid q2
    have e0 : wc.cell? ⟨b, 0, none⟩ = some (.int .i64 f) := q0.cell 0
    have e1 : wc.cell? ⟨b, 1, none⟩ = some (.string x) := q0.cell 1
    have e2 : wc.cell? ⟨b, 2, none⟩ = some (.string y) := q0.cell 2
    have e3 : wc.cell? ⟨b, 3, none⟩ = some (.string z) := q0.cell 3
    obtain ⟨k0, k1, k2, k3, f0, f1, f2, f3⟩ := q1.facts
    simp only [noT, noB] at k0 k1 k2 k3
    clear hcut q0 q1 q2 c1 c2 c3
    go_wp2
    exact end_T1 rfl Q1.out rfl rfl (Nat.le_of_lt (Nat.lt_succ_of_le HB.out)) Q2.out
end Go.Proofs.YtgkhelbpccehcaaGreatDoor
