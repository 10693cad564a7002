/- The reference's net in memory, over the same plain network, and what New, theirs, ours, breaks of it do. -/
import Derived.Test.YtogcfeplfclobaaNg
namespace Go.Proofs.Ytogcfeplfclobaa
open Go.RowKit
set_option maxRecDepth 10000
set_option linter.unusedVariables false
set_option linter.unusedSimpArgs false

/-- The reference's connection: the plain one, and what it keeps beside. -/
structure Rn where
  c : Cn
  wts : Bool
  was : Bool
  inn : List Int
def rbs (r : Rn) (i : Fin 3) : List Int := match i with | 0 => r.inn | 1 => r.c.tak | 2 => r.c.out
def KR : Kd Rn := ⟨89, fun x r => #[.int .i64 r.c.peer, .bool r.wts, .bool r.c.opn, .bool r.was, .bool r.c.brk, .bool r.c.hlv, .bool r.c.sht, x.v 0, x.v 2, x.v 1, .int .i64 r.c.win, .int .i64 r.c.mr, .int .i64 r.c.mw], rbs, by decide⟩
/-- What is kept beside agrees with the plain one; f: the first who waits. -/
structure Ag (f i : Nat) (r : Rn) : Prop where
  wts : r.wts = decide (f ≤ i)
  inn : (decide (i < f) && !r.c.opn) = false → r.inn = r.c.inn
  was : r.c.brk = false → r.was = decide (i < f)
/-- Numbers f, f + 1, .. -/
def lineN (f n : Nat) : List Int := (List.range' f n).map fun (i : Nat) => (i : Int)
theorem lineN_length (f n : Nat) : (lineN f n).length = n := by simp [lineN]
theorem lineN_succ (f n : Nat) : lineN f (n + 1) = (f : Int) :: lineN (f + 1) n := by simp [lineN, List.range'_succ]
theorem lineN_snoc (f n : Nat) : lineN f n ++ [((f + n : Nat) : Int)] = lineN f (n + 1) := by
  unfold lineN
  rw [List.range'_concat]
  simp
theorem lineN_at (f n i : Nat) (h : i < n) : (lineN f n)[i]? = some ((f + i : Nat) : Int) := by
  unfold lineN
  rw [List.getElem?_map, List.getElem?_range' h]
  simp
/-- The net behind pointer g. -/
structure RefF (w : World) (g : Nat) (vl vn : Value) (X : List Cb) (R : List Rn) (S : Nt) (m : Nat) : Prop where
  row : Row w g 42 #[.int .i64 S.back, vl, vn, .int .i64 S.fail, .bool S.stop, .int .i64 (S.L.length : Nat)]
  ptr : Own w 90 vl (pv X)
  num : Own w 3 vn (iv (lineN S.first (S.L.length - S.first)))
  cs : Cs KR w X R
  ag : R.map (·.c) = S.L
  st : ∀ (i : Nat) (r : Rn), R[i]? = some r → Ag S.first i r
  ok : S.Ok m
def rfoot (g : Nat) (vl vn : Value) (X : List Cb) : List Nat := g :: (vl.ownBlock.toList ++ (vn.ownBlock.toList ++ fts X))
def RefA (w : World) (g : Nat) (F : List Nat) (S : Nt) (m : Nat) : Prop := ∃ vl vn X R, F = rfoot g vl vn X ∧ RefF w g vl vn X R S m
theorem mem_rfoot {g k : Nat} {vl vn : Value} {X : List Cb} : k ∈ rfoot g vl vn X ↔ k = g ∨ k ∈ vl.ownBlock.toList ∨ k ∈ vn.ownBlock.toList ∨ k ∈ fts X := by simp only [rfoot, List.mem_cons, List.mem_append]
section
variable {w w' : World} {g m n i : Nat} {vl vn : Value} {X : List Cb} {R : List Rn} {S : Nt} {F : List Nat} {x x' : Cb} {r r' : Rn}
theorem RefF.keep (h : RefF w g vl vn X R S m) (e : ∀ k ∈ rfoot g vl vn X, w'.heap[k]? = w.heap[k]?) : RefF w' g vl vn X R S m :=
  ⟨h.row.keep (e _ (mem_rfoot.2 (.inl rfl))), h.ptr.keep (fun k hk => e k (mem_rfoot.2 (.inr (.inl hk)))), h.num.keep (fun k hk => e k (mem_rfoot.2 (.inr (.inr (.inl hk))))), h.cs.keep (fun k hk => e k (mem_rfoot.2 (.inr (.inr (.inr hk))))), h.ag, h.st, h.ok⟩
theorem RefF.lt (h : RefF w g vl vn X R S m) : ∀ k ∈ rfoot g vl vn X, k < w.heap.size := by
  intro k hk
  rcases mem_rfoot.1 hk with rfl | hk | hk | hk
  · exact h.row.lt
  · exact h.ptr.lt k hk
  · exact h.num.lt k hk
  · exact h.cs.lt k hk
theorem RefA.keep (h : RefA w g F S m) (e : ∀ k ∈ F, w'.heap[k]? = w.heap[k]?) : RefA w' g F S m := by
  obtain ⟨vl, vn, X, R, rfl, h⟩ := h
  exact ⟨vl, vn, X, R, rfl, h.keep e⟩
theorem RefA.lt (h : RefA w g F S m) : ∀ k ∈ F, k < w.heap.size := by
  obtain ⟨vl, vn, X, R, rfl, h⟩ := h
  exact h.lt
theorem RefA.mods {G : List Nat} (h : RefA w g F S m) (hm : Mods G w w') (hd : ∀ k ∈ F, k ∉ G) : RefA w' g F S m :=
  h.keep fun k hk => hm.block k (h.lt k hk) (hd k hk)
theorem RefA.quiet (h : RefA w g F S m) (hm : Mods [] w w') : RefA w' g F S m := h.mods hm (by simp)
theorem RefA.ok (h : RefA w g F S m) : S.Ok m := by obtain ⟨vl, vn, X, R, rfl, h⟩ := h; exact h.ok
theorem RefA.more (h : RefA w g F S m) (hmn : m ≤ n) (hn : n ≤ 900000000) : RefA w g F S n := by
  obtain ⟨vl, vn, X, R, rfl, h⟩ := h
  exact ⟨vl, vn, X, R, rfl, h.row, h.ptr, h.num, h.cs, h.ag, h.st, h.ok.more hmn hn⟩
theorem RefF.len (h : RefF w g vl vn X R S m) : X.length = S.L.length := by rw [h.cs.len, ← h.ag, List.length_map]
theorem RefF.slice (h : RefF w g vl vn X R S m) : ∃ A c, vl = .slice A S.L.length c ∧ S.L.length ≤ c ∧ c ≤ maxLen := by
  obtain ⟨A, c, rfl, h1, h2⟩ := h.ptr.slice
  rw [pv_length, h.len] at *
  exact ⟨A, c, rfl, h1, h2⟩
theorem RefF.line (h : RefF w g vl vn X R S m) : ∃ A c, vn = .slice A (S.L.length - S.first) c ∧ S.L.length - S.first ≤ c ∧ c ≤ maxLen := by
  obtain ⟨A, c, rfl, h1, h2⟩ := h.num.slice
  rw [show (iv (lineN S.first (S.L.length - S.first))).length = S.L.length - S.first by simp [iv, lineN_length]] at *
  exact ⟨A, c, rfl, h1, h2⟩
theorem RefF.cell {A : Option Addr} {n c : Nat} (h : RefF w g (.slice A n c) vn X R S m) (hx : X[i]? = some x) : ∃ b o, A = some ⟨b, o, none⟩ ∧ w.cell? ⟨b, o + i, none⟩ = some (.pointer (some ⟨x.b, 0, none⟩)) :=
  h.ptr.src i _ (pv_at hx)
theorem RefF.at_ (h : RefF w g vl vn X R S m) {s : Cn} (hs : S.L[i]? = some s) : ∃ x r, X[i]? = some x ∧ R[i]? = some r ∧ r.c = s ∧ CnA KR w x r ∧ Ag S.first i r := by
  rw [← h.ag, List.getElem?_map] at hs
  cases hr : R[i]? with
  | none => rw [hr] at hs; cases hs
  | some r =>
    rw [hr] at hs
    injection hs with hs
    obtain ⟨x, hx⟩ := h.cs.at1 hr
    exact ⟨x, r, hx, rfl, hs, h.cs.at_ i x r hx hr, h.st i r hr⟩
theorem RefF.g_fts (h : RefF w g vl vn X R S m) : g ∉ fts X := h.cs.row h.row (by decide) (by decide)
theorem RefF.vl_fts (h : RefF w g vl vn X R S m) : ∀ k ∈ vl.ownBlock.toList, k ∉ fts X := h.cs.slice h.ptr (by decide) (by decide)
theorem RefF.vn_fts (h : RefF w g vl vn X R S m) : ∀ k ∈ vn.ownBlock.toList, k ∉ fts X := h.cs.slice h.num (by decide) (by decide)
theorem map_set_c (R : List Rn) (i : Nat) (r : Rn) : (R.set i r).map (·.c) = (R.map (·.c)).set i r.c := by rw [List.map_set]
/-- One connection has turned. -/
theorem RefF.turn (h : RefF w g vl vn X R S m) (hx : X[i]? = some x) (hr : R[i]? = some r) (hc : CnA KR w' x' r') (hb : x'.b = x.b) (hm : Mods x.ft w w') (hf : ∀ k ∈ x'.ft, k ∈ x.ft ∨ w.heap.size ≤ k)
    (ha : Ag S.first i r') (hk : (S.upd i r'.c).Ok n) : RefF w' g vl vn (X.set i x') (R.set i r') (S.upd i r'.c) n := by
  have hsub : ∀ k ∈ x.ft, k ∈ fts X := fun k hk => mem_fts.2 ⟨i, x, hx, hk⟩
  have hrow : Row w' g _ _ := h.row.mods hm fun hk => h.g_fts (hsub _ hk)
  refine ⟨?_, ?_, ?_, h.cs.turn hx hc hm hf, ?_, fun j r2 hj => ?_, hk⟩
  · simp only [Nt.upd, Int.toNat_natCast, List.length_set]
    exact hrow
  · rw [pv_set hx hb]
    exact h.ptr.mods hm fun k hk hk2 => h.vl_fts k hk (hsub k hk2)
  · simp only [Nt.upd, Int.toNat_natCast, List.length_set]
    exact h.num.mods hm fun k hk hk2 => h.vn_fts k hk (hsub k hk2)
  · rw [map_set_c, h.ag]
    simp [Nt.upd]
  · rw [List.getElem?_set] at hj
    split at hj
    · split at hj
      · injection hj with hj
        subst hj
        rename_i e _
        rw [← e]
        exact ha
      · cases hj
    · exact h.st j r2 hj
/-- What a call leaves. -/
def RefTo (w w' : World) (g : Nat) (F : List Nat) (S : Nt) (m : Nat) : Prop := ∃ F', RefA w' g F' S m ∧ Mods F w w' ∧ ∀ k ∈ F', k ∈ F ∨ w.heap.size ≤ k
theorem ft_rsub (hx : X[i]? = some x) : ∀ k ∈ x.ft, k ∈ rfoot g vl vn X := fun k hk => mem_rfoot.2 (.inr (.inr (.inr (mem_fts.2 ⟨i, x, hx, hk⟩))))
theorem rfoot_set (hx : X[i]? = some x) {n : Nat} (hf : ∀ k ∈ x'.ft, k ∈ x.ft ∨ n ≤ k) : ∀ k ∈ rfoot g vl vn (X.set i x'), k ∈ rfoot g vl vn X ∨ n ≤ k := fun k hk => by
  rcases mem_rfoot.1 hk with h | h | h | h
  · exact .inl (mem_rfoot.2 (.inl h))
  · exact .inl (mem_rfoot.2 (.inr (.inl h)))
  · exact .inl (mem_rfoot.2 (.inr (.inr (.inl h))))
  · rcases fts_set hx hf k h with h | h
    · exact .inl (mem_rfoot.2 (.inr (.inr (.inr h))))
    · exact .inr h
theorem RefF.toC (h : RefF w g vl vn X R S m) (hx : X[i]? = some x) (hr : R[i]? = some r) (hc : CnTo KR w w' x r') (ha : Ag S.first i r') (hk : (S.upd i r'.c).Ok n) : RefTo w w' g (rfoot g vl vn X) (S.upd i r'.c) n := by
  obtain ⟨x', h1, h2, h3, h4⟩ := hc
  exact ⟨_, ⟨vl, vn, _, _, rfl, h.turn hx hr h1 h2 h3 h4 ha hk⟩, h3.more fun k hk => .inl (ft_rsub hx k hk), rfoot_set hx h4⟩
theorem RefTo.same (h : RefA w g F S m) (hm : Mods [] w w') : RefTo w w' g F S m := ⟨F, h.quiet hm, hm.more (by simp), fun k hk => .inl hk⟩
theorem RefTo.quiet {w1 : World} (h : RefTo w w1 g F S m) (hm : Mods [] w1 w') : RefTo w w' g F S m := by
  obtain ⟨F', h1, h2, h3⟩ := h
  exact ⟨F', h1.quiet hm, h2.trans hm (by simp), h3⟩
end
theorem rbs_all {P : Fin 3 → Prop} (h0 : P 0) (h1 : P 1) (h2 : P 2) : ∀ j, P j := fun j => by match j with | 0 => exact h0 | 1 => exact h1 | 2 => exact h2
theorem eql_rnil (p : Option Addr) (w : World) : (binOp .eql 29 (.pointer p) (.pointer none)).run Try.prog w = .ok (.bool p.isNone) w :=
  run_eql_pointer_nil _ _ _ (by kernel_rfl)
theorem rnew_no (b : Int) (w : World) (h : b < 1 ∨ 64 < b) : Calls Try.prog 12 #[.int .i64 b] w fun e w' => e = .returned (.tuple #[.pointer none, .int .i64 1]) ∧ w = w' := by
  by_cases h1 : b < 1
  · go_enter Try.func12, Try.ntmps12
    go_wp2
    go_ret2
    exact ⟨rfl, rfl⟩
  · have h2 : 64 < b := by omega
    clear h
    go_enter Try.func12, Try.ntmps12
    go_wp2
    go_ret2
    exact ⟨rfl, rfl⟩
theorem rnew_any (b : Int) (w : World) (h1 : 1 ≤ b) (h2 : b ≤ 64) : Calls Try.prog 12 #[.int .i64 b] w fun e w' =>
    e = .returned (.tuple #[.pointer (some ⟨w.heap.size, 0, none⟩), .int .i64 0]) ∧ RefA w' w.heap.size [w.heap.size] (Nt.new b) 0 ∧ Mods [] w w' := by
  go_enter Try.func12, Try.ntmps12
  go_wp2
  go_ret2
  refine ⟨rfl, ⟨.slice none 0 0, .slice none 0 0, [], [], rfl, ?_, Own.nil _ _, Own.nil _ _, Cs.nil _, rfl, by simp, ⟨h1, h2, by simp [Nt.new], by simp [Nt.new], by simp [Nt.new], by simp [Nt.new], by simp [Nt.new], by simp [Nt.new], by simp⟩⟩, (Mods.refl _ _).alloc _⟩
  exact Row.new w _ _
theorem breaks_any (w : World) (x : Cb) (r : Rn) (h : CnA KR w x r) :
    Calls Try.prog 64 #[.pointer (some ⟨x.b, 0, none⟩)] w fun e w' => e = .returned (.tuple #[]) ∧ Hid (CnTo KR w w' x { r with c := r.c.break_, inn := [] }) := by
  have c4 := h.row.cell 4
  have c7 := h.row.cell 7
  have c10 := h.row.cell 10
  simp only [KR] at c4 c7 c10
  have f0 := h.row.free
  have HH := Lib.hid h
  clear h
  go_enter Try.func64, Try.ntmps64
  go_wp2
  go_end0
  refine ⟨rfl, Lib.hid ?_⟩
  refine CnTo.put (s := { r with c := { r.c with brk := true }, inn := [] }) (CnTo.nil (s := { r with c := { r.c with brk := true } }) (CnTo.put (CnTo.refl HH.out) 4 (.bool true) (fun _ => rfl) (rbs_all rfl rfl rfl)) 0 7 (fun _ => rfl) ?_ rfl) 10 (.int .i64 0) (fun _ => rfl) (rbs_all rfl rfl rfl)
  intro j hj
  match j, hj with
  | 1, _ => rfl
  | 2, _ => rfl
end Go.Proofs.Ytogcfeplfclobaa
