/- What Next, Add of the program's queue do. -/
import Derived.Test.YtgahnediigmihaaOutD
import Derived.Deep.RegionHeld3
import Derived.BigRegion
namespace Go.Proofs.Ytgahnediigmihaa
open Go.RowKit
set_option maxRecDepth 10000
set_option linter.unusedVariables false
set_option linter.unusedSimpArgs false

theorem FreshO.drew {w w' : World} {e : TypeId} {v : Value} {xs : List Value} (h : FreshO w.drew w' e v xs) : FreshO w w' e v xs := ⟨h.1, of_drew h.2.1, h.2.2⟩
theorem FreshO.back {w X w' : World} {e : TypeId} {v : Value} {xs : List Value} (h : FreshO X w' e v xs) (hm : Mods [] w X) : FreshO w w' e v xs := ⟨h.1, hm.trans h.2.1 (by simp), fun k hk => Nat.le_trans hm.size (h.2.2 k hk)⟩
theorem Fresh.back {w X w' : World} {v : Value} {l : List Int} (h : Fresh X w' v l) (hm : Mods [] w X) : Fresh w w' v l := ⟨h.1, hm.trans h.2.1 (by simp), fun k hk => Nat.le_trans hm.size (h.2.2 k hk)⟩
theorem bv_take (l : List Int) (m : Nat) : (bv l).take m = bv (l.take m) := by simp [bv, List.map_take]
theorem Own.cutTo {w : World} {e : TypeId} {A : Option Addr} {n c : Nat} {xs : List Value} (h : Own w e (.slice A n c) xs) (k : Nat) (hk : k ≤ n) : Src w A (xs.take k) := fun j u hu => by
  rw [List.getElem?_take] at hu
  split at hu
  · exact h.src j u hu
  · cases hu
theorem next_any (w : World) (g : Nat) (n : Int) (F : List Nat) (B E : List Int) (W T : Nat) (h : QueA w g F B E W T) :
    Calls Try.prog 19 #[.pointer (some ⟨g, 0, none⟩), .int .i64 n] w fun e w' => ∃ v, e = .returned v ∧ Hid (Fresh w w' v (B.take (clamp n B.length))) := by
  have HA := Lib.hid h
  have HL := Lib.hid fun w' (hk : ∀ k ∈ F, w'.heap[k]? = w.heap[k]?) => qmost_any w' g n F B E W T (h.keep hk)
  obtain ⟨m, hm⟩ : ∃ m, m = clamp n B.length := ⟨_, rfl⟩
  have hmb : m ≤ B.length := by rw [hm]; exact clamp_le _ _
  rw [← hm] at HL ⊢
  obtain ⟨vd, td, ve, te, rfl, h⟩ := h
  obtain ⟨Ad, cd, Ae, ce, rfl, rfl, hb1, hb2, hb3, hb4⟩ := h.cells
  have c0 := h.row.cell 0
  have hn := eql_qnil
  have HS := Lib.hid (show Src w Ad (bv (B.take m)) by rw [← bv_take]; exact h.dat.cutTo m hmb)
  have HR := Lib.hid h.rng
  have htop := h.top
  unfold maxLen at hb2
  have c0 : w.cell? ⟨g, 0, none⟩ = some (.slice Ad B.length cd) := c0
  have q1 : (0 : Int) ≤ (m : Int) := by omega
  have q2 : (m : Int) ≤ (cd : Int) := by omega
  clear h hm hb3 hb4
  go_enter Try.func19, Try.ntmps19
  go_wp2_with fail
  go_region_held3 (fun w' => w'.cell? ⟨g, 0, none⟩ = some (.slice Ad B.length cd)) (go_keep)
    (first
      | (go_at_call 29; refine Calls.mono (HL.out _ (fun _ _ => rfl)) ?_; rintro e w3 ⟨rfl, rfl⟩)
      | (go_at_call 34; refine Calls.mono (concatB_row _ w.heap.size Ad m cd (B.take m) ?_ (by rw [List.length_take]; omega) ?_ (fun x hx => HR.out x (List.mem_of_mem_take hx)) (by omega) (by unfold maxLen; omega) (by omega)) ?_; exact (Row.new _ _ #[_]).cell 0; exact HS.out.mods (F := []) (((Mods.refl [] w).alloc (.cells #[.slice Ad m cd] 28)).same rfl rfl rfl rfl) (by simp); rintro e w4 ⟨v, rfl, hd⟩; have HD := Lib.hid (hd.out.back (((Mods.refl [] w).alloc (.cells #[.slice Ad m cd] 28)).same rfl rfl rfl rfl)); have c0' := cell_mods c0 HD.out.2.1 (by simp); clear hd))
  all_goals
    go_wp2
    go_ret
    exact ⟨_, rfl, HD⟩
/-- Rows of bytes that are handed in, wherever their own row begins. -/
def Parts (w : World) (F : List Nat) (A : Option Addr) (rs : List Rw) : Prop :=
  ∀ i r, rs[i]? = some r → (∃ b o, A = some ⟨b, o, none⟩ ∧ b < w.heap.size ∧ b ∉ F ∧ w.cell? ⟨b, o + i, none⟩ = some (.slice r.A r.l.length r.c)) ∧ At w F r.A r.l ∧ r.l.length ≤ r.c ∧ r.c ≤ maxLen
theorem Parts.nil (w : World) (F : List Nat) (A : Option Addr) : Parts w F A [] := fun i r h => by simp at h
theorem Parts.mods {w w' : World} {F : List Nat} {A : Option Addr} {rs : List Rw} (h : Parts w F A rs) (hm : Mods F w w') : Parts w' F A rs := fun i r hr => by
  obtain ⟨⟨b, o, e, hb, hF, hc⟩, h2, h3⟩ := h i r hr
  exact ⟨⟨b, o, e, Nat.lt_of_lt_of_le hb hm.size, hF, cell_mods hc hm hF⟩, h2.mods hm, h3⟩
theorem Parts.of_rows {w : World} {F : List Nat} {b : Nat} {rs : List Rw} (h : RowsAt w F b rs) : Parts w F (some ⟨b, 0, none⟩) rs := fun i r hr =>
  ⟨⟨b, 0, rfl, h.lt, h.out, by rw [Nat.zero_add]; exact h.cell i r hr⟩, h.at_ r (List.mem_of_getElem? hr)⟩
theorem flatR_le (rs : List Rw) (k : Nat) : (flatR (rs.take k)).length ≤ (flatR rs).length := by
  have : flatR rs = flatR (rs.take k) ++ flatR (rs.drop k) := by unfold flatR; rw [← List.flatMap_append, List.take_append_drop]
  rw [this, List.length_append]; omega
section
variable {w w1 w2 : World} {g td te W T : Nat} {vd ve vd0 : Value} {B E l : List Int} {F : List Nat}
theorem que_laidB (h : QueF w g vd td ve te B E W T) (hl : W + B.length + l.length ≤ 1000000000) (hr : ∀ x ∈ l, 0 ≤ x ∧ x ≤ 255)
    (ht : LaidB w w1 g 0 53 #[vd, .int .i64 td, ve, .int .i64 te, .int .i64 W, .int .i64 ((T : Int) + (E.length : Int))] vd 5 (bv (B ++ l))) :
    ∃ vd', QueF w1 g vd' td ve te (B ++ l) E W T ∧ Mods (g :: vd.ownBlock.toList) w w1 ∧ ∀ b ∈ vd'.ownBlock.toList, b ∈ vd.ownBlock.toList ∨ w.heap.size ≤ b := by
  obtain ⟨v', hr1, ho, hmm, hb⟩ := ht
  have hr1 : Row w1 g 53 #[v', .int .i64 td, ve, .int .i64 te, .int .i64 W, .int .i64 ((T : Int) + (E.length : Int))] := by simpa using hr1
  have hve : Own w1 3 ve (iv E) := h.ends.mods hmm fun b hb hb2 => by
    rcases List.mem_cons.1 hb2 with rfl | hb2
    · exact h.ends.ne_row h.row (by decide) _ hb rfl
    · exact h.ends.ne h.dat (by decide) b hb hb2
  refine ⟨v', ⟨hr1, ho, hve, by have := h.td_; rw [List.length_append]; omega, h.te_, fun x hx => (List.mem_append.1 hx).elim (h.rng x) (hr x), by rw [List.length_append]; omega, h.num⟩, hmm, fun b hb2 => ?_⟩
  rcases hb with e | e
  · rw [e] at hb2; exact .inl hb2
  · rw [e] at hb2; simp at hb2; right; omega
theorem que_laidI (h : QueF w g vd td ve te B E W T) (hl : T + E.length + 1 ≤ 1000000000) {x y : Int} (hy : y = (T : Int) + (E.length : Int) + 1)
    (ht : LaidB w w1 g 2 53 #[vd, .int .i64 td, ve, .int .i64 te, .int .i64 W, .int .i64 ((T : Int) + (E.length : Int))] ve 3 (iv (E ++ [x]))) :
    ∃ ve', (∃ cs : Array Value, Row w1 g 53 cs ∧ cs[5]? = some (.int .i64 ((T : Int) + (E.length : Int))) ∧ cs[4]? = some (.int .i64 W)) ∧ QueF (w1.setCell ⟨g, 5, none⟩ (.int .i64 y)) g vd td ve' te B (E ++ [x]) W T ∧ Mods (g :: ve.ownBlock.toList) w (w1.setCell ⟨g, 5, none⟩ (.int .i64 y)) ∧ ∀ b ∈ ve'.ownBlock.toList, b ∈ ve.ownBlock.toList ∨ w.heap.size ≤ b := by
  subst hy
  obtain ⟨v', hr1, ho, hmm, hb⟩ := ht
  have hr1 : Row w1 g 53 #[vd, .int .i64 td, v', .int .i64 te, .int .i64 W, .int .i64 ((T : Int) + (E.length : Int))] := by simpa using hr1
  have hvd : Own w1 5 vd (bv B) := h.dat.mods hmm fun b hb hb2 => by
    rcases List.mem_cons.1 hb2 with rfl | hb2
    · exact h.dat.ne_row h.row (by decide) _ hb rfl
    · exact h.dat.ne h.ends (by decide) b hb hb2
  refine ⟨v', ⟨_, hr1, rfl, rfl⟩, ⟨?_, hvd.keep fun b hb => heap_setCell_other w1 ⟨g, 5, none⟩ b _ (hvd.ne_row hr1 (by decide) b hb), ho.keep fun b hb => heap_setCell_other w1 ⟨g, 5, none⟩ b _ (ho.ne_row hr1 (by decide) b hb), h.td_, by have := h.te_; rw [List.length_append]; omega, h.rng, h.top, by rw [List.length_append]; simp; omega⟩, hmm.setCell (.inl (by simp)) _, fun b hb2 => ?_⟩
  · have := hr1.set 5 (.int .i64 ((T : Int) + (E.length : Int) + 1))
    have e : (T : Int) + ((E ++ [x]).length : Int) = (T : Int) + (E.length : Int) + 1 := by rw [List.length_append]; simp; omega
    rw [e]
    simpa using this
  · rcases hb with e | e
    · rw [e] at hb2; exact .inl hb2
    · rw [e] at hb2; simp at hb2; right; omega
/-- The same, the call's own world a little further. -/
theorem que_laidX (h : QueF w g vd td ve te B E W T) (hl : T + E.length + 1 ≤ 1000000000) {x : Int}
    (ht : LaidB w2 w1 g 2 53 #[vd, .int .i64 td, ve, .int .i64 te, .int .i64 W, .int .i64 ((T : Int) + (E.length : Int))] ve 3 (iv (E ++ [x]))) (hX : Mods [] w w2) :
    ∃ ve', (∃ cs : Array Value, Row w1 g 53 cs ∧ cs[5]? = some (.int .i64 ((T : Int) + (E.length : Int))) ∧ cs[4]? = some (.int .i64 W)) ∧
      ∀ w5, w5 = w1.setCell ⟨g, 5, none⟩ (.int .i64 ((T : Int) + (E.length : Int) + 1)) → QueF w5 g vd td ve' te B (E ++ [x]) W T ∧ Mods (g :: ve.ownBlock.toList) w w5 ∧ ∀ b ∈ ve'.ownBlock.toList, b ∈ ve.ownBlock.toList ∨ w.heap.size ≤ b := by
  obtain ⟨ve', h1, h2, h3, h4⟩ := que_laidI (h.keep fun b hb => hX.block b (h.lt b hb) (by simp)) hl rfl ht
  refine ⟨ve', h1, fun w5 e => ?_⟩
  subst e
  exact ⟨h2, (hX.more (by simp)).trans h3 (fun k hk => .inl hk), fun b hb => (h4 b hb).imp id (fun h => Nat.le_trans hX.size h)⟩
end
set_option maxHeartbeats 1000000 in
theorem add_any (w : World) (g : Nat) (F : List Nat) (B E : List Int) (W T : Nat) (A : Option Addr) (n c : Nat) (rs : List Rw) (h : QueA w g F B E W T) (hp : Parts w F A rs) (hn : n = rs.length) (hnl : n ≤ maxLen) (hl : W + B.length + (flatR rs).length ≤ 1000000000) (hE : T + E.length + 1 ≤ 1000000000) :
    Calls Try.prog 12 #[.pointer (some ⟨g, 0, none⟩), .slice A n c] w fun e w' =>
      e = .returned (.int .i64 ((T : Int) + (E.length : Int) + 1)) ∧ Hid (QueTo w w' g F (B ++ flatR rs) (E ++ [(W : Int) + ((B ++ flatR rs).length : Int)]) W T) := by
  subst hn
  obtain ⟨vd, td, ve, te, rfl, h⟩ := h
  have hn := eql_qnil
  have HH := Lib.hid h
  have HP := Lib.hid hp
  have HLT := Lib.hid h.lt
  unfold maxLen at hnl
  obtain ⟨B', hB'⟩ : ∃ B', B' = B ++ flatR rs := ⟨_, rfl⟩
  rw [← hB']
  have HBX := Lib.hid hB'
  clear h hp hB'
  go_enter Try.func12, Try.ntmps12
  go_wp2
  go_loopw [6, 11] (fun x i wr => ∃ k : Nat, k ≤ rs.length ∧ i = .int .i64 k ∧ Hid (∃ vd', QueF wr g vd' td ve te (B ++ flatR (rs.take k)) E W T ∧ Mods (foot g vd ve) w wr ∧ ∀ b ∈ vd'.ownBlock.toList, b ∈ foot g vd ve ∨ w.heap.size ≤ b)) (fun _ i _ => rs.length - (intOf i).toNat)
  case atStart => exact ⟨0, Nat.zero_le _, rfl, Lib.hid ⟨vd, by simpa [flatR] using HH.out, Mods.refl _ _, fun b hb => .inl (by simp only [foot, List.mem_cons, List.mem_append]; exact .inr (.inl hb))⟩⟩
  case round =>
    obtain ⟨k, hk, rfl, hd⟩ := hrel
    obtain ⟨vd', hq, hm, hb⟩ := hd.out
    have HQ := Lib.hid hq
    have HM := Lib.hid hm
    have HB := Lib.hid hb
    clear hd hq hm hb
    by_cases hlt : k < rs.length
    · have HPk := Lib.hid (HP.out.mods HM.out k rs[k] (List.getElem?_eq_getElem hlt))
      obtain ⟨⟨bb, oo, rfl, _, hbF, hc⟩, _⟩ := HPk.out
      have HSN := Lib.hid (flatR_snoc rs k hlt)
      have HLE := Lib.hid (flatR_le rs (k + 1))
      obtain ⟨r, hr⟩ : ∃ r, r = rs[k] := ⟨_, rfl⟩
      rw [← hr] at HPk hc HSN
      have HFL := Lib.hid (show W + (B ++ flatR (rs.take k)).length + r.l.length ≤ 1000000000 by have := HLE.out; rw [HSN.out, List.length_append] at this; rw [List.length_append]; omega)
      clear hr
      go_wp2_with fail
      refine (layB_any wr g 0 _ _ vd' (B ++ flatR (rs.take k)) r.A r.l.length r.c r.l HQ.out.row rfl HQ.out.dat rfl HPk.out.2.1.srcs (by have := HFL.out; omega) (by decide)).mono ?_
      rintro e w1 ⟨rfl, hd⟩
      obtain ⟨vd2, hq2, hm2, hb2⟩ := que_laidB HQ.out HFL.out HPk.out.2.1.range hd.out
      have HQ2 := Lib.hid hq2
      have HM2 := Lib.hid (HM.out.trans hm2 (fun b hb => by
        rcases List.mem_cons.1 hb with rfl | hb
        · exact .inl (by simp [foot])
        · exact HB.out b hb))
      have HB2 := Lib.hid (show ∀ b ∈ vd2.ownBlock.toList, b ∈ foot g vd ve ∨ w.heap.size ≤ b from fun b hb => (hb2 b hb).elim (HB.out b) (fun h => .inr (Nat.le_trans HM.out.size h)))
      clear hd hq2 hm2 hb2
      go_wp2
      go_roundw
      case rel => exact ⟨k + 1, by omega, by go_num, Lib.hid ⟨vd2, by rw [HSN.out, ← List.append_assoc]; exact HQ2.out, HM2.out, HB2.out⟩⟩
      case measure => simp [intOf]; omega
    · have HK := Lib.hid (show rs.take k = rs from List.take_of_length_le (by omega))
      rw [HK.out, ← HBX.out] at HQ
      have c4 := HQ.out.row.cell 4
      have htop := HQ.out.top
      have c4 : wr.cell? ⟨g, 4, none⟩ = some (.int .i64 W) := c4
      have HQL := Lib.hid fun w' (hk : ∀ b ∈ foot g vd' ve, w'.heap[b]? = wr.heap[b]?) => qlen_any w' g _ B' E W T ⟨_, _, _, _, rfl, HQ.out.keep hk⟩
      have hwr : IntKind.i64.wrap ((W : Int) + (B'.length : Int)) = (W : Int) + (B'.length : Int) := by rw [IntKind.wrap_i64]; omega
      clear hn
      go_wp2_with fail
      go_region_held3 (fun w' => w'.cell? ⟨g, 4, none⟩ = some (.int .i64 W)) (go_keep)
        (first
          | (go_at_call 24; refine Calls.mono (HQL.out _ (fun _ _ => rfl)) ?_; rintro e w3 ⟨rfl, rfl⟩)
          | (go_at_call 28; refine Calls.mono (layI_any _ g 2 53 #[vd', .int .i64 td, ve, .int .i64 te, .int .i64 W, .int .i64 ((T : Int) + (E.length : Int))] ve E (some ⟨wr.heap.size, 0, none⟩) 1 1 [(W : Int) + (B'.length : Int)] ?_ rfl ?_ rfl ?_ (by have := hE; simp; omega) (by decide)) ?_; exact HQ.out.row.mods (F := []) (((Mods.refl [] wr).alloc (.cells #[.int .i64 ((W : Int) + (B'.length : Int))] 3)).same rfl rfl rfl rfl) (by simp); exact HQ.out.ends.mods (F := []) (((Mods.refl [] wr).alloc (.cells #[.int .i64 ((W : Int) + (B'.length : Int))] 3)).same rfl rfl rfl rfl) (by simp); exact (Src.one _ _ _); rintro e w4 ⟨rfl, hd⟩; obtain ⟨ve2, ⟨cs5, hr5, h55, h54⟩, hq5⟩ := que_laidX HQ.out hE hd.out (((Mods.refl [] wr).alloc (.cells #[.int .i64 ((W : Int) + (B'.length : Int))] 3)).same rfl rfl rfl rfl); have HQ5 := Lib.hid hq5; have c4' := (hr5.cell 4).trans h54; have c5 := (hr5.cell 5).trans h55; have f5 := hr5.free 5; clear hd hr5 h55 h54 hq5))
      all_goals
        go_wp2
        go_ret
        obtain ⟨hq, hm, hb⟩ := HQ5.out _ rfl
        refine ⟨rfl, Lib.hid ⟨_, ⟨_, _, _, _, rfl, hq⟩, HM.out.trans hm (fun b hb => .inl ?_), fun b hb2 => ?_⟩⟩
        · simp only [foot, List.mem_cons, List.mem_append] at hb ⊢
          rcases hb with hb | hb
          · exact .inl hb
          · exact .inr (.inr hb)
        · simp only [foot, List.mem_cons, List.mem_append] at hb2 ⊢
          rcases hb2 with hb2 | hb2 | hb2
          · exact .inl (.inl hb2)
          · have := HB.out b hb2
            simpa only [foot, List.mem_cons, List.mem_append] using this
          · rcases hb b hb2 with h | h
            · exact .inl (.inr (.inr h))
            · have := HM.out.size; right; omega
theorem next_as (w : World) (g k : Nat) (n : Int) (F : List Nat) (B E P : List Int) (W T : Nat) (h : QueA w g F B E W T) (hP : B.take (clamp n B.length) = P) (hk : P.length = k) :
    Calls Try.prog 19 #[.pointer (some ⟨g, 0, none⟩), .int .i64 n] w fun e w' => ∃ A c, e = .returned (.slice A k c) ∧ Hid (New w w' A k c P) := by
  refine (next_any w g n F B E W T h).mono ?_
  rintro e w' ⟨v, rfl, hd⟩
  have hf := hd.out
  rw [hP] at hf
  obtain ⟨A, c, rfl, h1, h2⟩ := own_slice hf.1
  subst hk
  exact ⟨A, c, rfl, Lib.hid ⟨h1, h2, hf.1, hf.2.1, rfl, fun x hx => h.rng x (by rw [← hP] at hx; exact List.mem_of_mem_take hx), hf.2.2⟩⟩
/-- A new slice of k numbers. -/
def NewI (w w' : World) (A : Option Addr) (k c : Nat) (l : List Int) : Prop := FreshO w w' 3 (.slice A k c) (iv l) ∧ l.length = k ∧ k ≤ c ∧ c ≤ maxLen
theorem NewI.mods {w w' : World} {A : Option Addr} {k c : Nat} {l : List Int} (h : NewI w w' A k c l) : Mods [] w w' := h.1.2.1
theorem NewI.src {w w' w2 : World} {A : Option Addr} {k c : Nat} {l : List Int} (h : NewI w w' A k c l) (hm : Mods [] w' w2) : Src w2 A (iv l) := (h.1.1.mods hm (by simp)).src
theorem NewI.back {w X w' : World} {A : Option Addr} {k c : Nat} {l : List Int} (h : NewI X w' A k c l) (hm : Mods [] w X) : NewI w w' A k c l := ⟨h.1.back hm, h.2⟩
theorem left_as (w : World) (g k : Nat) (F : List Nat) (B E l : List Int) (W T : Nat) (h : QueA w g F B E W T) (hl : upto T E.length = l) (hk : E.length = k) :
    Calls Try.prog 25 #[.pointer (some ⟨g, 0, none⟩)] w fun e w' => ∃ A c, e = .returned (.slice A k c) ∧ Hid (NewI w w' A k c l) := by
  subst hl hk
  refine (left_any w g F B E W T h).mono ?_
  rintro e w' ⟨v, rfl, hd⟩
  have hf := hd.out
  obtain ⟨A, c, rfl, h1, h2⟩ := hf.1.slice
  rw [iv_length, upto_length] at hf h1 ⊢
  exact ⟨A, c, rfl, Lib.hid ⟨hf, upto_length _ _, h1, h2⟩⟩
/-- What Done leaves. -/
def Done (w w' : World) (g : Nat) (F : List Nat) (B E : List Int) (W T : Nat) (A : Option Addr) (k c : Nat) (l : List Int) : Prop :=
  DoneTo w w' g F B E W T (.slice A k c) l ∧ l.length = k ∧ k ≤ c ∧ c ≤ maxLen
theorem done_as (w : World) (g m k : Nat) (n : Int) (F : List Nat) (B E B' E' l : List Int) (W T W' T' : Nat) (h : QueA w g F B E W T) (hm : clamp n B.length = m) (hk : wh E (W + m : Nat) = k) (hB : B.drop m = B') (hE : E.drop k = E') (hW : W + m = W') (hT : T + k = T') (hl : upto T k = l) :
    Calls Try.prog 17 #[.pointer (some ⟨g, 0, none⟩), .int .i64 n] w fun e w' => ∃ A c, e = .returned (.slice A k c) ∧ Hid (Done w w' g F B' E' W' T' A k c l) := by
  have hd := done_any w g n F B E W T h
  rw [hm, hk, hB, hE, hW, hT, hl] at hd
  refine hd.mono ?_
  rintro e w' ⟨v, rfl, hd⟩
  obtain ⟨F', h1, h2, h3, h4, h5⟩ := hd.out
  obtain ⟨A, c, rfl, h6, h7⟩ := h4.slice
  have hlk : l.length = k := by rw [← hl, upto_length]
  rw [iv_length, hlk] at h4 h5 h6 ⊢
  exact ⟨A, c, rfl, Lib.hid ⟨⟨F', h1, h2, h3, h4, h5⟩, hlk, h6, h7⟩⟩
theorem add_as (w : World) (g : Nat) (F : List Nat) (B E B' E' : List Int) (W T : Nat) (A : Option Addr) (n c : Nat) (rs : List Rw) (x : Int) (h : QueA w g F B E W T) (hp : Parts w F A rs) (hn : n = rs.length) (hnl : n ≤ maxLen) (hB : B ++ flatR rs = B') (hE : E ++ [(W : Int) + (B'.length : Int)] = E') (hx : x = (T : Int) + (E'.length : Int)) (hl : W + B'.length ≤ 1000000000) (hE2 : T + E'.length ≤ 1000000000) :
    Calls Try.prog 12 #[.pointer (some ⟨g, 0, none⟩), .slice A n c] w fun e w' => e = .returned (.int .i64 x) ∧ Hid (QueTo w w' g F B' E' W T) := by
  subst hB
  have e1 : E'.length = E.length + 1 := by rw [← hE, List.length_append]; rfl
  have := add_any w g F B E W T A n c rs h hp hn hnl (by rw [List.length_append] at hl; omega) (by omega)
  rw [hE] at this
  refine this.mono ?_
  rintro e w' ⟨rfl, hd⟩
  exact ⟨ret_i64 (by omega), hd⟩
#print axioms done_as
end Go.Proofs.Ytgahnediigmihaa
