/- What the laws' own ints and known answer; the wheel as a law holds it. -/
import Derived.Test.YtgfmjkbelciaaaaDoorWhC2
import Derived.Test.YtgfmjkbelciaaaaDoorTz2
namespace Go.Proofs.YtgfmjkbelciaaaaDoor
open Go.RowKit
set_option maxRecDepth 10000
set_option linter.unusedVariables false
set_option linter.unusedSimpArgs false
set_option linter.unnecessarySimpa false

theorem iv_get (l : List Int) (i : Nat) (h : i < l.length) : (iv l)[i]? = some (.int .i64 (l[i]'h)) := by
  unfold iv
  rw [List.getElem?_map, List.getElem?_eq_getElem h]; rfl
/-- Two rows of numbers. -/
theorem ints_no (w : World) (A B : Option Addr) (n m c d : Nat) (h : n ≠ m) :
    Calls Tryd.prog 20 #[.slice A n c, .slice B m d] w fun e w' => e = .returned (.bool false) ∧ ∃ k, w' = w.drewN k := by
  have h' : ((n : Int) == (m : Int)) = false := by simp; omega
  go_enter Tryd.func20, Tryd.ntmps20
  go_wp2
  go_ret
  exact ⟨rfl, 0, rfl⟩
theorem ints_yes (w : World) (A B : Option Addr) (n m c d : Nat) (l : List Int) (hn : n = l.length) (hm : m = l.length) (hl : l.length ≤ 1000000) (hA : Src w A (iv l)) (hB : Src w B (iv l)) :
    Calls Tryd.prog 20 #[.slice A n c, .slice B m d] w fun e w' => e = .returned (.bool true) ∧ ∃ k, w' = w.drewN k := by
  subst hn
  subst hm
  have h' : (((l.length : Nat) : Int) == ((l.length : Nat) : Int)) = true := by simp
  have HA := Lib.hid hA
  have HB := Lib.hid hB
  obtain ⟨n, hn⟩ : ∃ n, l.length = n := ⟨_, rfl⟩
  have HN := Lib.hid hn
  rw [hn] at h' hl ⊢
  clear hA hB hn
  go_enter Tryd.func20, Tryd.ntmps20
  go_wp2
  go_loopw [5] (fun v wr => ∃ i : Nat, v = .int .i64 (i : Int) ∧ i ≤ n ∧ Hid (∃ k, wr = w.drewN k)) (fun v _ => n - (intOf v).toNat)
  case atStart => exact ⟨0, rfl, by omega, Lib.hid ⟨0, rfl⟩⟩
  case round =>
    obtain ⟨i, rfl, hi, hr⟩ := hrel
    by_cases hlt : i < n
    · have q1 : (i : Int) < (n : Int) := by omega
      have hg := iv_get l i (by rw [HN.out]; exact hlt)
      obtain ⟨a, o, rfl, c1⟩ := HA.out i _ hg
      obtain ⟨b, p, rfl, c2⟩ := HB.out i _ hg
      have d1 : wr.cell? ⟨a, o + i, none⟩ = some (.int .i64 (l[i]'(by rw [HN.out]; exact hlt))) := by
        obtain ⟨k, e⟩ := hr.out
        rw [e]; exact c1
      have d2 : wr.cell? ⟨b, p + i, none⟩ = some (.int .i64 (l[i]'(by rw [HN.out]; exact hlt))) := by
        obtain ⟨k, e⟩ := hr.out
        rw [e]; exact c2
      generalize l[i]'(by rw [HN.out]; exact hlt) = z at *
      clear hg c1 c2
      have hz : (z == z) = true := by simp
      go_wp2
      go_region
      all_goals go_wp2
      all_goals go_roundw
      case rel => exact ⟨i + 1, by go_num, by omega, Lib.hid (by
        obtain ⟨k, e⟩ := hr.out
        exact ⟨k + 1, by rw [e]; rfl⟩)⟩
      case measure => simp [intOf]; omega
    · have q1 : ¬ (i : Int) < (n : Int) := by omega
      have HR := hr
      clear hr
      go_wp2
      go_ret
      exact ⟨rfl, HR.out⟩
/-- A block of another kind is none of the wheel's. -/
theorem WheelA.far {w : World} {g K now k : Nat} {F : List Nat} {S : Slb} {M : List Tm} {t : TypeId} {cs : Array Value} (h : WheelA w g F S K now M) (r : Row w k t cs) (h1 : t ≠ 74) (h2 : t ≠ 94) (h3 : t ≠ 99) (h4 : t ≠ 69) (h5 : t ≠ 79) : k ∉ F := by
  obtain ⟨hg, tv, hF, ps, rfl, h⟩ := h
  intro hk
  simp only [blks, List.mem_cons, List.mem_append] at hk
  rcases hk with e | hk | hk | hk
  · obtain ⟨c, rg⟩ := h.base.row
    exact Row.type_ne r rg h1 e
  · obtain ⟨t', c, r2, ht⟩ := slabA_kinds h.slab k hk
    exact Row.type_ne r r2 (by rcases ht with rfl | rfl <;> assumption) rfl
  · exact h.own.ne_row r (Ne.symm h4) k hk rfl
  · obtain ⟨m, hm, e⟩ := List.mem_map.1 hk
    obtain ⟨x, y, r2⟩ := h.node m hm
    exact Row.type_ne r r2 h5 e.symm
theorem WheelA.far_hand {w : World} {g K now k : Nat} {F : List Nat} {S : Slb} {M : List Tm} {cs : Array Value} (h : WheelA w g F S K now M) (r : Row w k 32 cs) : k ∉ F := h.far r (by decide) (by decide) (by decide) (by decide) (by decide)
theorem WheelA.far_ints {w : World} {g K now : Nat} {F : List Nat} {S : Slb} {M : List Tm} {v : Value} {l : List Value} (h : WheelA w g F S K now M) (r : Own w 3 v l) : ∀ k ∈ v.ownBlock.toList, k ∉ F := by
  rcases r with ⟨rfl, _⟩ | ⟨b, off, cap, cur, rfl, hh, _⟩
  · intro k hk; simp [Value.ownBlock] at hk
  · intro k hk
    have : k = b := by simpa [Value.ownBlock, eq_comm] using hk
    subst this
    exact h.far (show Row w k 3 cur from hh) (by decide) (by decide) (by decide) (by decide) (by decide)
theorem tz_fresh' {w : World} (h : TzTab w) {F : List Nat} (hF : ∀ k ∈ F, w.heap.size ≤ k) : 0 ∉ F := fun hk => by have := hF _ hk; have := h.lt; omega
/-- The wheel as a law holds it: all its blocks are new to w0. -/
structure Held (w0 w : World) (g : Nat) (F : List Nat) (S : Slb) (K now : Nat) (M : List Tm) : Prop where
  wh : WheelA w g F S K now M
  new : ∀ k ∈ F, w0.heap.size ≤ k
  mods : Mods [] w0 w
section
variable {w0 w w' : World} {g : Nat} {F F' : List Nat} {S S' : Slb} {K K' now now' : Nat} {M M' : List Tm}
theorem Held.step (h : Held w0 w g F S K now M) (hm : Mods [] w w') : Held w0 w' g F S K now M := ⟨h.wh.mods0 hm, h.new, h.mods.trans hm (by simp)⟩
theorem Held.turn (h : Held w0 w g F S K now M) (h1 : WheelA w' g F' S' K' now' M') (h2 : ∀ k ∈ F', k ∈ F ∨ w.heap.size ≤ k) (h3 : Mods F w w') : Held w0 w' g F' S' K' now' M' :=
  ⟨h1, fun k hk => by
    rcases h2 k hk with h | h'
    · exact Held.new ‹_› k h
    · have := h.mods.size; omega, h.mods.trans h3 (fun k hk => .inr (h.new k hk))⟩
theorem Held.tz (h : Held w0 w g F S K now M) (ht : TzTab w0) : TzTab w := ht.mods h.mods (by simp)
end
end Go.Proofs.YtgfmjkbelciaaaaDoor

/- What the laws' own known answers. -/
namespace Go.Proofs.YtgfmjkbelciaaaaDoor
open Go.RowKit
set_option maxRecDepth 100000
set_option linter.unusedVariables false
set_option linter.unusedSimpArgs false
set_option linter.unnecessarySimpa false

section
variable {w0 : World}
theorem new_as (w : World) (now : Nat) (hm : Mods [] w0 w) (h : now ≤ 1099511627776) : Calls Tryd.prog 10 #[.int .i64 (now : Int)] w fun e w' =>
    ∃ g, e = .returned (.tuple #[.pointer (some ⟨g, 0, none⟩), .int .i64 0]) ∧ Hid (∃ F, Held w0 w' g F (Slb.new 4096) 0 now [] ∧ Mods [] w w' ∧ ∀ k ∈ F, w.heap.size ≤ k) :=
  (wnew_any now w h).mono fun e w' ⟨g, he, hf⟩ => ⟨g, he, Lib.hid (by
    obtain ⟨F, h1, h2, h3⟩ := hf.out
    exact ⟨F, ⟨h1, fun k hk => by have := h2 k hk; have := hm.size; omega, hm.trans h3 (by simp)⟩, h3, h2⟩)⟩
theorem add_as (w : World) (g a : Nat) (v : Int) (F : List Nat) (S : Slb) (K now : Nat) (M : List Tm) (ls ge : Int) (h : Held w0 w g F S K now M) (hT : TzTab w0) (ha : a ≤ 1099511627776) (hc : S.cnt < 4096) (hK : K ≤ 4000000000000) (h1 : (S.least : Int) = ls) (h2 : (S.gen : Int) = ge) :
    Calls Tryd.prog 14 #[ptr g, .int .i64 (a : Int), .int .i64 v] w fun e w' => e = .returned (.tuple #[.agg #[.int .i64 ls, .int .i64 ge], .int .i64 0]) ∧ Hid (∃ F' b, Held w0 w' g F' (S.put v) (K + 1) now (M ++ [⟨b, S.least, S.gen, a⟩]) ∧ Mods F w w') := by
  subst h1 h2
  exact (wadd_any w g a v F S K now M h.wh (h.tz hT) ha (by rw [h.wh.ok.lim]; exact hc) hK).mono fun e w' ⟨he, hf⟩ => ⟨he, Lib.hid (by
    obtain ⟨F', b, q1, q2, q3⟩ := hf.out
    exact ⟨F', b, h.turn q1 q3 q2, q2⟩)⟩
theorem adv_as (w : World) (g : Nat) (F : List Nat) (S : Slb) (K now t : Nat) (n : Int) (M : List Tm) (h : Held w0 w g F S K now M) (hK : K ≤ 4000000000000) (ht : min (max n (now : Int)) 1099511627776 = (t : Int)) :
    Calls Tryd.prog 21 #[ptr g, .int .i64 n] w fun e w' => ∃ v, e = .returned v ∧ Hid (∃ F', Held w0 w' g F' (takeL S (fireT t M)) K t (leftT t M) ∧ Own w' 3 v (iv (whatT S (fireT t M))) ∧ Mods F w w' ∧ ∀ b ∈ v.ownBlock.toList, w.heap.size ≤ b) :=
  (adv_any w g F S K now t n M h.wh hK ht).mono fun e w' ⟨v, he, hf⟩ => ⟨v, he, Lib.hid (by
    obtain ⟨h1, h2, h3, F', h4, h5⟩ := hf.out
    exact ⟨F', h.turn h5 (fun k hk => .inl (h4 k hk)) h3, h1, h3, h2⟩)⟩
end
theorem where_as {w0 : World} (w : World) (g : Nat) (F : List Nat) (S : Slb) (K now : Nat) (M : List Tm) (m : Tm) (s gn x y : Int) (h : Held w0 w g F S K now M) (hm : m ∈ M) (h1 : (m.s : Int) = s) (h2 : (m.g : Int) = gn) (h3 : ((plc now m.a / 64 : Nat) : Int) = x) (h4 : ((plc now m.a % 64 : Nat) : Int) = y) :
    Calls Tryd.prog 27 #[ptr g, .agg #[.int .i64 s, .int .i64 gn]] w fun e w' => e = .returned (.tuple #[.int .i64 x, .int .i64 y, .int .i64 0]) ∧ Mods [] w w' := by
  subst h1 h2 h3 h4
  exact where_yes w g F S K now M m h.wh hm
/-- A row of numbers of known length. -/
theorem own_nums {w : World} {v : Value} {l : List Int} {n : Nat} (h : Own w 3 v (iv l)) (hn : n = l.length) : ∃ A c, v = .slice A n c ∧ n ≤ c ∧ Src w A (iv l) := by
  subst hn
  obtain ⟨A, c, rfl, h1, _⟩ := h.slice
  rw [iv_len] at h1
  exact ⟨A, c, by rw [iv_len], h1, h.src⟩
theorem k_least : (Slb.new 4096).least = 0 := by rfl
theorem k_gen : (Slb.new 4096).gen = 1 := by rfl
theorem k_what : ((Slb.new 4096).put 7).vs.getD 0 0 = 7 := by rfl
set_option maxHeartbeats 1000000 in
theorem known_any (w : World) (hT : TzTab w) : Calls Tryd.prog 12 #[] w fun e w' => e = .returned (.bool true) ∧ Mods [] w w' := by
  have HT := Lib.hid hT
  have he := eql_whl
  clear hT
  go_enter Tryd.func12, Tryd.ntmps12
  go_wp2_with fail
  refine (new_as w 0 (Mods.refl [] w) (by omega)).mono ?_
  rintro e w1 ⟨g, rfl, hf⟩
  obtain ⟨F1, h1, m1, n1⟩ := hf.out
  have H1 := Lib.hid h1
  clear hf h1 m1 n1
  go_wp2_with fail
  refine (add_as w1 g 64 7 F1 _ 0 0 [] 0 1 H1.out HT.out (by omega) (by decide) (by omega) (by rw [k_least]; rfl) (by rw [k_gen]; rfl)).mono ?_
  rintro e w2 ⟨rfl, hf⟩
  obtain ⟨F2, b, h2, m2⟩ := hf.out
  rw [k_least, k_gen, List.nil_append] at h2
  have H2 := Lib.hid h2
  clear hf h2 m2
  go_wp2_with fail
  refine (where_as (w0 := w) (w2.alloc _) g F2 _ _ 0 _ ⟨b, 0, 1, 64⟩ 0 1 1 1 (H2.out.step ((Mods.refl [] w2).alloc _)) (by simp) rfl rfl (show ((plc 0 64 / 64 : Nat) : Int) = 1 by decide) (show ((plc 0 64 % 64 : Nat) : Int) = 1 by decide)).mono ?_
  rintro e w3 ⟨rfl, hd⟩
  have H3 := Lib.hid (H2.out.step (((Mods.refl [] w2).alloc _).trans hd (by simp)))
  clear hd
  go_wp2_with fail
  refine (adv_as w3 g F2 _ _ 0 63 63 _ H3.out (by omega) (by decide)).mono ?_
  rintro e w4 ⟨v8, rfl, hf⟩
  obtain ⟨F4, h4, o4, m4, n4⟩ := hf.out
  rw [show fireT 63 [(⟨b, 0, 1, 64⟩ : Tm)] = [] from rfl] at h4 o4
  rw [show leftT 63 [(⟨b, 0, 1, 64⟩ : Tm)] = [⟨b, 0, 1, 64⟩] from rfl] at h4
  obtain ⟨A8, c8, rfl, hc8, _⟩ := own_nums (n := 0) o4 rfl
  have H4 := Lib.hid h4
  clear hf h4 o4 m4 n4
  go_wp2_with fail
  refine (adv_as w4 g F4 _ _ 63 64 64 _ H4.out (by omega) (by decide)).mono ?_
  rintro e w5 ⟨v9, rfl, hf⟩
  obtain ⟨F5, h5, o5, m5, n5⟩ := hf.out
  rw [show fireT 64 [(⟨b, 0, 1, 64⟩ : Tm)] = [⟨b, 0, 1, 64⟩] from rfl] at h5 o5
  rw [show leftT 64 [(⟨b, 0, 1, 64⟩ : Tm)] = [] from rfl] at h5
  have e5 : whatT (takeL ((Slb.new 4096).put 7) []) [(⟨b, 0, 1, 64⟩ : Tm)] = [7] := by rfl
  rw [e5] at o5
  obtain ⟨A9, c9, rfl, hc9, s9⟩ := own_nums (n := 1) o5 rfl
  have H5 := Lib.hid h5
  have S9 := Lib.hid s9
  clear hf h5 o5 m5 n5 s9
  have HL := Lib.hid (fun W (hW : Mods [] w5 W) => wlen_any W g F5 _ _ 64 [] (H5.out.wh.mods0 hW))
  go_wp2_with fail
  refine (ints_yes (w5.alloc _) A9 (some ⟨w5.heap.size, 0, none⟩) 1 1 c9 1 [7] rfl rfl (by decide) (fun j u hu => by
    obtain ⟨b', o', e', hc⟩ := S9.out j u hu
    exact ⟨b', o', e', cell_alloc hc _⟩) (Src.one _ _ _)).mono ?_
  rintro e w6 ⟨rfl, k6, rfl⟩
  go_wp2_with fail
  refine (HL.out _ (((Mods.refl [] w5).alloc _).drewN k6)).mono ?_
  rintro e w7 ⟨rfl, rfl⟩
  go_wp2
  go_ret
  exact ⟨rfl, H5.out.mods.trans (((Mods.refl [] w5).alloc _).drewN k6) (by simp)⟩
end Go.Proofs.YtgfmjkbelciaaaaDoor
