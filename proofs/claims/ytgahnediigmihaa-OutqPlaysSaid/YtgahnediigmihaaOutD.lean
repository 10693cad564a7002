/- What Drop, Done of the program's queue do. -/
import Derived.Test.YtgahnediigmihaaOutC
namespace Go.Proofs.Ytgahnediigmihaa
open Go.RowKit
set_option maxRecDepth 10000
set_option linter.unusedVariables false
set_option linter.unusedSimpArgs false

/-- What a call leaves. -/
def QueTo (w w' : World) (g : Nat) (F : List Nat) (B E : List Int) (W T : Nat) : Prop := ∃ F', QueA w' g F' B E W T ∧ Mods F w w' ∧ ∀ k ∈ F', k ∈ F ∨ w.heap.size ≤ k
theorem drop_any (w : World) (g : Nat) (F : List Nat) (B E : List Int) (W T : Nat) (h : QueA w g F B E W T) :
    Calls Try.prog 22 #[.pointer (some ⟨g, 0, none⟩)] w fun e w' => e = .returned (.int .i64 B.length) ∧ Hid (QueTo w w' g F [] [] W (T + E.length)) := by
  have HL := Lib.hid (qlen_any w g F B E W T h)
  obtain ⟨vd, td, ve, te, rfl, h⟩ := h
  obtain ⟨Ad, cd, Ae, ce, rfl, rfl, hb1, hb2, hb3, hb4⟩ := h.cells
  have c0 := h.row.cell 0
  have c1 := h.row.cell 1
  have c2 := h.row.cell 2
  have c3 := h.row.cell 3
  have f0 := h.row.free
  have hn := eql_qnil
  have HH := Lib.hid h
  clear h hb1 hb2 hb3 hb4
  go_enter Try.func22, Try.ntmps22
  go_wp2_with fail
  refine HL.out.mono ?_
  rintro e w' ⟨rfl, rfl⟩
  go_wp2
  go_ret
  refine ⟨rfl, Lib.hid ⟨[g], ⟨.slice none 0 0, 0, .slice none 0 0, 0, rfl, ?_, Own.nil _ _, Own.nil _ _, by simp, by simp, by simp, by have := HH.out.top; simp; omega, by have := HH.out.num; simp; omega⟩, ?_, by simp [foot]⟩⟩
  · have := (((HH.out.row.set 0 (.slice none 0 0)).set 1 (.int .i64 0)).set 2 (.slice none 0 0)).set 3 (.int .i64 0)
    simpa using this
  · exact ((((Mods.refl _ _).setCell (.inl (by simp [foot])) _).setCell (.inl (by simp [foot])) _).setCell (.inl (by simp [foot])) _).setCell (.inl (by simp [foot])) _
theorem drop_nil (w : World) : Calls Try.prog 22 #[.pointer none] w fun e w' => e = .returned (.int .i64 0) ∧ w = w' := by
  have hn := eql_qnil
  go_enter Try.func22, Try.ntmps22
  go_wp2
  go_ret
  exact ⟨rfl, rfl⟩
theorem done_nil (w : World) (n : Int) : Calls Try.prog 17 #[.pointer none, .int .i64 n] w fun e w' => e = .returned (.slice none 0 0) ∧ w = w' := by
  have hn := eql_qnil
  go_enter Try.func17, Try.ntmps17
  go_wp2
  go_ret
  exact ⟨rfl, rfl⟩
theorem next_nil (w : World) (n : Int) : Calls Try.prog 19 #[.pointer none, .int .i64 n] w fun e w' => e = .returned (.slice none 0 0) ∧ w = w' := by
  have hn := eql_qnil
  go_enter Try.func19, Try.ntmps19
  go_wp2
  go_ret
  exact ⟨rfl, rfl⟩
theorem add_nil (w : World) (v : Value) : Calls Try.prog 12 #[.pointer none, v] w fun e w' => e = .returned (.int .i64 0) ∧ w = w' := by
  have hn := eql_qnil
  go_enter Try.func12, Try.ntmps12
  go_wp2
  go_ret
  exact ⟨rfl, rfl⟩
section
variable {w w1 w2 w3 : World} {g td te W T m k : Nat} {vd ve : Value} {B E : List Int} {F : List Nat}
/-- Behind the taking of bytes. -/
theorem que_took (h : QueF w g vd td ve te B E W T) (hm : m ≤ B.length)
    (ht : Took w w1 g 0 53 #[vd, .int .i64 td, ve, .int .i64 te, .int .i64 W, .int .i64 ((T : Int) + (E.length : Int))] vd 5 (bv (B.drop m))) :
    ∃ (vd' : Value) (td' : Nat), Row w1 g 53 #[vd', .int .i64 td', ve, .int .i64 te, .int .i64 W, .int .i64 ((T : Int) + (E.length : Int))] ∧
      (∀ x : Int, x = (W : Int) + (m : Int) → QueF (w1.setCell ⟨g, 4, none⟩ (.int .i64 x)) g vd' td' ve te (B.drop m) E (W + m) T) ∧ Mods (foot g vd ve) w w1 ∧ ∀ b ∈ foot g vd' ve, b ∈ foot g vd ve ∨ w.heap.size ≤ b := by
  obtain ⟨v', d, hr, ho, hd, hmm, hb⟩ := ht
  have hr : Row w1 g 53 #[v', .int .i64 d, ve, .int .i64 te, .int .i64 W, .int .i64 ((T : Int) + (E.length : Int))] := by simpa using hr
  have hve : Own w1 3 ve (iv E) := h.ends.mods hmm fun b hb hb2 => by
    rcases List.mem_cons.1 hb2 with rfl | hb2
    · exact h.ends.ne_row h.row (by decide) _ hb rfl
    · exact h.ends.ne h.dat (by decide) b hb hb2
  refine ⟨v', d, hr, fun x hx => ?_, hmm.more (fun b hb => .inl ?_), fun b hb2 => ?_⟩
  · subst hx
    refine ⟨?_, ho.keep fun b hb => heap_setCell_other w1 ⟨g, 4, none⟩ b _ (ho.ne_row hr (by decide) b hb), hve.keep fun b hb => heap_setCell_other w1 ⟨g, 4, none⟩ b _ (hve.ne_row hr (by decide) b hb), by simpa [bv_length] using hd, h.te_, fun x hx => h.rng x (List.mem_of_mem_drop hx), by have := h.top; rw [List.length_drop]; omega, h.num⟩
    have := hr.set 4 (.int .i64 ((W : Int) + (m : Int)))
    simpa using this
  · simp only [foot, List.mem_cons, List.mem_append] at hb ⊢
    rcases hb with hb | hb
    · exact .inl hb
    · exact .inr (.inl hb)
  · simp only [foot, List.mem_cons, List.mem_append] at hb2 ⊢
    rcases hb2 with hb2 | hb2 | hb2
    · exact .inl (.inl hb2)
    · rcases hb b hb2 with h | h
      · exact .inl (.inr (.inl h))
      · exact .inr h
    · exact .inl (.inr (.inr hb2))
/-- Behind the taking of ends. -/
theorem que_took2 (h : QueF w g vd td ve te B E W T) (hk : k ≤ E.length)
    (ht : Took w w1 g 2 53 #[vd, .int .i64 td, ve, .int .i64 te, .int .i64 W, .int .i64 ((T : Int) + (E.length : Int))] ve 3 (iv (E.drop k))) :
    ∃ F', QueA w1 g F' B (E.drop k) W (T + k) ∧ Mods (g :: ve.ownBlock.toList) w w1 ∧ ∀ b ∈ F', b ∈ foot g vd ve ∨ w.heap.size ≤ b := by
  obtain ⟨v', d, hr, ho, hd, hmm, hb⟩ := ht
  have hr : Row w1 g 53 #[vd, .int .i64 td, v', .int .i64 d, .int .i64 W, .int .i64 ((T : Int) + (E.length : Int))] := by simpa using hr
  have hvd : Own w1 5 vd (bv B) := h.dat.mods hmm fun b hb hb2 => by
    rcases List.mem_cons.1 hb2 with rfl | hb2
    · exact h.dat.ne_row h.row (by decide) _ hb rfl
    · exact h.dat.ne h.ends (by decide) b hb hb2
  refine ⟨foot g vd v', ⟨vd, td, v', d, rfl, ?_, hvd, ho, h.td_, by simpa [iv_length] using hd, h.rng, h.top, by have := h.num; rw [List.length_drop]; omega⟩, hmm, fun b hb2 => ?_⟩
  · have e : (((T + k : Nat) : Int) + ((E.drop k).length : Int)) = (T : Int) + (E.length : Int) := by rw [List.length_drop]; omega
    rw [e]; exact hr
  · simp only [foot, List.mem_cons, List.mem_append] at hb2 ⊢
    rcases hb2 with hb2 | hb2 | hb2
    · exact .inl (.inl hb2)
    · exact .inl (.inr (.inl hb2))
    · rcases hb b hb2 with h | h
      · exact .inl (.inr (.inr h))
      · exact .inr h
end
/-- What Done leaves, and the numbers that it answers. -/
def DoneTo (w w' : World) (g : Nat) (F : List Nat) (B E : List Int) (W T : Nat) (v : Value) (l : List Int) : Prop :=
  ∃ F', QueA w' g F' B E W T ∧ Mods F w w' ∧ (∀ k ∈ F', k ∈ F ∨ w.heap.size ≤ k) ∧ Own w' 3 v (iv l) ∧ ∀ b ∈ v.ownBlock.toList, w.heap.size ≤ b ∧ b ∉ F'
set_option maxHeartbeats 1000000 in
theorem done_any (w : World) (g : Nat) (n : Int) (F : List Nat) (B E : List Int) (W T : Nat) (h : QueA w g F B E W T) :
    Calls Try.prog 17 #[.pointer (some ⟨g, 0, none⟩), .int .i64 n] w fun e w' => ∃ v, e = .returned v ∧
      Hid (DoneTo w w' g F (B.drop (clamp n B.length)) (E.drop (wh E (W + clamp n B.length : Nat))) (W + clamp n B.length) (T + wh E (W + clamp n B.length : Nat)) v (upto T (wh E (W + clamp n B.length : Nat)))) := by
  have HL := Lib.hid (qmost_any w g n F B E W T h)
  obtain ⟨m, hm⟩ : ∃ m, m = clamp n B.length := ⟨_, rfl⟩
  have hmb : m ≤ B.length := by rw [hm]; exact clamp_le _ _
  rw [← hm] at HL ⊢
  obtain ⟨k, hk⟩ : ∃ k, k = wh E ((W + m : Nat) : Int) := ⟨_, rfl⟩
  have hkE : k ≤ E.length := by rw [hk]; exact wh_le _ _
  rw [← hk]
  have HK := Lib.hid hk
  obtain ⟨vd, td, ve, te, rfl, h⟩ := h
  have hn := eql_qnil
  have HH := Lib.hid h
  have htop := h.top
  have hnum := h.num
  clear h hm hk
  go_enter Try.func17, Try.ntmps17
  go_wp2_with fail
  refine HL.out.mono ?_
  rintro e w' ⟨rfl, rfl⟩
  go_wp2_with fail
  refine (takeB_any w g 0 _ _ vd B m td HH.out.row rfl rfl HH.out.dat hmb HH.out.td_ (by omega) HH.out.rng (by decide)).mono ?_
  rintro e w1 ⟨rfl, hd⟩
  obtain ⟨vd1, td1, hr1, hq1, hm1, hb1⟩ := que_took HH.out hmb hd.out
  have HQ1 := Lib.hid hq1
  have HM1 := Lib.hid hm1
  have HB1 := Lib.hid hb1
  have c4 := hr1.cell 4
  have f4 := hr1.free 4
  have HG := Lib.hid hr1.lt
  clear hd hr1 hq1 hm1 hb1
  go_wp2_with fail
  obtain ⟨w2, hw2, HQ2, HM2⟩ : ∃ w2, w2 = w1.setCell ⟨g, 4, none⟩ (.int .i64 ((W : Int) + (m : Int))) ∧ Hid (QueF w2 g vd1 td1 ve te (B.drop m) E (W + m) T) ∧ Hid (Mods (foot g vd ve) w w2) :=
    ⟨_, rfl, Lib.hid (HQ1.out _ rfl), Lib.hid (HM1.out.setCell (.inl (by simp [foot])) _)⟩
  rw [← hw2]
  clear hw2 c4 f4 HQ1
  refine (whole_any w2 g _ _ _ _ _ ⟨_, _, _, _, rfl, HQ2.out⟩).mono ?_
  rw [← HK.out]
  rintro e w3 ⟨rfl, q, rfl⟩
  go_wp2_with fail
  refine (untold_any (w2.drewN q) g _ _ _ _ _ k (QueA.keep (w := w2) ⟨_, _, _, _, rfl, HQ2.out⟩ fun _ _ => rfl) hkE).mono ?_
  rintro e w4 ⟨v, rfl, hd⟩
  have HF := Lib.hid hd.out
  obtain ⟨Av, cv, rfl, -, -⟩ := hd.out.1.slice
  rw [iv_length, upto_length] at HF ⊢
  have hmq : Mods [] w2 w4 := of_drewN (hd.out.2.1)
  have HQ4 := Lib.hid (HQ2.out.keep (w' := w4) fun b hb => hmq.block b (HQ2.out.lt b hb) (by simp))
  have HMQ := Lib.hid hmq
  clear hd hmq
  go_wp2_with fail
  refine (takeI_any w4 g 2 _ _ ve E k te HQ4.out.row rfl rfl HQ4.out.ends hkE HQ4.out.te_ (by omega) (by decide)).mono ?_
  rintro e w5 ⟨rfl, hd⟩
  have HD := Lib.hid (que_took2 HQ4.out hkE hd.out)
  clear hd
  go_wp2
  go_ret
  obtain ⟨F', h1, h2, h3⟩ := HD.out
  have hsz := HM2.out.size
  have hsz2 := HMQ.out.size
  have hnv : ∀ b ∈ (Value.slice Av k cv).ownBlock.toList, w2.heap.size ≤ b := fun b hb => HF.out.2.2 b hb
  have hnv2 := fun b hb => HF.out.1.lt b hb
  have hlt := HQ2.out.lt
  refine ⟨_, rfl, Lib.hid ⟨F', h1, ((HM2.out.trans HMQ.out (by simp)).trans h2 (fun b hb => .inl ?_)), fun b hb => ?_, HF.out.1.mods h2 (fun b hb hb2 => ?_), fun b hb => ⟨by have := hnv b hb; omega, fun hb2 => ?_⟩⟩⟩
  · simp only [foot, List.mem_cons, List.mem_append] at hb ⊢
    rcases hb with hb | hb
    · exact .inl hb
    · exact .inr (.inr hb)
  · rcases h3 b hb with h | h
    · exact HB1.out b h
    · right; omega
  · have := hnv b hb
    have := hlt b (by
      simp only [foot, List.mem_cons, List.mem_append] at hb2 ⊢
      rcases hb2 with hb2 | hb2
      · exact .inl hb2
      · exact .inr (.inr hb2))
    omega
  · have h4 := hnv b hb
    have h5 := hnv2 b hb
    rcases h3 b hb2 with h | h
    · have := hlt b h; omega
    · omega
end Go.Proofs.Ytgahnediigmihaa
