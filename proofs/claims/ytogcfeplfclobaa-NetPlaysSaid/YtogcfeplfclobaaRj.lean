/- What Read of the reference's net does. -/
import Derived.Test.YtogcfeplfclobaaRd
namespace Go.Proofs.Ytogcfeplfclobaa
open Go.RowKit
set_option maxRecDepth 10000
set_option linter.unusedVariables false
set_option linter.unusedSimpArgs false

/-- v is a slice of these bytes. -/
def BytesIn (w : World) (v : Value) (l : List Int) : Prop := ∃ A n cp, v = .slice A n cp ∧ n = l.length ∧ At w [] A l
theorem BytesIn.nil (w : World) : BytesIn w (.slice none 0 0) [] := ⟨none, 0, 0, rfl, rfl, At.nil _ _ _⟩
theorem own_lit0 (w : World) : Own (w.alloc (.cells #[] 5)) 5 (.slice (some ⟨w.heap.size, 0, none⟩) 0 0) [] := Own.of_row (World.ownsRow_lit w #[] 0 (Nat.zero_le _) (by unfold maxLen; omega) rfl)
/-- v is a new slice of these bytes. -/
def FreshV (w w' : World) (v : Value) (l : List Int) : Prop := Own w' 5 v (bv l) ∧ Mods [] w w' ∧ ∀ k ∈ v.ownBlock.toList, w.heap.size ≤ k
theorem FreshV.app {w w8 : World} {v8 : Value} {l : List Int} {t : TypeId} (ho : Own w8 5 v8 ([] ++ bv l)) (hm : Mods (Value.slice (some ⟨w.heap.size, 0, none⟩) 0 0).ownBlock.toList (w.alloc (.cells #[] t)) w8 ∧ (v8.ownBlock = (Value.slice (some ⟨w.heap.size, 0, none⟩) 0 0).ownBlock ∨ v8.ownBlock = some (w.alloc (.cells #[] t)).heap.size)) : FreshV w w8 v8 l := by
  refine ⟨ho, ((Mods.refl [] w).alloc _).trans hm.1 (fun k hk => .inr (by simp [Value.ownBlock] at hk; omega)), fun k hk => ?_⟩
  rcases hm.2 with e | e
  · rw [e] at hk; simp [Value.ownBlock] at hk; omega
  · rw [e] at hk; simp at hk; omega
/-- The row of what is left is another one. -/
theorem rread_mid {w w2 w4 : World} {x : Cb} {r : Rn} {v2 v4 : Value} {l2 l4 : List Int} (h : CnA KR w x r) (h2 : FreshV w w2 v2 l2) (h4 : FreshV w2 w4 v4 l4) (hr : ∀ y ∈ l4, 0 ≤ y ∧ y ≤ 255) :
    CnA KR (w4.setCell ⟨x.b, 7, none⟩ v4) (x.set 0 v4) { r with c := r.c.setI l4, inn := l4 } ∧ Mods x.ft w (w4.setCell ⟨x.b, 7, none⟩ v4) ∧ ∀ k ∈ (x.set 0 v4).ft, k ∈ x.ft ∨ w.heap.size ≤ k := by
  have hm := h2.2.1.trans h4.2.1 (by simp)
  have hv : ∀ k ∈ v4.ownBlock.toList, k ∈ (x.v 0).ownBlock.toList ∨ w.heap.size ≤ k := fun k hk => .inr (Nat.le_trans h2.2.1.size (h4.2.2 k hk))
  refine ⟨h.swap 0 7 v4 (hm.more (by simp)) h4.1 hv rfl ?_ hr, (hm.more (by simp)).setCell (.inl ((x.mem_ft _).2 (.inl rfl))) _, Cb.set_ft x 0 v4 hv⟩
  intro j hj
  match j, hj with
  | 1, _ => rfl
  | 2, _ => rfl
set_option maxHeartbeats 1000000 in
theorem rread_any (w : World) (g m : Nat) (F : List Nat) (S : Nt) (c k0 : Int) (h : RefA w g F S m) (hm : m + 1024 ≤ 900000000) :
    Calls Try.prog 44 #[.pointer (some ⟨g, 0, none⟩), .int .i64 c, .int .i64 k0] w fun e w' =>
      ∃ v, e = .returned (.tuple #[v, .int .i64 (S.readE c k0)]) ∧ Hid (RefTo w w' g F (S.read c k0) (m + 1024) ∧ BytesIn w' v (S.readB c k0)) := by
  have hN := RefTo.same (h.more (n := m + 1024) (by omega) hm) (Mods.refl [] w)
  have HN0 := Lib.hid (And.intro hN (BytesIn.nil w))
  have bad : S.readE c k0 ≠ 0 → S.readB c k0 = [] ∧ S.read c k0 = S := fun this => ⟨by unfold Nt.readB; rw [if_neg this], by unfold Nt.read; rw [if_neg this]⟩
  clear hN
  by_cases h1 : k0 < 1
  · have he : S.readE c k0 = 1 := by unfold Nt.readE; rw [if_pos h1]
    rw [(bad (by rw [he]; decide)).1, (bad (by rw [he]; decide)).2, he]
    clear h bad he
    go_enter Try.func44, Try.ntmps44
    go_wp2
    go_ret2
    exact ⟨_, rfl, HN0⟩
  by_cases he : S.e2 c = 0
  · have hE : S.readE c k0 = if (S.get c).inn.length = 0 then (if (S.get c).hlv then 0 else 4) else 0 := by unfold Nt.readE; rw [if_neg h1, if_pos he]
    obtain ⟨i, s, rfl, hs, hi, hg, hb, ho, hfi⟩ := Nt.e2_zero he
    rw [hg] at hE
    obtain ⟨vl, vn, X, R, rfl, h⟩ := h
    obtain ⟨x, r, hx, hr, rfl, hc, ha⟩ := h.at_ hs
    have HT := Lib.hid (rours_at w g m i vl vn X R S x r h hx hr hb ho hfi)
    have hin : r.inn = r.c.inn := ha.inn (by rw [ho]; simp)
    have c3 := hc.row.cell 5
    have c5 := hc.row.cell 7
    simp only [KR] at c3 c5
    obtain ⟨Av, cv, hv, hv1, hv2⟩ := (hc.own 0).slice
    rw [bv_length] at hv hv1
    change x.v 0 = .slice Av r.inn.length cv at hv
    change r.inn.length ≤ cv at hv1
    rw [hin] at hv hv1
    by_cases h0 : r.c.inn.length = 0
    · replace c5 : w.cell? ⟨x.b, 7, none⟩ = some (.slice Av 0 cv) := by rw [← h0, ← hv]; exact c5
      rw [if_pos h0] at hE
      cases hh : r.c.hlv with
      | false =>
        rw [hh] at hE c3
        have he4 : S.readE i k0 = 4 := hE
        rw [(bad (by rw [he4]; decide)).1, (bad (by rw [he4]; decide)).2, he4]
        clear h bad hE he4 hs hg hb ho hc hx he hh hv hv1 hv2 h0 hr ha hin
        go_enter Try.func44, Try.ntmps44
        go_wp2_with fail
        refine HT.out.mono ?_
        rintro e w' ⟨rfl, rfl⟩
        go_wp2
        go_ret2
        exact ⟨_, rfl, HN0⟩
      | true =>
        rw [hh] at hE c3
        have he0 : S.readE i k0 = 0 := hE
        have hnil : r.c.inn = [] := List.eq_nil_of_length_eq_zero h0
        rw [show S.readB i k0 = [] by unfold Nt.readB; rw [if_pos he0, hg, hnil]; simp, show S.read i k0 = S by
          unfold Nt.read; rw [if_pos he0, hg, Cn.read_nil r.c k0 hnil]; exact upd_same hs, he0]
        clear h bad hE he0 hs hg hb ho hc hx he hh hv hv1 hv2 h0 hnil hr ha hin
        go_enter Try.func44, Try.ntmps44
        go_wp2_with fail
        refine HT.out.mono ?_
        rintro e w' ⟨rfl, rfl⟩
        go_wp2
        go_ret2
        exact ⟨_, rfl, HN0⟩
    · rw [if_neg h0] at hE
      have he0 : S.readE i k0 = 0 := hE
      have hf := h.ok.at_ hs
      obtain ⟨k, hk⟩ : ∃ k, k = min k0.toNat r.c.inn.length := ⟨_, rfl⟩
      have htk : r.c.inn.take k0.toNat = r.c.inn.take k := by
        rw [hk]
        by_cases h2 : k0.toNat ≤ r.c.inn.length
        · rw [Nat.min_eq_left h2]
        · rw [Nat.min_eq_right (by omega), List.take_of_length_le (by omega), List.take_of_length_le (Nat.le_refl _)]
      have hdr : r.c.inn.drop k0.toNat = r.c.inn.drop k := by
        rw [hk]
        by_cases h2 : k0.toNat ≤ r.c.inn.length
        · rw [Nat.min_eq_left h2]
        · rw [Nat.min_eq_right (by omega), List.drop_of_length_le (by omega), List.drop_of_length_le (Nat.le_refl _)]
      have hrd : r.c.read k0 = { r.c.setI (r.c.inn.drop k) with tak := r.c.tak ++ r.c.inn.take k } := by unfold Cn.read Cn.setI; rw [htk, hdr]
      rw [show S.readB i k0 = r.c.inn.take k by unfold Nt.readB; rw [if_pos he0, hg, htk], show S.read i k0 = S.upd i { r.c.setI (r.c.inn.drop k) with tak := r.c.tak ++ r.c.inn.take k } by unfold Nt.read; rw [if_pos he0, hg, hrd], he0]
      have htl : (r.c.inn.take k).length = k := by rw [List.length_take]; omega
      have HTL := Lib.hid htl
      have hdl : (r.c.inn.drop k).length ≤ 1024 := by rw [List.length_drop]; omega
      have HN := Lib.hid (fun (w' : World) (hq : CnTo KR w w' x { r with c := { r.c.setI (r.c.inn.drop k) with tak := r.c.tak ++ r.c.inn.take k }, inn := r.c.inn.drop k }) => h.toC hx hr hq (ha.same rfl rfl rfl (.inl rfl) (fun _ => rfl)) (h.ok.upd (n := m + 1024) (by omega) hm (by simp only [Cn.setI, List.length_append, htl]; omega) fun hq => h.ok.op i _ hs hq))
      obtain ⟨Aq, ct, hvt, hvt1, hvt2⟩ := (hc.own 1).slice
      rw [bv_length] at hvt hvt1
      change x.v 1 = .slice Aq r.c.tak.length ct at hvt
      have c9 := hc.row.cell 9
      simp only [KR] at c9
      replace c9 : w.cell? ⟨x.b, 9, none⟩ = some (.slice Aq r.c.tak.length ct) := by rw [← hvt]; exact c9
      replace c5 : w.cell? ⟨x.b, 7, none⟩ = some (.slice Av r.c.inn.length cv) := by rw [← hv]; exact c5
      have f0 := hc.row.free
      have HC := Lib.hid hc
      have HV := Lib.hid hv
      have HVT := Lib.hid hvt
      have hown : Own w 5 (.slice Av r.c.inn.length cv) (bv r.c.inn) := by rw [← hv, ← hin]; exact hc.own 0
      have HSR := Lib.hid (show Src w Av (bv (r.c.inn.take k)) by rw [← bv_take]; exact hown.cutTo k)
      have k1 : k ≤ r.c.inn.length := by omega
      obtain ⟨B, hB⟩ : ∃ B, B = (if cv = k then Av else Option.map (fun x => x.add k) Av) := ⟨_, rfl⟩
      have HSR2 := Lib.hid (show Src w B (bv (r.c.inn.drop k)) by
        rw [hB, ← bv_drop]
        exact (hown.cut k k1).src)
      have hoff := hB.symm
      have HR := Lib.hid (fun y hy => by rw [← hin] at hy; exact hc.rng 0 y hy : ∀ y ∈ r.c.inn, 0 ≤ y ∧ y ≤ 255)
      unfold maxLen at hv2
      have k2 : (k : Int) ≤ (cv : Int) := by omega
      have k3 : (0 : Int) ≤ (k : Int) := by omega
      have hmn : ∀ p q : Int, p = k0 → q = (r.c.inn.length : Int) → (if q < p then q else p) = (k : Int) := by
        intro p q h2 h3; subst h2 h3; split <;> omega
      have hmn := hmn _ _ rfl rfl
      obtain ⟨i0, hi0, hz, hsz, hby⟩ := info_parts u8_info3
      have HI := Lib.hid (And.intro hi0 (And.intro hz (And.intro hsz (show i0.bytes ≤ 8 by omega))))
      have hil : r.c.inn.length ≤ 1024 := by omega
      have HTB := Lib.hid (show r.c.tak.length ≤ 900000000 by omega)
      have HDL := Lib.hid (show (r.c.inn.drop k).length = r.c.inn.length - k from List.length_drop)
      have h0d : decide ((r.c.inn.length : Int) = 0) = false := decide_eq_false (by omega)
      have z5 := fun o => cell_alloc c5 o
      clear h bad hE he0 hs hg hb ho hc hx he hv hv1 hvt hvt1 hvt2 htk hdr hrd htl hdl hk hf hi0 hz hsz hby HN0 hfi hi hr ha hin hown hB
      go_enter Try.func44, Try.ntmps44
      go_wp2_with fail
      refine HT.out.mono ?_
      rintro e w' ⟨rfl, rfl⟩
      go_wp2_with (first
        | (at_builtin; refine wpList_append_own2 _ rfl (.tmp 40) (.tmp 46) 33 rfl 5 i0 (.int .u8 0) Try.underlying33 HI.out.1 HI.out.2.1 HI.out.2.2.1 HI.out.2.2.2 rfl (.slice (some ⟨w.heap.size, 0, none⟩) 0 0) [] rfl (own_lit0 w) Av k cv (bv (r.c.inn.take k)) rfl (by rw [bv_length]; exact HTL.out.symm) (HSR.out.mods ((Mods.refl [] w).alloc _) (by simp)) (bv_one _) (by simp; omega) ?_; intro v2 w2 HO2 HM2; have HF2 := Lib.hid (FreshV.app HO2.out HM2.out); obtain ⟨A2, n2, p2, rfl, hn2, -, -⟩ := HO2.out.slice'; have HN2 := Lib.hid (show n2 = k by rw [hn2, List.nil_append, bv_length, HTL.out]); clear hn2; have y5 := cell_mods c5 HF2.out.2.1 (by simp); have y9 := cell_mods c9 HF2.out.2.1 (by simp); have yz := fun o => cell_alloc y5 o; have HS2 := Lib.hid (HSR2.out.mods (HF2.out.2.1.alloc (.cells #[] 5)) (by simp)))
        | (at_builtin; refine wpList_append_own2 _ rfl (.tmp 49) (.tmp 55) 33 rfl 5 i0 (.int .u8 0) Try.underlying33 HI.out.1 HI.out.2.1 HI.out.2.2.1 HI.out.2.2.2 rfl (.slice (some ⟨w2.heap.size, 0, none⟩) 0 0) [] rfl (own_lit0 w2) B (r.c.inn.length - k) (cv - k) (bv (r.c.inn.drop k)) rfl (by rw [bv_length]; exact HDL.out.symm) HS2.out (bv_one _) (by simp; omega) ?_; intro v4 w4 HO4 HM4; have HF4 := Lib.hid (FreshV.app HO4.out HM4.out); obtain ⟨A4, n4, p4, rfl, -, -, -⟩ := HO4.out.slice'; have x5 := cell_mods y5 HF4.out.2.1 (by simp); have x9 := cell_mods y9 HF4.out.2.1 (by simp); have fz : ∀ j, w4.frozen? ⟨x.b, j, none⟩ = false := (fun j => ((HF2.out.2.1.trans HF4.out.2.1 (by simp)).frozen (p := ⟨x.b, j, none⟩) HC.out.row.lt (by simp)).trans (f0 j)); have HC5 := Lib.hid (rread_mid HC.out HF2.out HF4.out (fun y hy => HR.out y (List.mem_of_mem_drop hy))); have HV5 := Lib.hid (show (x.set 0 (.slice A4 n4 p4)).v 1 = .slice Aq r.c.tak.length ct from HVT.out); have HO5 := Lib.hid (show Own (w4.setCell ⟨x.b, 7, none⟩ (.slice A4 n4 p4)) 5 (.slice Aq r.c.tak.length ct) (bv r.c.tak) by rw [← HV5.out]; exact HC5.out.1.own 1); have HP5 := Lib.hid (HF2.out.1.mods HF4.out.2.1 (by simp)); have HP6 := Lib.hid (HP5.out.keep (w' := w4.setCell ⟨x.b, 7, none⟩ (.slice A4 n4 p4)) fun b hb => heap_setCell_other w4 ⟨x.b, 7, none⟩ b _ (fun e => by have h1 := HF2.out.2.2 b hb; have h2 := HC.out.row.lt; have e : b = x.b := e; omega)))
        | (at_builtin; refine wpList_append_own2 _ rfl (.tmp 63) (.tmp 64) 33 rfl 5 i0 (.int .u8 0) Try.underlying33 HI.out.1 HI.out.2.1 HI.out.2.2.1 HI.out.2.2.2 rfl (.slice Aq r.c.tak.length ct) (bv r.c.tak) rfl HO5.out A2 n2 p2 (bv (r.c.inn.take k)) rfl (by rw [bv_length, HN2.out]; exact HTL.out.symm) HP6.out.src (bv_one _) (by rw [bv_length, HN2.out]; have := HTB.out; omega) ?_; intro v8 w8 HO8 HM8; have HQ8 := Lib.hid (HC5.out.1.app (s' := { r with c := { r.c.setI (r.c.inn.drop k) with tak := r.c.tak ++ r.c.inn.take k }, inn := r.c.inn.drop k }) 1 9 HO8.out HM8.out HV5.out (Mods.refl [] _) rfl (by intro j hj; match j, hj with | 0, _ => rfl | 2, _ => rfl) rfl (fun y hy => HR.out y (List.mem_of_mem_take hy))); obtain ⟨A8, n8, p8, rfl, -, -, -⟩ := HO8.out.slice'; have e9 : w8.cell? ⟨x.b, 9, none⟩ = some ((x.set 0 (.slice A4 n4 p4)).v 1) := HQ8.out.1.cell 9; have f8 : ∀ j, w8.frozen? ⟨x.b, j, none⟩ = false := HQ8.out.1.free; have HP8 := Lib.hid (HP6.out.mods HM8.out.1 (fun b hb hb2 => by have h1 := HF2.out.2.2 b hb; have h2 := (HC.out.own 1).lt b (by rw [HVT.out]; exact hb2); omega))))
      go_ret2
      refine ⟨_, rfl, Lib.hid ⟨HN.out _ (CnTo.trans (x := x) (x' := x.set 0 (.slice A4 n4 p4)) rfl HC5.out.2.1 HC5.out.2.2 (HQ8.out.2 _ rfl)), _, _, _, rfl, by rw [HN2.out, HTL.out], ?_⟩⟩
      exact At.of_own2 (HP8.out.keep fun b hb => heap_setCell_other w8 ⟨x.b, 9, none⟩ b _ (fun e => by have h1 := HF2.out.2.2 b hb; have h2 := HC.out.row.lt; have e : b = x.b := e; omega)) (by simp) (fun y hy => HR.out y (List.mem_of_mem_take hy))
  · have he1 : S.readE c k0 = S.e2 c := by unfold Nt.readE; rw [if_neg h1, if_neg he]
    rw [(bad (by rw [he1]; exact he)).1, (bad (by rw [he1]; exact he)).2, he1]
    have HT := Lib.hid (rours_no w g m F S c h he)
    obtain ⟨e0, he0⟩ : ∃ e0, e0 = S.e2 c := ⟨_, rfl⟩
    rw [← he0] at HT he ⊢
    have hne : (e0 != 0) = true := by simpa using he
    clear h he he0 he1 bad
    go_enter Try.func44, Try.ntmps44
    go_wp2_with fail
    refine HT.out.mono ?_
    rintro e w' ⟨rfl, rfl⟩
    go_wp2
    go_ret2
    exact ⟨_, rfl, HN0⟩
end Go.Proofs.Ytogcfeplfclobaa
