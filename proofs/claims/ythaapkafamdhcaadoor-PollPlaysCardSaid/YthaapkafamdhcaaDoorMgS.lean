/- What Wait of the reference's poller answers. -/
import Derived.Test.YthaapkafamdhcaaDoorMgQ
import Derived.Test.YthaapkafamdhcaaDoorMgR
import Derived.Test.YthaapkafamdhcaaDoorMgG
import Derived.Deep.DeepCutAuto
import Derived.Deep.CutBlock
import Derived.Test.YthaapkafamdhcaaDoorChecked
import Derived.Test.YthaapkafamdhcaaDoorNums
import Derived.Test.YthaapkafamdhcaaDoorRw
import Derived.ProofKit
import Derived.OpenShut
import Derived.ChangeArms
import Derived.Deep.Slices
import Derived.Deep.Fields
import Derived.ChangeSlices
namespace Go.Proofs.YthaapkafamdhcaaDoor
open Go.RowKit
set_option maxRecDepth 10000
set_option linter.unusedVariables false
set_option linter.unusedSimpArgs false

theorem tR_tld {P : Plr} (h : P.net.Mk) (i : Nat) : P.tR i = (P.net.readyR (P.id i) && ((P.wch i).rd && (!(P.wch i).eg || decide (tldZ (P.wch i).tr < P.net.markR (P.id i))))) := by
  unfold Plr.tR Wch.tellR
  cases hr : P.net.readyR (P.id i) with
  | false => rfl
  | true =>
    have h1 := h.readyR hr
    obtain ⟨a, ha⟩ := Int.eq_ofNat_of_zero_le (show 0 ≤ P.net.markR (P.id i) by omega)
    rw [ha] at h1 ⊢
    rw [show (Int.toNat (↑a : Int)) = a from Int.toNat_natCast a]
    rw [show ((↑a : Int)) = ((a : Nat) : Int) from rfl, tldZ_lt (by omega)]
theorem tW_tld {P : Plr} (h : P.net.Mk) (i : Nat) : P.tW i = (P.net.readyW (P.id i) && ((P.wch i).wr && (!(P.wch i).eg || decide (tldZ (P.wch i).tw < P.net.markW (P.id i))))) := by
  unfold Plr.tW Wch.tellW
  cases hr : P.net.readyW (P.id i) with
  | false => rfl
  | true =>
    have h1 := h.readyW hr
    obtain ⟨a, ha⟩ := Int.eq_ofNat_of_zero_le (show 0 ≤ P.net.markW (P.id i) by omega)
    rw [ha] at h1 ⊢
    rw [show (Int.toNat (↑a : Int)) = a from Int.toNat_natCast a]
    rw [show ((↑a : Int)) = ((a : Nat) : Int) from rfl, tldZ_lt (by omega)]
theorem tldZ_of {a : Int} (h : 1 ≤ a) : tldZ a.toNat = a := by
  unfold tldZ
  rw [if_neg (by omega)]
  omega
/-- The watch, when it has been told. -/
theorem rwc_put {P : Plr} (h : P.net.Mk) (i : Nat) : rwc (P.id i) ((P.wch i).put (P.tR i) (P.tW i) (P.net.markR (P.id i)).toNat (P.net.markW (P.id i)).toNat) =
    [.int .i64 (P.id i), .bool (P.wch i).rd, .bool (P.wch i).wr, .bool (P.wch i).eg, .int .i64 (if P.tR i then P.net.markR (P.id i) else tldZ (P.wch i).tr), .int .i64 (if P.tW i then P.net.markW (P.id i) else tldZ (P.wch i).tw)] := by
  have e1 : tldZ (if P.tR i then (P.net.markR (P.id i)).toNat else (P.wch i).tr) = if P.tR i then P.net.markR (P.id i) else tldZ (P.wch i).tr := by
    split
    · rename_i ht
      refine tldZ_of (h.readyR ?_)
      rw [tR_tld h] at ht
      cases hr : P.net.readyR (P.id i) with
      | true => rfl
      | false => rw [hr] at ht; simp at ht
    · rfl
  have e2 : tldZ (if P.tW i then (P.net.markW (P.id i)).toNat else (P.wch i).tw) = if P.tW i then P.net.markW (P.id i) else tldZ (P.wch i).tw := by
    split
    · rename_i ht
      refine tldZ_of (h.readyW ?_)
      rw [tW_tld h] at ht
      cases hr : P.net.readyW (P.id i) with
      | true => rfl
      | false => rw [hr] at ht; simp at ht
    · rfl
  unfold rwc Wch.put
  simp only [e1, e2]
/-- The loop's relation. -/
structure RWait (w wr : World) (x : Ft) (p g hs mb m K : Nat) (bs : List Nat) (P : Plr) (hv lv : Value) (k : Nat) : Prop where
  rol : RolF wr x p g hs mb bs (P.tells (P.sl.all.take k)) m K
  mods : Mods x.all w wr
  hnd : OwnPairs wr 47 hv P.sl.all
  hb : ∀ b ∈ hv.ownBlock.toList, w.heap.size ≤ b
  evs : EvS wr lv (P.evs (P.sl.all.take k))
  tb : ∀ b ∈ lv.ownBlock.toList, w.heap.size ≤ b
/-- What the second loop has made of what was told. -/
def ext (ps : List Int) (k : Nat) : List Int := ps.take k ++ List.replicate (k - ps.length) 0
theorem ext_zero (ps : List Int) : ext ps 0 = [] := by simp [ext]
theorem ext_lt {ps : List Int} {k : Nat} {p : Int} (h : ps[k]? = some p) : ext ps (k + 1) = ext ps k ++ [p] := by
  have hk := (List.getElem?_eq_some_iff.1 h).1
  unfold ext
  rw [show k + 1 - ps.length = 0 by omega, show k - ps.length = 0 by omega]
  simp [List.take_add_one, h]
theorem ext_ge {ps : List Int} {k : Nat} (h : ps.length ≤ k) : ext ps (k + 1) = ext ps k ++ [0] := by
  unfold ext
  rw [List.take_of_length_le (by omega), List.take_of_length_le (by omega), show k + 1 - ps.length = (k - ps.length) + 1 by omega, List.replicate_succ', List.append_assoc]
theorem pick_zero (n : Nat) : pick 0 n = 0 := by unfold pick; simp
theorem ord_zeros (l : List Ev) (m : Nat) : ord l (List.replicate m 0) = l := by
  induction m generalizing l with
  | zero => exact ord_none l
  | succ m ih =>
    cases l with
    | nil => exact ord_nil _
    | cons x l =>
      rw [List.replicate_succ, ord_cons (x := x) (by simp) (by rw [pick_zero]; rfl), ih, pick_zero]
      rfl
theorem ord_append (l : List Ev) (ps qs : List Int) : ord l (ps ++ qs) = (ordTo l ps).1 ++ ord (ordTo l ps).2 qs := by
  induction ps generalizing l with
  | nil => simp [ordTo]
  | cons a ps ih =>
    by_cases hl : l.length = 0
    · have : l = [] := List.eq_nil_of_length_eq_zero hl
      subst this
      simp [ord_nil, ordTo]
    · have hlt := pick_lt a (n := l.length) (by omega)
      have e : ∀ qs, ordTo l (a :: qs) = (l[pick a l.length] :: (ordTo (l.eraseIdx (pick a l.length)) qs).1, (ordTo (l.eraseIdx (pick a l.length)) qs).2) := fun qs => by
        rw [ordTo, if_neg hl, List.getElem?_eq_getElem hlt]
      rw [List.cons_append, ord_cons (by omega) (List.getElem?_eq_getElem hlt), ih, e]
      rfl
theorem ord_ext (l : List Ev) (ps : List Int) (k : Nat) (h : (ordTo l (ext ps k)).2.length = 0) : ord l ps = (ordTo l (ext ps k)).1 := by
  have h1 : ord l (ext ps k) = (ordTo l (ext ps k)).1 := by
    unfold ord
    rw [List.eq_nil_of_length_eq_zero h, List.append_nil]
  rw [← h1]
  by_cases hk : k ≤ ps.length
  · have e : ext ps k = ps.take k := by unfold ext; rw [show k - ps.length = 0 by omega]; simp
    rw [e] at h ⊢
    have := ordTo_stop l (ps.take k) (ps.drop k) h
    rw [List.take_append_drop] at this
    unfold ord
    rw [this]
  · have e : ext ps k = ps ++ List.replicate (k - ps.length) 0 := by unfold ext; rw [List.take_of_length_le (by omega)]
    rw [e, ord_append, ord_zeros]
    rfl
structure ROrd (w w0 wr : World) (lv ov : Value) (l : List Ev) (ps : List Int) (k : Nat) : Prop where
  lo : EvS wr lv (ordTo l (ext ps k)).2
  eo : EvS wr ov (ordTo l (ext ps k)).1
  dl : (ordTo l (ext ps k)).1.length = k
  lb : ∀ b ∈ lv.ownBlock.toList, w.heap.size ≤ b
  ob : ∀ b ∈ ov.ownBlock.toList, w0.heap.size ≤ b
  ne : ∀ b ∈ lv.ownBlock.toList, b ∉ ov.ownBlock.toList
  m : Mods [] w0 wr
theorem news_row {w : World} {b : Nat} {t : TypeId} {cs : Array Value} (h : Row w b t cs) : ∀ j u, cs.toList[j]? = some u → w.cell? ((⟨b, 0, none⟩ : Addr).add j) = some u := fun j u hu => by
  have e : (⟨b, 0, none⟩ : Addr).add j = ⟨b, j, none⟩ := by unfold Addr.add; split <;> simp_all
  rw [e, h.cell j]
  simpa using hu
theorem rord7 {w5 w7 : World} {t : TypeId} {v7 : Value} {lb : Nat} (hl : lb < w5.heap.size) (h : Mods (Value.slice (some ⟨w5.heap.size, 0, none⟩) 0 0).ownBlock.toList (w5.alloc (.cells #[] t)).drew w7 ∧ (v7.ownBlock = (Value.slice (some ⟨w5.heap.size, 0, none⟩) 0 0).ownBlock ∨ v7.ownBlock = some (w5.alloc (.cells #[] t)).drew.heap.size)) :
    Mods [] w5 w7 ∧ w7.heap[lb]? = w5.heap[lb]? ∧ ∀ b ∈ v7.ownBlock.toList, w5.heap.size ≤ b := by
  have hm : Mods [] w5 w7 := (((Mods.refl [] w5).alloc (.cells #[] t)).drew).trans h.1 fun b hb => .inr (by simp [Value.ownBlock] at hb; omega)
  refine ⟨hm, hm.block lb hl (by simp), fun b hb => ?_⟩
  rcases h.2 with e | e
  · rw [e] at hb; simp [Value.ownBlock] at hb; omega
  · rw [e] at hb
    have : b = (w5.alloc (.cells #[] t)).heap.size := by simpa [eq_comm] using hb
    simp at this
    omega
theorem rord8 {w5 w7 w8 : World} {v7 v8 : Value} (hm : Mods [] w5 w7) (hv : ∀ b ∈ v7.ownBlock.toList, w5.heap.size ≤ b) (h : Mods v7.ownBlock.toList w7 w8 ∧ (v8.ownBlock = v7.ownBlock ∨ v8.ownBlock = some w7.heap.size)) :
    Mods [] w5 w8 ∧ ∀ b ∈ v8.ownBlock.toList, w5.heap.size ≤ b := by
  refine ⟨hm.trans h.1 fun b hb => .inr (hv b hb), fun b hb => ?_⟩
  rcases h.2 with e | e
  · rw [e] at hb; exact hv b hb
  · rw [e] at hb
    have := hm.size
    simp at hb
    omega
#print axioms ord_ext
end Go.Proofs.YthaapkafamdhcaaDoor

/- What Wait of the reference's poller answers. -/
namespace Go.Proofs.YthaapkafamdhcaaDoor
open Go.RowKit
set_option maxRecDepth 10000
set_option linter.unusedVariables false
set_option linter.unusedSimpArgs false

set_option maxHeartbeats 4000000 in
theorem rlwait_any (w : World) (p g m K : Nat) (F : List Nat) (P : Plr) (h : RolA w p g F P m K) (A : Option Addr) (pn pc : Nat) (ps : List Int) (hp : NumsAt w F A ps) (hpn : pn = ps.length) (hpl : ps.length ≤ 1000000) :
    Calls Tryd.prog 18 #[.pointer (some ⟨p, 0, none⟩), .slice A pn pc] w fun e w' => ∃ v, e = .returned v ∧ Hid (EvS w' v (ord P.told ps) ∧ (∀ k ∈ v.ownBlock.toList, w.heap.size ≤ k) ∧ RolA w' p g F P.waited m K ∧ Mods F w w') := by
  obtain ⟨x, hs, mb, bs, rfl, H⟩ := h
  obtain ⟨i0, hi0, hz0, hz1, hz2⟩ := info_parts ev_info
  have HI := Lib.hid (And.intro hi0 (And.intro hz0 (And.intro hz1 hz2)))
  have c1 : w.cell? ⟨p, 1, none⟩ = some (.pointer (some ⟨hs, 0, none⟩)) := H.row.cell 1
  have HH := Lib.hid H
  have HP := Lib.hid (And.intro hp (And.intro hpn hpl))
  have hpn2 : pn ≤ 1000000 := by omega
  have HAL := Lib.hid (show P.sl.all.length ≤ 4096 from by
    have := P.sl.allTo_len P.sl.us.length
    have := H.ok.sl.len
    have := H.ok.sl.hi
    unfold Slb.all
    omega)
  have HFL := Lib.hid (show ∀ k ∈ x.all, k < w.heap.size from fun k hk => by
    obtain ⟨i, hi⟩ := Ft.mem_all.1 hk
    exact H.lt i k hi)
  clear H hp hpn hpl hi0 hz0 hz1 hz2
  go_enter Tryd.func18, Tryd.ntmps18
  go_wp2_with fail
  refine (rall_any _ hs (x.c 1) P.sl K HH.out.slb).mono ?_
  rintro e w1 ⟨va, rfl, hd⟩
  obtain ⟨Ah, ch, rfl, hch1, hch2⟩ := own_slice hd.out.1
  obtain ⟨hn, hnn⟩ : ∃ hn, hn = P.sl.all.length := ⟨_, rfl⟩
  have HHN := Lib.hid hnn
  rw [← hnn] at hd hch1 ⊢
  have hnb : hn ≤ 4096 := by have := HAL.out; omega
  have HS0 := Lib.hid (show RWait w w1 x p g hs mb m K bs P (.slice Ah hn ch) (.slice none 0 0) 0 from
    ⟨by simpa [Plr.tells] using HH.out.quiet hd.out.2.2, hd.out.2.2.more (by simp), hd.out.1, hd.out.2.1, by simpa [Plr.evs] using EvS.nil w1, by simp [Value.ownBlock]⟩)
  clear hd hnn c1 hch1 hch2
  go_wp2
  go_loopw [5, 7, 8, 9, 10, 11, 12] (fun lv iv _ _ _ _ _ wr => ∃ k : Nat, k ≤ hn ∧ iv = .int .i64 k ∧ Hid (RWait w wr x p g hs mb m K bs P (.slice Ah hn ch) lv k)) (fun _ iv _ _ _ _ _ _ => hn - (intOf iv).toNat)
  case atStart => exact ⟨0, by omega, rfl, HS0⟩
  case round =>
    obtain ⟨k, hk, rfl, hr⟩ := hrel
    by_cases hlt : k < hn
    · have hlt2 : k < P.sl.all.length := by rw [← HHN.out]; exact hlt
      have hq : P.sl.all[k]? = some (P.sl.all[k]'hlt2) := List.getElem?_eq_getElem _
      have hnx := take_next P.sl.all k hlt2
      generalize P.sl.all[k]'hlt2 = q at hq hnx
      obtain ⟨i, hi, rfl, hu, his⟩ := Slb.all_at hq
      obtain ⟨ab, rfl⟩ : ∃ b, Ah = some ⟨b, 0, none⟩ := by
        obtain ⟨g', c', e', _⟩ := own_some hr.out.hnd (by omega)
        injection e' with e1 e2 e3
        exact ⟨g', e1⟩
      obtain ⟨h0, h1⟩ := hr.out.hnd.cell HHN.out hq
      simp only at h0 h1
      obtain ⟨At, nt, ct, rfl, hnt, ht1, ht2⟩ := hr.out.evs.slice
      have hts := (P.tells_sl (P.sl.all.take k))
      have htl := P.evs_len (P.sl.all.take k)
      have hT1 : P.tells (P.sl.all.take (k + 1)) = (P.tells (P.sl.all.take k)).tell i := by rw [hnx, Plr.tells_snoc]; simp
      have hE1 : P.evs (P.sl.all.take (k + 1)) = P.evs (P.sl.all.take k) ++ (P.tells (P.sl.all.take k)).one ((i : Int), ((P.sl.gs.getD i 0 : Nat) : Int)) := by rw [hnx, Plr.evs_snoc]
      obtain ⟨gg, hgg⟩ : ∃ gg : Int, gg = ((P.sl.gs.getD i 0 : Nat) : Int) := ⟨_, rfl⟩
      rw [← hgg] at h1 hE1
      have hiw : i < (P.tells (P.sl.all.take k)).ws.length := by rw [hts.2.2, HH.out.ok.len]; exact hi
      obtain ⟨v, hv⟩ := hr.out.rol.at_ hiw
      have hib : -9223372036854775808 ≤ (i : Int) ∧ (i : Int) ≤ 9223372036854775807 := by
        have := HH.out.ok.sl.len; have := HH.out.ok.sl.hi; omega
      have hlk : (Instr.lookup 58 (.map (some mb)) (.int .i64 (i : Int)) false).run Tryd.prog wr = .ok (.pointer (some ⟨v, 0, none⟩)) wr := by
        have := hr.out.rol.map.look hib
        rw [if_neg (by omega), Int.toNat_natCast, hv] at this
        exact this
      have hlkd : (Instr.lookup 58 (.map (some mb)) (.int .i64 (i : Int)) false).run Tryd.prog wr.drew = .ok (.pointer (some ⟨v, 0, none⟩)) wr.drew := by
        have := (hr.out.rol.map.keep (w' := wr.drew) rfl).look hib
        rw [if_neg (by omega), Int.toNat_natCast, hv] at this
        exact this
      have HNT := Lib.hid hnt
      have hnt2 : nt ≤ 4096 := by
        rw [List.length_take] at htl
        omega
      have HT1 := Lib.hid hT1
      have HE1 := Lib.hid hE1
      have HR := Lib.hid hr.out
      have HV := Lib.hid hv
      generalize hP2 : P.tells (P.sl.all.take k) = P2 at *
      have HG := Lib.hid (show RolF wr x p g hs mb bs P2 m K by rw [← hP2]; exact HR.out.rol)
      obtain ⟨z, hz⟩ : ∃ z, P2.id i = z := ⟨_, rfl⟩
      obtain ⟨tr, htr⟩ : ∃ t, P2.tR i = t := ⟨_, rfl⟩
      obtain ⟨tw, htw⟩ : ∃ t, P2.tW i = t := ⟨_, rfl⟩
      obtain ⟨rr, hrr⟩ : ∃ t, P2.net.readyR z = t := ⟨_, rfl⟩
      obtain ⟨rw', hrw⟩ : ∃ t, P2.net.readyW z = t := ⟨_, rfl⟩
      obtain ⟨ma, hma⟩ : ∃ t, P2.net.markR z = t := ⟨_, rfl⟩
      obtain ⟨mo, hmo⟩ : ∃ t, P2.net.markW z = t := ⟨_, rfl⟩
      obtain ⟨rd, hrd⟩ : ∃ t, (P2.wch i).rd = t := ⟨_, rfl⟩
      obtain ⟨wt, hwt⟩ : ∃ t, (P2.wch i).wr = t := ⟨_, rfl⟩
      obtain ⟨eg, heg⟩ : ∃ t, (P2.wch i).eg = t := ⟨_, rfl⟩
      obtain ⟨za, hza⟩ : ∃ t, tldZ (P2.wch i).tr = t := ⟨_, rfl⟩
      obtain ⟨zo, hzo⟩ : ∃ t, tldZ (P2.wch i).tw = t := ⟨_, rfl⟩
      have hev : P2.ev ((i : Int), gg) = ⟨i, gg, z, tr, tw⟩ := by unfold Plr.ev; simp only [Int.toNat_natCast, hz, htr, htw]
      have hone : P2.one ((i : Int), gg) = if (tr || tw) = true then [⟨i, gg, z, tr, tw⟩] else [] := by unfold Plr.one; rw [hev]; simp only [Int.toNat_natCast, htr, htw]
      have htr2 : tr = (rr && (rd && (!eg || decide (za < ma)))) := by rw [← htr, tR_tld HG.out.mks, hz, hrr, hrd, heg, hza, hma]
      have htw2 : tw = (rw' && (wt && (!eg || decide (zo < mo)))) := by rw [← htw, tW_tld HG.out.mks, hz, hrw, hwt, heg, hzo, hmo]
      have hrow := HG.out.ws i v HV.out
      have hput := rwc_put HG.out.mks i
      rw [hz, htr, htw, hma, hmo, hrd, hwt, heg, hza, hzo] at hput
      have hrow' : Row wr v 117 #[.int .i64 z, .bool rd, .bool wt, .bool eg, .int .i64 za, .int .i64 zo] := by
        unfold rwc at hrow
        rw [hz, hrd, hwt, heg, hza, hzo] at hrow
        exact hrow
      have hmk := And.intro (HG.out.net.ok.markR z) (HG.out.net.ok.markW z)
      rw [hma, hmo] at hmk
      have HTO := Lib.hid (show ∀ w', Row w' v 117 #[.int .i64 z, .bool rd, .bool wt, .bool eg, .int .i64 (if tr then ma else za), .int .i64 (if tw then mo else zo)] → Mods [v] wr w' → RolF w' x p g hs mb bs (P2.tell i) m K ∧ Mods x.all wr w' from fun w' h1 h2 => by
        unfold Plr.tell
        rw [hz, htr, htw, hma, hmo]
        refine HG.out.wTo HV.out ?_ h2 ?_
        · rw [hz, hput]; exact h1
        · have hx := HG.out.ok.tld (P2.wch i) (by
            unfold Plr.wch
            rw [List.getD_eq_getElem?_getD, List.getElem?_eq_getElem hiw]
            exact List.getElem_mem _)
          unfold Wch.put
          constructor
          · show (if tr then ma.toNat else (P2.wch i).tr) ≤ _
            split
            · have := hmk.1.2; omega
            · exact hx.1
          · show (if tw then mo.toNat else (P2.wch i).tw) ≤ _
            split
            · have := hmk.2.2; omega
            · exact hx.2)
      have HRY := Lib.hid (fun (wz : World) (hz0 : wz.heap = wr.heap) => by
        have := rready_any wz g m (x.c 0) P2.net z (HG.out.net.keep fun _ _ => by rw [hz0])
        rw [hrr, hrw] at this
        exact this)
      have HMK := Lib.hid (fun (wz : World) (hz0 : wz.heap = wr.heap) => by
        have := rmarks_any wz g m (x.c 0) P2.net z (HG.out.net.keep fun _ _ => by rw [hz0])
        rw [hma, hmo] at this
        exact this)
      have HROW := Lib.hid hrow'
      have HTR := Lib.hid (And.intro htr2 htw2)
      have HE := Lib.hid (show P.evs (P.sl.all.take (k + 1)) = P.evs (P.sl.all.take k) ++ (if (tr || tw) = true then [⟨i, gg, z, tr, tw⟩] else []) by rw [HE1.out, hone])
      have z0 : wr.cell? ⟨p, 0, none⟩ = some (.pointer (some ⟨g, 0, none⟩)) := HG.out.row.cell 0
      have z2 : wr.cell? ⟨p, 2, none⟩ = some (.map (some mb)) := HG.out.row.cell 2
      have v0 : wr.cell? ⟨v, 0, none⟩ = some (.int .i64 z) := hrow'.cell 0
      clear hr hq hnx hi hu his hnt ht2 hts htl hT1 hE1 hgg hP2 hz htr htw hrr hrw hma hmo hrd hwt heg hza hzo hev hone htr2 htw2 hrow hput hrow' hmk hv hiw hib hlt2 HE1
      go_wp2_with fail
      go_region_held3 (fun w' => w'.cell? ⟨p, 2, none⟩ = some (.map (some mb)) ∧ w'.cell? ⟨ab, k * 2, none⟩ = some (.int .i64 (i : Int)) ∧ (Instr.lookup 58 (.map (some mb)) (.int .i64 (i : Int)) false).run Tryd.prog w' = .ok (.pointer (some ⟨v, 0, none⟩)) w') (go_keep) (fail)
      clear hlk hlkd
      obtain ⟨wd, hwd⟩ : ∃ wd, wd = wr.drew := ⟨_, rfl⟩
      have D1 := Lib.hid (show wd.heap = wr.heap ∧ Mods [] wr wd by rw [hwd]; exact ⟨rfl, (Mods.refl [] wr).drew⟩)
      have e0 : wd.cell? ⟨p, 0, none⟩ = some (.pointer (some ⟨g, 0, none⟩)) := by rw [hwd]; exact z0
      have f0 : wd.cell? ⟨v, 0, none⟩ = some (.int .i64 z) := by rw [hwd]; exact v0
      rw [← hwd]
      clear hwd
      go_wp2_with fail
      go_quiet ((go_at_call 54; exact Calls.quiet_of (HRY.out _ (by exact D1.out.1))))
      obtain ⟨we, hwe⟩ : ∃ we, we = wd.drewN nq := ⟨_, rfl⟩
      have D2 := Lib.hid (show we.heap = wr.heap ∧ Mods [] wr we by rw [hwe]; exact ⟨D1.out.1, D1.out.2.drewN _⟩)
      have e1 : we.cell? ⟨p, 0, none⟩ = some (.pointer (some ⟨g, 0, none⟩)) := by rw [hwe]; exact e0
      have f1 : we.cell? ⟨v, 0, none⟩ = some (.int .i64 z) := by rw [hwe]; exact f0
      rw [← hwe]
      clear hwe D1 e0 f0
      go_wp2_with fail
      go_quiet ((go_at_call 55; exact Calls.quiet_of (HMK.out _ (by exact D2.out.1))))
      obtain ⟨wf, hwf⟩ : ∃ wf, wf = we.drewN nq := ⟨_, rfl⟩
      have D3 := Lib.hid (show wf.heap = wr.heap ∧ Mods [] wr wf by rw [hwf]; exact ⟨D2.out.1, D2.out.2.drewN _⟩)
      rw [← hwf]
      clear hwf D2 e1 f1
      go_upto_region 9 with fail
      have RW := Lib.hid (show Row wf v 117 #[.int .i64 z, .bool rd, .bool wt, .bool eg, .int .i64 za, .int .i64 zo] from HROW.out.keep (by rw [D3.out.1]))
      have y1 : wf.cell? ⟨v, 1, none⟩ = some (.bool rd) := RW.out.cell 1
      have y2 : wf.cell? ⟨v, 2, none⟩ = some (.bool wt) := RW.out.cell 2
      have y3 : wf.cell? ⟨v, 3, none⟩ = some (.bool eg) := RW.out.cell 3
      have y4 : wf.cell? ⟨v, 4, none⟩ = some (.int .i64 za) := RW.out.cell 4
      have y5 : wf.cell? ⟨v, 5, none⟩ = some (.int .i64 zo) := RW.out.cell 5
      have H01 := Lib.hid (And.intro h0 h1)
      clear h0 h1 z0 z2 v0
      go_cut [9] (fun s9 wx => s9 = .bool tr ∧ wf = wx)
      case first =>
        clear y2 y5
        cases rr
        · go_wp2
          go_meet
          case rel => exact ⟨by rw [HTR.out.1]; simp, rfl⟩
        cases rd
        · go_wp2
          go_meet
          case rel => exact ⟨by rw [HTR.out.1]; simp, rfl⟩
        cases eg
        · go_wp2
          go_meet
          case rel => exact ⟨by rw [HTR.out.1]; simp, rfl⟩
        by_cases hz : za < ma
        · have hz2 : decide (za < ma) = true := decide_eq_true hz
          go_wp2
          go_meet
          case rel => exact ⟨by rw [HTR.out.1]; simp [hz], rfl⟩
        · have hz2 : decide (za < ma) = false := decide_eq_false hz
          go_wp2
          go_meet
          case rel => exact ⟨by rw [HTR.out.1]; simp [hz], rfl⟩
      case rest =>
        obtain ⟨rfl, rfl⟩ := hcut
        go_upto_region 10 with fail
        go_cut [10] (fun s10 wx => s10 = .bool tw ∧ wf = wx)
        case first =>
          clear y1 y4
          cases rw'
          · go_wp2
            go_meet
            case rel => exact ⟨by rw [HTR.out.2]; simp, rfl⟩
          cases wt
          · go_wp2
            go_meet
            case rel => exact ⟨by rw [HTR.out.2]; simp, rfl⟩
          cases eg
          · go_wp2
            go_meet
            case rel => exact ⟨by rw [HTR.out.2]; simp, rfl⟩
          by_cases hz : zo < mo
          · have hz2 : decide (zo < mo) = true := decide_eq_true hz
            go_wp2
            go_meet
            case rel => exact ⟨by rw [HTR.out.2]; simp [hz], rfl⟩
          · have hz2 : decide (zo < mo) = false := decide_eq_false hz
            go_wp2
            go_meet
            case rel => exact ⟨by rw [HTR.out.2]; simp [hz], rfl⟩
        case rest =>
          obtain ⟨rfl, rfl⟩ := hcut
          clear y1 y2 y3 y4 y5
          cases tr <;> cases tw
          · have G := Lib.hid (HTO.out wf (by simpa using RW.out) (D3.out.2.more (by simp)))
            go_wp2
            go_roundw
            case rel =>
              refine ⟨k + 1, by omega, by go_num, Lib.hid ⟨?_, ?_, ?_, HR.out.hb, ?_, HR.out.tb⟩⟩
              · rw [HT1.out]; exact G.out.1
              · exact HR.out.mods.trans G.out.2 fun b hb => .inl hb
              · exact own_mods HR.out.hnd D3.out.2 (by simp)
              · rw [HE.out]
                simpa using HR.out.evs.mods D3.out.2 (by simp)
            case measure => simp [intOf]; omega
          · have y4 : wf.cell? ⟨v, 4, none⟩ = some (.int .i64 za) := RW.out.cell 4
            have y5 : wf.cell? ⟨v, 5, none⟩ = some (.int .i64 zo) := RW.out.cell 5
            have x4 : wf.frozen? ⟨v, 4, none⟩ = false := RW.out.free 4
            have x5 : wf.frozen? ⟨v, 5, none⟩ = false := RW.out.free 5
            go_upto_region 16 with fail
            obtain ⟨wg, hwg⟩ : ∃ wg, wg = (wf.setCell ⟨v, 5, none⟩ (.int .i64 mo)) := ⟨_, rfl⟩
            rw [← hwg]
            have MG := Lib.hid (show Mods [v] wr wg by rw [hwg]; exact (D3.out.2.more (by simp)).trans ((Mods.refl [v] wf).setCell (.inl (by simp)) _) fun b hb => .inl hb)
            have RG := Lib.hid (show Row wg v 117 #[.int .i64 z, .bool rd, .bool wt, .bool eg, .int .i64 (if false then ma else za), .int .i64 (if true then mo else zo)] by rw [hwg]; simpa using (RW.out.set 5 (.int .i64 mo)))
            clear hwg y4 y5 x4 x5
            have G := Lib.hid (HTO.out wg RG.out MG.out)
            have VF := Lib.hid (show v ∈ x.all from x.sub 2 v (by rw [HG.out.c2]; exact List.mem_of_getElem? HV.out))
            have HN := Lib.hid (own_mods HR.out.hnd MG.out (fun b hb => by simpa using own_ne_row HR.out.hnd HROW.out (by decide) b hb))
            have g0 : wg.cell? ⟨ab, k * 2, none⟩ = some (.int .i64 (i : Int)) := cell_mods H01.out.1 MG.out (by simpa using own_ne_row HR.out.hnd HROW.out (by decide) ab (by simp [Value.ownBlock]))
            have g1 : wg.cell? ⟨ab, k * 2 + 1, none⟩ = some (.int .i64 gg) := cell_mods H01.out.2 MG.out (by simpa using own_ne_row HR.out.hnd HROW.out (by decide) ab (by simp [Value.ownBlock]))
            have g2 : wg.cell? ⟨v, 0, none⟩ = some (.int .i64 z) := RG.out.cell 0
            have HT := Lib.hid (HR.out.evs.own_n HNT.out MG.out (fun b hb hb2 => by have := HR.out.tb b hb; have := HFL.out v VF.out; obtain rfl := List.mem_singleton.1 hb2; omega))
            go_region_law (refine step_append_n rfl (.tmp 119) (.tmp 131) 62 rfl 74 i0 _ 5 32 Tryd.underlying62 HI.out.1 HI.out.2.1 HI.out.2.2.1 HI.out.2.2.2 rfl (by omega) (.slice At nt ct) nt (fl Ev.cs (P.evs (P.sl.all.take k))) rfl (own_keep (own_mods HT.out ((Mods.refl [] wg).alloc (.cells #[.int .i64 i, .int .i64 gg, .int .i64 z, .bool false, .bool true] 74)) (by simp)) fun _ _ => rfl) ⟨wg.heap.size, 0, none⟩ 1 1 [.int .i64 i, .int .i64 gg, .int .i64 z, .bool false, .bool true] rfl rfl (fun j u hu => news_row (cs := #[.int .i64 i, .int .i64 gg, .int .i64 z, .bool false, .bool true]) (t := 74) (Row.keep (Row.new wg _ _) rfl) j u hu) (by simp [Value.oneCell']) (by unfold maxLen; omega) (by omega) ?_; intro v5 w5 HO5 HM5; obtain ⟨A6, c6, rfl, -, -⟩ := own_slice HO5.out)
            all_goals
              have HQ := Lib.hid (show Mods (Value.slice At nt ct).ownBlock.toList wg w5 from (((Mods.refl _ wg).alloc (.cells #[.int .i64 i, .int .i64 gg, .int .i64 z, .bool false, .bool true] 74)).drew).trans HM5.out.1 fun b hb => .inl hb)
              go_wp2
              go_roundw
              case rel =>
                have hfa : ∀ b ∈ x.all, b ∉ (Value.slice At nt ct).ownBlock.toList := fun b hb hb2 => by have := HR.out.tb b hb2; have := HFL.out b hb; omega
                refine ⟨k + 1, by omega, by go_num, Lib.hid ⟨?_, ?_, ?_, HR.out.hb, ?_, ?_⟩⟩
                · rw [HT1.out]; exact G.out.1.mods HQ.out hfa
                · exact (HR.out.mods.trans G.out.2 fun b hb => .inl hb).trans HQ.out fun b hb => .inr (HR.out.tb b hb)
                · exact own_mods HN.out HQ.out fun b hb hb2 => own_ne_ev HN.out (show EvS wg (.slice At nt ct) (P.evs (P.sl.all.take k)) by unfold EvS; rw [← HNT.out]; exact HT.out) b hb hb2
                · rw [HE.out]
                  simp only [Bool.or_false, Bool.or_true, Bool.false_or, Bool.true_or, if_true]
                  unfold EvS
                  rw [fl_append, fl_one, List.length_append, List.length_singleton, ← HNT.out]
                  exact HO5.out
                · intro b hb
                  rcases HM5.out.2 with e | e
                  · rw [e] at hb; exact HR.out.tb b hb
                  · rw [e] at hb
                    have h8 := HR.out.mods.size
                    have h9 := MG.out.size
                    simp at hb
                    first
                      | omega
                      | (change b = wg.heap.size + 1 at hb; omega)
                      | (change b = (wg.alloc _).heap.size at hb; simp at hb; omega)
              case measure => simp [intOf]; omega
          · have y4 : wf.cell? ⟨v, 4, none⟩ = some (.int .i64 za) := RW.out.cell 4
            have y5 : wf.cell? ⟨v, 5, none⟩ = some (.int .i64 zo) := RW.out.cell 5
            have x4 : wf.frozen? ⟨v, 4, none⟩ = false := RW.out.free 4
            have x5 : wf.frozen? ⟨v, 5, none⟩ = false := RW.out.free 5
            go_upto_region 16 with fail
            obtain ⟨wg, hwg⟩ : ∃ wg, wg = (wf.setCell ⟨v, 4, none⟩ (.int .i64 ma)) := ⟨_, rfl⟩
            rw [← hwg]
            have MG := Lib.hid (show Mods [v] wr wg by rw [hwg]; exact (D3.out.2.more (by simp)).trans ((Mods.refl [v] wf).setCell (.inl (by simp)) _) fun b hb => .inl hb)
            have RG := Lib.hid (show Row wg v 117 #[.int .i64 z, .bool rd, .bool wt, .bool eg, .int .i64 (if true then ma else za), .int .i64 (if false then mo else zo)] by rw [hwg]; simpa using (RW.out.set 4 (.int .i64 ma)))
            clear hwg y4 y5 x4 x5
            have G := Lib.hid (HTO.out wg RG.out MG.out)
            have VF := Lib.hid (show v ∈ x.all from x.sub 2 v (by rw [HG.out.c2]; exact List.mem_of_getElem? HV.out))
            have HN := Lib.hid (own_mods HR.out.hnd MG.out (fun b hb => by simpa using own_ne_row HR.out.hnd HROW.out (by decide) b hb))
            have g0 : wg.cell? ⟨ab, k * 2, none⟩ = some (.int .i64 (i : Int)) := cell_mods H01.out.1 MG.out (by simpa using own_ne_row HR.out.hnd HROW.out (by decide) ab (by simp [Value.ownBlock]))
            have g1 : wg.cell? ⟨ab, k * 2 + 1, none⟩ = some (.int .i64 gg) := cell_mods H01.out.2 MG.out (by simpa using own_ne_row HR.out.hnd HROW.out (by decide) ab (by simp [Value.ownBlock]))
            have g2 : wg.cell? ⟨v, 0, none⟩ = some (.int .i64 z) := RG.out.cell 0
            have HT := Lib.hid (HR.out.evs.own_n HNT.out MG.out (fun b hb hb2 => by have := HR.out.tb b hb; have := HFL.out v VF.out; obtain rfl := List.mem_singleton.1 hb2; omega))
            go_region_law (refine step_append_n rfl (.tmp 119) (.tmp 131) 62 rfl 74 i0 _ 5 32 Tryd.underlying62 HI.out.1 HI.out.2.1 HI.out.2.2.1 HI.out.2.2.2 rfl (by omega) (.slice At nt ct) nt (fl Ev.cs (P.evs (P.sl.all.take k))) rfl (own_keep (own_mods HT.out ((Mods.refl [] wg).alloc (.cells #[.int .i64 i, .int .i64 gg, .int .i64 z, .bool true, .bool false] 74)) (by simp)) fun _ _ => rfl) ⟨wg.heap.size, 0, none⟩ 1 1 [.int .i64 i, .int .i64 gg, .int .i64 z, .bool true, .bool false] rfl rfl (fun j u hu => news_row (cs := #[.int .i64 i, .int .i64 gg, .int .i64 z, .bool true, .bool false]) (t := 74) (Row.keep (Row.new wg _ _) rfl) j u hu) (by simp [Value.oneCell']) (by unfold maxLen; omega) (by omega) ?_; intro v5 w5 HO5 HM5; obtain ⟨A6, c6, rfl, -, -⟩ := own_slice HO5.out)
            all_goals
              have HQ := Lib.hid (show Mods (Value.slice At nt ct).ownBlock.toList wg w5 from (((Mods.refl _ wg).alloc (.cells #[.int .i64 i, .int .i64 gg, .int .i64 z, .bool true, .bool false] 74)).drew).trans HM5.out.1 fun b hb => .inl hb)
              go_wp2
              go_roundw
              case rel =>
                have hfa : ∀ b ∈ x.all, b ∉ (Value.slice At nt ct).ownBlock.toList := fun b hb hb2 => by have := HR.out.tb b hb2; have := HFL.out b hb; omega
                refine ⟨k + 1, by omega, by go_num, Lib.hid ⟨?_, ?_, ?_, HR.out.hb, ?_, ?_⟩⟩
                · rw [HT1.out]; exact G.out.1.mods HQ.out hfa
                · exact (HR.out.mods.trans G.out.2 fun b hb => .inl hb).trans HQ.out fun b hb => .inr (HR.out.tb b hb)
                · exact own_mods HN.out HQ.out fun b hb hb2 => own_ne_ev HN.out (show EvS wg (.slice At nt ct) (P.evs (P.sl.all.take k)) by unfold EvS; rw [← HNT.out]; exact HT.out) b hb hb2
                · rw [HE.out]
                  simp only [Bool.or_false, Bool.or_true, Bool.false_or, Bool.true_or, if_true]
                  unfold EvS
                  rw [fl_append, fl_one, List.length_append, List.length_singleton, ← HNT.out]
                  exact HO5.out
                · intro b hb
                  rcases HM5.out.2 with e | e
                  · rw [e] at hb; exact HR.out.tb b hb
                  · rw [e] at hb
                    have h8 := HR.out.mods.size
                    have h9 := MG.out.size
                    simp at hb
                    first
                      | omega
                      | (change b = wg.heap.size + 1 at hb; omega)
                      | (change b = (wg.alloc _).heap.size at hb; simp at hb; omega)
              case measure => simp [intOf]; omega
          · have y4 : wf.cell? ⟨v, 4, none⟩ = some (.int .i64 za) := RW.out.cell 4
            have y5 : wf.cell? ⟨v, 5, none⟩ = some (.int .i64 zo) := RW.out.cell 5
            have x4 : wf.frozen? ⟨v, 4, none⟩ = false := RW.out.free 4
            have x5 : wf.frozen? ⟨v, 5, none⟩ = false := RW.out.free 5
            go_upto_region 16 with fail
            obtain ⟨wg, hwg⟩ : ∃ wg, wg = ((wf.setCell ⟨v, 4, none⟩ (.int .i64 ma)).setCell ⟨v, 5, none⟩ (.int .i64 mo)) := ⟨_, rfl⟩
            rw [← hwg]
            have MG := Lib.hid (show Mods [v] wr wg by rw [hwg]; exact (D3.out.2.more (by simp)).trans (((Mods.refl [v] wf).setCell (.inl (by simp)) _).setCell (.inl (by simp)) _) fun b hb => .inl hb)
            have RG := Lib.hid (show Row wg v 117 #[.int .i64 z, .bool rd, .bool wt, .bool eg, .int .i64 (if true then ma else za), .int .i64 (if true then mo else zo)] by rw [hwg]; simpa using ((RW.out.set 4 (.int .i64 ma)).set 5 (.int .i64 mo)))
            clear hwg y4 y5 x4 x5
            have G := Lib.hid (HTO.out wg RG.out MG.out)
            have VF := Lib.hid (show v ∈ x.all from x.sub 2 v (by rw [HG.out.c2]; exact List.mem_of_getElem? HV.out))
            have HN := Lib.hid (own_mods HR.out.hnd MG.out (fun b hb => by simpa using own_ne_row HR.out.hnd HROW.out (by decide) b hb))
            have g0 : wg.cell? ⟨ab, k * 2, none⟩ = some (.int .i64 (i : Int)) := cell_mods H01.out.1 MG.out (by simpa using own_ne_row HR.out.hnd HROW.out (by decide) ab (by simp [Value.ownBlock]))
            have g1 : wg.cell? ⟨ab, k * 2 + 1, none⟩ = some (.int .i64 gg) := cell_mods H01.out.2 MG.out (by simpa using own_ne_row HR.out.hnd HROW.out (by decide) ab (by simp [Value.ownBlock]))
            have g2 : wg.cell? ⟨v, 0, none⟩ = some (.int .i64 z) := RG.out.cell 0
            have HT := Lib.hid (HR.out.evs.own_n HNT.out MG.out (fun b hb hb2 => by have := HR.out.tb b hb; have := HFL.out v VF.out; obtain rfl := List.mem_singleton.1 hb2; omega))
            go_region_law (refine step_append_n rfl (.tmp 119) (.tmp 131) 62 rfl 74 i0 _ 5 32 Tryd.underlying62 HI.out.1 HI.out.2.1 HI.out.2.2.1 HI.out.2.2.2 rfl (by omega) (.slice At nt ct) nt (fl Ev.cs (P.evs (P.sl.all.take k))) rfl (own_keep (own_mods HT.out ((Mods.refl [] wg).alloc (.cells #[.int .i64 i, .int .i64 gg, .int .i64 z, .bool true, .bool true] 74)) (by simp)) fun _ _ => rfl) ⟨wg.heap.size, 0, none⟩ 1 1 [.int .i64 i, .int .i64 gg, .int .i64 z, .bool true, .bool true] rfl rfl (fun j u hu => news_row (cs := #[.int .i64 i, .int .i64 gg, .int .i64 z, .bool true, .bool true]) (t := 74) (Row.keep (Row.new wg _ _) rfl) j u hu) (by simp [Value.oneCell']) (by unfold maxLen; omega) (by omega) ?_; intro v5 w5 HO5 HM5; obtain ⟨A6, c6, rfl, -, -⟩ := own_slice HO5.out)
            all_goals
              have HQ := Lib.hid (show Mods (Value.slice At nt ct).ownBlock.toList wg w5 from (((Mods.refl _ wg).alloc (.cells #[.int .i64 i, .int .i64 gg, .int .i64 z, .bool true, .bool true] 74)).drew).trans HM5.out.1 fun b hb => .inl hb)
              go_wp2
              go_roundw
              case rel =>
                have hfa : ∀ b ∈ x.all, b ∉ (Value.slice At nt ct).ownBlock.toList := fun b hb hb2 => by have := HR.out.tb b hb2; have := HFL.out b hb; omega
                refine ⟨k + 1, by omega, by go_num, Lib.hid ⟨?_, ?_, ?_, HR.out.hb, ?_, ?_⟩⟩
                · rw [HT1.out]; exact G.out.1.mods HQ.out hfa
                · exact (HR.out.mods.trans G.out.2 fun b hb => .inl hb).trans HQ.out fun b hb => .inr (HR.out.tb b hb)
                · exact own_mods HN.out HQ.out fun b hb hb2 => own_ne_ev HN.out (show EvS wg (.slice At nt ct) (P.evs (P.sl.all.take k)) by unfold EvS; rw [← HNT.out]; exact HT.out) b hb hb2
                · rw [HE.out]
                  simp only [Bool.or_false, Bool.or_true, Bool.false_or, Bool.true_or, if_true]
                  unfold EvS
                  rw [fl_append, fl_one, List.length_append, List.length_singleton, ← HNT.out]
                  exact HO5.out
                · intro b hb
                  rcases HM5.out.2 with e | e
                  · rw [e] at hb; exact HR.out.tb b hb
                  · rw [e] at hb
                    have h8 := HR.out.mods.size
                    have h9 := MG.out.size
                    simp at hb
                    first
                      | omega
                      | (change b = wg.heap.size + 1 at hb; omega)
                      | (change b = (wg.alloc _).heap.size at hb; simp at hb; omega)
              case measure => simp [intOf]; omega
    · --END1
      have e : k = hn := by omega
      subst e
      obtain ⟨wa, rfl⟩ : ∃ wa : World, wa = wr := ⟨_, rfl⟩
      obtain ⟨At, nt, ct, rfl, hnt, ht1, ht2⟩ := hr.out.evs.slice
      have e1 : P.sl.all.take k = P.sl.all := by rw [HHN.out, List.take_length]
      have e2 : P.evs (P.sl.all.take k) = P.told := by rw [e1]; rfl
      have e3 : P.tells (P.sl.all.take k) = P.waited := by rw [e1]; rfl
      have hlN : P.told.length ≤ 4096 := by
        have := P.evs_len P.sl.all
        have := HAL.out
        show (P.evs P.sl.all).length ≤ 4096
        omega
      obtain ⟨l, hl⟩ : ∃ l, l = P.told := ⟨_, rfl⟩
      rw [← hl] at hlN e2
      have HR := Lib.hid hr.out
      have HEE := Lib.hid (And.intro e2 (And.intro e3 hl))
      rw [e2] at hnt
      obtain ⟨N, hN⟩ : ∃ N, N = l.length := ⟨_, rfl⟩
      have hN4 : N ≤ 4096 := by omega
      have HN := Lib.hid hN
      have HS2 := Lib.hid (show ROrd w wa wa (.slice At nt ct) (.slice none 0 0) l ps 0 from
        ⟨by rw [ext_zero]; show EvS wa _ l; rw [← e2]; exact HR.out.evs, by rw [ext_zero]; exact EvS.nil wa, by rw [ext_zero]; rfl, HR.out.tb, by simp [Value.ownBlock], by simp [Value.ownBlock], Mods.refl _ _⟩)
      clear hr hnt ht1 ht2 e1 e2 e3 hl hlN hN
      go_wp2
      go_loopw [5, 13, 14, 15] (fun lv ov kv _ wx => ∃ j : Nat, j ≤ N ∧ kv = .int .i64 (j : Int) ∧ Hid (ROrd w wa wx lv ov l ps j)) (fun _ _ kv _ _ => N + 1 - (intOf kv).toNat)
      case atStart => exact ⟨0, by omega, rfl, HS2⟩
      case round =>
        clear HS2
        obtain ⟨j, hj, rfl, hr2⟩ := hrel
        obtain ⟨An, nn, cn, rfl, hnn, hn1, hn2⟩ := hr2.out.lo.slice
        obtain ⟨A5, n5, c5, rfl, hn5, hc51, hc52⟩ := hr2.out.eo.slice
        have hlen := ordTo_len l (ext ps j)
        have hdl := hr2.out.dl
        have HNN := Lib.hid hnn
        have HN5 := Lib.hid hn5
        have HR2 := Lib.hid hr2.out
        have hnj : j + nn = N := by rw [HN.out]; omega
        have hn54 : n5 + nn ≤ 4096 := by omega
        by_cases h0 : nn = 0
        · subst h0
          clear hr2 hnn hn5 hlen hdl hn1 hn2 hc52
          go_wp2
          go_ret
          refine ⟨_, rfl, Lib.hid ⟨?_, fun b hb => Nat.le_trans HR.out.mods.size (HR2.out.ob b hb), ⟨x, hs, mb, bs, rfl, ?_⟩, HR.out.mods.trans HR2.out.m (by simp)⟩⟩
          · rw [← HEE.out.2.2, ord_ext l ps j HNN.out.symm]
            exact HR2.out.eo
          · have := HR.out.rol.quiet HR2.out.m
            rw [HEE.out.2.1] at this
            exact this
        · obtain ⟨lb, rfl⟩ : ∃ lb, An = some ⟨lb, 0, none⟩ := by
            obtain ⟨g', c', e', _⟩ := own_some hr2.out.lo (by rw [← hnn]; omega)
            injection e' with e1 e2 e3
            exact ⟨g', e1⟩
          obtain ⟨-, hE⟩ := hr2.out.lo.at_
          obtain ⟨pp, hpp⟩ : ∃ pp : Int, pp = ps.getD j 0 := ⟨_, rfl⟩
          have hext : ext ps (j + 1) = ext ps j ++ [pp] := by
            rcases Nat.lt_or_ge j ps.length with h | h
            · refine ext_lt ?_
              rw [hpp, List.getD_eq_getElem?_getD, List.getElem?_eq_getElem h]; rfl
            · rw [hpp, List.getD_eq_getElem?_getD, List.getElem?_eq_none h]
              exact ext_ge h
          have hpk := pick_lt pp (n := nn) (by omega)
          have hpe := pick_cast pp (n := nn) (by omega)
          obtain ⟨y, hy⟩ : ∃ y, (ordTo l (ext ps j)).2[pick pp nn]? = some y := ⟨_, List.getElem?_eq_getElem (by rw [← hnn]; exact hpk)⟩
          have hsn := ordTo_snoc l (ext ps j) pp y (by rw [← hnn]; omega) (by rw [← hnn]; exact hy)
          rw [← hnn, ← hext] at hsn
          obtain ⟨q, hqd⟩ : ∃ q, q = pick pp nn := ⟨_, rfl⟩
          have hpz : pn ≤ j → q = 0 := fun h => by
            rw [hqd, hpp, List.getD_eq_getElem?_getD, List.getElem?_eq_none (by rw [← HP.out.2.1]; exact h)]
            exact pick_zero nn
          rw [← hqd] at hpk hpe hy hsn
          have HY := Lib.hid hy
          have HSN := Lib.hid hsn
          have HEv := Lib.hid hE
          have HPP := Lib.hid hpp
          have HPZ := Lib.hid hpz
          have x0 : wr.cell? ⟨lb, q * 5, none⟩ = some (.int .i64 y.s) := hE.cell hy (j := 0) (by omega)
          have x1 : wr.cell? ⟨lb, q * 5 + 1, none⟩ = some (.int .i64 y.g) := hE.cell hy (j := 1) (by omega)
          have x2 : wr.cell? ⟨lb, q * 5 + 2, none⟩ = some (.int .i64 y.c) := hE.cell hy (j := 2) (by omega)
          have x3 : wr.cell? ⟨lb, q * 5 + 3, none⟩ = some (.bool y.r) := hE.cell hy (j := 3) (by omega)
          have x4 : wr.cell? ⟨lb, q * 5 + 4, none⟩ = some (.bool y.w) := hE.cell hy (j := 4) (by omega)
          obtain ⟨p0, hp0⟩ : ∃ p0, p0 = max pp 0 := ⟨_, rfl⟩
          rw [← hp0] at hpe
          have HPE := Lib.hid (And.intro hpe hp0)
          have hnn4 : nn ≤ 4096 := by omega
          have hg : 0 < nn := by omega
          clear hr2 hnn hn5 hlen hdl hc52 hE hext hpe hy hsn hqd hpp hpz hp0
          go_upto_if 141 with fail
          go_cut [15] (fun s15 wx => s15 = .int .i64 (q : Int) ∧ wr = wx)
          case first =>
            by_cases hlt : j < pn
            · have hq : ps[j]? = some (ps[j]'(by rw [← HP.out.2.1]; exact hlt)) := List.getElem?_eq_getElem _
              have he : ps[j]'(by rw [← HP.out.2.1]; exact hlt) = pp := by
                rw [HPP.out, List.getD_eq_getElem?_getD, hq]; rfl
              rw [he] at hq
              obtain ⟨pb, po, rfl, hpb, hpF, hcp⟩ := ((HP.out.1.mods HR.out.mods).mods (HR2.out.m.more (by simp))) j pp hq
              have hmx : (if pp < 0 then 0 else pp) = p0 := by rw [HPE.out.2]; split <;> omega
              have hmy : (if 0 < pp then pp else 0) = p0 := by rw [HPE.out.2]; split <;> omega
              have hrem : p0 % (nn : Int) = (q : Int) := HPE.out.1.symm
              have hp9 : 0 ≤ p0 := by rw [HPE.out.2]; omega
              have hz : ((nn : Int) == 0) = false := by simp; omega
              clear hq he hpb hpF
              go_wp2
              go_meet
              case rel => exact ⟨by rw [hrem], rfl⟩
            · have hq0 := HPZ.out (by omega)
              go_wp2
              go_meet
              case rel => exact ⟨by rw [hq0]; rfl, rfl⟩
          case rest =>
            obtain ⟨rfl, rfl⟩ := hcut
            go_upto_region 24 with fail
            go_wp2_with (at_builtin; refine wpList_append_n rfl (.tmp 150) (.tmp 155) 62 rfl 74 i0 _ 5 32 Tryd.underlying62 HI.out.1 HI.out.2.1 HI.out.2.2.1 HI.out.2.2.2 rfl (by omega) (.slice A5 n5 c5) n5 (fl Ev.cs (ordTo l (ext ps j)).1) rfl (HR2.out.eo.own_n HN5.out ((Mods.refl [] wr).alloc _) (by simp)) ⟨wr.heap.size, 0, none⟩ 1 1 [.int .i64 y.s, .int .i64 y.g, .int .i64 y.c, .bool y.r, .bool y.w] rfl rfl (World.news_of_block (new_at rfl)) (by simp [Value.oneCell']) (by unfold maxLen; omega) (by omega) ?_; intro v5 w5 HO5 HM5; obtain ⟨A6, c6, rfl, -, -⟩ := own_slice HO5.out)
            clear x0 x1 x2 x3 x4
            have hlw : lb < wr.heap.size := own_lt HR2.out.lo lb (by simp [Value.ownBlock])
            have hl5 : lb ∉ (Value.slice A5 n5 c5).ownBlock.toList := HR2.out.ne lb (by simp [Value.ownBlock])
            have M5 := Lib.hid (show Mods (Value.slice A5 n5 c5).ownBlock.toList wr w5 from (((Mods.refl _ wr).alloc _).trans HM5.out.1 fun b hb => .inl hb))
            have E5 := Lib.hid (show EvAt w5 lb cn (ordTo l (ext ps j)).2 from own_mods HEv.out M5.out (by simpa [Value.ownBlock] using hl5))
            have hz5 : wr.heap.size < w5.heap.size ∨ wr.heap.size ≤ w5.heap.size := .inr M5.out.size
            have HB5 := Lib.hid (show ∀ b ∈ (Value.slice A6 (n5 + 1) c6).ownBlock.toList, wa.heap.size ≤ b ∧ b < w5.heap.size from fun b hb => by
              refine ⟨?_, own_lt HO5.out b hb⟩
              rcases HM5.out.2 with e | e
              · rw [e] at hb; exact HR2.out.ob b hb
              · rw [e] at hb
                have := HR2.out.m.size
                simp at hb
                omega)
            obtain ⟨A2, hA2, hsrc⟩ : ∃ A2 : Addr, (if cn = q + 1 then (some ⟨lb, 0, none⟩ : Option Addr) else some ⟨lb, (q + 1) * 5, none⟩) = some A2 ∧ Hid (∀ w7 : World, w7.heap[lb]? = w5.heap[lb]? → ∀ t u, (fl Ev.cs ((ordTo l (ext ps j)).2.drop (q + 1)))[t]? = some u → w7.cell? (A2.add t) = some u) := by
              have hNN := HNN.out
              by_cases h0 : cn = q + 1
              · refine ⟨⟨lb, 0, none⟩, by simp [h0], Lib.hid fun w7 h7 t u hu => ?_⟩
                have h1 : (ordTo l (ext ps j)).2.drop (q + 1) = [] := List.drop_of_length_le (by omega)
                rw [h1] at hu
                simp [fl] at hu
              · refine ⟨⟨lb, (q + 1) * 5, none⟩, by simp [h0], Lib.hid fun w7 h7 t u hu => ?_⟩
                have ht := (List.getElem?_eq_some_iff.1 hu).1
                rw [fl_len Ev.cs_len, List.length_drop] at ht
                have e : (⟨lb, (q + 1) * 5, none⟩ : Addr).add t = ⟨lb, (q + 1) * 5 + t, none⟩ := by unfold Addr.add; split <;> simp_all
                rw [e, show w7.cell? ⟨lb, (q + 1) * 5 + t, none⟩ = w5.cell? ⟨lb, (q + 1) * 5 + t, none⟩ from World.cell?_of_block (w := w5) h7]
                refine (World.ownsRow.cellAt E5.out ((q + 1) * 5 + t) (by omega)).trans ?_
                rw [← fl_drop Ev.cs_len, List.getElem?_drop] at hu
                exact hu
            have hsr1 : Hid (∀ w7 : World, w7.heap[lb]? = w5.heap[lb]? → ∀ t u, (fl Ev.cs ((ordTo l (ext ps j)).2.take q))[t]? = some u → w7.cell? ((⟨lb, 0, none⟩ : Addr).add t) = some u) := Lib.hid fun w7 h7 t u hu => by
              have hNN := HNN.out
              have ht := (List.getElem?_eq_some_iff.1 hu).1
              rw [fl_len Ev.cs_len, List.length_take] at ht
              have e : (⟨lb, 0, none⟩ : Addr).add t = ⟨lb, t, none⟩ := by unfold Addr.add; split <;> simp_all
              rw [e, show w7.cell? ⟨lb, t, none⟩ = w5.cell? ⟨lb, t, none⟩ from World.cell?_of_block (w := w5) h7]
              refine (World.ownsRow.cellAt E5.out t (by omega)).trans ?_
              rw [← fl_take Ev.cs_len, List.getElem?_take] at hu
              split at hu
              · exact hu
              · cases hu
            have L1 := Lib.hid (show (fl Ev.cs ((ordTo l (ext ps j)).2.take q)).length = q * 5 by rw [fl_len Ev.cs_len, List.length_take, ← HNN.out, Nat.min_eq_left (by omega)])
            have L2 := Lib.hid (show (fl Ev.cs ((ordTo l (ext ps j)).2.drop (q + 1))).length = (nn - (q + 1)) * 5 by rw [fl_len Ev.cs_len, List.length_drop, ← HNN.out])
            have ONE := Lib.hid (show ∀ L : List Ev, ∀ u ∈ fl Ev.cs L, u.oneCell' = true from fun L u hu => by
              obtain ⟨x, _, hx⟩ := List.mem_flatMap.1 hu
              simp only [Ev.cs, List.mem_cons, List.mem_nil_iff, or_false] at hx
              rcases hx with rfl | rfl | rfl | rfl | rfl <;> rfl)
            have hl6 : lb < w5.heap.size := Nat.lt_of_lt_of_le hlw M5.out.size
            have O0 := Lib.hid (show (w5.alloc (.cells #[] 74)).ownsRow 0 74 5 (.slice (some ⟨w5.heap.size, 0, none⟩) 0 0) 0 [] from by
              have := World.ownsRow_lit (base := 0) (e := 74) (size := 5) w5 #[] 0 (Nat.zero_le _) (by unfold maxLen; omega) rfl
              simpa using this)
            have hqn : q + 1 ≤ nn := hpk
            have hqc : q ≤ cn := by omega
            have kw : IntKind.i64.wrap ((q : Int) + 1) = (q : Int) + 1 := by rw [IntKind.wrap_i64]; omega
            have kt : ((q : Int) + 1).toNat = q + 1 := by omega
            have hqc1 : q + 1 ≤ cn := by omega
            have k1 : (0 : Int) ≤ (q : Int) + 1 := by omega
            have k2 : (q : Int) + 1 ≤ (nn : Int) := by omega
            have k3 : (q : Int) ≤ (nn : Int) := by omega
            have k4 : (0 : Int) ≤ (q : Int) := by omega
            clear hz5
            go_wp2_with fail
            have HK1 := Lib.hid (show (w5.alloc (.cells #[] 74)).heap[lb]? = w5.heap[lb]? from Below.heap_alloc w5 _ _ hl6)
            go_region_law (first
              | (refine step_append_n rfl (.tmp 157) (.tmp 160) 62 rfl 74 i0 _ 5 32 Tryd.underlying62 HI.out.1 HI.out.2.1 HI.out.2.2.1 HI.out.2.2.2 rfl (by omega) (.slice (some ⟨w5.heap.size, 0, none⟩) 0 0) 0 [] rfl (own_keep O0.out fun _ _ => rfl) ⟨lb, 0, none⟩ q cn (fl Ev.cs ((ordTo l (ext ps j)).2.take q)) rfl L1.out (hsr1.out _ (by exact HK1.out)) (ONE.out _) (by unfold maxLen; omega) (by omega) ?_; intro v7 w7 HO7 HM7; have H7 := Lib.hid (rord7 hl6 HM7.out); obtain ⟨A7, c7, rfl, -, -⟩ := own_slice HO7.out; have HO7b := Lib.hid (show w7.ownsRow 0 74 5 (.slice A7 q c7) q (fl Ev.cs ((ordTo l (ext ps j)).2.take q)) from by simpa using HO7.out))
              | (refine step_append_n rfl (.tmp 161) (.tmp 165) 62 rfl 74 i0 _ 5 32 Tryd.underlying62 HI.out.1 HI.out.2.1 HI.out.2.2.1 HI.out.2.2.2 rfl (by omega) (.slice A7 q c7) q (fl Ev.cs ((ordTo l (ext ps j)).2.take q)) rfl (own_keep HO7b.out fun _ _ => rfl) A2 (nn - (q + 1)) (cn - (q + 1)) (fl Ev.cs ((ordTo l (ext ps j)).2.drop (q + 1))) (by simp [Act.eval, Act.put, hA2]) L2.out (hsrc.out _ (by exact H7.out.2.1)) (ONE.out _) (by unfold maxLen; omega) (by omega) ?_; intro v8 w8 HO8 HM8; have H8 := Lib.hid (rord8 (v7 := .slice A7 q c7) H7.out.1 (by simpa [Value.ownBlock] using H7.out.2.2) HM8.out); obtain ⟨A8, c8, rfl, -, -⟩ := own_slice HO8.out))
            all_goals
              go_wp2
              go_roundw
              case rel =>
                have hsn := HSN.out
                have hel : ((ordTo l (ext ps j)).2.eraseIdx q).length = q + (nn - (q + 1)) := by rw [List.length_eraseIdx, if_pos (by rw [← HNN.out]; omega), ← HNN.out]; omega
                refine ⟨j + 1, by omega, by go_num, Lib.hid ⟨?_, ?_, ?_, fun b hb => ?_, fun b hb => (HB5.out b hb).1, fun b hb hb2 => ?_, ?_⟩⟩
                · rw [hsn]
                  unfold EvS
                  simp only
                  rw [hel, List.eraseIdx_eq_take_drop_succ, fl_append]
                  exact HO8.out
                · rw [hsn]
                  unfold EvS
                  simp only
                  rw [fl_append, fl_one, List.length_append, List.length_singleton, ← HN5.out]
                  exact own_mods HO5.out H8.out.1 (by simp)
                · rw [hsn]
                  simp only [List.length_append, List.length_singleton]
                  rw [HR2.out.dl]
                · have h1 := H8.out.2 b hb
                  have h2 := HR.out.mods.size
                  have h3 := HR2.out.m.size
                  have h4 := M5.out.size
                  omega
                · have h1 := H8.out.2 b hb
                  have h2 := (HB5.out b hb2).2
                  omega
                · exact (HR2.out.m.trans M5.out fun b hb => .inr (HR2.out.ob b hb)).trans H8.out.1 (by simp)
              case measure => simp [intOf]; omega
#print axioms rlwait_any
end Go.Proofs.YthaapkafamdhcaaDoor

/- What a slice of acts of stage 8's law is in memory when it came in. -/
namespace Go.Proofs.YthaapkafamdhcaaDoor
open Go.ChangeShapes Go.WideShapes Go.ChangeAt Go.RowKit Go.Deep
set_option maxRecDepth 100000
set_option linter.unusedVariables false
set_option linter.unusedSimpArgs false

theorem weights_all8 {H : Type} {P : Program} {e : TypeId} {d : DataW H} {n : Nat} (hn : n ∈ d.weights P e) : ∀ {l : List (DataW H)}, d ∈ l → n ∈ DataW.weightsAll P e l
  | x :: r, h => by
    rw [List.mem_cons] at h
    simp only [DataW.weightsAll, List.mem_append]
    rcases h with rfl | h
    · exact Or.inl hn
    · exact Or.inr (weights_all8 hn h)
section
variable {H : Type} {enc : TypeId × Value → H} {W : World} {base : Nat} {held : Bool} {b0 : Nat}
/-- Numbers that came in. -/
def Picks (W : World) (r : Rw) : Prop := NumsAt W [] r.A r.l ∧ r.l.length ≤ r.c ∧ r.c ≤ maxLen ∧ r.l.length ≤ 140737488355328
/-- An act that came in. -/
structure Act8 where
  kind : Int
  c : Int
  k : Int
  r : Bool
  w : Bool
  e : Bool
  P : Rw
def Act8Is (W : World) (b o : Nat) (a : Act8) : Prop :=
  W.cell? ⟨b, o, none⟩ = some (.int .i64 a.kind) ∧ W.cell? ⟨b, o + 1, none⟩ = some (.int .i64 a.c) ∧ W.cell? ⟨b, o + 2, none⟩ = some (.int .i64 a.k) ∧ W.cell? ⟨b, o + 3, none⟩ = some (.bool a.r) ∧ W.cell? ⟨b, o + 4, none⟩ = some (.bool a.w) ∧
    W.cell? ⟨b, o + 5, none⟩ = some (.bool a.e) ∧ W.cell? ⟨b, o + 6, none⟩ = some (.slice a.P.A a.P.l.length a.P.c) ∧ I64 a.kind ∧ I64 a.c ∧ I64 a.k ∧ Picks W a.P
def IsActs8 (W : World) (v : Value) : Prop :=
  (∃ a cap, v = .slice a 0 cap) ∨
  ∃ (b off len cap : Nat) (f : Nat → Act8), v = .slice (some ⟨b, off, none⟩) len cap ∧ 0 < len ∧ len ≤ cap ∧ cap ≤ maxLen ∧ b < W.heap.size ∧ ∀ j, j < len → Act8Is W b (off + j * 7) (f j)
theorem trod_nums {fuel : Nat} {c : Value} {x : DataW H × List MemPlace} (h : DataW.trod enc Tryd.prog W base (fun _ => true) held fuel 23 [c] = some x) (hsz : ∀ n ∈ x.1.weights Tryd.prog 23, n ≤ reachBytes) : ∃ r : Rw, c = .slice r.A r.l.length r.c ∧ Picks W r := by
  rcases open_ints Tryd.underlying23 Tryd.underlying3 (by kernel_rfl) h with ⟨hcs, _⟩ | ⟨x, l, cp, zs, hcs, _, hl, hm, hz, hx, hcell, hws⟩
  · injection hcs with hcs
    subst hcs
    exact ⟨⟨none, [], 0⟩, rfl, fun i x h => by simp at h, Nat.le_refl _, by show 0 ≤ maxLen; unfold maxLen; omega, by show 0 ≤ _; omega⟩
  · injection hcs with hcs
    subst hcs
    have hz' : zs.length = cp := by simpa using hz
    have hcp : cp ≤ reachBytes := by
      have hb : Tryd.prog.bytesOf 3 = 8 := by kernel_rfl
      have := hsz _ (by rw [hx]; simp only [DataW.weights, Tryd.underlying23]; exact List.mem_cons_self)
      simp only [lits, List.length_map, List.length_take, List.length_drop, hb] at this
      omega
    have hrb : reachBytes = 140737488351232 := rfl
    have hlen : (zs.take l).length = l := by rw [List.length_take]; omega
    refine ⟨⟨some x, zs.take l, cp⟩, by rw [hlen], ?_, by show (zs.take l).length ≤ cp; omega, hm, by show (zs.take l).length ≤ _; omega⟩
    intro i y hy
    rw [List.getElem?_take] at hy
    split at hy
    case isFalse => cases hy
    case isTrue hi =>
      have hc := hcell i (by omega)
      rw [List.getD_eq_getElem?_getD, hy] at hc
      obtain ⟨b, off, spot⟩ := x
      have hspot : spot = none := by simpa [Addr.add] using World.cell?_spot (hcell 0 (by omega))
      subst hspot
      rw [addr_add] at hc
      exact ⟨b, off, rfl, World.block_lt_of_cell? W _ hc, by simp, hc⟩
theorem trod_act8 {fuel : Nat} {cs : List Value} {x : DataW H × List MemPlace} (h : DataW.trod enc Tryd.prog W base (fun _ => true) held fuel 25 cs = some x) (hsz : ∀ n ∈ x.1.weights Tryd.prog 25, n ≤ reachBytes) :
    ∃ q : Act8, cs = [.int .i64 q.kind, .int .i64 q.c, .int .i64 q.k, .bool q.r, .bool q.w, .bool q.e, .slice q.P.A q.P.l.length q.P.c] ∧ I64 q.kind ∧ I64 q.c ∧ I64 q.k ∧ Picks W q.P := by
  obtain ⟨ys, n, _, hx, hl, hlen, hf⟩ := DataW.trod_struct Tryd.underlying25 h
  subst hx
  have hl2 : cs.length = 7 := hl.trans (by kernel_rfl)
  have hlen4 : ys.length = 7 := hlen
  match cs, hl2, ys, hlen4 with
  | [c0, c1, c2, c3, c4, c5, c6], _, [y0, y1, y2, y3, y4, y5, y6], _ =>
    have one : ∀ (c : Value) (y : DataW H × List MemPlace), DataW.trod enc Tryd.prog W base (fun _ => true) held n 3 [c] = some y → ∃ z, c = .int .i64 z ∧ I64 z := by
      intro c y h
      obtain ⟨z, e, _, w⟩ := DataW.trod_int Tryd.underlying3 h
      injection e with e
      exact ⟨z, e, i64_wf w⟩
    have bit : ∀ (c : Value) (y : DataW H × List MemPlace), DataW.trod enc Tryd.prog W base (fun _ => true) held n 4 [c] = some y → ∃ z, c = .bool z := by
      intro c y h
      obtain ⟨z, e, _⟩ := DataW.trod_bool Tryd.underlying4 h
      injection e with e
      exact ⟨z, e⟩
    have wt : ∀ (j : Nat) (t : TypeId) (y : DataW H), [3, 3, 3, 4, 4, 4, 23][j]? = some t → [y0.1, y1.1, y2.1, y3.1, y4.1, y5.1, y6.1][j]? = some y → ∀ n ∈ y.weights Tryd.prog t, n ≤ reachBytes := by
      intro j t y ht hy n hn
      refine hsz n ?_
      simp only [DataW.weights, Tryd.underlying25]
      exact DataW.weights_mem_each (ts := [3, 3, 3, 4, 4, 4, 23]) (ds := [y0.1, y1.1, y2.1, y3.1, y4.1, y5.1, y6.1]) (j := j) (t := t) ht hy n hn
    obtain ⟨z0, rfl, w0⟩ := one c0 y0 (hf 0 _ rfl)
    obtain ⟨z1, rfl, w1⟩ := one c1 y1 (hf 1 _ rfl)
    obtain ⟨z2, rfl, w2⟩ := one c2 y2 (hf 2 _ rfl)
    obtain ⟨z3, rfl⟩ := bit c3 y3 (hf 3 _ rfl)
    obtain ⟨z4, rfl⟩ := bit c4 y4 (hf 4 _ rfl)
    obtain ⟨z5, rfl⟩ := bit c5 y5 (hf 5 _ rfl)
    obtain ⟨r6, rfl, w6⟩ := trod_nums (c := c6) (x := y6) (hf 6 _ rfl) (wt 6 _ _ rfl rfl)
    exact ⟨⟨z0, z1, z2, z3, z4, z5, r6⟩, rfl, w0, w1, w2, w6⟩
theorem open_acts8 {v : Value} {d : DataW H} {p : List MemPlace} (hv : Value.okWide Tryd.prog W .any b0 22 v) (h : DataW.Trod enc Tryd.prog W base (fun _ => true) held 22 v d p) (hsz : ∀ n ∈ d.weights Tryd.prog 22, n ≤ reachBytes) : IsActs8 W v := by
  obtain ⟨a0, len0, cap0, rfl⟩ := okWide_slice Tryd.underlying22 hv
  obtain ⟨fuel, hf⟩ := h
  rcases open_slice Tryd.underlying22 hf with ⟨hcs, _⟩ | ⟨x, l, c, m, n, D, Pl, hcs, _, hl, hm, hmm, hx, hi⟩
  · simp [Value.cells] at hcs
    obtain ⟨rfl, rfl, rfl⟩ := hcs
    exact Or.inl ⟨_, _, rfl⟩
  · simp [Value.cells] at hcs
    obtain ⟨rfl, rfl, rfl⟩ := hcs
    by_cases h0 : len0 = 0
    · subst h0; exact Or.inl ⟨_, _, rfl⟩
    · right
      have hmz : len0 ≤ m := by rw [hmm]; split <;> omega
      have hC : Tryd.prog.cellsOf 25 = 7 := by kernel_rfl
      rw [hC] at hi
      simp only [Prod.mk.injEq] at hx
      obtain ⟨hd, _⟩ := hx
      have each : ∀ i, i < len0 → ∃ q : Act8, W.cell? ((x.add (i * 7)).add 0) = some (.int .i64 q.kind) ∧ W.cell? ((x.add (i * 7)).add 1) = some (.int .i64 q.c) ∧ W.cell? ((x.add (i * 7)).add 2) = some (.int .i64 q.k) ∧ W.cell? ((x.add (i * 7)).add 3) = some (.bool q.r) ∧
          W.cell? ((x.add (i * 7)).add 4) = some (.bool q.w) ∧ W.cell? ((x.add (i * 7)).add 5) = some (.bool q.e) ∧ W.cell? ((x.add (i * 7)).add 6) = some (.slice q.P.A q.P.l.length q.P.c) ∧ I64 q.kind ∧ I64 q.c ∧ I64 q.k ∧ Picks W q.P := by
        intro i him
        obtain ⟨cs', hc, ht⟩ := hi i (by omega)
        obtain ⟨q, rfl, w⟩ := trod_act8 ht (fun n hn => by
          refine hsz n ?_
          rw [hd]
          simp only [DataW.weights, Tryd.underlying22]
          exact List.mem_cons_of_mem _ (List.mem_append_left _ (weights_all8 hn (List.mem_map.2 ⟨i, List.mem_range.2 him, rfl⟩))))
        obtain ⟨_, hcl, hat⟩ := World.cells?_some hc
        exact ⟨q, hat 0 (by decide), hat 1 (by decide), hat 2 (by decide), hat 3 (by decide), hat 4 (by decide), hat 5 (by decide), hat 6 (by decide), w⟩
      obtain ⟨b, off, spot⟩ := x
      obtain ⟨q0, hc0, _⟩ := each 0 (by omega)
      have hspot : spot = none := by simpa [Addr.add] using World.cell?_spot hc0
      subst hspot
      have hb : b < W.heap.size := by
        have := World.block_lt_of_cell? W _ hc0
        simpa [addr_add] using this
      simp only [addr_add, Nat.add_zero] at each
      refine ⟨b, off, len0, cap0, fun j => if h : j < len0 then Classical.choose (each j h) else q0, rfl, by omega, hl, hm, hb, fun j hj => ?_⟩
      simp only [dif_pos hj]
      exact Classical.choose_spec (each j hj)
end
end Go.Proofs.YthaapkafamdhcaaDoor
