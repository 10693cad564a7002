/- For every number and list of picks, picks turn the order alone, the same is told: the law returns true. Condition: the library's table of 64 is laid as its initialiser lays it. -/
import Derived.Test.YthaapkafamdhcaaDoorCards
import Derived.Test.YthaapkafamdhcaaDoorTie
import Derived.Lay
import Derived.LaidOnce
import Derived.MakeChecks
import Derived.SevenTiedAt
import Derived.WalkKit
import Derived.ProofKit
import Derived.OpenShut
import Derived.ShutString
import Derived.ChangeOld
import Derived.Below
import Derived.SizedLaws
import Derived.Test.YthaapkafamdhcaaDoorMgG
import Derived.Carry

namespace Go.Proofs.YthaapkafamdhcaaDoor.pollPicks
open Go.ChangeShapes Go.WideShapes Go.ChangeAt Go.RowKit
open Go.ChangeMaps (open_string shut_string)
set_option linter.unusedVariables false
def bb (O : List Bool) : List Value := O.map .bool
theorem bb_at (O : List Bool) (i : Nat) (b : Bool) (h : O[i]? = some b) : (bb O).toArray[i]? = some (.bool b) := by
  rw [List.getElem?_toArray]; simp [bb, h]
theorem bb_set (O : List Bool) (i : Nat) (b : Bool) : (bb O).toArray.setIfInBounds i (.bool b) = (bb (O.set i b)).toArray := by
  simp [bb, List.map_set, List.setIfInBounds_toArray]
theorem bb_new (n : Nat) : (bb (List.replicate n false)).toArray = madeCells #[.bool false] n := by
  refine Array.ext ?_ ?_
  · simp [bb, size_madeCells]
  · intro i h1 h2
    have h0 : i % 1 = 0 := Nat.mod_one i
    simp [bb, madeCells, h0]
theorem bool_info : (Tryd.prog.info? 4).map (fun i => (i.zero, i.size, i.bytes)) = some (some (.bool false), 1, 1) := by kernel_rfl
theorem make_bool (n : Nat) (h : n ≤ 65536) (w : World) : (Instr.makeSlice 54 (.int .i64 (n : Int)) (.int .i64 (n : Int))).run Tryd.prog w =
    .ok (.slice (some ⟨w.heap.size, 0, none⟩) n n) (w.alloc (.cells (madeCells #[.bool false] n) 4)) := by
  obtain ⟨i, hi, hz, hs, hb⟩ := info_parts bool_info
  have := run_make (P := Tryd.prog) w 54 4 i (.bool false) Tryd.underlying54 hi hz .i64 .i64 n n (by omega) (Int.le_refl _) (by rw [hb]; omega) (by omega)
  simpa [hs, Value.cells] using this
def yk : Nat → Plr
  | 0 => Plr.new (Nt.new 20)
  | k + 1 => ({ yk k with net := (((yk k).net.conn 1).acc).send k [1] } : Plr).watch k true true false
def sameL : List Ev → List Ev → Bool
  | [], [] => true
  | a :: l, b :: m => a.same b && sameL l m
  | _, _ => false
theorem sameL_eq : ∀ l m : List Ev, sameL l m = true → l = m
  | [], [], _ => rfl
  | [], _ :: _, h => by simp [sameL] at h
  | _ :: _, [], h => by simp [sameL] at h
  | a :: l, b :: m, h => by
    simp only [sameL, Bool.and_eq_true] at h
    rw [sameL_eq l m h.2, (Ev.same_iff a b).1 h.1]
def yev (i : Nat) : Ev := ⟨i, 1, i, true, false⟩
structure Yz (z : Nat → Plr) (n1 n2 n3 : Nat → Nt) : Prop where
  zero : Plr.new (Nt.new 20) = z 0
  conn : ∀ k < 20, (z k).net.conn 1 = n1 k
  acc : ∀ k < 20, (n1 k).acc = n2 k
  send : ∀ k < 20, (n2 k).send k [1] = n3 k
  watchE : ∀ k < 20, ({ z k with net := n3 k } : Plr).watchE k = 0
  cnt : ∀ k < 20, ({ z k with net := n3 k } : Plr).sl.cnt < 4096
  watch : ∀ k < 20, ({ z k with net := n3 k } : Plr).watch k true true false = z (k + 1)
  told : ∀ n < 21, (z n).told = (List.range n).map yev
set_option maxHeartbeats 4000000 in
theorem yz : Yz yk (fun k => (yk k).net.conn 1) (fun k => ((yk k).net.conn 1).acc) (fun k => (((yk k).net.conn 1).acc).send k [1]) where
  zero := rfl
  conn _ _ := rfl
  acc _ _ := rfl
  send _ _ := rfl
  watchE := by decide +kernel
  cnt := by decide +kernel
  watch _ _ := rfl
  told := fun n hn => sameL_eq _ _ ((show ∀ n < 21, sameL (yk n).told ((List.range n).map yev) = true by decide +kernel) n hn)
theorem NumsAt.far {w wr : World} {A : Option Addr} {l : List Int} (h : NumsAt w [] A l) (hm : Mods [] w wr) (F : List Nat) (hF : ∀ k ∈ F, w.heap.size ≤ k) : NumsAt wr F A l := fun i x hx => by
  obtain ⟨b, o, e, hb, _, hc⟩ := h i x hx
  exact ⟨b, o, e, Nat.lt_of_lt_of_le hb hm.size, fun hk => by have := hF b hk; omega, cell_mods hc hm (by simp)⟩
theorem picks_of (n : Nat) (l : List Ev) (h : l.Perm ((List.range n).map yev)) : ∃ js : List Nat, l = js.map yev ∧ js.length = n ∧ js.Nodup ∧ ∀ j ∈ js, j < n := by
  have e1 : ∀ x ∈ l, yev x.c.toNat = x := fun x hx => by
    obtain ⟨j, hj, rfl⟩ := List.mem_map.1 (h.mem_iff.1 hx)
    rfl
  have e2 : (l.map fun x => x.c.toNat).Perm (List.range n) := by
    have := h.map fun x : Ev => x.c.toNat
    rw [List.map_map] at this
    have e : ((fun x : Ev => x.c.toNat) ∘ yev) = id := by funext j; rfl
    rw [e, List.map_id] at this
    exact this
  refine ⟨l.map fun x => x.c.toNat, ?_, by rw [e2.length_eq, List.length_range], e2.nodup_iff.2 List.nodup_range, fun j hj => List.mem_range.1 (e2.mem_iff.1 hj)⟩
  rw [List.map_map]
  conv => lhs; rw [← List.map_id l]
  exact (List.map_congr_left fun x hx => (e1 x hx).symm)
/-- What is seen when i have been looked at. -/
def seenAt (n : Nat) (js : List Nat) (i : Nat) : List Bool := (List.range n).map fun j => decide (j ∈ js.take i)
theorem seen_zero (n : Nat) (js : List Nat) : seenAt n js 0 = List.replicate n false := by
  unfold seenAt
  refine List.ext_getElem (by simp) fun i h1 h2 => by simp
theorem seen_at {n : Nat} {js : List Nat} {i j : Nat} (hj : j < n) (hd : js.Nodup) (h : js[i]? = some j) : (seenAt n js i)[j]? = some false := by
  unfold seenAt
  have hi := (List.getElem?_eq_some_iff.1 h).1
  rw [List.getElem?_map, List.getElem?_range hj]
  have : j ∉ js.take i := fun hm => by
    have h1 : (js.take i ++ [j]).Nodup := by
      have : js.take (i + 1) = js.take i ++ [j] := by rw [List.take_add_one, h]; rfl
      rw [← this]
      exact hd.sublist (List.take_sublist _ _)
    rw [List.nodup_append] at h1
    exact h1.2.2 j hm j (by simp) rfl
  simp [this]
theorem seen_next {n : Nat} {js : List Nat} {i j : Nat} (hj : j < n) (h : js[i]? = some j) : seenAt n js (i + 1) = (seenAt n js i).set j true := by
  unfold seenAt
  refine List.ext_getElem (by simp) fun k h1 h2 => ?_
  rw [List.getElem_set]
  simp only [List.getElem_map, List.getElem_range, List.take_add_one, h]
  by_cases e : j = k
  · subst e; simp
  · simp [e, Ne.symm e]
theorem other (c : Int) (v : Value) (w : World) (ht : TzTab w) (o : IsInts w v) (h : (c < 1 ∨ 20 < c) ∨ ∃ a len cap, v = .slice a len cap ∧ 100 < len) :
    Calls Tryd.prog 5 #[.int .i64 c, v] w fun e w' => e = .returned (.bool true) ∧ Below w.heap.size w w' := by
  obtain ⟨A, len, cap, rfl⟩ : ∃ A len cap, v = .slice A len cap := by
    rcases o with ⟨a, cap, rfl⟩ | ⟨b, off, len, cap, f, rfl, _⟩
    · exact ⟨_, _, _, rfl⟩
    · exact ⟨_, _, _, rfl⟩
  have hK := known_any w ht
  by_cases h1 : c < 1
  · go_enter Tryd.func5, Tryd.ntmps5
    go_wp2_with fail
    refine hK.mono ?_
    rintro e w9 ⟨rfl, h9⟩
    go_wp2
    go_ret
    exact ⟨rfl, h9.below⟩
  · by_cases h2 : 20 < c
    · go_enter Tryd.func5, Tryd.ntmps5
      go_wp2_with fail
      refine hK.mono ?_
      rintro e w9 ⟨rfl, h9⟩
      go_wp2
      go_ret
      exact ⟨rfl, h9.below⟩
    · have h3 : (100 : Int) < (len : Int) := by
        rcases h with h | ⟨a, l, k, e, hl⟩
        · omega
        · injection e with e1 e2 e3; subst e2; omega
      go_enter Tryd.func5, Tryd.ntmps5
      go_wp2_with fail
      refine hK.mono ?_
      rintro e w9 ⟨rfl, h9⟩
      go_wp2
      go_ret
      exact ⟨rfl, h9.below⟩
set_option maxRecDepth 100000 in
set_option maxHeartbeats 4000000 in
theorem main {z : Nat → Plr} {n1 n2 n3 : Nat → Nt} (hz : Yz z n1 n2 n3) (w : World) (ht : TzTab w) (n : Nat) (h0 : 1 ≤ n) (hn : n ≤ 20) (A : Option Addr) (len cap : Nat) (ps : List Int) (hp : NumsAt w [] A ps) (hps : len = ps.length) (hl : len ≤ 100) :
    Calls Tryd.prog 5 #[.int .i64 (n : Int), .slice A len cap] w fun e w' => e = .returned (.bool true) ∧ Below w.heap.size w w' := by
  have hnp := eql_ppol
  have hnn := eql_pnet
  have HT := Lib.hid ht
  have HP := Lib.hid hp
  have hlen : ¬ (100 : Int) < (len : Int) := by omega
  have hn1 : ¬ (n : Int) < 1 := by omega
  have hn2 : ¬ (20 : Int) < (n : Int) := by omega
  clear ht hp
  go_enter Tryd.func5, Tryd.ntmps5
  go_wp2_with fail
  refine (nnew_any 20 w (by omega) (by omega)).mono ?_
  rintro e w1 ⟨rfl, hn, hm⟩
  have HN := Lib.hid hn
  have HM := Lib.hid hm
  clear hn hm
  go_wp2_with fail
  refine (pnew_any w1 w.heap.size 0 _ _ HN.out).mono ?_
  rintro e w2 ⟨p, rfl, hd⟩
  have H2 := Lib.hid (hz.zero ▸ PolL.new (Kb := []) (Mods.refl [] w) (by simp) HM.out hd.out)
  have c0 := H2.out.cell
  clear hd
  go_wp2_with fail
  go_loopw [9] (fun iv wr => ∃ i : Nat, i ≤ n ∧ iv = .int .i64 (i : Int) ∧ Hid (PolL w wr p w.heap.size (z i) i i [])) (fun iv _ => n - (intOf iv).toNat)
  case atStart => exact ⟨0, by omega, rfl, H2⟩
  case round =>
    clear H2 c0
    obtain ⟨i, hi, rfl, hr⟩ := hrel
    have c1 := hr.out.cell
    by_cases hlt : i < n
    · have q1 : (i : Int) < (n : Int) := by omega
      have hk : i < 20 := by omega
      go_wp2_with fail
      refine (pconnL w _ p w.heap.size i i (z i) _ hr.out 1 (n1 i) (hz.conn i hk)).mono ?_
      rintro e w3 ⟨rfl, hd⟩
      have H3 := Lib.hid hd.out.1
      have c3 := H3.out.cell
      clear hd c1 hr
      go_wp2_with fail
      refine (paccL w _ p w.heap.size i i _ _ H3.out _ _ _ (n2 i) rfl rfl rfl (hz.acc i hk)).mono ?_
      rintro e w4 ⟨rfl, hd⟩
      have H4 := Lib.hid hd.out.1
      have c4 := H4.out.cell
      clear hd c3 H3
      go_wp2_with fail
      refine (psendL w _ p w.heap.size i i _ _ H4.out (by omega) (i : Int) 1 (by omega) _ _ (n3 i) rfl rfl (hz.send i hk)).mono ?_
      rintro e w5 ⟨rfl, hd⟩
      have H5 := Lib.hid hd.out.1
      have c5 := H5.out.cell
      clear hd c4 H4
      go_wp2_with fail
      refine (watchL w w5 p w.heap.size (i + 1) i _ [] (i : Int) true true false H5.out HT.out (hz.watchE i hk) (hz.cnt i hk) (by omega) _ _ (z (i + 1)) rfl rfl (hz.watch i hk)).mono ?_
      rintro e w6 ⟨rfl, hd⟩
      have H6 := Lib.hid hd.out.1
      have H6a := Lib.hid (H6.out.quiet ((Mods.refl [] w6).alloc (.cells #[.int .i64 ((z i).sl.least : Int), .int .i64 ((z i).sl.gen : Int)] 47)))
      clear hd c5 H5
      go_wp2
      go_roundw
      case rel => exact ⟨i + 1, by omega, by go_num, H6a⟩
      case measure => simp [intOf]; omega
    · have q1 : ¬ (i : Int) < (n : Int) := by omega
      have hie : i = n := by omega
      subst hie
      have HR := Lib.hid hr.out
      clear hr hlt hi
      obtain ⟨js, hl, hjl, hjd, hjn⟩ := picks_of i (ord (z i).told ps) (hz.told i (by omega) ▸ ord_perm _ ps)
      have HJ := Lib.hid (And.intro hjl (And.intro hjd hjn))
      clear hjl hjd hjn
      go_wp2_with fail
      refine (waitL w wr wr p w.heap.size i i (z i) _ HR.out (Mods.refl _ _) A _ cap ps (fun F hF => NumsAt.far HP.out HR.out.mods F fun k hk => (hF k hk).1) rfl (by omega) (js.map yev) _ hl rfl).mono ?_
      rintro e w7 ⟨B, m, c, rfl, hm, hd⟩
      have H7 := Lib.hid hd.out.1
      have E7 := Lib.hid hd.out.2.2
      obtain rfl : m = i := by have := hm.out.1; rw [List.length_map, HJ.out.1] at this; exact this
      clear hd HR c1 hm
      obtain ⟨b, rfl⟩ : ∃ b, B = some ⟨b, 0, none⟩ := by
        obtain ⟨g', c', e', _⟩ := own_some E7.out (by rw [List.length_map, HJ.out.1]; omega)
        injection e' with e1 e2 e3
        exact ⟨g', e1⟩
      have hmk := make_bool m (by omega)
      obtain ⟨cs, hcs⟩ : ∃ cs, cs = madeCells #[.bool false] m := ⟨_, rfl⟩
      rw [← hcs] at hmk
      have hcs2 : cs = (bb (seenAt m js 0)).toArray := by rw [hcs, seen_zero, bb_new]
      clear hcs
      subst hcs2
      have M8 := Lib.hid (H7.out.mods.alloc (.cells (bb (seenAt m js 0)).toArray 4))
      have E8 := Lib.hid (E7.out.mods ((Mods.refl [] w7).alloc (.cells (bb (seenAt m js 0)).toArray 4)) (by simp))
      have R8 := Lib.hid (Row.new w7 4 (bb (seenAt m js 0)).toArray)
      have Z8 := Lib.hid H7.out.mods.size
      clear E7 H7
      go_wp2_with fail
      go_loopw [14] (fun iv wr => ∃ i : Nat, i ≤ m ∧ iv = .int .i64 (i : Int) ∧ Hid (Mods [] w wr ∧ EvS wr (.slice (some ⟨b, 0, none⟩) m c) (js.map yev) ∧ Row wr w7.heap.size 4 (bb (seenAt m js i)).toArray)) (fun iv _ => m - (intOf iv).toNat)
      case atStart => exact ⟨0, by omega, rfl, Lib.hid ⟨M8.out, E8.out, R8.out⟩⟩
      case round =>
        clear M8 E8 R8
        obtain ⟨i, hi, rfl, hr⟩ := hrel
        by_cases hlt : i < m
        · have q1 : (i : Int) < (m : Int) := by omega
          obtain ⟨j, hj⟩ : ∃ j, js[i]? = some j := ⟨_, List.getElem?_eq_getElem (by rw [HJ.out.1]; exact hlt)⟩
          have hjm : j < m := HJ.out.2.2 j (List.mem_of_getElem? hj)
          have hx : (js.map yev)[i]? = some (yev j) := by rw [List.getElem?_map, hj]; rfl
          have x0 : wr.cell? ⟨b, i * 5, none⟩ = some (.int .i64 (j : Int)) := hr.out.2.1.at_.2.cell hx (j := 0) (by omega)
          have x1 : wr.cell? ⟨b, i * 5 + 1, none⟩ = some (.int .i64 1) := hr.out.2.1.at_.2.cell hx (j := 1) (by omega)
          have x2 : wr.cell? ⟨b, i * 5 + 2, none⟩ = some (.int .i64 (j : Int)) := hr.out.2.1.at_.2.cell hx (j := 2) (by omega)
          have x3 : wr.cell? ⟨b, i * 5 + 3, none⟩ = some (.bool true) := hr.out.2.1.at_.2.cell hx (j := 3) (by omega)
          have x4 : wr.cell? ⟨b, i * 5 + 4, none⟩ = some (.bool false) := hr.out.2.1.at_.2.cell hx (j := 4) (by omega)
          have s0 : wr.cell? ⟨w7.heap.size, j, none⟩ = some (.bool false) := by rw [hr.out.2.2.cell, bb_at _ _ _ (seen_at hjm HJ.out.2.1 hj)]
          have s1 : wr.frozen? ⟨w7.heap.size, j, none⟩ = false := hr.out.2.2.free j
          have q2 : ¬ (j : Int) < 0 := by omega
          have q3 : (j : Int) < (m : Int) := by omega
          have HX := Lib.hid hj
          have HR := Lib.hid hr.out
          clear hx hj hr
          go_wp2
          go_roundw
          case rel =>
            have hM : Mods [w7.heap.size] wr (wr.setCell ⟨w7.heap.size, j, none⟩ (.bool true)) := (Mods.refl _ wr).setCell (.inl (by simp)) _
            refine ⟨i + 1, by omega, by go_num, Lib.hid ⟨HR.out.1.setCell (.inr Z8.out) _, HR.out.2.1.mods hM (fun k hk hk2 => own_ne_row HR.out.2.1 HR.out.2.2 (by decide) k hk (by simpa using hk2)), ?_⟩⟩
            rw [seen_next hjm HX.out, ← bb_set]
            exact HR.out.2.2.set j _
          case measure => simp [intOf]; omega
        · have q1 : ¬ (i : Int) < (m : Int) := by omega
          have HR := Lib.hid hr.out
          clear hr
          go_wp2_with fail
          refine (known_any _ (HT.out.mods HR.out.1 (by simp))).mono ?_
          rintro e w9 ⟨rfl, h9⟩
          have H9 := Lib.hid (HR.out.1.trans h9 (by simp))
          clear h9
          go_wp2
          go_ret
          exact ⟨rfl, H9.out.below⟩
theorem walk (c : Int) (wc : (Lit.int .i64 c).wf = true) (v : Value) (w : World) (o : IsInts w v) (hL : laidMetH Tryd.prog Rows.pollPicksRow.laid w) :
    Calls Tryd.prog 5 #[.int .i64 c, v] w fun e w' => e = .returned (.bool true) ∧ Below w.heap.size w w' := by
  rw [MakeChecks.laidMetH_plain _ _ _ (by kernel_rfl)] at hL
  have ht := tz_of hL rfl
  by_cases hc : c < 1 ∨ 20 < c
  · exact other c v w ht o (.inl hc)
  obtain ⟨n, rfl⟩ : ∃ n : Nat, c = (n : Int) := ⟨c.toNat, by omega⟩
  rcases o with ⟨a, cap, rfl⟩ | ⟨b, off, len, cap, f, rfl, h0, hlc, hcm, hb, hf⟩
  · exact main yz w ht n (by omega) (by omega) a 0 cap [] (fun i x h => by simp at h) rfl (by omega)
  · by_cases hl : len ≤ 100
    · refine main yz w ht n (by omega) (by omega) _ len cap ((List.range len).map f) (fun i x h => ?_) (by simp) hl
      rw [List.getElem?_map] at h
      have hi : i < len := by
        rcases Nat.lt_or_ge i len with h1 | h1
        · exact h1
        · rw [List.getElem?_eq_none (by simpa using h1)] at h; cases h
      rw [List.getElem?_range hi] at h
      simp at h; subst h
      exact ⟨b, off, rfl, hb, by simp, (hf i hi).1⟩
    · exact other _ _ w ht (.inr ⟨b, off, len, cap, f, rfl, h0, hlc, hcm, hb, hf⟩) (.inr ⟨_, len, cap, rfl, by omega⟩)

theorem own : ownKnob Tryd.prog.godebug = none := by kernel_rfl
theorem laidOut : laidOutB Tryd.prog = true := by kernel_rfl
set_option maxRecDepth 100000 in
theorem lifted (os : Os) (started : os.Started) (H : Type) (enc : TypeId × Value → H) :
    ReturnsInHanded {} Tryd.checked os 5 .any (fun w args => (Rows.pollPicksSpec.pre enc Tryd.prog Tryd.f5 [] false w args ∧ laidMetH Tryd.prog Rows.pollPicksRow.laid w) ∧ sizedMet enc Tryd.prog Tryd.f5 (OpenSpec.ofChange Rows.pollPicksSpec) false w args)
      (Rows.pollPicksSpec.post enc Tryd.prog Tryd.f5 false true false false) := by
  refine returnsInHanded_of_change_and (C := Tryd.checked) (X := fun w _ => laidMetH Tryd.prog Rows.pollPicksRow.laid w) (fun _ _ _ hh h => h.of_heap hh) own started (by kernel_rfl) Tryd.func5
    (ChangeSpec.witness_shaped (enc := enc) (C := Tryd.checked) (os := os) (X := fun w _ => laidMetH Tryd.prog Rows.pollPicksRow.laid w) false (World.laidAll Tryd.prog os Rows.pollPicksRow.laid) #[.int .i64 0, .slice none 0 0] 8 (World.laidAll_os _ _ _)
      (World.shaped_of_ZipB (by kernel_rfl) (by kernel_rfl)) (by kernel_rfl) (by kernel_rfl) (by kernel_rfl)
      (by rw [MakeChecks.laidMetH_plain _ _ _ (by kernel_rfl)]; exact laidMet_laidAll _ (by kernel_rfl) (by kernel_rfl))) ?_
  intro W base args ds gs before hval0 hW hcnd hsz0 hL _
  have hsz : (DataW.weightsEach Tryd.prog (Tryd.f5.params.toList ++ Rows.pollPicksSpec.plain.varTypes Tryd.prog) (ds ++ gs)).all (· ≤ reachBytes) = true := hsz0
  have hval : ∀ (j : Nat) t v, Tryd.f5.params[j]? = some t → args[j]? = some v → Value.okWide Tryd.prog W .any base t v := hval0
  have hW' := hW
  obtain ⟨p, q, hA0, hV, rfl, hfz, hnd⟩ := hW
  have hA : DataW.TrodAll enc Tryd.prog W 0 (fun _ => true) true Tryd.f5.params.toList args.toList ds p := hA0
  rw [Tryd.params5] at hA hval hsz
  obtain ⟨v0, vs0, d0, ds0, p0, q0, hargs, rfl, rfl, h0, r0⟩ := trodAll_cons hA
  obtain ⟨v1, vs1, d1, ds1, p1, q1, rfl, rfl, rfl, h1, r1⟩ := trodAll_cons r0
  obtain ⟨rfl, rfl, rfl⟩ := trodAll_nil r1
  obtain rfl : args = #[v0, v1] := by cases args; simp_all
  obtain ⟨rfl, rfl⟩ := trodVars_none hV
  obtain ⟨a0, rfl, rfl, rfl, w0⟩ := open_int Tryd.underlying3 (hval 0 3 v0 rfl rfl) h0
  have k1 := h1
  have lt1 : ∀ x ∈ p1, x.block < W.heap.size := by obtain ⟨m, hm⟩ := k1; exact DataW.trod_lt m _ _ _ hm
  obtain o1 := open_nums (hval 1 23 v1 rfl rfl) k1
  clear hA0 hval0 hsz0 hsz
  refine (walk a0 w0 v1 W o1 hL).mono fun e W' ⟨he, bel⟩ => ?_
  subst he
  exact ⟨_, rfl, _, _, _, [], _, [], hW', trodAll_mk1 (shut_bool Tryd.underlying4 _), (trodAll_cons_mk (shut_int Tryd.underlying3 w0) (trodAll_cons_mk (Below.trod laidOut (by kernel_rfl) (of_decide_eq_true (by kernel_rfl)) k1 bel lt1) trodAll_mk0)), rfl, bel.frame _, fun h => by cases h⟩

theorem over : Rows.pollPicksRow.holds Tryd.pinned (OpenSpec.ofChange Rows.pollPicksSpec) :=
  OpenClaim.holds_of_wide 5 Tryd.f5 rfl rfl rfl rfl rfl rfl rfl ⟨rfl, rfl, rfl, rfl, rfl⟩ rfl rfl rfl rfl rfl (by kernel_rfl) Tryd.func5 (by kernel_rfl)
    (of_decide_eq_true (by kernel_rfl)) (by unfold Func.isWrapper; first | (rw [if_pos (by decide +kernel)]; kernel_rfl) | (rw [if_neg (by decide +kernel)]; exact ⟨rfl, rfl⟩))
    (fun os started H enc _ => lifted os started H enc)

theorem said : Rows.PollPicksSaid := over
theorem plain (f : FuncId) (fn : Func) (hf : Tryd.pinned.checked.prog.funcNamed "usher/usherlaw8.PollPicks" = some f) (hfn : Tryd.pinned.checked.prog.funcs[f]? = some fn) :
    false = Tryd.pinned.checked.prog.looks [] ∧ ∀ (j : Nat) t, fn.params[j]? = some t → Tryd.pinned.checked.prog.wantsStandIn t = false := by
  obtain rfl : f = 5 := Option.some.inj ((show Tryd.prog.funcNamed "usher/usherlaw8.PollPicks" = some 5 by kernel_rfl).symm.trans hf) |>.symm
  obtain rfl : fn = Tryd.f5 := (Option.some.inj (Tryd.func5.symm.trans hfn)).symm
  refine ⟨by kernel_rfl, fun j t ht => ?_⟩
  rw [Tryd.params5] at ht
  have hm : t ∈ [3, 23] := by simpa using Array.mem_of_getElem? ht
  simp only [List.mem_cons, List.mem_nil_iff, or_false] at hm
  rcases hm with rfl | rfl
  · exact (show Tryd.prog.wantsStandIn 3 = false by kernel_rfl)
  · exact (show Tryd.prog.wantsStandIn 23 = false by kernel_rfl)
theorem proved : Rows.PollPicksCardSaid :=
  Claim7.holds_tied_plain_at .later [] _ _ _ _ said (fun _ h => by cases h) (by kernel_rfl) (fun _ h => by cases h) pollPicks_row_tie rfl ⟨rfl, rfl⟩ (by kernel_rfl) rfl plain (by kernel_rfl)
end Go.Proofs.YthaapkafamdhcaaDoor.pollPicks
