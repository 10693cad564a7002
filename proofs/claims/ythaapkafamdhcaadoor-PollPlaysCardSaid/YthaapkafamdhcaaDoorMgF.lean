/- What tell of the program's poller answers. -/
import Derived.Test.YthaapkafamdhcaaDoorMgE
namespace Go.Proofs.YthaapkafamdhcaaDoor
open Go.RowKit
set_option maxRecDepth 10000
set_option linter.unusedVariables false
set_option linter.unusedSimpArgs false

theorem Nt.Ok.markR {S : Nt} {m : Nat} (h : S.Ok m) (c : Int) : 0 ≤ S.markR c ∧ S.markR c ≤ 900000000 := by
  unfold Nt.markR
  split
  · have := h.n2; omega
  · cases hs : S.at? c with
    | none => rw [Nt.get_none hs]; simp [none_, Cn.new]
    | some s =>
      rw [Nt.get_some hs]
      obtain ⟨i, rfl, h1, h2⟩ := Nt.at_some hs
      have := h.cn s (List.mem_of_getElem? h1)
      have := h.mm
      omega
theorem Nt.Ok.markW {S : Nt} {m : Nat} (h : S.Ok m) (c : Int) : 0 ≤ S.markW c ∧ S.markW c ≤ 900000000 := by
  unfold Nt.markW
  split
  · omega
  · cases hs : S.at? c with
    | none => rw [Nt.get_none hs]; simp [none_, Cn.new]
    | some s =>
      rw [Nt.get_some hs]
      obtain ⟨i, rfl, h1, h2⟩ := Nt.at_some hs
      have := h.cn s (List.mem_of_getElem? h1)
      have := h.mm
      omega
theorem WsAt.drew {w : World} {vb cap : Nat} {ws : List Wch} (h : WsAt w vb cap ws) : WsAt w.drew vb cap ws := own_keep h fun _ _ => rfl
/-- An event is returned out of its cell. -/
theorem ret_ev {fn : Func} {a : Act} {W : World} {R : Ending → World → Prop} {r : Nat} {e : Ev} (hres : fn.results = #[.cell 4 74]) (hr : Row W r 74 e.cs.toArray)
    (h4 : a.tmps.getD 4 undef = .pointer (some ⟨r, 0, none⟩)) (hd : a.defers = []) (hR : R (.returned (.agg e.cs.toArray)) W) : bodyPost Tryd.prog fn R .ret a W := by
  have k0 := hr.cell 0
  have k1 := hr.cell 1
  have k2 := hr.cell 2
  have k3 := hr.cell 3
  have k4 := hr.cell 4
  refine bodyPost_ret (v := .agg e.cs.toArray) ?_ hd hR
  have g4 : a.tmps[4]?.getD undef = .pointer (some ⟨r, 0, none⟩) := by simpa using h4
  have k0 : W.cell? ⟨r, 0, none⟩ = some (.int .i64 e.s) := k0
  have k1 : W.cell? ⟨r, 1, none⟩ = some (.int .i64 e.g) := k1
  have k2 : W.cell? ⟨r, 2, none⟩ = some (.int .i64 e.c) := k2
  have k3 : W.cell? ⟨r, 3, none⟩ = some (.bool e.r) := k3
  have k4 : W.cell? ⟨r, 4, none⟩ = some (.bool e.w) := k4
  simp [results, hres, go_sem, g4, k0, k1, k2, k3, k4, Ev.cs]
/-- What tell has found: the watch has turned, or not. -/
theorem PolA.tellTo {w w1 w2 w9 : World} {x : Ft} {p g hs mb m K vb cap i eb : Nat} {P : Plr} (H : PolF w x p g hs mb (.slice (some ⟨vb, 0, none⟩) P.ws.length cap) P m K) (hq : Mods [] w w1) (hi : i < P.ws.length)
    (hw : WsAt w2 vb cap (P.ws.set i ((P.wch i).put (P.tR i) (P.tW i) (P.net.markR (P.id i)).toNat (P.net.markW (P.id i)).toNat))) (hm : Mods [vb] w1 w2) (h9 : Mods [eb] w2 w9) (heb : w.heap.size ≤ eb) (heb2 : eb < w1.heap.size) : PolA w9 p g x.all (P.tell i) m K ∧ Mods x.all w w9 := by
  have hb1 := (H.net.ok.markR (P.id i))
  have hb2 := (H.net.ok.markW (P.id i))
  obtain ⟨h1, h2⟩ := (H.quiet hq).wsAt hw hm (by simp) (fun y hy => by
    rcases mem_set_or hy with h | h
    · exact H.ok.tld y h
    · rw [h]
      have := H.ok.tld _ (List.mem_of_getElem? (H.ok.wch hi))
      simp only [Wch.put]
      constructor
      · split <;> omega
      · split <;> omega)
  have hne : ∀ k ∈ x.all, k ∉ [eb] := fun k hk hk2 => by
    obtain rfl := List.mem_singleton.1 hk2
    obtain ⟨j, hj⟩ := Ft.mem_all.1 hk
    have := H.lt j _ hj
    omega
  exact ⟨⟨x, hs, mb, .slice (some ⟨vb, 0, none⟩) P.ws.length cap, rfl, (h1.mods h9 hne : PolF w9 x p g hs mb _ (P.tell i) m K)⟩, ((hq.more (by simp)).trans h2 fun k hk => .inl hk).trans h9 (fun k hk => by simp at hk; right; omega)⟩
set_option maxHeartbeats 1000000 in
theorem tell_ff (w : World) (p g m K i : Nat) (F : List Nat) (P : Plr) (h : PolA w p g F P m K) (b : Int) (his : P.sl.is i b = true) (hrr : P.net.readyR (P.id i) = false) (hrw : P.net.readyW (P.id i) = false) :
    Calls Tryd.prog 51 #[.pointer (some ⟨p, 0, none⟩), .agg #[.int .i64 i, .int .i64 b]] w fun e w' => e = .returned (.agg (P.ev ((i : Int), b)).cs.toArray) ∧ Hid (PolA w' p g F (P.tell i) m K ∧ Mods F w w') := by
  obtain ⟨x, hs, mb, vw, rfl, H⟩ := h
  obtain ⟨-, hlt, -, -⟩ := Slb.is_lt his
  rw [Int.toNat_natCast] at hlt
  have h4 := H.ok.sl.len
  have h5 := H.ok.sl.hi
  have hlw : i < P.ws.length := by rw [H.ok.len]; exact hlt
  obtain ⟨vb, cap, rfl, hcap, hmx, hW, hc2⟩ := H.row2 hlw
  have hx := H.ok.wch hlw
  obtain ⟨mr, hmr⟩ := Int.eq_ofNat_of_zero_le (H.net.ok.markR (P.id i)).1
  obtain ⟨mw, hmw⟩ := Int.eq_ofNat_of_zero_le (H.net.ok.markW (P.id i)).1
  have HRY := Lib.hid (fun (wz : World) (hz : Mods [] w wz) => by
    have := ready_any wz g m (x.c 0) P.net (P.id i) (H.net.quiet hz)
    rw [hrr, hrw] at this
    exact this)
  have HMK := Lib.hid (fun (wz : World) (hz : Mods [] w wz) => by
    have := marks_any wz g m (x.c 0) P.net (P.id i) (H.net.quiet hz)
    rw [hmr, hmw] at this
    exact this)
  have eR : P.tR i = (P.wch i).tellR false mr := by unfold Plr.tR; rw [hrr, hmr]; rfl
  have eW : P.tW i = (P.wch i).tellW false mw := by unfold Plr.tW; rw [hrw, hmw]; rfl
  have HGT := Lib.hid (fun (wz : World) (hz : Mods [] w wz) => get_yes wz hs i b (x.c 1) P.sl K (by omega) (slabA_mods H.slb hz (by simp)) his)
  have HER := Lib.hid (And.intro eR (And.intro eW (And.intro hmr hmw)))
  obtain ⟨z, hz⟩ : ∃ z, P.id i = z := ⟨_, rfl⟩
  have hz' : P.sl.vs.getD i 0 = z := hz
  rw [hz'] at HGT
  rw [hz] at HRY HMK
  have HZ := Lib.hid hz
  have HH := Lib.hid H
  have HL := Lib.hid hlw
  have HW := Lib.hid hW
  have HX := Lib.hid hx
  have NV := Lib.hid (show p ∉ [vb] ∧ w.heap.size ∉ [vb] ∧ w.heap.size + 1 ∉ [vb] by
    have hv := H.lt 2 vb (by rw [hc2]; simp)
    refine ⟨fun h0 => ?_, fun h0 => ?_, fun h0 => ?_⟩
    · obtain rfl := List.mem_singleton.1 h0
      exact H.apt 4 2 (by decide) p (by rw [H.c4]; simp) (by rw [hc2]; simp)
    · obtain h1 := List.mem_singleton.1 h0; omega
    · obtain h1 := List.mem_singleton.1 h0; omega)
  have g1 : (i : Int) < (P.ws.length : Int) := by omega
  have g0 : (0 : Int) ≤ (i : Int) := by omega
  have HQ := Lib.hid (((Mods.refl [] w).alloc (.cells #[.int .i64 i, .int .i64 b] 47)).alloc (.cells #[.int .i64 0, .int .i64 0, .int .i64 0, .bool false, .bool false] 74))
  have R0 := Lib.hid ((Row.new w 47 #[.int .i64 i, .int .i64 b]).alloc (.cells #[.int .i64 0, .int .i64 0, .int .i64 0, .bool false, .bool false] 74))
  have E0 := Lib.hid (Row.new (w.alloc (.cells #[.int .i64 i, .int .i64 b] 47)) 74 #[.int .i64 0, .int .i64 0, .int .i64 0, .bool false, .bool false])
  have es : (w.alloc (.cells #[.int .i64 i, .int .i64 b] 47)).heap.size = w.heap.size + 1 := by simp
  rw [es] at E0
  obtain ⟨w0, hw0⟩ : ∃ w0, w0 = (w.alloc (.cells #[.int .i64 i, .int .i64 b] 47)).alloc (.cells #[.int .i64 0, .int .i64 0, .int .i64 0, .bool false, .bool false] 74) := ⟨_, rfl⟩
  rw [← hw0] at HQ R0 E0
  have c1 : w0.cell? ⟨p, 1, none⟩ = some (.pointer (some ⟨hs, 0, none⟩)) := (HH.out.quiet HQ.out).row.cell 1
  have d0 : w0.cell? ⟨w.heap.size, 0, none⟩ = some (.int .i64 i) := R0.out.cell 0
  have d1 : w0.cell? ⟨w.heap.size, 1, none⟩ = some (.int .i64 b) := R0.out.cell 1
  clear H his hrr hrw hlt h4 h5 hlw hcap hmx hW hc2 hx hmr hmw hz hz' eR eW es
  go_enter Tryd.func51, Tryd.ntmps51
  go_upto_region 1 with fail
  rw [← hw0]
  clear hw0
  go_region_held3 (fun w' => w'.cell? ⟨p, 1, none⟩ = some (.pointer (some ⟨hs, 0, none⟩)) ∧ w'.cell? ⟨w.heap.size, 0, none⟩ = some (.int .i64 (i : Nat)) ∧ w'.cell? ⟨w.heap.size, 1, none⟩ = some (.int .i64 b)) (go_keep)
    ((go_at_call 65; refine Calls.mono (HGT.out _ ?_) ?_; exact HQ.out.same rfl rfl rfl rfl; rintro e w1 ⟨rfl, hd⟩; have G1 := Lib.hid (of_drew hd); have c1' := cell_mods c1 (of_drew hd) (by simp); have d0' := cell_mods d0 (of_drew hd) (by simp); have d1' := cell_mods d1 (of_drew hd) (by simp); clear hd))
  all_goals
    have Q1 := Lib.hid (HQ.out.trans G1.out (by simp))
    have R1 := Lib.hid (R0.out.mods G1.out (by simp))
    have E1 := Lib.hid (E0.out.mods G1.out (by simp))
    have b0 : w1.cell? ⟨p, 0, none⟩ = some (.pointer (some ⟨g, 0, none⟩)) := (HH.out.quiet Q1.out).row.cell 0
    have b2 : w1.cell? ⟨p, 2, none⟩ = some (.slice (some ⟨vb, 0, none⟩) P.ws.length cap) := (HH.out.quiet Q1.out).row.cell 2
    clear c1 d0 d1 c1' d1'
    go_upto_region 2 with fail
    go_quiet (fail)
    go_wp2_with fail
    refine (HRY.out (w1.drewN nq) (Q1.out.drewN nq)).mono ?_
    rintro e w2 ⟨rfl, q2, hq2⟩
    have Q2 := Lib.hid (show Mods [] w w2 by rw [hq2]; exact Q1.out.same rfl rfl rfl rfl)
    have R2 := Lib.hid (show Row w2 w.heap.size 47 #[.int .i64 (i : Nat), .int .i64 b] by rw [hq2]; exact R1.out)
    have E2 := Lib.hid (show Row w2 (w.heap.size + 1) 74 #[.int .i64 0, .int .i64 0, .int .i64 0, .bool false, .bool false] by rw [hq2]; exact E1.out)
    have b0' : w2.cell? ⟨p, 0, none⟩ = some (.pointer (some ⟨g, 0, none⟩)) := (HH.out.quiet Q2.out).row.cell 0
    clear b0 b2 d0' hq2 R1 E1
    go_wp2_with fail
    refine (HMK.out _ Q2.out).mono ?_
    rintro e w3 ⟨rfl, q3, hq3⟩
    have Q3 := Lib.hid (show Mods [] w w3 by rw [hq3]; exact Q2.out.same rfl rfl rfl rfl)
    have R3 := Lib.hid (show Row w3 w.heap.size 47 #[.int .i64 (i : Nat), .int .i64 b] by rw [hq3]; exact R2.out)
    have E3 := Lib.hid (show Row w3 (w.heap.size + 1) 74 #[.int .i64 0, .int .i64 0, .int .i64 0, .bool false, .bool false] by rw [hq3]; exact E2.out)
    clear b0' hq3 R2 E2
    go_upto_region 5 with fail
    have W3 := Lib.hid (HW.out.mods Q3.out (by simp))
    obtain ⟨bR, hbR⟩ : ∃ b, b = (P.wch i).tellR true mr := ⟨_, rfl⟩
    obtain ⟨bW, hbW⟩ : ∃ b, b = (P.wch i).tellW true mw := ⟨_, rfl⟩
    have HbR := Lib.hid hbR
    have HbW := Lib.hid hbW
    clear hbR hbW
    have k0 : w3.cell? ⟨w.heap.size, 0, none⟩ = some (.int .i64 (i : Nat)) := R3.out.cell 0
    have k1 : w3.cell? ⟨w.heap.size, 1, none⟩ = some (.int .i64 b) := R3.out.cell 1
    have ke : w3.cell? ⟨vb, i * 5, none⟩ = some (.bool (P.wch i).eg) := W3.out.cell HX.out (j := 0) (by omega)
    have z0 : w3.cell? ⟨w.heap.size + 1, 0, none⟩ = some (.int .i64 0) := E3.out.cell 0
    have z1 : w3.cell? ⟨w.heap.size + 1, 1, none⟩ = some (.int .i64 0) := E3.out.cell 1
    have z2 : w3.cell? ⟨w.heap.size + 1, 2, none⟩ = some (.int .i64 0) := E3.out.cell 2
    have z3 : w3.cell? ⟨w.heap.size + 1, 3, none⟩ = some (.bool false) := E3.out.cell 3
    have z4 : w3.cell? ⟨w.heap.size + 1, 4, none⟩ = some (.bool false) := E3.out.cell 4
    have zf := E3.out.free
    have nv1 : vb ≠ w.heap.size + 1 := fun h0 => NV.out.2.2 (by rw [h0]; simp)
    have nv2 : w.heap.size + 1 ≠ vb := nv1.symm
    refine wp_region_held_drew (S := fun w' => w'.cell? ⟨w.heap.size, 0, none⟩ = some (.int .i64 (i : Nat)) ∧ w'.cell? ⟨w.heap.size, 1, none⟩ = some (.int .i64 b) ∧ w'.cell? ⟨vb, i * 5, none⟩ = some (.bool (P.wch i).eg)) (by kernel_rfl) ?_ (fun hHeld => ?_)
    · (try dsimp only); go_keep
    refine wpAnyH_take (i := 0) (oi := { dst := some 46, op := Op.load 47 (Operand.tmp 3), type := 47, pos := "poll.go:130", after := #[], guard := none }) (v := ?_) rfl (by kernel_rfl) (by kernel_rfl) (by kernel_rfl) (fun _ _ _ h => h) (Or.inl ⟨by rfl, ?_⟩) (by assumption) ?_
    rotate_left 1
    · (intro w' hSw; (try dsimp only at hSw); go_simp; try with_reducible rfl)
    try simp only [Act.put, List.setIfInBounds_toArray, List.set_cons_zero, List.set_cons_succ]
    refine wpAnyH_take (i := 1) (oi := { dst := some 47, op := Op.move (Operand.tmp 5), type := 3, pos := "poll.go:130", after := #[], guard := none }) (v := ?_) rfl (by kernel_rfl) (by kernel_rfl) (by kernel_rfl) (fun _ _ _ h => h) (Or.inl ⟨by rfl, ?_⟩) (by assumption) ?_
    rotate_left 1
    · (intro w' hSw; (try dsimp only at hSw); go_simp; try with_reducible rfl)
    try simp only [Act.put, List.setIfInBounds_toArray, List.set_cons_zero, List.set_cons_succ]
    refine wpAnyH_take (i := 2) (oi := { dst := some 48, op := Op.move (Operand.tmp 8), type := 4, pos := "poll.go:130", after := #[], guard := none }) (v := ?_) rfl (by kernel_rfl) (by kernel_rfl) (by kernel_rfl) (fun _ _ _ h => h) (Or.inl ⟨by rfl, ?_⟩) (by assumption) ?_
    rotate_left 1
    · (intro w' hSw; (try dsimp only at hSw); go_simp; try with_reducible rfl)
    try simp only [Act.put, List.setIfInBounds_toArray, List.set_cons_zero, List.set_cons_succ]
    refine wpAnyH_take (i := 3) (oi := { dst := some 49, op := Op.move (Operand.tmp 48), type := 4, pos := "poll.go:130", after := #[{ on := 2, ground := Ground.data }], guard := none }) (v := ?_) rfl (by kernel_rfl) (by kernel_rfl) (by kernel_rfl) (fun _ _ _ h => h) (Or.inl ⟨by rfl, ?_⟩) (by assumption) ?_
    rotate_left 1
    · (intro w' hSw; (try dsimp only at hSw); go_simp; try with_reducible rfl)
    try simp only [Act.put, List.setIfInBounds_toArray, List.set_cons_zero, List.set_cons_succ]
    refine wpAnyH_take (i := 4) (oi := { dst := some 50, op := Op.move (Operand.tmp 7), type := 155, pos := "poll.go:130", after := #[{ on := 3, ground := Ground.guard }], guard := some (3, true) }) (v := undef) rfl (by kernel_rfl) (by kernel_rfl) (by kernel_rfl) (fun _ _ _ h => h) (Or.inr ⟨by rfl, rfl⟩) (by assumption) ?_
    try simp only [Act.put, List.setIfInBounds_toArray, List.set_cons_zero, List.set_cons_succ]
    refine wpAnyH_take (i := 5) (oi := { dst := some 51, op := Op.nilCheck (Operand.tmp 50), type := 0, pos := "poll.go:130", after := #[{ on := 4, ground := Ground.data }, { on := 3, ground := Ground.guard }], guard := some (3, true) }) (v := undef) rfl (by kernel_rfl) (by kernel_rfl) (by kernel_rfl) (fun _ _ _ h => h) (Or.inr ⟨by rfl, rfl⟩) (by assumption) ?_
    try simp only [Act.put, List.setIfInBounds_toArray, List.set_cons_zero, List.set_cons_succ]
    refine wpAnyH_take (i := 6) (oi := { dst := some 52, op := Op.fieldAddr 131 (Operand.tmp 51) 1, type := 0, pos := "poll.go:130", after := #[{ on := 5, ground := Ground.data }, { on := 3, ground := Ground.guard }], guard := some (3, true) }) (v := undef) rfl (by kernel_rfl) (by kernel_rfl) (by kernel_rfl) (fun _ _ _ h => h) (Or.inr ⟨by rfl, rfl⟩) (by assumption) ?_
    try simp only [Act.put, List.setIfInBounds_toArray, List.set_cons_zero, List.set_cons_succ]
    refine wpAnyH_take (i := 7) (oi := { dst := some 53, op := Op.move (Operand.tmp 10), type := 3, pos := "poll.go:130", after := #[{ on := 3, ground := Ground.guard }], guard := some (3, true) }) (v := undef) rfl (by kernel_rfl) (by kernel_rfl) (by kernel_rfl) (fun _ _ _ h => h) (Or.inr ⟨by rfl, rfl⟩) (by assumption) ?_
    try simp only [Act.put, List.setIfInBounds_toArray, List.set_cons_zero, List.set_cons_succ]
    refine wpAnyH_take (i := 8) (oi := { dst := some 54, op := Op.move (Operand.tmp 7), type := 155, pos := "poll.go:130", after := #[{ on := 3, ground := Ground.guard }], guard := some (3, true) }) (v := undef) rfl (by kernel_rfl) (by kernel_rfl) (by kernel_rfl) (fun _ _ _ h => h) (Or.inr ⟨by rfl, rfl⟩) (by assumption) ?_
    try simp only [Act.put, List.setIfInBounds_toArray, List.set_cons_zero, List.set_cons_succ]
    refine wpAnyH_take (i := 9) (oi := { dst := some 55, op := Op.nilCheck (Operand.tmp 54), type := 0, pos := "poll.go:130", after := #[{ on := 8, ground := Ground.data }, { on := 3, ground := Ground.guard }], guard := some (3, true) }) (v := undef) rfl (by kernel_rfl) (by kernel_rfl) (by kernel_rfl) (fun _ _ _ h => h) (Or.inr ⟨by rfl, rfl⟩) (by assumption) ?_
    try simp only [Act.put, List.setIfInBounds_toArray, List.set_cons_zero, List.set_cons_succ]
    refine wpAnyH_take (i := 10) (oi := { dst := some 56, op := Op.fieldAddr 131 (Operand.tmp 55) 0, type := 0, pos := "poll.go:130", after := #[{ on := 9, ground := Ground.data }, { on := 3, ground := Ground.guard }], guard := some (3, true) }) (v := undef) rfl (by kernel_rfl) (by kernel_rfl) (by kernel_rfl) (fun _ _ _ h => h) (Or.inr ⟨by rfl, rfl⟩) (by assumption) ?_
    try simp only [Act.put, List.setIfInBounds_toArray, List.set_cons_zero, List.set_cons_succ]
    refine wpAnyH_take (i := 11) (oi := { dst := some 57, op := Op.load 4 (Operand.tmp 56), type := 4, pos := "poll.go:130", after := #[{ on := 10, ground := Ground.data }, { on := 3, ground := Ground.guard }], guard := some (3, true) }) (v := undef) rfl (by kernel_rfl) (by kernel_rfl) (by kernel_rfl) (fun _ _ _ h => h) (Or.inr ⟨by rfl, rfl⟩) (by assumption) ?_
    try simp only [Act.put, List.setIfInBounds_toArray, List.set_cons_zero, List.set_cons_succ]
    refine wpAnyH_take (i := 12) (oi := { dst := some 58, op := Op.call { callee := Callee.value (Operand.func 78), args := #[Operand.tmp 52, Operand.tmp 53, Operand.tmp 57], argTypes := #[129, 3, 4] }, type := 4, pos := "poll.go:133", after := #[{ on := 6, ground := Ground.data }, { on := 7, ground := Ground.data }, { on := 11, ground := Ground.data }, { on := 3, ground := Ground.chain }, { on := 3, ground := Ground.guard }], guard := some (3, true) }) (v := undef) rfl (by kernel_rfl) (by kernel_rfl) (by kernel_rfl) (fun _ _ _ h => h) (Or.inr ⟨by rfl, rfl⟩) (by assumption) ?_
    try simp only [Act.put, List.setIfInBounds_toArray, List.set_cons_zero, List.set_cons_succ]
    refine wpAnyH_take (i := 13) (oi := { dst := some 59, op := Op.pick (Operand.tmp 49) (Operand.tmp 58) (Operand.const (Value.bool false)), type := 4, pos := "poll.go:130", after := #[{ on := 3, ground := Ground.data }, { on := 12, ground := Ground.data }], guard := none }) (v := ?_) rfl (by kernel_rfl) (by kernel_rfl) (by kernel_rfl) (fun _ _ _ h => h) (Or.inl ⟨by rfl, ?_⟩) (by assumption) ?_
    rotate_left 1
    · (intro w' hSw; (try dsimp only at hSw); go_simp; try with_reducible rfl)
    try simp only [Act.put, List.setIfInBounds_toArray, List.set_cons_zero, List.set_cons_succ]
    refine wpAnyH_take (i := 14) (oi := { dst := some 60, op := Op.move (Operand.tmp 9), type := 4, pos := "poll.go:130", after := #[], guard := none }) (v := ?_) rfl (by kernel_rfl) (by kernel_rfl) (by kernel_rfl) (fun _ _ _ h => h) (Or.inl ⟨by rfl, ?_⟩) (by assumption) ?_
    rotate_left 1
    · (intro w' hSw; (try dsimp only at hSw); go_simp; try with_reducible rfl)
    try simp only [Act.put, List.setIfInBounds_toArray, List.set_cons_zero, List.set_cons_succ]
    refine wpAnyH_take (i := 15) (oi := { dst := some 61, op := Op.move (Operand.tmp 60), type := 4, pos := "poll.go:130", after := #[{ on := 14, ground := Ground.data }, { on := 12, ground := Ground.chain }], guard := none }) (v := ?_) rfl (by kernel_rfl) (by kernel_rfl) (by kernel_rfl) (fun _ _ _ h => h) (Or.inl ⟨by rfl, ?_⟩) (by assumption) ?_
    rotate_left 1
    · (intro w' hSw; (try dsimp only at hSw); go_simp; try with_reducible rfl)
    try simp only [Act.put, List.setIfInBounds_toArray, List.set_cons_zero, List.set_cons_succ]
    refine wpAnyH_take (i := 16) (oi := { dst := some 62, op := Op.move (Operand.tmp 7), type := 155, pos := "poll.go:130", after := #[{ on := 15, ground := Ground.guard }], guard := some (15, true) }) (v := undef) rfl (by kernel_rfl) (by kernel_rfl) (by kernel_rfl) (fun _ _ _ h => h) (Or.inr ⟨by rfl, rfl⟩) (by assumption) ?_
    try simp only [Act.put, List.setIfInBounds_toArray, List.set_cons_zero, List.set_cons_succ]
    refine wpAnyH_take (i := 17) (oi := { dst := some 63, op := Op.nilCheck (Operand.tmp 62), type := 0, pos := "poll.go:130", after := #[{ on := 16, ground := Ground.data }, { on := 15, ground := Ground.guard }], guard := some (15, true) }) (v := undef) rfl (by kernel_rfl) (by kernel_rfl) (by kernel_rfl) (fun _ _ _ h => h) (Or.inr ⟨by rfl, rfl⟩) (by assumption) ?_
    try simp only [Act.put, List.setIfInBounds_toArray, List.set_cons_zero, List.set_cons_succ]
    refine wpAnyH_take (i := 18) (oi := { dst := some 64, op := Op.fieldAddr 131 (Operand.tmp 63) 2, type := 0, pos := "poll.go:130", after := #[{ on := 17, ground := Ground.data }, { on := 15, ground := Ground.guard }], guard := some (15, true) }) (v := undef) rfl (by kernel_rfl) (by kernel_rfl) (by kernel_rfl) (fun _ _ _ h => h) (Or.inr ⟨by rfl, rfl⟩) (by assumption) ?_
    try simp only [Act.put, List.setIfInBounds_toArray, List.set_cons_zero, List.set_cons_succ]
    refine wpAnyH_take (i := 19) (oi := { dst := some 65, op := Op.move (Operand.tmp 11), type := 3, pos := "poll.go:130", after := #[{ on := 15, ground := Ground.guard }], guard := some (15, true) }) (v := undef) rfl (by kernel_rfl) (by kernel_rfl) (by kernel_rfl) (fun _ _ _ h => h) (Or.inr ⟨by rfl, rfl⟩) (by assumption) ?_
    try simp only [Act.put, List.setIfInBounds_toArray, List.set_cons_zero, List.set_cons_succ]
    refine wpAnyH_take (i := 20) (oi := { dst := some 66, op := Op.move (Operand.tmp 7), type := 155, pos := "poll.go:130", after := #[{ on := 15, ground := Ground.guard }], guard := some (15, true) }) (v := undef) rfl (by kernel_rfl) (by kernel_rfl) (by kernel_rfl) (fun _ _ _ h => h) (Or.inr ⟨by rfl, rfl⟩) (by assumption) ?_
    try simp only [Act.put, List.setIfInBounds_toArray, List.set_cons_zero, List.set_cons_succ]
    refine wpAnyH_take (i := 21) (oi := { dst := some 67, op := Op.nilCheck (Operand.tmp 66), type := 0, pos := "poll.go:130", after := #[{ on := 20, ground := Ground.data }, { on := 15, ground := Ground.guard }], guard := some (15, true) }) (v := undef) rfl (by kernel_rfl) (by kernel_rfl) (by kernel_rfl) (fun _ _ _ h => h) (Or.inr ⟨by rfl, rfl⟩) (by assumption) ?_
    try simp only [Act.put, List.setIfInBounds_toArray, List.set_cons_zero, List.set_cons_succ]
    refine wpAnyH_take (i := 22) (oi := { dst := some 68, op := Op.fieldAddr 131 (Operand.tmp 67) 0, type := 0, pos := "poll.go:130", after := #[{ on := 21, ground := Ground.data }, { on := 15, ground := Ground.guard }], guard := some (15, true) }) (v := undef) rfl (by kernel_rfl) (by kernel_rfl) (by kernel_rfl) (fun _ _ _ h => h) (Or.inr ⟨by rfl, rfl⟩) (by assumption) ?_
    try simp only [Act.put, List.setIfInBounds_toArray, List.set_cons_zero, List.set_cons_succ]
    refine wpAnyH_take (i := 23) (oi := { dst := some 69, op := Op.load 4 (Operand.tmp 68), type := 4, pos := "poll.go:130", after := #[{ on := 22, ground := Ground.data }, { on := 15, ground := Ground.guard }], guard := some (15, true) }) (v := undef) rfl (by kernel_rfl) (by kernel_rfl) (by kernel_rfl) (fun _ _ _ h => h) (Or.inr ⟨by rfl, rfl⟩) (by assumption) ?_
    try simp only [Act.put, List.setIfInBounds_toArray, List.set_cons_zero, List.set_cons_succ]
    refine wpAnyH_take (i := 24) (oi := { dst := some 70, op := Op.call { callee := Callee.value (Operand.func 78), args := #[Operand.tmp 64, Operand.tmp 65, Operand.tmp 69], argTypes := #[129, 3, 4] }, type := 4, pos := "poll.go:134", after := #[{ on := 18, ground := Ground.data }, { on := 19, ground := Ground.data }, { on := 23, ground := Ground.data }, { on := 15, ground := Ground.chain }, { on := 15, ground := Ground.guard }], guard := some (15, true) }) (v := undef) rfl (by kernel_rfl) (by kernel_rfl) (by kernel_rfl) (fun _ _ _ h => h) (Or.inr ⟨by rfl, rfl⟩) (by assumption) ?_
    try simp only [Act.put, List.setIfInBounds_toArray, List.set_cons_zero, List.set_cons_succ]
    refine wpAnyH_take (i := 25) (oi := { dst := some 71, op := Op.pick (Operand.tmp 61) (Operand.tmp 70) (Operand.const (Value.bool false)), type := 4, pos := "poll.go:130", after := #[{ on := 15, ground := Ground.data }, { on := 24, ground := Ground.data }], guard := none }) (v := ?_) rfl (by kernel_rfl) (by kernel_rfl) (by kernel_rfl) (fun _ _ _ h => h) (Or.inl ⟨by rfl, ?_⟩) (by assumption) ?_
    rotate_left 1
    · (intro w' hSw; (try dsimp only at hSw); go_simp; try with_reducible rfl)
    try simp only [Act.put, List.setIfInBounds_toArray, List.set_cons_zero, List.set_cons_succ]
    refine wpAnyH_take (i := 26) (oi := { dst := some 72, op := Op.build 74 #[(0, Operand.tmp 46), (1, Operand.tmp 47), (2, Operand.tmp 59), (3, Operand.tmp 71)], type := 74, pos := "poll.go:130", after := #[{ on := 0, ground := Ground.data }, { on := 1, ground := Ground.data }, { on := 13, ground := Ground.data }, { on := 25, ground := Ground.data }], guard := none }) (v := ?_) rfl (by kernel_rfl) (by kernel_rfl) (by kernel_rfl) (fun _ _ _ h => h) (Or.inl ⟨by rfl, ?_⟩) (by assumption) ?_
    rotate_left 1
    · (intro w' hSw; (try dsimp only at hSw); go_simp; try with_reducible rfl)
    try simp only [Act.put, List.setIfInBounds_toArray, List.set_cons_zero, List.set_cons_succ]
    refine wpAnyH_ready (rs := [27]) (by kernel_rfl) (by simp) ?_
    refine AllReadyH.cons (o := { dst := none, op := Op.store 74 (Operand.tmp 4) (Operand.tmp 72), type := 0, pos := "poll.go:130", after := #[{ on := 26, ground := Ground.data }, { on := 24, ground := Ground.chain }, { on := 0, ground := Ground.phase }, { on := 1, ground := Ground.phase }, { on := 2, ground := Ground.phase }, { on := 3, ground := Ground.phase }, { on := 4, ground := Ground.phase }, { on := 5, ground := Ground.phase }, { on := 6, ground := Ground.phase }, { on := 7, ground := Ground.phase }, { on := 8, ground := Ground.phase }, { on := 9, ground := Ground.phase }, { on := 10, ground := Ground.phase }, { on := 11, ground := Ground.phase }, { on := 12, ground := Ground.phase }, { on := 13, ground := Ground.phase }, { on := 14, ground := Ground.phase }, { on := 15, ground := Ground.phase }, { on := 16, ground := Ground.phase }, { on := 17, ground := Ground.phase }, { on := 18, ground := Ground.phase }, { on := 19, ground := Ground.phase }, { on := 20, ground := Ground.phase }, { on := 21, ground := Ground.phase }, { on := 22, ground := Ground.phase }, { on := 23, ground := Ground.phase }, { on := 24, ground := Ground.phase }, { on := 25, ground := Ground.phase }, { on := 26, ground := Ground.phase }], guard := none }) rfl (fun K hK => ?_) ?_
    rotate_left 1
    · exact AllReadyH.nil
    go_simp
    refine hK.out _ _ ?_ (fun hHeld => ?_)
    · (try dsimp only); go_keep
    clear hK K
    try simp only [Act.put, List.setIfInBounds_toArray, List.set_cons_zero, List.set_cons_succ]
    refine wpAnyH_done (by kernel_rfl) ?_ _
  all_goals
    go_wp2
    have e1 : P.tR i = false := HER.out.1.trans rfl
    have e2 : P.tW i = false := HER.out.2.1.trans rfl
    have eE : P.ev ((i : Int), b) = ⟨i, b, z, false, false⟩ := by
      unfold Plr.ev
      simp only [Int.toNat_natCast, e1, e2, HZ.out]
    rw [eE]
    have hw : WsAt w3 vb cap (P.ws.set i ((P.wch i).put (P.tR i) (P.tW i) (P.net.markR (P.id i)).toNat (P.net.markW (P.id i)).toNat)) := by
      rw [e1, e2, HER.out.2.2.1, HER.out.2.2.2, Int.toNat_natCast, Int.toNat_natCast]
      rw [show (P.wch i).put false false mr mw = P.wch i from rfl, set_self3 HX.out]; exact W3.out
    exact ret_ev Tryd.results51 (e := ⟨i, b, z, false, false⟩) ((((((E3.out.set 0 _).set 1 _).set 2 _).set 3 _).set 4 _).keep rfl) rfl rfl ⟨rfl, Lib.hid (PolA.tellTo (eb := w.heap.size + 1) HH.out Q3.out HL.out hw (Mods.refl [vb] w3) (((((((Mods.refl [w.heap.size + 1] w3).setCell (.inl (by simp)) _).setCell (.inl (by simp)) _).setCell (.inl (by simp)) _).setCell (.inl (by simp)) _).setCell (.inl (by simp)) _).drew) (by omega) E3.out.lt)⟩
set_option maxHeartbeats 1000000 in
theorem tell_tf (w : World) (p g m K i : Nat) (F : List Nat) (P : Plr) (h : PolA w p g F P m K) (b : Int) (his : P.sl.is i b = true) (hrr : P.net.readyR (P.id i) = true) (hrw : P.net.readyW (P.id i) = false) :
    Calls Tryd.prog 51 #[.pointer (some ⟨p, 0, none⟩), .agg #[.int .i64 i, .int .i64 b]] w fun e w' => e = .returned (.agg (P.ev ((i : Int), b)).cs.toArray) ∧ Hid (PolA w' p g F (P.tell i) m K ∧ Mods F w w') := by
  obtain ⟨x, hs, mb, vw, rfl, H⟩ := h
  obtain ⟨-, hlt, -, -⟩ := Slb.is_lt his
  rw [Int.toNat_natCast] at hlt
  have h4 := H.ok.sl.len
  have h5 := H.ok.sl.hi
  have hlw : i < P.ws.length := by rw [H.ok.len]; exact hlt
  obtain ⟨vb, cap, rfl, hcap, hmx, hW, hc2⟩ := H.row2 hlw
  have hx := H.ok.wch hlw
  obtain ⟨mr, hmr⟩ := Int.eq_ofNat_of_zero_le (H.net.ok.markR (P.id i)).1
  obtain ⟨mw, hmw⟩ := Int.eq_ofNat_of_zero_le (H.net.ok.markW (P.id i)).1
  have HRY := Lib.hid (fun (wz : World) (hz : Mods [] w wz) => by
    have := ready_any wz g m (x.c 0) P.net (P.id i) (H.net.quiet hz)
    rw [hrr, hrw] at this
    exact this)
  have HMK := Lib.hid (fun (wz : World) (hz : Mods [] w wz) => by
    have := marks_any wz g m (x.c 0) P.net (P.id i) (H.net.quiet hz)
    rw [hmr, hmw] at this
    exact this)
  have eR : P.tR i = (P.wch i).tellR true mr := by unfold Plr.tR; rw [hrr, hmr]; rfl
  have eW : P.tW i = (P.wch i).tellW false mw := by unfold Plr.tW; rw [hrw, hmw]; rfl
  have HGT := Lib.hid (fun (wz : World) (hz : Mods [] w wz) => get_yes wz hs i b (x.c 1) P.sl K (by omega) (slabA_mods H.slb hz (by simp)) his)
  have HER := Lib.hid (And.intro eR (And.intro eW (And.intro hmr hmw)))
  obtain ⟨z, hz⟩ : ∃ z, P.id i = z := ⟨_, rfl⟩
  have hz' : P.sl.vs.getD i 0 = z := hz
  rw [hz'] at HGT
  rw [hz] at HRY HMK
  have HZ := Lib.hid hz
  have HH := Lib.hid H
  have HL := Lib.hid hlw
  have HW := Lib.hid hW
  have HX := Lib.hid hx
  have NV := Lib.hid (show p ∉ [vb] ∧ w.heap.size ∉ [vb] ∧ w.heap.size + 1 ∉ [vb] by
    have hv := H.lt 2 vb (by rw [hc2]; simp)
    refine ⟨fun h0 => ?_, fun h0 => ?_, fun h0 => ?_⟩
    · obtain rfl := List.mem_singleton.1 h0
      exact H.apt 4 2 (by decide) p (by rw [H.c4]; simp) (by rw [hc2]; simp)
    · obtain h1 := List.mem_singleton.1 h0; omega
    · obtain h1 := List.mem_singleton.1 h0; omega)
  have g1 : (i : Int) < (P.ws.length : Int) := by omega
  have g0 : (0 : Int) ≤ (i : Int) := by omega
  have HQ := Lib.hid (((Mods.refl [] w).alloc (.cells #[.int .i64 i, .int .i64 b] 47)).alloc (.cells #[.int .i64 0, .int .i64 0, .int .i64 0, .bool false, .bool false] 74))
  have R0 := Lib.hid ((Row.new w 47 #[.int .i64 i, .int .i64 b]).alloc (.cells #[.int .i64 0, .int .i64 0, .int .i64 0, .bool false, .bool false] 74))
  have E0 := Lib.hid (Row.new (w.alloc (.cells #[.int .i64 i, .int .i64 b] 47)) 74 #[.int .i64 0, .int .i64 0, .int .i64 0, .bool false, .bool false])
  have es : (w.alloc (.cells #[.int .i64 i, .int .i64 b] 47)).heap.size = w.heap.size + 1 := by simp
  rw [es] at E0
  obtain ⟨w0, hw0⟩ : ∃ w0, w0 = (w.alloc (.cells #[.int .i64 i, .int .i64 b] 47)).alloc (.cells #[.int .i64 0, .int .i64 0, .int .i64 0, .bool false, .bool false] 74) := ⟨_, rfl⟩
  rw [← hw0] at HQ R0 E0
  have c1 : w0.cell? ⟨p, 1, none⟩ = some (.pointer (some ⟨hs, 0, none⟩)) := (HH.out.quiet HQ.out).row.cell 1
  have d0 : w0.cell? ⟨w.heap.size, 0, none⟩ = some (.int .i64 i) := R0.out.cell 0
  have d1 : w0.cell? ⟨w.heap.size, 1, none⟩ = some (.int .i64 b) := R0.out.cell 1
  clear H his hrr hrw hlt h4 h5 hlw hcap hmx hW hc2 hx hmr hmw hz hz' eR eW es
  go_enter Tryd.func51, Tryd.ntmps51
  go_upto_region 1 with fail
  rw [← hw0]
  clear hw0
  go_region_held3 (fun w' => w'.cell? ⟨p, 1, none⟩ = some (.pointer (some ⟨hs, 0, none⟩)) ∧ w'.cell? ⟨w.heap.size, 0, none⟩ = some (.int .i64 (i : Nat)) ∧ w'.cell? ⟨w.heap.size, 1, none⟩ = some (.int .i64 b)) (go_keep)
    ((go_at_call 65; refine Calls.mono (HGT.out _ ?_) ?_; exact HQ.out.same rfl rfl rfl rfl; rintro e w1 ⟨rfl, hd⟩; have G1 := Lib.hid (of_drew hd); have c1' := cell_mods c1 (of_drew hd) (by simp); have d0' := cell_mods d0 (of_drew hd) (by simp); have d1' := cell_mods d1 (of_drew hd) (by simp); clear hd))
  all_goals
    have Q1 := Lib.hid (HQ.out.trans G1.out (by simp))
    have R1 := Lib.hid (R0.out.mods G1.out (by simp))
    have E1 := Lib.hid (E0.out.mods G1.out (by simp))
    have b0 : w1.cell? ⟨p, 0, none⟩ = some (.pointer (some ⟨g, 0, none⟩)) := (HH.out.quiet Q1.out).row.cell 0
    have b2 : w1.cell? ⟨p, 2, none⟩ = some (.slice (some ⟨vb, 0, none⟩) P.ws.length cap) := (HH.out.quiet Q1.out).row.cell 2
    clear c1 d0 d1 c1' d1'
    go_upto_region 2 with fail
    go_quiet (fail)
    go_wp2_with fail
    refine (HRY.out (w1.drewN nq) (Q1.out.drewN nq)).mono ?_
    rintro e w2 ⟨rfl, q2, hq2⟩
    have Q2 := Lib.hid (show Mods [] w w2 by rw [hq2]; exact Q1.out.same rfl rfl rfl rfl)
    have R2 := Lib.hid (show Row w2 w.heap.size 47 #[.int .i64 (i : Nat), .int .i64 b] by rw [hq2]; exact R1.out)
    have E2 := Lib.hid (show Row w2 (w.heap.size + 1) 74 #[.int .i64 0, .int .i64 0, .int .i64 0, .bool false, .bool false] by rw [hq2]; exact E1.out)
    have b0' : w2.cell? ⟨p, 0, none⟩ = some (.pointer (some ⟨g, 0, none⟩)) := (HH.out.quiet Q2.out).row.cell 0
    clear b0 b2 d0' hq2 R1 E1
    go_wp2_with fail
    refine (HMK.out _ Q2.out).mono ?_
    rintro e w3 ⟨rfl, q3, hq3⟩
    have Q3 := Lib.hid (show Mods [] w w3 by rw [hq3]; exact Q2.out.same rfl rfl rfl rfl)
    have R3 := Lib.hid (show Row w3 w.heap.size 47 #[.int .i64 (i : Nat), .int .i64 b] by rw [hq3]; exact R2.out)
    have E3 := Lib.hid (show Row w3 (w.heap.size + 1) 74 #[.int .i64 0, .int .i64 0, .int .i64 0, .bool false, .bool false] by rw [hq3]; exact E2.out)
    clear b0' hq3 R2 E2
    go_upto_region 5 with fail
    have W3 := Lib.hid (HW.out.mods Q3.out (by simp))
    obtain ⟨bR, hbR⟩ : ∃ b, b = (P.wch i).tellR true mr := ⟨_, rfl⟩
    obtain ⟨bW, hbW⟩ : ∃ b, b = (P.wch i).tellW true mw := ⟨_, rfl⟩
    have HbR := Lib.hid hbR
    have HbW := Lib.hid hbW
    clear hbR hbW
    have k0 : w3.cell? ⟨w.heap.size, 0, none⟩ = some (.int .i64 (i : Nat)) := R3.out.cell 0
    have k1 : w3.cell? ⟨w.heap.size, 1, none⟩ = some (.int .i64 b) := R3.out.cell 1
    have ke : w3.cell? ⟨vb, i * 5, none⟩ = some (.bool (P.wch i).eg) := W3.out.cell HX.out (j := 0) (by omega)
    have z0 : w3.cell? ⟨w.heap.size + 1, 0, none⟩ = some (.int .i64 0) := E3.out.cell 0
    have z1 : w3.cell? ⟨w.heap.size + 1, 1, none⟩ = some (.int .i64 0) := E3.out.cell 1
    have z2 : w3.cell? ⟨w.heap.size + 1, 2, none⟩ = some (.int .i64 0) := E3.out.cell 2
    have z3 : w3.cell? ⟨w.heap.size + 1, 3, none⟩ = some (.bool false) := E3.out.cell 3
    have z4 : w3.cell? ⟨w.heap.size + 1, 4, none⟩ = some (.bool false) := E3.out.cell 4
    have zf := E3.out.free
    have nv1 : vb ≠ w.heap.size + 1 := fun h0 => NV.out.2.2 (by rw [h0]; simp)
    have nv2 : w.heap.size + 1 ≠ vb := nv1.symm
    have CR := Lib.hid (fun (wz : World) (hz : WsAt wz vb cap P.ws) => by
      have := rtell_any wz vb cap i P.ws (P.wch i) hz HX.out mr
      rw [← HbR.out] at this
      exact this)
    refine wp_region_held_drew (S := fun w' => w'.cell? ⟨w.heap.size, 0, none⟩ = some (.int .i64 (i : Nat)) ∧ w'.cell? ⟨w.heap.size, 1, none⟩ = some (.int .i64 b) ∧ w'.cell? ⟨vb, i * 5, none⟩ = some (.bool (P.wch i).eg)) (by kernel_rfl) ?_ (fun hHeld => ?_)
    · (try dsimp only); go_keep
    refine wpAnyH_take (i := 0) (oi := { dst := some 46, op := Op.load 47 (Operand.tmp 3), type := 47, pos := "poll.go:130", after := #[], guard := none }) (v := ?_) rfl (by kernel_rfl) (by kernel_rfl) (by kernel_rfl) (fun _ _ _ h => h) (Or.inl ⟨by rfl, ?_⟩) (by assumption) ?_
    rotate_left 1
    · (intro w' hSw; (try dsimp only at hSw); go_simp; try with_reducible rfl)
    try simp only [Act.put, List.setIfInBounds_toArray, List.set_cons_zero, List.set_cons_succ]
    refine wpAnyH_take (i := 1) (oi := { dst := some 47, op := Op.move (Operand.tmp 5), type := 3, pos := "poll.go:130", after := #[], guard := none }) (v := ?_) rfl (by kernel_rfl) (by kernel_rfl) (by kernel_rfl) (fun _ _ _ h => h) (Or.inl ⟨by rfl, ?_⟩) (by assumption) ?_
    rotate_left 1
    · (intro w' hSw; (try dsimp only at hSw); go_simp; try with_reducible rfl)
    try simp only [Act.put, List.setIfInBounds_toArray, List.set_cons_zero, List.set_cons_succ]
    refine wpAnyH_take (i := 2) (oi := { dst := some 48, op := Op.move (Operand.tmp 8), type := 4, pos := "poll.go:130", after := #[], guard := none }) (v := ?_) rfl (by kernel_rfl) (by kernel_rfl) (by kernel_rfl) (fun _ _ _ h => h) (Or.inl ⟨by rfl, ?_⟩) (by assumption) ?_
    rotate_left 1
    · (intro w' hSw; (try dsimp only at hSw); go_simp; try with_reducible rfl)
    try simp only [Act.put, List.setIfInBounds_toArray, List.set_cons_zero, List.set_cons_succ]
    refine wpAnyH_take (i := 3) (oi := { dst := some 49, op := Op.move (Operand.tmp 48), type := 4, pos := "poll.go:130", after := #[{ on := 2, ground := Ground.data }], guard := none }) (v := ?_) rfl (by kernel_rfl) (by kernel_rfl) (by kernel_rfl) (fun _ _ _ h => h) (Or.inl ⟨by rfl, ?_⟩) (by assumption) ?_
    rotate_left 1
    · (intro w' hSw; (try dsimp only at hSw); go_simp; try with_reducible rfl)
    try simp only [Act.put, List.setIfInBounds_toArray, List.set_cons_zero, List.set_cons_succ]
    refine wpAnyH_take (i := 4) (oi := { dst := some 50, op := Op.move (Operand.tmp 7), type := 155, pos := "poll.go:130", after := #[{ on := 3, ground := Ground.guard }], guard := some (3, true) }) (v := ?_) rfl (by kernel_rfl) (by kernel_rfl) (by kernel_rfl) (fun _ _ _ h => h) (Or.inl ⟨by rfl, ?_⟩) (by assumption) ?_
    rotate_left 1
    · (intro w' hSw; (try dsimp only at hSw); go_simp; try with_reducible rfl)
    try simp only [Act.put, List.setIfInBounds_toArray, List.set_cons_zero, List.set_cons_succ]
    refine wpAnyH_take (i := 5) (oi := { dst := some 51, op := Op.nilCheck (Operand.tmp 50), type := 0, pos := "poll.go:130", after := #[{ on := 4, ground := Ground.data }, { on := 3, ground := Ground.guard }], guard := some (3, true) }) (v := ?_) rfl (by kernel_rfl) (by kernel_rfl) (by kernel_rfl) (fun _ _ _ h => h) (Or.inl ⟨by rfl, ?_⟩) (by assumption) ?_
    rotate_left 1
    · (intro w' hSw; (try dsimp only at hSw); go_simp; try with_reducible rfl)
    try simp only [Act.put, List.setIfInBounds_toArray, List.set_cons_zero, List.set_cons_succ]
    refine wpAnyH_take (i := 6) (oi := { dst := some 52, op := Op.fieldAddr 131 (Operand.tmp 51) 1, type := 0, pos := "poll.go:130", after := #[{ on := 5, ground := Ground.data }, { on := 3, ground := Ground.guard }], guard := some (3, true) }) (v := ?_) rfl (by kernel_rfl) (by kernel_rfl) (by kernel_rfl) (fun _ _ _ h => h) (Or.inl ⟨by rfl, ?_⟩) (by assumption) ?_
    rotate_left 1
    · (intro w' hSw; (try dsimp only at hSw); go_simp; try with_reducible rfl)
    try simp only [Act.put, List.setIfInBounds_toArray, List.set_cons_zero, List.set_cons_succ]
    refine wpAnyH_take (i := 7) (oi := { dst := some 53, op := Op.move (Operand.tmp 10), type := 3, pos := "poll.go:130", after := #[{ on := 3, ground := Ground.guard }], guard := some (3, true) }) (v := ?_) rfl (by kernel_rfl) (by kernel_rfl) (by kernel_rfl) (fun _ _ _ h => h) (Or.inl ⟨by rfl, ?_⟩) (by assumption) ?_
    rotate_left 1
    · (intro w' hSw; (try dsimp only at hSw); go_simp; try with_reducible rfl)
    try simp only [Act.put, List.setIfInBounds_toArray, List.set_cons_zero, List.set_cons_succ]
    refine wpAnyH_take (i := 8) (oi := { dst := some 54, op := Op.move (Operand.tmp 7), type := 155, pos := "poll.go:130", after := #[{ on := 3, ground := Ground.guard }], guard := some (3, true) }) (v := ?_) rfl (by kernel_rfl) (by kernel_rfl) (by kernel_rfl) (fun _ _ _ h => h) (Or.inl ⟨by rfl, ?_⟩) (by assumption) ?_
    rotate_left 1
    · (intro w' hSw; (try dsimp only at hSw); go_simp; try with_reducible rfl)
    try simp only [Act.put, List.setIfInBounds_toArray, List.set_cons_zero, List.set_cons_succ]
    refine wpAnyH_take (i := 9) (oi := { dst := some 55, op := Op.nilCheck (Operand.tmp 54), type := 0, pos := "poll.go:130", after := #[{ on := 8, ground := Ground.data }, { on := 3, ground := Ground.guard }], guard := some (3, true) }) (v := ?_) rfl (by kernel_rfl) (by kernel_rfl) (by kernel_rfl) (fun _ _ _ h => h) (Or.inl ⟨by rfl, ?_⟩) (by assumption) ?_
    rotate_left 1
    · (intro w' hSw; (try dsimp only at hSw); go_simp; try with_reducible rfl)
    try simp only [Act.put, List.setIfInBounds_toArray, List.set_cons_zero, List.set_cons_succ]
    refine wpAnyH_take (i := 10) (oi := { dst := some 56, op := Op.fieldAddr 131 (Operand.tmp 55) 0, type := 0, pos := "poll.go:130", after := #[{ on := 9, ground := Ground.data }, { on := 3, ground := Ground.guard }], guard := some (3, true) }) (v := ?_) rfl (by kernel_rfl) (by kernel_rfl) (by kernel_rfl) (fun _ _ _ h => h) (Or.inl ⟨by rfl, ?_⟩) (by assumption) ?_
    rotate_left 1
    · (intro w' hSw; (try dsimp only at hSw); go_simp; try with_reducible rfl)
    try simp only [Act.put, List.setIfInBounds_toArray, List.set_cons_zero, List.set_cons_succ]
    refine wpAnyH_take (i := 11) (oi := { dst := some 57, op := Op.load 4 (Operand.tmp 56), type := 4, pos := "poll.go:130", after := #[{ on := 10, ground := Ground.data }, { on := 3, ground := Ground.guard }], guard := some (3, true) }) (v := ?_) rfl (by kernel_rfl) (by kernel_rfl) (by kernel_rfl) (fun _ _ _ h => h) (Or.inl ⟨by rfl, ?_⟩) (by assumption) ?_
    rotate_left 1
    · (intro w' hSw; (try dsimp only at hSw); go_simp; try with_reducible rfl)
    try simp only [Act.put, List.setIfInBounds_toArray, List.set_cons_zero, List.set_cons_succ]
    refine wpAnyH_take (i := 14) (oi := { dst := some 60, op := Op.move (Operand.tmp 9), type := 4, pos := "poll.go:130", after := #[], guard := none }) (v := ?_) rfl (by kernel_rfl) (by kernel_rfl) (by kernel_rfl) (fun _ _ _ h => h) (Or.inl ⟨by rfl, ?_⟩) (by assumption) ?_
    rotate_left 1
    · (intro w' hSw; (try dsimp only at hSw); go_simp; try with_reducible rfl)
    try simp only [Act.put, List.setIfInBounds_toArray, List.set_cons_zero, List.set_cons_succ]
    refine wpAnyH_ready (rs := [12]) (by kernel_rfl) (by simp) ?_
    refine AllReadyH.cons (o := { dst := some 58, op := Op.call { callee := Callee.value (Operand.func 78), args := #[Operand.tmp 52, Operand.tmp 53, Operand.tmp 57], argTypes := #[129, 3, 4] }, type := 4, pos := "poll.go:133", after := #[{ on := 6, ground := Ground.data }, { on := 7, ground := Ground.data }, { on := 11, ground := Ground.data }, { on := 3, ground := Ground.chain }, { on := 3, ground := Ground.guard }], guard := some (3, true) }) rfl (fun K hK => ?_) ?_
    rotate_left 1
    · exact AllReadyH.nil
    go_simp
    (go_at_call 78; (with_reducible show Calls _ _ #[.pointer (some ⟨vb, i * 5 + 1, none⟩), _, _] _ _); refine Calls.mono (CR.out _ ?_) ?_; (first | exact W3.out | exact (W3.out).drew); rintro e w4 ⟨rfl, hd⟩; have W4 := Lib.hid (And.intro hd.out.1 (show Mods [vb] w3 w4 from by first | exact hd.out.2 | exact of_drew hd.out.2)); have R4 := Lib.hid (R3.out.mods W4.out.2 NV.out.2.1); have E4 := Lib.hid (E3.out.mods W4.out.2 NV.out.2.2); have k04 : w4.cell? ⟨w.heap.size, 0, none⟩ = some (.int .i64 (i : Nat)) := R4.out.cell 0; have k14 : w4.cell? ⟨w.heap.size, 1, none⟩ = some (.int .i64 b) := R4.out.cell 1; have ke4 : w4.cell? ⟨vb, i * 5, none⟩ = some (.bool (P.wch i).eg) := W4.out.1.cell (x := ⟨(P.wch i).rd, (P.wch i).wr, (P.wch i).eg, if bR then mr else (P.wch i).tr, (P.wch i).tw⟩) (get_set' _ (HX.out)) (j := 0) (by omega); have z04 : w4.cell? ⟨w.heap.size + 1, 0, none⟩ = some (.int .i64 0) := E4.out.cell 0; have z14 : w4.cell? ⟨w.heap.size + 1, 1, none⟩ = some (.int .i64 0) := E4.out.cell 1; have z24 : w4.cell? ⟨w.heap.size + 1, 2, none⟩ = some (.int .i64 0) := E4.out.cell 2; have z34 : w4.cell? ⟨w.heap.size + 1, 3, none⟩ = some (.bool false) := E4.out.cell 3; have z44 : w4.cell? ⟨w.heap.size + 1, 4, none⟩ = some (.bool false) := E4.out.cell 4; have zf4 := E4.out.free; clear hd)
    refine hK.out _ _ ?_ (fun hHeld => ?_)
    · (try dsimp only); go_keep
    clear hK K
    try simp only [Act.put, List.setIfInBounds_toArray, List.set_cons_zero, List.set_cons_succ]
    refine wpAnyH_take (i := 13) (oi := { dst := some 59, op := Op.pick (Operand.tmp 49) (Operand.tmp 58) (Operand.const (Value.bool false)), type := 4, pos := "poll.go:130", after := #[{ on := 3, ground := Ground.data }, { on := 12, ground := Ground.data }], guard := none }) (v := ?_) rfl (by kernel_rfl) (by kernel_rfl) (by kernel_rfl) (fun _ _ _ h => h) (Or.inl ⟨by rfl, ?_⟩) (by assumption) ?_
    rotate_left 1
    · (intro w' hSw; (try dsimp only at hSw); go_simp; try with_reducible rfl)
    try simp only [Act.put, List.setIfInBounds_toArray, List.set_cons_zero, List.set_cons_succ]
    refine wpAnyH_take (i := 15) (oi := { dst := some 61, op := Op.move (Operand.tmp 60), type := 4, pos := "poll.go:130", after := #[{ on := 14, ground := Ground.data }, { on := 12, ground := Ground.chain }], guard := none }) (v := ?_) rfl (by kernel_rfl) (by kernel_rfl) (by kernel_rfl) (fun _ _ _ h => h) (Or.inl ⟨by rfl, ?_⟩) (by assumption) ?_
    rotate_left 1
    · (intro w' hSw; (try dsimp only at hSw); go_simp; try with_reducible rfl)
    try simp only [Act.put, List.setIfInBounds_toArray, List.set_cons_zero, List.set_cons_succ]
    refine wpAnyH_take (i := 16) (oi := { dst := some 62, op := Op.move (Operand.tmp 7), type := 155, pos := "poll.go:130", after := #[{ on := 15, ground := Ground.guard }], guard := some (15, true) }) (v := undef) rfl (by kernel_rfl) (by kernel_rfl) (by kernel_rfl) (fun _ _ _ h => h) (Or.inr ⟨by rfl, rfl⟩) (by assumption) ?_
    try simp only [Act.put, List.setIfInBounds_toArray, List.set_cons_zero, List.set_cons_succ]
    refine wpAnyH_take (i := 17) (oi := { dst := some 63, op := Op.nilCheck (Operand.tmp 62), type := 0, pos := "poll.go:130", after := #[{ on := 16, ground := Ground.data }, { on := 15, ground := Ground.guard }], guard := some (15, true) }) (v := undef) rfl (by kernel_rfl) (by kernel_rfl) (by kernel_rfl) (fun _ _ _ h => h) (Or.inr ⟨by rfl, rfl⟩) (by assumption) ?_
    try simp only [Act.put, List.setIfInBounds_toArray, List.set_cons_zero, List.set_cons_succ]
    refine wpAnyH_take (i := 18) (oi := { dst := some 64, op := Op.fieldAddr 131 (Operand.tmp 63) 2, type := 0, pos := "poll.go:130", after := #[{ on := 17, ground := Ground.data }, { on := 15, ground := Ground.guard }], guard := some (15, true) }) (v := undef) rfl (by kernel_rfl) (by kernel_rfl) (by kernel_rfl) (fun _ _ _ h => h) (Or.inr ⟨by rfl, rfl⟩) (by assumption) ?_
    try simp only [Act.put, List.setIfInBounds_toArray, List.set_cons_zero, List.set_cons_succ]
    refine wpAnyH_take (i := 19) (oi := { dst := some 65, op := Op.move (Operand.tmp 11), type := 3, pos := "poll.go:130", after := #[{ on := 15, ground := Ground.guard }], guard := some (15, true) }) (v := undef) rfl (by kernel_rfl) (by kernel_rfl) (by kernel_rfl) (fun _ _ _ h => h) (Or.inr ⟨by rfl, rfl⟩) (by assumption) ?_
    try simp only [Act.put, List.setIfInBounds_toArray, List.set_cons_zero, List.set_cons_succ]
    refine wpAnyH_take (i := 20) (oi := { dst := some 66, op := Op.move (Operand.tmp 7), type := 155, pos := "poll.go:130", after := #[{ on := 15, ground := Ground.guard }], guard := some (15, true) }) (v := undef) rfl (by kernel_rfl) (by kernel_rfl) (by kernel_rfl) (fun _ _ _ h => h) (Or.inr ⟨by rfl, rfl⟩) (by assumption) ?_
    try simp only [Act.put, List.setIfInBounds_toArray, List.set_cons_zero, List.set_cons_succ]
    refine wpAnyH_take (i := 21) (oi := { dst := some 67, op := Op.nilCheck (Operand.tmp 66), type := 0, pos := "poll.go:130", after := #[{ on := 20, ground := Ground.data }, { on := 15, ground := Ground.guard }], guard := some (15, true) }) (v := undef) rfl (by kernel_rfl) (by kernel_rfl) (by kernel_rfl) (fun _ _ _ h => h) (Or.inr ⟨by rfl, rfl⟩) (by assumption) ?_
    try simp only [Act.put, List.setIfInBounds_toArray, List.set_cons_zero, List.set_cons_succ]
    refine wpAnyH_take (i := 22) (oi := { dst := some 68, op := Op.fieldAddr 131 (Operand.tmp 67) 0, type := 0, pos := "poll.go:130", after := #[{ on := 21, ground := Ground.data }, { on := 15, ground := Ground.guard }], guard := some (15, true) }) (v := undef) rfl (by kernel_rfl) (by kernel_rfl) (by kernel_rfl) (fun _ _ _ h => h) (Or.inr ⟨by rfl, rfl⟩) (by assumption) ?_
    try simp only [Act.put, List.setIfInBounds_toArray, List.set_cons_zero, List.set_cons_succ]
    refine wpAnyH_take (i := 23) (oi := { dst := some 69, op := Op.load 4 (Operand.tmp 68), type := 4, pos := "poll.go:130", after := #[{ on := 22, ground := Ground.data }, { on := 15, ground := Ground.guard }], guard := some (15, true) }) (v := undef) rfl (by kernel_rfl) (by kernel_rfl) (by kernel_rfl) (fun _ _ _ h => h) (Or.inr ⟨by rfl, rfl⟩) (by assumption) ?_
    try simp only [Act.put, List.setIfInBounds_toArray, List.set_cons_zero, List.set_cons_succ]
    refine wpAnyH_take (i := 24) (oi := { dst := some 70, op := Op.call { callee := Callee.value (Operand.func 78), args := #[Operand.tmp 64, Operand.tmp 65, Operand.tmp 69], argTypes := #[129, 3, 4] }, type := 4, pos := "poll.go:134", after := #[{ on := 18, ground := Ground.data }, { on := 19, ground := Ground.data }, { on := 23, ground := Ground.data }, { on := 15, ground := Ground.chain }, { on := 15, ground := Ground.guard }], guard := some (15, true) }) (v := undef) rfl (by kernel_rfl) (by kernel_rfl) (by kernel_rfl) (fun _ _ _ h => h) (Or.inr ⟨by rfl, rfl⟩) (by assumption) ?_
    try simp only [Act.put, List.setIfInBounds_toArray, List.set_cons_zero, List.set_cons_succ]
    refine wpAnyH_take (i := 25) (oi := { dst := some 71, op := Op.pick (Operand.tmp 61) (Operand.tmp 70) (Operand.const (Value.bool false)), type := 4, pos := "poll.go:130", after := #[{ on := 15, ground := Ground.data }, { on := 24, ground := Ground.data }], guard := none }) (v := ?_) rfl (by kernel_rfl) (by kernel_rfl) (by kernel_rfl) (fun _ _ _ h => h) (Or.inl ⟨by rfl, ?_⟩) (by assumption) ?_
    rotate_left 1
    · (intro w' hSw; (try dsimp only at hSw); go_simp; try with_reducible rfl)
    try simp only [Act.put, List.setIfInBounds_toArray, List.set_cons_zero, List.set_cons_succ]
    refine wpAnyH_take (i := 26) (oi := { dst := some 72, op := Op.build 74 #[(0, Operand.tmp 46), (1, Operand.tmp 47), (2, Operand.tmp 59), (3, Operand.tmp 71)], type := 74, pos := "poll.go:130", after := #[{ on := 0, ground := Ground.data }, { on := 1, ground := Ground.data }, { on := 13, ground := Ground.data }, { on := 25, ground := Ground.data }], guard := none }) (v := ?_) rfl (by kernel_rfl) (by kernel_rfl) (by kernel_rfl) (fun _ _ _ h => h) (Or.inl ⟨by rfl, ?_⟩) (by assumption) ?_
    rotate_left 1
    · (intro w' hSw; (try dsimp only at hSw); go_simp; try with_reducible rfl)
    try simp only [Act.put, List.setIfInBounds_toArray, List.set_cons_zero, List.set_cons_succ]
    refine wpAnyH_ready (rs := [27]) (by kernel_rfl) (by simp) ?_
    refine AllReadyH.cons (o := { dst := none, op := Op.store 74 (Operand.tmp 4) (Operand.tmp 72), type := 0, pos := "poll.go:130", after := #[{ on := 26, ground := Ground.data }, { on := 24, ground := Ground.chain }, { on := 0, ground := Ground.phase }, { on := 1, ground := Ground.phase }, { on := 2, ground := Ground.phase }, { on := 3, ground := Ground.phase }, { on := 4, ground := Ground.phase }, { on := 5, ground := Ground.phase }, { on := 6, ground := Ground.phase }, { on := 7, ground := Ground.phase }, { on := 8, ground := Ground.phase }, { on := 9, ground := Ground.phase }, { on := 10, ground := Ground.phase }, { on := 11, ground := Ground.phase }, { on := 12, ground := Ground.phase }, { on := 13, ground := Ground.phase }, { on := 14, ground := Ground.phase }, { on := 15, ground := Ground.phase }, { on := 16, ground := Ground.phase }, { on := 17, ground := Ground.phase }, { on := 18, ground := Ground.phase }, { on := 19, ground := Ground.phase }, { on := 20, ground := Ground.phase }, { on := 21, ground := Ground.phase }, { on := 22, ground := Ground.phase }, { on := 23, ground := Ground.phase }, { on := 24, ground := Ground.phase }, { on := 25, ground := Ground.phase }, { on := 26, ground := Ground.phase }], guard := none }) rfl (fun K hK => ?_) ?_
    rotate_left 1
    · exact AllReadyH.nil
    go_simp
    refine hK.out _ _ ?_ (fun hHeld => ?_)
    · (try dsimp only); go_keep
    clear hK K
    try simp only [Act.put, List.setIfInBounds_toArray, List.set_cons_zero, List.set_cons_succ]
    refine wpAnyH_done (by kernel_rfl) ?_ _
  all_goals
    go_wp2
    have e1 : P.tR i = bR := HER.out.1.trans HbR.out.symm
    have e2 : P.tW i = false := HER.out.2.1.trans rfl
    have eE : P.ev ((i : Int), b) = ⟨i, b, z, bR, false⟩ := by
      unfold Plr.ev
      simp only [Int.toNat_natCast, e1, e2, HZ.out]
    rw [eE]
    have hw : WsAt w4 vb cap (P.ws.set i ((P.wch i).put (P.tR i) (P.tW i) (P.net.markR (P.id i)).toNat (P.net.markW (P.id i)).toNat)) := by
      rw [e1, e2, HER.out.2.2.1, HER.out.2.2.2, Int.toNat_natCast, Int.toNat_natCast]
      exact W4.out.1
    exact ret_ev Tryd.results51 (e := ⟨i, b, z, bR, false⟩) ((((((E4.out.set 0 _).set 1 _).set 2 _).set 3 _).set 4 _).keep rfl) rfl rfl ⟨rfl, Lib.hid (PolA.tellTo (eb := w.heap.size + 1) HH.out Q3.out HL.out hw W4.out.2 (((((((Mods.refl _ _).setCell (.inl (by simp)) _).setCell (.inl (by simp)) _).setCell (.inl (by simp)) _).setCell (.inl (by simp)) _).setCell (.inl (by simp)) _).same rfl rfl rfl rfl) (by omega) E3.out.lt)⟩
set_option maxHeartbeats 1000000 in
theorem tell_ft (w : World) (p g m K i : Nat) (F : List Nat) (P : Plr) (h : PolA w p g F P m K) (b : Int) (his : P.sl.is i b = true) (hrr : P.net.readyR (P.id i) = false) (hrw : P.net.readyW (P.id i) = true) :
    Calls Tryd.prog 51 #[.pointer (some ⟨p, 0, none⟩), .agg #[.int .i64 i, .int .i64 b]] w fun e w' => e = .returned (.agg (P.ev ((i : Int), b)).cs.toArray) ∧ Hid (PolA w' p g F (P.tell i) m K ∧ Mods F w w') := by
  obtain ⟨x, hs, mb, vw, rfl, H⟩ := h
  obtain ⟨-, hlt, -, -⟩ := Slb.is_lt his
  rw [Int.toNat_natCast] at hlt
  have h4 := H.ok.sl.len
  have h5 := H.ok.sl.hi
  have hlw : i < P.ws.length := by rw [H.ok.len]; exact hlt
  obtain ⟨vb, cap, rfl, hcap, hmx, hW, hc2⟩ := H.row2 hlw
  have hx := H.ok.wch hlw
  obtain ⟨mr, hmr⟩ := Int.eq_ofNat_of_zero_le (H.net.ok.markR (P.id i)).1
  obtain ⟨mw, hmw⟩ := Int.eq_ofNat_of_zero_le (H.net.ok.markW (P.id i)).1
  have HRY := Lib.hid (fun (wz : World) (hz : Mods [] w wz) => by
    have := ready_any wz g m (x.c 0) P.net (P.id i) (H.net.quiet hz)
    rw [hrr, hrw] at this
    exact this)
  have HMK := Lib.hid (fun (wz : World) (hz : Mods [] w wz) => by
    have := marks_any wz g m (x.c 0) P.net (P.id i) (H.net.quiet hz)
    rw [hmr, hmw] at this
    exact this)
  have eR : P.tR i = (P.wch i).tellR false mr := by unfold Plr.tR; rw [hrr, hmr]; rfl
  have eW : P.tW i = (P.wch i).tellW true mw := by unfold Plr.tW; rw [hrw, hmw]; rfl
  have HGT := Lib.hid (fun (wz : World) (hz : Mods [] w wz) => get_yes wz hs i b (x.c 1) P.sl K (by omega) (slabA_mods H.slb hz (by simp)) his)
  have HER := Lib.hid (And.intro eR (And.intro eW (And.intro hmr hmw)))
  obtain ⟨z, hz⟩ : ∃ z, P.id i = z := ⟨_, rfl⟩
  have hz' : P.sl.vs.getD i 0 = z := hz
  rw [hz'] at HGT
  rw [hz] at HRY HMK
  have HZ := Lib.hid hz
  have HH := Lib.hid H
  have HL := Lib.hid hlw
  have HW := Lib.hid hW
  have HX := Lib.hid hx
  have NV := Lib.hid (show p ∉ [vb] ∧ w.heap.size ∉ [vb] ∧ w.heap.size + 1 ∉ [vb] by
    have hv := H.lt 2 vb (by rw [hc2]; simp)
    refine ⟨fun h0 => ?_, fun h0 => ?_, fun h0 => ?_⟩
    · obtain rfl := List.mem_singleton.1 h0
      exact H.apt 4 2 (by decide) p (by rw [H.c4]; simp) (by rw [hc2]; simp)
    · obtain h1 := List.mem_singleton.1 h0; omega
    · obtain h1 := List.mem_singleton.1 h0; omega)
  have g1 : (i : Int) < (P.ws.length : Int) := by omega
  have g0 : (0 : Int) ≤ (i : Int) := by omega
  have HQ := Lib.hid (((Mods.refl [] w).alloc (.cells #[.int .i64 i, .int .i64 b] 47)).alloc (.cells #[.int .i64 0, .int .i64 0, .int .i64 0, .bool false, .bool false] 74))
  have R0 := Lib.hid ((Row.new w 47 #[.int .i64 i, .int .i64 b]).alloc (.cells #[.int .i64 0, .int .i64 0, .int .i64 0, .bool false, .bool false] 74))
  have E0 := Lib.hid (Row.new (w.alloc (.cells #[.int .i64 i, .int .i64 b] 47)) 74 #[.int .i64 0, .int .i64 0, .int .i64 0, .bool false, .bool false])
  have es : (w.alloc (.cells #[.int .i64 i, .int .i64 b] 47)).heap.size = w.heap.size + 1 := by simp
  rw [es] at E0
  obtain ⟨w0, hw0⟩ : ∃ w0, w0 = (w.alloc (.cells #[.int .i64 i, .int .i64 b] 47)).alloc (.cells #[.int .i64 0, .int .i64 0, .int .i64 0, .bool false, .bool false] 74) := ⟨_, rfl⟩
  rw [← hw0] at HQ R0 E0
  have c1 : w0.cell? ⟨p, 1, none⟩ = some (.pointer (some ⟨hs, 0, none⟩)) := (HH.out.quiet HQ.out).row.cell 1
  have d0 : w0.cell? ⟨w.heap.size, 0, none⟩ = some (.int .i64 i) := R0.out.cell 0
  have d1 : w0.cell? ⟨w.heap.size, 1, none⟩ = some (.int .i64 b) := R0.out.cell 1
  clear H his hrr hrw hlt h4 h5 hlw hcap hmx hW hc2 hx hmr hmw hz hz' eR eW es
  go_enter Tryd.func51, Tryd.ntmps51
  go_upto_region 1 with fail
  rw [← hw0]
  clear hw0
  go_region_held3 (fun w' => w'.cell? ⟨p, 1, none⟩ = some (.pointer (some ⟨hs, 0, none⟩)) ∧ w'.cell? ⟨w.heap.size, 0, none⟩ = some (.int .i64 (i : Nat)) ∧ w'.cell? ⟨w.heap.size, 1, none⟩ = some (.int .i64 b)) (go_keep)
    ((go_at_call 65; refine Calls.mono (HGT.out _ ?_) ?_; exact HQ.out.same rfl rfl rfl rfl; rintro e w1 ⟨rfl, hd⟩; have G1 := Lib.hid (of_drew hd); have c1' := cell_mods c1 (of_drew hd) (by simp); have d0' := cell_mods d0 (of_drew hd) (by simp); have d1' := cell_mods d1 (of_drew hd) (by simp); clear hd))
  all_goals
    have Q1 := Lib.hid (HQ.out.trans G1.out (by simp))
    have R1 := Lib.hid (R0.out.mods G1.out (by simp))
    have E1 := Lib.hid (E0.out.mods G1.out (by simp))
    have b0 : w1.cell? ⟨p, 0, none⟩ = some (.pointer (some ⟨g, 0, none⟩)) := (HH.out.quiet Q1.out).row.cell 0
    have b2 : w1.cell? ⟨p, 2, none⟩ = some (.slice (some ⟨vb, 0, none⟩) P.ws.length cap) := (HH.out.quiet Q1.out).row.cell 2
    clear c1 d0 d1 c1' d1'
    go_upto_region 2 with fail
    go_quiet (fail)
    go_wp2_with fail
    refine (HRY.out (w1.drewN nq) (Q1.out.drewN nq)).mono ?_
    rintro e w2 ⟨rfl, q2, hq2⟩
    have Q2 := Lib.hid (show Mods [] w w2 by rw [hq2]; exact Q1.out.same rfl rfl rfl rfl)
    have R2 := Lib.hid (show Row w2 w.heap.size 47 #[.int .i64 (i : Nat), .int .i64 b] by rw [hq2]; exact R1.out)
    have E2 := Lib.hid (show Row w2 (w.heap.size + 1) 74 #[.int .i64 0, .int .i64 0, .int .i64 0, .bool false, .bool false] by rw [hq2]; exact E1.out)
    have b0' : w2.cell? ⟨p, 0, none⟩ = some (.pointer (some ⟨g, 0, none⟩)) := (HH.out.quiet Q2.out).row.cell 0
    clear b0 b2 d0' hq2 R1 E1
    go_wp2_with fail
    refine (HMK.out _ Q2.out).mono ?_
    rintro e w3 ⟨rfl, q3, hq3⟩
    have Q3 := Lib.hid (show Mods [] w w3 by rw [hq3]; exact Q2.out.same rfl rfl rfl rfl)
    have R3 := Lib.hid (show Row w3 w.heap.size 47 #[.int .i64 (i : Nat), .int .i64 b] by rw [hq3]; exact R2.out)
    have E3 := Lib.hid (show Row w3 (w.heap.size + 1) 74 #[.int .i64 0, .int .i64 0, .int .i64 0, .bool false, .bool false] by rw [hq3]; exact E2.out)
    clear b0' hq3 R2 E2
    go_upto_region 5 with fail
    have W3 := Lib.hid (HW.out.mods Q3.out (by simp))
    obtain ⟨bR, hbR⟩ : ∃ b, b = (P.wch i).tellR true mr := ⟨_, rfl⟩
    obtain ⟨bW, hbW⟩ : ∃ b, b = (P.wch i).tellW true mw := ⟨_, rfl⟩
    have HbR := Lib.hid hbR
    have HbW := Lib.hid hbW
    clear hbR hbW
    have k0 : w3.cell? ⟨w.heap.size, 0, none⟩ = some (.int .i64 (i : Nat)) := R3.out.cell 0
    have k1 : w3.cell? ⟨w.heap.size, 1, none⟩ = some (.int .i64 b) := R3.out.cell 1
    have ke : w3.cell? ⟨vb, i * 5, none⟩ = some (.bool (P.wch i).eg) := W3.out.cell HX.out (j := 0) (by omega)
    have z0 : w3.cell? ⟨w.heap.size + 1, 0, none⟩ = some (.int .i64 0) := E3.out.cell 0
    have z1 : w3.cell? ⟨w.heap.size + 1, 1, none⟩ = some (.int .i64 0) := E3.out.cell 1
    have z2 : w3.cell? ⟨w.heap.size + 1, 2, none⟩ = some (.int .i64 0) := E3.out.cell 2
    have z3 : w3.cell? ⟨w.heap.size + 1, 3, none⟩ = some (.bool false) := E3.out.cell 3
    have z4 : w3.cell? ⟨w.heap.size + 1, 4, none⟩ = some (.bool false) := E3.out.cell 4
    have zf := E3.out.free
    have nv1 : vb ≠ w.heap.size + 1 := fun h0 => NV.out.2.2 (by rw [h0]; simp)
    have nv2 : w.heap.size + 1 ≠ vb := nv1.symm
    have CW := Lib.hid (fun (wz : World) (hz : WsAt wz vb cap P.ws) => by
      have := wtell_any wz vb cap i P.ws (P.wch i) hz HX.out mw
      rw [← HbW.out] at this
      exact this)
    refine wp_region_held_drew (S := fun w' => w'.cell? ⟨w.heap.size, 0, none⟩ = some (.int .i64 (i : Nat)) ∧ w'.cell? ⟨w.heap.size, 1, none⟩ = some (.int .i64 b) ∧ w'.cell? ⟨vb, i * 5, none⟩ = some (.bool (P.wch i).eg)) (by kernel_rfl) ?_ (fun hHeld => ?_)
    · (try dsimp only); go_keep
    refine wpAnyH_take (i := 0) (oi := { dst := some 46, op := Op.load 47 (Operand.tmp 3), type := 47, pos := "poll.go:130", after := #[], guard := none }) (v := ?_) rfl (by kernel_rfl) (by kernel_rfl) (by kernel_rfl) (fun _ _ _ h => h) (Or.inl ⟨by rfl, ?_⟩) (by assumption) ?_
    rotate_left 1
    · (intro w' hSw; (try dsimp only at hSw); go_simp; try with_reducible rfl)
    try simp only [Act.put, List.setIfInBounds_toArray, List.set_cons_zero, List.set_cons_succ]
    refine wpAnyH_take (i := 1) (oi := { dst := some 47, op := Op.move (Operand.tmp 5), type := 3, pos := "poll.go:130", after := #[], guard := none }) (v := ?_) rfl (by kernel_rfl) (by kernel_rfl) (by kernel_rfl) (fun _ _ _ h => h) (Or.inl ⟨by rfl, ?_⟩) (by assumption) ?_
    rotate_left 1
    · (intro w' hSw; (try dsimp only at hSw); go_simp; try with_reducible rfl)
    try simp only [Act.put, List.setIfInBounds_toArray, List.set_cons_zero, List.set_cons_succ]
    refine wpAnyH_take (i := 2) (oi := { dst := some 48, op := Op.move (Operand.tmp 8), type := 4, pos := "poll.go:130", after := #[], guard := none }) (v := ?_) rfl (by kernel_rfl) (by kernel_rfl) (by kernel_rfl) (fun _ _ _ h => h) (Or.inl ⟨by rfl, ?_⟩) (by assumption) ?_
    rotate_left 1
    · (intro w' hSw; (try dsimp only at hSw); go_simp; try with_reducible rfl)
    try simp only [Act.put, List.setIfInBounds_toArray, List.set_cons_zero, List.set_cons_succ]
    refine wpAnyH_take (i := 3) (oi := { dst := some 49, op := Op.move (Operand.tmp 48), type := 4, pos := "poll.go:130", after := #[{ on := 2, ground := Ground.data }], guard := none }) (v := ?_) rfl (by kernel_rfl) (by kernel_rfl) (by kernel_rfl) (fun _ _ _ h => h) (Or.inl ⟨by rfl, ?_⟩) (by assumption) ?_
    rotate_left 1
    · (intro w' hSw; (try dsimp only at hSw); go_simp; try with_reducible rfl)
    try simp only [Act.put, List.setIfInBounds_toArray, List.set_cons_zero, List.set_cons_succ]
    refine wpAnyH_take (i := 4) (oi := { dst := some 50, op := Op.move (Operand.tmp 7), type := 155, pos := "poll.go:130", after := #[{ on := 3, ground := Ground.guard }], guard := some (3, true) }) (v := undef) rfl (by kernel_rfl) (by kernel_rfl) (by kernel_rfl) (fun _ _ _ h => h) (Or.inr ⟨by rfl, rfl⟩) (by assumption) ?_
    try simp only [Act.put, List.setIfInBounds_toArray, List.set_cons_zero, List.set_cons_succ]
    refine wpAnyH_take (i := 5) (oi := { dst := some 51, op := Op.nilCheck (Operand.tmp 50), type := 0, pos := "poll.go:130", after := #[{ on := 4, ground := Ground.data }, { on := 3, ground := Ground.guard }], guard := some (3, true) }) (v := undef) rfl (by kernel_rfl) (by kernel_rfl) (by kernel_rfl) (fun _ _ _ h => h) (Or.inr ⟨by rfl, rfl⟩) (by assumption) ?_
    try simp only [Act.put, List.setIfInBounds_toArray, List.set_cons_zero, List.set_cons_succ]
    refine wpAnyH_take (i := 6) (oi := { dst := some 52, op := Op.fieldAddr 131 (Operand.tmp 51) 1, type := 0, pos := "poll.go:130", after := #[{ on := 5, ground := Ground.data }, { on := 3, ground := Ground.guard }], guard := some (3, true) }) (v := undef) rfl (by kernel_rfl) (by kernel_rfl) (by kernel_rfl) (fun _ _ _ h => h) (Or.inr ⟨by rfl, rfl⟩) (by assumption) ?_
    try simp only [Act.put, List.setIfInBounds_toArray, List.set_cons_zero, List.set_cons_succ]
    refine wpAnyH_take (i := 7) (oi := { dst := some 53, op := Op.move (Operand.tmp 10), type := 3, pos := "poll.go:130", after := #[{ on := 3, ground := Ground.guard }], guard := some (3, true) }) (v := undef) rfl (by kernel_rfl) (by kernel_rfl) (by kernel_rfl) (fun _ _ _ h => h) (Or.inr ⟨by rfl, rfl⟩) (by assumption) ?_
    try simp only [Act.put, List.setIfInBounds_toArray, List.set_cons_zero, List.set_cons_succ]
    refine wpAnyH_take (i := 8) (oi := { dst := some 54, op := Op.move (Operand.tmp 7), type := 155, pos := "poll.go:130", after := #[{ on := 3, ground := Ground.guard }], guard := some (3, true) }) (v := undef) rfl (by kernel_rfl) (by kernel_rfl) (by kernel_rfl) (fun _ _ _ h => h) (Or.inr ⟨by rfl, rfl⟩) (by assumption) ?_
    try simp only [Act.put, List.setIfInBounds_toArray, List.set_cons_zero, List.set_cons_succ]
    refine wpAnyH_take (i := 9) (oi := { dst := some 55, op := Op.nilCheck (Operand.tmp 54), type := 0, pos := "poll.go:130", after := #[{ on := 8, ground := Ground.data }, { on := 3, ground := Ground.guard }], guard := some (3, true) }) (v := undef) rfl (by kernel_rfl) (by kernel_rfl) (by kernel_rfl) (fun _ _ _ h => h) (Or.inr ⟨by rfl, rfl⟩) (by assumption) ?_
    try simp only [Act.put, List.setIfInBounds_toArray, List.set_cons_zero, List.set_cons_succ]
    refine wpAnyH_take (i := 10) (oi := { dst := some 56, op := Op.fieldAddr 131 (Operand.tmp 55) 0, type := 0, pos := "poll.go:130", after := #[{ on := 9, ground := Ground.data }, { on := 3, ground := Ground.guard }], guard := some (3, true) }) (v := undef) rfl (by kernel_rfl) (by kernel_rfl) (by kernel_rfl) (fun _ _ _ h => h) (Or.inr ⟨by rfl, rfl⟩) (by assumption) ?_
    try simp only [Act.put, List.setIfInBounds_toArray, List.set_cons_zero, List.set_cons_succ]
    refine wpAnyH_take (i := 11) (oi := { dst := some 57, op := Op.load 4 (Operand.tmp 56), type := 4, pos := "poll.go:130", after := #[{ on := 10, ground := Ground.data }, { on := 3, ground := Ground.guard }], guard := some (3, true) }) (v := undef) rfl (by kernel_rfl) (by kernel_rfl) (by kernel_rfl) (fun _ _ _ h => h) (Or.inr ⟨by rfl, rfl⟩) (by assumption) ?_
    try simp only [Act.put, List.setIfInBounds_toArray, List.set_cons_zero, List.set_cons_succ]
    refine wpAnyH_take (i := 12) (oi := { dst := some 58, op := Op.call { callee := Callee.value (Operand.func 78), args := #[Operand.tmp 52, Operand.tmp 53, Operand.tmp 57], argTypes := #[129, 3, 4] }, type := 4, pos := "poll.go:133", after := #[{ on := 6, ground := Ground.data }, { on := 7, ground := Ground.data }, { on := 11, ground := Ground.data }, { on := 3, ground := Ground.chain }, { on := 3, ground := Ground.guard }], guard := some (3, true) }) (v := undef) rfl (by kernel_rfl) (by kernel_rfl) (by kernel_rfl) (fun _ _ _ h => h) (Or.inr ⟨by rfl, rfl⟩) (by assumption) ?_
    try simp only [Act.put, List.setIfInBounds_toArray, List.set_cons_zero, List.set_cons_succ]
    refine wpAnyH_take (i := 13) (oi := { dst := some 59, op := Op.pick (Operand.tmp 49) (Operand.tmp 58) (Operand.const (Value.bool false)), type := 4, pos := "poll.go:130", after := #[{ on := 3, ground := Ground.data }, { on := 12, ground := Ground.data }], guard := none }) (v := ?_) rfl (by kernel_rfl) (by kernel_rfl) (by kernel_rfl) (fun _ _ _ h => h) (Or.inl ⟨by rfl, ?_⟩) (by assumption) ?_
    rotate_left 1
    · (intro w' hSw; (try dsimp only at hSw); go_simp; try with_reducible rfl)
    try simp only [Act.put, List.setIfInBounds_toArray, List.set_cons_zero, List.set_cons_succ]
    refine wpAnyH_take (i := 14) (oi := { dst := some 60, op := Op.move (Operand.tmp 9), type := 4, pos := "poll.go:130", after := #[], guard := none }) (v := ?_) rfl (by kernel_rfl) (by kernel_rfl) (by kernel_rfl) (fun _ _ _ h => h) (Or.inl ⟨by rfl, ?_⟩) (by assumption) ?_
    rotate_left 1
    · (intro w' hSw; (try dsimp only at hSw); go_simp; try with_reducible rfl)
    try simp only [Act.put, List.setIfInBounds_toArray, List.set_cons_zero, List.set_cons_succ]
    refine wpAnyH_take (i := 15) (oi := { dst := some 61, op := Op.move (Operand.tmp 60), type := 4, pos := "poll.go:130", after := #[{ on := 14, ground := Ground.data }, { on := 12, ground := Ground.chain }], guard := none }) (v := ?_) rfl (by kernel_rfl) (by kernel_rfl) (by kernel_rfl) (fun _ _ _ h => h) (Or.inl ⟨by rfl, ?_⟩) (by assumption) ?_
    rotate_left 1
    · (intro w' hSw; (try dsimp only at hSw); go_simp; try with_reducible rfl)
    try simp only [Act.put, List.setIfInBounds_toArray, List.set_cons_zero, List.set_cons_succ]
    refine wpAnyH_take (i := 16) (oi := { dst := some 62, op := Op.move (Operand.tmp 7), type := 155, pos := "poll.go:130", after := #[{ on := 15, ground := Ground.guard }], guard := some (15, true) }) (v := ?_) rfl (by kernel_rfl) (by kernel_rfl) (by kernel_rfl) (fun _ _ _ h => h) (Or.inl ⟨by rfl, ?_⟩) (by assumption) ?_
    rotate_left 1
    · (intro w' hSw; (try dsimp only at hSw); go_simp; try with_reducible rfl)
    try simp only [Act.put, List.setIfInBounds_toArray, List.set_cons_zero, List.set_cons_succ]
    refine wpAnyH_take (i := 17) (oi := { dst := some 63, op := Op.nilCheck (Operand.tmp 62), type := 0, pos := "poll.go:130", after := #[{ on := 16, ground := Ground.data }, { on := 15, ground := Ground.guard }], guard := some (15, true) }) (v := ?_) rfl (by kernel_rfl) (by kernel_rfl) (by kernel_rfl) (fun _ _ _ h => h) (Or.inl ⟨by rfl, ?_⟩) (by assumption) ?_
    rotate_left 1
    · (intro w' hSw; (try dsimp only at hSw); go_simp; try with_reducible rfl)
    try simp only [Act.put, List.setIfInBounds_toArray, List.set_cons_zero, List.set_cons_succ]
    refine wpAnyH_take (i := 18) (oi := { dst := some 64, op := Op.fieldAddr 131 (Operand.tmp 63) 2, type := 0, pos := "poll.go:130", after := #[{ on := 17, ground := Ground.data }, { on := 15, ground := Ground.guard }], guard := some (15, true) }) (v := ?_) rfl (by kernel_rfl) (by kernel_rfl) (by kernel_rfl) (fun _ _ _ h => h) (Or.inl ⟨by rfl, ?_⟩) (by assumption) ?_
    rotate_left 1
    · (intro w' hSw; (try dsimp only at hSw); go_simp; try with_reducible rfl)
    try simp only [Act.put, List.setIfInBounds_toArray, List.set_cons_zero, List.set_cons_succ]
    refine wpAnyH_take (i := 19) (oi := { dst := some 65, op := Op.move (Operand.tmp 11), type := 3, pos := "poll.go:130", after := #[{ on := 15, ground := Ground.guard }], guard := some (15, true) }) (v := ?_) rfl (by kernel_rfl) (by kernel_rfl) (by kernel_rfl) (fun _ _ _ h => h) (Or.inl ⟨by rfl, ?_⟩) (by assumption) ?_
    rotate_left 1
    · (intro w' hSw; (try dsimp only at hSw); go_simp; try with_reducible rfl)
    try simp only [Act.put, List.setIfInBounds_toArray, List.set_cons_zero, List.set_cons_succ]
    refine wpAnyH_take (i := 20) (oi := { dst := some 66, op := Op.move (Operand.tmp 7), type := 155, pos := "poll.go:130", after := #[{ on := 15, ground := Ground.guard }], guard := some (15, true) }) (v := ?_) rfl (by kernel_rfl) (by kernel_rfl) (by kernel_rfl) (fun _ _ _ h => h) (Or.inl ⟨by rfl, ?_⟩) (by assumption) ?_
    rotate_left 1
    · (intro w' hSw; (try dsimp only at hSw); go_simp; try with_reducible rfl)
    try simp only [Act.put, List.setIfInBounds_toArray, List.set_cons_zero, List.set_cons_succ]
    refine wpAnyH_take (i := 21) (oi := { dst := some 67, op := Op.nilCheck (Operand.tmp 66), type := 0, pos := "poll.go:130", after := #[{ on := 20, ground := Ground.data }, { on := 15, ground := Ground.guard }], guard := some (15, true) }) (v := ?_) rfl (by kernel_rfl) (by kernel_rfl) (by kernel_rfl) (fun _ _ _ h => h) (Or.inl ⟨by rfl, ?_⟩) (by assumption) ?_
    rotate_left 1
    · (intro w' hSw; (try dsimp only at hSw); go_simp; try with_reducible rfl)
    try simp only [Act.put, List.setIfInBounds_toArray, List.set_cons_zero, List.set_cons_succ]
    refine wpAnyH_take (i := 22) (oi := { dst := some 68, op := Op.fieldAddr 131 (Operand.tmp 67) 0, type := 0, pos := "poll.go:130", after := #[{ on := 21, ground := Ground.data }, { on := 15, ground := Ground.guard }], guard := some (15, true) }) (v := ?_) rfl (by kernel_rfl) (by kernel_rfl) (by kernel_rfl) (fun _ _ _ h => h) (Or.inl ⟨by rfl, ?_⟩) (by assumption) ?_
    rotate_left 1
    · (intro w' hSw; (try dsimp only at hSw); go_simp; try with_reducible rfl)
    try simp only [Act.put, List.setIfInBounds_toArray, List.set_cons_zero, List.set_cons_succ]
    refine wpAnyH_take (i := 23) (oi := { dst := some 69, op := Op.load 4 (Operand.tmp 68), type := 4, pos := "poll.go:130", after := #[{ on := 22, ground := Ground.data }, { on := 15, ground := Ground.guard }], guard := some (15, true) }) (v := ?_) rfl (by kernel_rfl) (by kernel_rfl) (by kernel_rfl) (fun _ _ _ h => h) (Or.inl ⟨by rfl, ?_⟩) (by assumption) ?_
    rotate_left 1
    · (intro w' hSw; (try dsimp only at hSw); go_simp; try with_reducible rfl)
    try simp only [Act.put, List.setIfInBounds_toArray, List.set_cons_zero, List.set_cons_succ]
    refine wpAnyH_ready (rs := [24]) (by kernel_rfl) (by simp) ?_
    refine AllReadyH.cons (o := { dst := some 70, op := Op.call { callee := Callee.value (Operand.func 78), args := #[Operand.tmp 64, Operand.tmp 65, Operand.tmp 69], argTypes := #[129, 3, 4] }, type := 4, pos := "poll.go:134", after := #[{ on := 18, ground := Ground.data }, { on := 19, ground := Ground.data }, { on := 23, ground := Ground.data }, { on := 15, ground := Ground.chain }, { on := 15, ground := Ground.guard }], guard := some (15, true) }) rfl (fun K hK => ?_) ?_
    rotate_left 1
    · exact AllReadyH.nil
    go_simp
    (go_at_call 78; (with_reducible show Calls _ _ #[.pointer (some ⟨vb, i * 5 + 3, none⟩), _, _] _ _); refine Calls.mono (CW.out _ ?_) ?_; (first | exact W3.out | exact (W3.out).drew); rintro e w4 ⟨rfl, hd⟩; have W4 := Lib.hid (And.intro hd.out.1 (show Mods [vb] w3 w4 from by first | exact hd.out.2 | exact of_drew hd.out.2)); have R4 := Lib.hid (R3.out.mods W4.out.2 NV.out.2.1); have E4 := Lib.hid (E3.out.mods W4.out.2 NV.out.2.2); have k04 : w4.cell? ⟨w.heap.size, 0, none⟩ = some (.int .i64 (i : Nat)) := R4.out.cell 0; have k14 : w4.cell? ⟨w.heap.size, 1, none⟩ = some (.int .i64 b) := R4.out.cell 1; have ke4 : w4.cell? ⟨vb, i * 5, none⟩ = some (.bool (P.wch i).eg) := W4.out.1.cell (x := ⟨(P.wch i).rd, (P.wch i).wr, (P.wch i).eg, (P.wch i).tr, if bW then mw else (P.wch i).tw⟩) (get_set' _ (HX.out)) (j := 0) (by omega); have z04 : w4.cell? ⟨w.heap.size + 1, 0, none⟩ = some (.int .i64 0) := E4.out.cell 0; have z14 : w4.cell? ⟨w.heap.size + 1, 1, none⟩ = some (.int .i64 0) := E4.out.cell 1; have z24 : w4.cell? ⟨w.heap.size + 1, 2, none⟩ = some (.int .i64 0) := E4.out.cell 2; have z34 : w4.cell? ⟨w.heap.size + 1, 3, none⟩ = some (.bool false) := E4.out.cell 3; have z44 : w4.cell? ⟨w.heap.size + 1, 4, none⟩ = some (.bool false) := E4.out.cell 4; have zf4 := E4.out.free; clear hd)
    refine hK.out _ _ ?_ (fun hHeld => ?_)
    · (try dsimp only); go_keep
    clear hK K
    try simp only [Act.put, List.setIfInBounds_toArray, List.set_cons_zero, List.set_cons_succ]
    refine wpAnyH_take (i := 25) (oi := { dst := some 71, op := Op.pick (Operand.tmp 61) (Operand.tmp 70) (Operand.const (Value.bool false)), type := 4, pos := "poll.go:130", after := #[{ on := 15, ground := Ground.data }, { on := 24, ground := Ground.data }], guard := none }) (v := ?_) rfl (by kernel_rfl) (by kernel_rfl) (by kernel_rfl) (fun _ _ _ h => h) (Or.inl ⟨by rfl, ?_⟩) (by assumption) ?_
    rotate_left 1
    · (intro w' hSw; (try dsimp only at hSw); go_simp; try with_reducible rfl)
    try simp only [Act.put, List.setIfInBounds_toArray, List.set_cons_zero, List.set_cons_succ]
    refine wpAnyH_take (i := 26) (oi := { dst := some 72, op := Op.build 74 #[(0, Operand.tmp 46), (1, Operand.tmp 47), (2, Operand.tmp 59), (3, Operand.tmp 71)], type := 74, pos := "poll.go:130", after := #[{ on := 0, ground := Ground.data }, { on := 1, ground := Ground.data }, { on := 13, ground := Ground.data }, { on := 25, ground := Ground.data }], guard := none }) (v := ?_) rfl (by kernel_rfl) (by kernel_rfl) (by kernel_rfl) (fun _ _ _ h => h) (Or.inl ⟨by rfl, ?_⟩) (by assumption) ?_
    rotate_left 1
    · (intro w' hSw; (try dsimp only at hSw); go_simp; try with_reducible rfl)
    try simp only [Act.put, List.setIfInBounds_toArray, List.set_cons_zero, List.set_cons_succ]
    refine wpAnyH_ready (rs := [27]) (by kernel_rfl) (by simp) ?_
    refine AllReadyH.cons (o := { dst := none, op := Op.store 74 (Operand.tmp 4) (Operand.tmp 72), type := 0, pos := "poll.go:130", after := #[{ on := 26, ground := Ground.data }, { on := 24, ground := Ground.chain }, { on := 0, ground := Ground.phase }, { on := 1, ground := Ground.phase }, { on := 2, ground := Ground.phase }, { on := 3, ground := Ground.phase }, { on := 4, ground := Ground.phase }, { on := 5, ground := Ground.phase }, { on := 6, ground := Ground.phase }, { on := 7, ground := Ground.phase }, { on := 8, ground := Ground.phase }, { on := 9, ground := Ground.phase }, { on := 10, ground := Ground.phase }, { on := 11, ground := Ground.phase }, { on := 12, ground := Ground.phase }, { on := 13, ground := Ground.phase }, { on := 14, ground := Ground.phase }, { on := 15, ground := Ground.phase }, { on := 16, ground := Ground.phase }, { on := 17, ground := Ground.phase }, { on := 18, ground := Ground.phase }, { on := 19, ground := Ground.phase }, { on := 20, ground := Ground.phase }, { on := 21, ground := Ground.phase }, { on := 22, ground := Ground.phase }, { on := 23, ground := Ground.phase }, { on := 24, ground := Ground.phase }, { on := 25, ground := Ground.phase }, { on := 26, ground := Ground.phase }], guard := none }) rfl (fun K hK => ?_) ?_
    rotate_left 1
    · exact AllReadyH.nil
    go_simp
    refine hK.out _ _ ?_ (fun hHeld => ?_)
    · (try dsimp only); go_keep
    clear hK K
    try simp only [Act.put, List.setIfInBounds_toArray, List.set_cons_zero, List.set_cons_succ]
    refine wpAnyH_done (by kernel_rfl) ?_ _
  all_goals
    go_wp2
    have e1 : P.tR i = false := HER.out.1.trans rfl
    have e2 : P.tW i = bW := HER.out.2.1.trans HbW.out.symm
    have eE : P.ev ((i : Int), b) = ⟨i, b, z, false, bW⟩ := by
      unfold Plr.ev
      simp only [Int.toNat_natCast, e1, e2, HZ.out]
    rw [eE]
    have hw : WsAt w4 vb cap (P.ws.set i ((P.wch i).put (P.tR i) (P.tW i) (P.net.markR (P.id i)).toNat (P.net.markW (P.id i)).toNat)) := by
      rw [e1, e2, HER.out.2.2.1, HER.out.2.2.2, Int.toNat_natCast, Int.toNat_natCast]
      exact W4.out.1
    exact ret_ev Tryd.results51 (e := ⟨i, b, z, false, bW⟩) ((((((E4.out.set 0 _).set 1 _).set 2 _).set 3 _).set 4 _).keep rfl) rfl rfl ⟨rfl, Lib.hid (PolA.tellTo (eb := w.heap.size + 1) HH.out Q3.out HL.out hw W4.out.2 (((((((Mods.refl _ _).setCell (.inl (by simp)) _).setCell (.inl (by simp)) _).setCell (.inl (by simp)) _).setCell (.inl (by simp)) _).setCell (.inl (by simp)) _).same rfl rfl rfl rfl) (by omega) E3.out.lt)⟩
set_option maxHeartbeats 1000000 in
theorem tell_tt (w : World) (p g m K i : Nat) (F : List Nat) (P : Plr) (h : PolA w p g F P m K) (b : Int) (his : P.sl.is i b = true) (hrr : P.net.readyR (P.id i) = true) (hrw : P.net.readyW (P.id i) = true) :
    Calls Tryd.prog 51 #[.pointer (some ⟨p, 0, none⟩), .agg #[.int .i64 i, .int .i64 b]] w fun e w' => e = .returned (.agg (P.ev ((i : Int), b)).cs.toArray) ∧ Hid (PolA w' p g F (P.tell i) m K ∧ Mods F w w') := by
  obtain ⟨x, hs, mb, vw, rfl, H⟩ := h
  obtain ⟨-, hlt, -, -⟩ := Slb.is_lt his
  rw [Int.toNat_natCast] at hlt
  have h4 := H.ok.sl.len
  have h5 := H.ok.sl.hi
  have hlw : i < P.ws.length := by rw [H.ok.len]; exact hlt
  obtain ⟨vb, cap, rfl, hcap, hmx, hW, hc2⟩ := H.row2 hlw
  have hx := H.ok.wch hlw
  obtain ⟨mr, hmr⟩ := Int.eq_ofNat_of_zero_le (H.net.ok.markR (P.id i)).1
  obtain ⟨mw, hmw⟩ := Int.eq_ofNat_of_zero_le (H.net.ok.markW (P.id i)).1
  have HRY := Lib.hid (fun (wz : World) (hz : Mods [] w wz) => by
    have := ready_any wz g m (x.c 0) P.net (P.id i) (H.net.quiet hz)
    rw [hrr, hrw] at this
    exact this)
  have HMK := Lib.hid (fun (wz : World) (hz : Mods [] w wz) => by
    have := marks_any wz g m (x.c 0) P.net (P.id i) (H.net.quiet hz)
    rw [hmr, hmw] at this
    exact this)
  have eR : P.tR i = (P.wch i).tellR true mr := by unfold Plr.tR; rw [hrr, hmr]; rfl
  have eW : P.tW i = (P.wch i).tellW true mw := by unfold Plr.tW; rw [hrw, hmw]; rfl
  have HGT := Lib.hid (fun (wz : World) (hz : Mods [] w wz) => get_yes wz hs i b (x.c 1) P.sl K (by omega) (slabA_mods H.slb hz (by simp)) his)
  have HER := Lib.hid (And.intro eR (And.intro eW (And.intro hmr hmw)))
  obtain ⟨z, hz⟩ : ∃ z, P.id i = z := ⟨_, rfl⟩
  have hz' : P.sl.vs.getD i 0 = z := hz
  rw [hz'] at HGT
  rw [hz] at HRY HMK
  have HZ := Lib.hid hz
  have HH := Lib.hid H
  have HL := Lib.hid hlw
  have HW := Lib.hid hW
  have HX := Lib.hid hx
  have NV := Lib.hid (show p ∉ [vb] ∧ w.heap.size ∉ [vb] ∧ w.heap.size + 1 ∉ [vb] by
    have hv := H.lt 2 vb (by rw [hc2]; simp)
    refine ⟨fun h0 => ?_, fun h0 => ?_, fun h0 => ?_⟩
    · obtain rfl := List.mem_singleton.1 h0
      exact H.apt 4 2 (by decide) p (by rw [H.c4]; simp) (by rw [hc2]; simp)
    · obtain h1 := List.mem_singleton.1 h0; omega
    · obtain h1 := List.mem_singleton.1 h0; omega)
  have g1 : (i : Int) < (P.ws.length : Int) := by omega
  have g0 : (0 : Int) ≤ (i : Int) := by omega
  have HQ := Lib.hid (((Mods.refl [] w).alloc (.cells #[.int .i64 i, .int .i64 b] 47)).alloc (.cells #[.int .i64 0, .int .i64 0, .int .i64 0, .bool false, .bool false] 74))
  have R0 := Lib.hid ((Row.new w 47 #[.int .i64 i, .int .i64 b]).alloc (.cells #[.int .i64 0, .int .i64 0, .int .i64 0, .bool false, .bool false] 74))
  have E0 := Lib.hid (Row.new (w.alloc (.cells #[.int .i64 i, .int .i64 b] 47)) 74 #[.int .i64 0, .int .i64 0, .int .i64 0, .bool false, .bool false])
  have es : (w.alloc (.cells #[.int .i64 i, .int .i64 b] 47)).heap.size = w.heap.size + 1 := by simp
  rw [es] at E0
  obtain ⟨w0, hw0⟩ : ∃ w0, w0 = (w.alloc (.cells #[.int .i64 i, .int .i64 b] 47)).alloc (.cells #[.int .i64 0, .int .i64 0, .int .i64 0, .bool false, .bool false] 74) := ⟨_, rfl⟩
  rw [← hw0] at HQ R0 E0
  have c1 : w0.cell? ⟨p, 1, none⟩ = some (.pointer (some ⟨hs, 0, none⟩)) := (HH.out.quiet HQ.out).row.cell 1
  have d0 : w0.cell? ⟨w.heap.size, 0, none⟩ = some (.int .i64 i) := R0.out.cell 0
  have d1 : w0.cell? ⟨w.heap.size, 1, none⟩ = some (.int .i64 b) := R0.out.cell 1
  clear H his hrr hrw hlt h4 h5 hlw hcap hmx hW hc2 hx hmr hmw hz hz' eR eW es
  go_enter Tryd.func51, Tryd.ntmps51
  go_upto_region 1 with fail
  rw [← hw0]
  clear hw0
  go_region_held3 (fun w' => w'.cell? ⟨p, 1, none⟩ = some (.pointer (some ⟨hs, 0, none⟩)) ∧ w'.cell? ⟨w.heap.size, 0, none⟩ = some (.int .i64 (i : Nat)) ∧ w'.cell? ⟨w.heap.size, 1, none⟩ = some (.int .i64 b)) (go_keep)
    ((go_at_call 65; refine Calls.mono (HGT.out _ ?_) ?_; exact HQ.out.same rfl rfl rfl rfl; rintro e w1 ⟨rfl, hd⟩; have G1 := Lib.hid (of_drew hd); have c1' := cell_mods c1 (of_drew hd) (by simp); have d0' := cell_mods d0 (of_drew hd) (by simp); have d1' := cell_mods d1 (of_drew hd) (by simp); clear hd))
  all_goals
    have Q1 := Lib.hid (HQ.out.trans G1.out (by simp))
    have R1 := Lib.hid (R0.out.mods G1.out (by simp))
    have E1 := Lib.hid (E0.out.mods G1.out (by simp))
    have b0 : w1.cell? ⟨p, 0, none⟩ = some (.pointer (some ⟨g, 0, none⟩)) := (HH.out.quiet Q1.out).row.cell 0
    have b2 : w1.cell? ⟨p, 2, none⟩ = some (.slice (some ⟨vb, 0, none⟩) P.ws.length cap) := (HH.out.quiet Q1.out).row.cell 2
    clear c1 d0 d1 c1' d1'
    go_upto_region 2 with fail
    go_quiet (fail)
    go_wp2_with fail
    refine (HRY.out (w1.drewN nq) (Q1.out.drewN nq)).mono ?_
    rintro e w2 ⟨rfl, q2, hq2⟩
    have Q2 := Lib.hid (show Mods [] w w2 by rw [hq2]; exact Q1.out.same rfl rfl rfl rfl)
    have R2 := Lib.hid (show Row w2 w.heap.size 47 #[.int .i64 (i : Nat), .int .i64 b] by rw [hq2]; exact R1.out)
    have E2 := Lib.hid (show Row w2 (w.heap.size + 1) 74 #[.int .i64 0, .int .i64 0, .int .i64 0, .bool false, .bool false] by rw [hq2]; exact E1.out)
    have b0' : w2.cell? ⟨p, 0, none⟩ = some (.pointer (some ⟨g, 0, none⟩)) := (HH.out.quiet Q2.out).row.cell 0
    clear b0 b2 d0' hq2 R1 E1
    go_wp2_with fail
    refine (HMK.out _ Q2.out).mono ?_
    rintro e w3 ⟨rfl, q3, hq3⟩
    have Q3 := Lib.hid (show Mods [] w w3 by rw [hq3]; exact Q2.out.same rfl rfl rfl rfl)
    have R3 := Lib.hid (show Row w3 w.heap.size 47 #[.int .i64 (i : Nat), .int .i64 b] by rw [hq3]; exact R2.out)
    have E3 := Lib.hid (show Row w3 (w.heap.size + 1) 74 #[.int .i64 0, .int .i64 0, .int .i64 0, .bool false, .bool false] by rw [hq3]; exact E2.out)
    clear b0' hq3 R2 E2
    go_upto_region 5 with fail
    have W3 := Lib.hid (HW.out.mods Q3.out (by simp))
    obtain ⟨bR, hbR⟩ : ∃ b, b = (P.wch i).tellR true mr := ⟨_, rfl⟩
    obtain ⟨bW, hbW⟩ : ∃ b, b = (P.wch i).tellW true mw := ⟨_, rfl⟩
    have HbR := Lib.hid hbR
    have HbW := Lib.hid hbW
    clear hbR hbW
    have k0 : w3.cell? ⟨w.heap.size, 0, none⟩ = some (.int .i64 (i : Nat)) := R3.out.cell 0
    have k1 : w3.cell? ⟨w.heap.size, 1, none⟩ = some (.int .i64 b) := R3.out.cell 1
    have ke : w3.cell? ⟨vb, i * 5, none⟩ = some (.bool (P.wch i).eg) := W3.out.cell HX.out (j := 0) (by omega)
    have z0 : w3.cell? ⟨w.heap.size + 1, 0, none⟩ = some (.int .i64 0) := E3.out.cell 0
    have z1 : w3.cell? ⟨w.heap.size + 1, 1, none⟩ = some (.int .i64 0) := E3.out.cell 1
    have z2 : w3.cell? ⟨w.heap.size + 1, 2, none⟩ = some (.int .i64 0) := E3.out.cell 2
    have z3 : w3.cell? ⟨w.heap.size + 1, 3, none⟩ = some (.bool false) := E3.out.cell 3
    have z4 : w3.cell? ⟨w.heap.size + 1, 4, none⟩ = some (.bool false) := E3.out.cell 4
    have zf := E3.out.free
    have nv1 : vb ≠ w.heap.size + 1 := fun h0 => NV.out.2.2 (by rw [h0]; simp)
    have nv2 : w.heap.size + 1 ≠ vb := nv1.symm
    have CR := Lib.hid (fun (wz : World) (hz : WsAt wz vb cap P.ws) => by
      have := rtell_any wz vb cap i P.ws (P.wch i) hz HX.out mr
      rw [← HbR.out] at this
      exact this)
    have CW := Lib.hid (fun (wz : World) (hz : WsAt wz vb cap (P.ws.set i ⟨(P.wch i).rd, (P.wch i).wr, (P.wch i).eg, if bR then mr else (P.wch i).tr, (P.wch i).tw⟩)) => by
      have := wtell_any wz vb cap i _ (⟨(P.wch i).rd, (P.wch i).wr, (P.wch i).eg, if bR then mr else (P.wch i).tr, (P.wch i).tw⟩ : Wch) hz (get_set' _ HX.out) mw
      rw [show (⟨(P.wch i).rd, (P.wch i).wr, (P.wch i).eg, if bR then mr else (P.wch i).tr, (P.wch i).tw⟩ : Wch).tellW true mw = bW from HbW.out.symm] at this
      exact this)
    go_region_held3 (fun w' => w'.cell? ⟨w.heap.size, 0, none⟩ = some (.int .i64 (i : Nat)) ∧ w'.cell? ⟨w.heap.size, 1, none⟩ = some (.int .i64 b) ∧ w'.cell? ⟨vb, i * 5, none⟩ = some (.bool (P.wch i).eg)) (go_keep)
      (first | (go_at_call 78; (with_reducible show Calls _ _ #[.pointer (some ⟨vb, i * 5 + 1, none⟩), _, _] _ _); refine Calls.mono (CR.out _ ?_) ?_; (first | exact W3.out | exact (W3.out).drew); rintro e w4 ⟨rfl, hd⟩; have W4 := Lib.hid (And.intro hd.out.1 (show Mods [vb] w3 w4 from by first | exact hd.out.2 | exact of_drew hd.out.2)); have R4 := Lib.hid (R3.out.mods W4.out.2 NV.out.2.1); have E4 := Lib.hid (E3.out.mods W4.out.2 NV.out.2.2); have k04 : w4.cell? ⟨w.heap.size, 0, none⟩ = some (.int .i64 (i : Nat)) := R4.out.cell 0; have k14 : w4.cell? ⟨w.heap.size, 1, none⟩ = some (.int .i64 b) := R4.out.cell 1; have ke4 : w4.cell? ⟨vb, i * 5, none⟩ = some (.bool (P.wch i).eg) := W4.out.1.cell (x := ⟨(P.wch i).rd, (P.wch i).wr, (P.wch i).eg, if bR then mr else (P.wch i).tr, (P.wch i).tw⟩) (get_set' _ (HX.out)) (j := 0) (by omega); have z04 : w4.cell? ⟨w.heap.size + 1, 0, none⟩ = some (.int .i64 0) := E4.out.cell 0; have z14 : w4.cell? ⟨w.heap.size + 1, 1, none⟩ = some (.int .i64 0) := E4.out.cell 1; have z24 : w4.cell? ⟨w.heap.size + 1, 2, none⟩ = some (.int .i64 0) := E4.out.cell 2; have z34 : w4.cell? ⟨w.heap.size + 1, 3, none⟩ = some (.bool false) := E4.out.cell 3; have z44 : w4.cell? ⟨w.heap.size + 1, 4, none⟩ = some (.bool false) := E4.out.cell 4; have zf4 := E4.out.free; clear hd) | (go_at_call 78; (with_reducible show Calls _ _ #[.pointer (some ⟨vb, i * 5 + 3, none⟩), _, _] _ _); refine Calls.mono (CW.out _ ?_) ?_; (first | exact W4.out.1 | exact (W4.out.1).drew); rintro e w5 ⟨rfl, hd⟩; have W5 := Lib.hid (And.intro hd.out.1 (show Mods [vb] w4 w5 from by first | exact hd.out.2 | exact of_drew hd.out.2)); have R5 := Lib.hid (R4.out.mods W5.out.2 NV.out.2.1); have E5 := Lib.hid (E4.out.mods W5.out.2 NV.out.2.2); have k05 : w5.cell? ⟨w.heap.size, 0, none⟩ = some (.int .i64 (i : Nat)) := R5.out.cell 0; have k15 : w5.cell? ⟨w.heap.size, 1, none⟩ = some (.int .i64 b) := R5.out.cell 1; have ke5 : w5.cell? ⟨vb, i * 5, none⟩ = some (.bool (P.wch i).eg) := W5.out.1.cell (x := ⟨(P.wch i).rd, (P.wch i).wr, (P.wch i).eg, if bR then mr else (P.wch i).tr, if bW then mw else (P.wch i).tw⟩) (get_set' _ (get_set' _ HX.out)) (j := 0) (by omega); have z05 : w5.cell? ⟨w.heap.size + 1, 0, none⟩ = some (.int .i64 0) := E5.out.cell 0; have z15 : w5.cell? ⟨w.heap.size + 1, 1, none⟩ = some (.int .i64 0) := E5.out.cell 1; have z25 : w5.cell? ⟨w.heap.size + 1, 2, none⟩ = some (.int .i64 0) := E5.out.cell 2; have z35 : w5.cell? ⟨w.heap.size + 1, 3, none⟩ = some (.bool false) := E5.out.cell 3; have z45 : w5.cell? ⟨w.heap.size + 1, 4, none⟩ = some (.bool false) := E5.out.cell 4; have zf5 := E5.out.free; clear hd))
  all_goals
    go_wp2
    have e1 : P.tR i = bR := HER.out.1.trans HbR.out.symm
    have e2 : P.tW i = bW := HER.out.2.1.trans HbW.out.symm
    have eE : P.ev ((i : Int), b) = ⟨i, b, z, bR, bW⟩ := by
      unfold Plr.ev
      simp only [Int.toNat_natCast, e1, e2, HZ.out]
    rw [eE]
    have hw : WsAt w5 vb cap (P.ws.set i ((P.wch i).put (P.tR i) (P.tW i) (P.net.markR (P.id i)).toNat (P.net.markW (P.id i)).toNat)) := by
      rw [e1, e2, HER.out.2.2.1, HER.out.2.2.2, Int.toNat_natCast, Int.toNat_natCast]
      have h5 := W5.out.1
      rw [set_set'] at h5
      exact h5
    exact ret_ev Tryd.results51 (e := ⟨i, b, z, bR, bW⟩) ((((((E5.out.set 0 _).set 1 _).set 2 _).set 3 _).set 4 _).keep rfl) rfl rfl ⟨rfl, Lib.hid (PolA.tellTo (eb := w.heap.size + 1) HH.out Q3.out HL.out hw (W4.out.2.trans W5.out.2 fun k hk => .inl hk) (((((((Mods.refl _ _).setCell (.inl (by simp)) _).setCell (.inl (by simp)) _).setCell (.inl (by simp)) _).setCell (.inl (by simp)) _).setCell (.inl (by simp)) _).same rfl rfl rfl rfl) (by omega) E3.out.lt)⟩
theorem tell_any (w : World) (p g m K i : Nat) (F : List Nat) (P : Plr) (h : PolA w p g F P m K) (b : Int) (his : P.sl.is i b = true) :
    Calls Tryd.prog 51 #[.pointer (some ⟨p, 0, none⟩), .agg #[.int .i64 i, .int .i64 b]] w fun e w' => e = .returned (.agg (P.ev ((i : Int), b)).cs.toArray) ∧ Hid (PolA w' p g F (P.tell i) m K ∧ Mods F w w') := by
  cases h1 : P.net.readyR (P.id i) <;> cases h2 : P.net.readyW (P.id i)
  · exact tell_ff w p g m K i F P h b his h1 h2
  · exact tell_ft w p g m K i F P h b his h1 h2
  · exact tell_tf w p g m K i F P h b his h1 h2
  · exact tell_tt w p g m K i F P h b his h1 h2
#print axioms tell_any
end Go.Proofs.YthaapkafamdhcaaDoor
