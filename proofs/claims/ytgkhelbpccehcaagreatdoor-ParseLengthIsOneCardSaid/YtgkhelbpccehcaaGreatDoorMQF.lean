/- A line of the code's head. Conditions: lines of at most a million bytes. -/
import Derived.Test.YtgkhelbpccehcaaGreatDoorMQE
import Derived.Test.YtgkhelbpccehcaaGreatDoorMQD
import Derived.BigQuiet
import Derived.Test.YtgkhelbpccehcaaGreatDoorPd9
import Derived.Test.YtgkhelbpccehcaaGreatDoorGa9
import Derived.Test.YtgkhelbpccehcaaGreatDoorMem
import Derived.Maps.AppendAt
import Derived.Lib.AppendStr
import Derived.Test.YtgkhelbpccehcaaGreatDoorChecked
import Derived.ProofKit
import Derived.OpenShut
import Derived.SizedLaws
import Derived.Deep.Slices
import Derived.Deep.Fields
import Derived.ChangeSlices
import Derived.Test.YtgkhelbpccehcaaGreatDoorMQB
namespace Go.Proofs.YtgkhelbpccehcaaGreatDoor
open Go.RowKit
set_option linter.unusedVariables false
set_option linter.unusedSimpArgs false

section
variable {hb g : Nat} {v u st : Value} {w w' : World} {h h' : HdP} {e z : Int}
theorem HdC.as (c : HdC hb g v st w h e z) (h1 : h'.S = h.S) (h2 : headCells g st e z h' = headCells g st e z h) (h3 : h'.started = h.started) (h4 : h'.startCells = h.startCells) : HdC hb g v st w h' e z :=
  ⟨by rw [h2]; exact c.row, by rw [h1]; exact c.fld, c.sta.of_eq h3 h4⟩
/-- Whether a head goes on. -/
def HdP.go (h : HdP) : Prop := h.whole = false ∧ h.status = 0
/-- What a line has made, ahead of the storing of its status. -/
def Took (hb g : Nat) (v st : Value) (w : World) (h' : HdP) (w' : World) : Prop :=
  ∃ (u st' : Value) (e' z' : Int), HdC hb g u st' w' { h' with status := 0 } e' z' ∧ (h'.whole = false → h'.status = 0 → e' = (h'.empty : Int) ∧ z' = (h'.bytes : Int)) ∧ Mods (hbl hb g v st) w w' ∧ ∀ k ∈ hbl hb g u st', k ∈ hbl hb g v st ∨ w.heap.size ≤ k
end
theorem longS_y {h : HdP} (a : h.started = true) : longS h = 431 := if_pos a
theorem longS_n {h : HdP} (a : h.started = false) : longS h = 414 := by unfold longS; rw [a]; rfl
/-- A head that is refused by its length. -/
theorem took_long {hb g : Nat} {v st : Value} {w W1 : World} {h : HdP} {e z n : Int} (c : HdC hb g v st W1 h e z) (hm : Mods [hb] w W1) (h0 : h.status = 0) (hn : n ≠ 0) : Took hb g v st w { h with status := n } W1 :=
  ⟨v, st, e, z, c.as rfl (by unfold headCells; rw [h0]) rfl rfl, fun _ h => absurd h hn, hm.more (by simp), fun k hk => .inl hk⟩
theorem took_pass {hb g : Nat} {v st : Value} {w w' : World} {h : HdP} {z k : Int} {n b : Nat} (c : HdC hb g v st w' h k z) (hm : Mods [hb] w w') (h0 : h.status = 0) (hn : h.empty = n) (hz : z = (b : Int)) (hk : n < 4 → k = (n : Int) + 1) :
    Took hb g v st w { h with bytes := b, empty := n + 1, status := if 4 < n + 1 then 400 else 0 } w' :=
  ⟨v, st, k, z, c.as rfl (by unfold headCells; rw [h0]) rfl rfl, fun _ h => by
    have hlt : n < 4 := by
      by_cases h4 : 4 < n + 1
      · simp only [h4, if_true] at h; cases h
      · omega
    exact ⟨by rw [hk hlt]; show (n : Int) + 1 = ((n + 1 : Nat) : Int); omega, hz⟩, hm.more (by simp), fun k hk => .inl hk⟩
theorem took_start {hb g : Nat} {v st st' : Value} {w w' : World} {h : HdP} {z : Int} {b : Nat} {l : List UInt8} (c : HdC hb g v st' w' (begP h l) h.empty z) (hm : Mods [hb] w w') (h0 : h.status = 0) (hz : z = (b : Int)) (hs : ∀ k ∈ stB st', w.heap.size ≤ k) :
    Took hb g v st w (startP { h with bytes := b } l) w' := by
  refine ⟨v, st', h.empty, z, ?_, ?_, hm.more (by simp), fun k hk => ?_⟩
  · by_cases e0 : startS l = 0
    · rw [startP_yes e0]
      unfold begP at c
      rw [if_pos e0] at c
      exact c.as rfl (by unfold headCells; simp only [h0]) rfl rfl
    · rw [startP_bad e0]
      rw [begP_no e0] at c
      exact c.as rfl (by unfold headCells; simp only [h0]) rfl rfl
  · intro _ hs
    by_cases e0 : startS l = 0
    · rw [startP_yes e0]; exact ⟨rfl, hz⟩
    · rw [startP_bad e0] at hs; exact absurd hs e0
  · simp only [List.mem_cons, List.mem_append] at hk ⊢
    rcases hk with e | e | e | e
    · exact .inl (.inl e)
    · exact .inl (.inr (.inl e))
    · exact .inr (hs k e)
    · exact .inl (.inr (.inr (.inr e)))
theorem took_end {hb g : Nat} {v st : Value} {w w' : World} {h : HdP} {z e : Int} {b : Nat} (c : HdC hb g v st w' (h.end (frm h.minor h.S)) e z) (hm : Mods [hb] w w') (h0 : h.status = 0) :
    Took hb g v st w { h with bytes := b, how := (frm h.minor h.S).1, whole := decide ((frm h.minor h.S).2 = 0), status := (frm h.minor h.S).2 } w' := by
  refine ⟨v, st, e, z, c.as rfl (by unfold headCells HdP.end; simp only [h0]) rfl rfl, fun h1 h2 => ?_, hm.more (by simp), fun k hk => .inl hk⟩
  simp only at h1 h2
  rw [h2] at h1; cases h1
theorem took_lay {hb g : Nat} {v u st : Value} {w W w' : World} {h : HdP} {z : Int} {b : Nat} {s : ByteArray} (h1 : h.started = true) (h2 : s.size ≠ 0) (hm0 : Mods [hb] w W) (c : HdC hb g u st w' (layP h s) h.empty z) (hm : Mods (hbl hb g v st) W w') (hu : ∀ k ∈ u.ownBlock.toList, k ∈ v.ownBlock.toList ∨ W.heap.size ≤ k) (h0 : h.status = 0) (hz : z = (b : Int)) :
    Took hb g v st w (bodyP { h with bytes := b } s) w' := by
  refine ⟨u, st, h.empty, z, ?_, ?_, (hm0.more (F2 := hbl hb g v st) (by simp)).trans hm (fun k hk => .inl hk), fun k hk => ?_⟩
  · by_cases e1 : (parR s).2 = 0
    · by_cases e2 : 24 ≤ h.S.length
      · rw [bodyP_full (h := { h with bytes := b }) h1 h2 e1 e2]
        have hl : layS h s = 431 := by unfold layS; rw [if_neg (by simp [e1]), if_pos e2]
        unfold layP at c
        rw [hl, if_neg (by decide)] at c
        exact c.as rfl (by unfold headCells; simp only [h0]) rfl rfl
      · rw [bodyP_add (h := { h with bytes := b }) h1 h2 e1 e2]
        have hl : layS h s = 0 := by unfold layS; rw [if_neg (by simp [e1]), if_neg e2]
        unfold layP at c
        rw [hl, if_pos rfl] at c
        exact c.as rfl (by unfold headCells; simp only [h0]) rfl rfl
    · rw [bodyP_bad (h := { h with bytes := b }) h1 h2 e1]
      have hl : layS h s = 400 := by unfold layS; rw [if_pos e1]
      unfold layP at c
      rw [hl, if_neg (by decide)] at c
      exact c.as rfl (by unfold headCells; simp only [h0]) rfl rfl
  · intro _ hs
    by_cases e1 : (parR s).2 = 0
    · by_cases e2 : 24 ≤ h.S.length
      · rw [bodyP_full (h := { h with bytes := b }) h1 h2 e1 e2] at hs; cases hs
      · rw [bodyP_add (h := { h with bytes := b }) h1 h2 e1 e2]; exact ⟨rfl, hz⟩
    · rw [bodyP_bad (h := { h with bytes := b }) h1 h2 e1] at hs; cases hs
  · simp only [List.mem_cons, List.mem_append] at hk ⊢
    rcases hk with e | e | e | e
    · exact .inl (.inl e)
    · exact .inl (.inr (.inl e))
    · exact .inl (.inr (.inr (.inl e)))
    · rcases hu k e with e2 | e2
      · exact .inl (.inr (.inr (.inr e2)))
      · exact .inr (Nat.le_trans hm0.size e2)
/-- The status of a line that is no start. -/
theorem lay_status {h : HdP} {s : ByteArray} {b : Nat} (h1 : h.started = true) (h2 : s.size ≠ 0) (h0 : h.status = 0) : (bodyP { h with bytes := b } s).status = layS h s := by
  unfold layS
  by_cases e1 : (parR s).2 = 0
  · by_cases e2 : 24 ≤ h.S.length
    · rw [bodyP_full (h := { h with bytes := b }) h1 h2 e1 e2, if_neg (by simp [e1]), if_pos e2]
    · rw [bodyP_add (h := { h with bytes := b }) h1 h2 e1 e2, if_neg (by simp [e1]), if_neg e2]; exact h0
  · rw [bodyP_bad (h := { h with bytes := b }) h1 h2 e1, if_pos e1]
theorem start_status {h : HdP} {l : List UInt8} (h0 : h.status = 0) : (startP h l).status = startS l := by
  by_cases e0 : startS l = 0
  · rw [startP_yes e0, e0]; exact h0
  · rw [startP_bad e0]
set_option maxRecDepth 10000 in
set_option maxHeartbeats 2000000 in
theorem take_a {hb g : Nat} {v st : Value} {w : World} {h : HdP} (s : ByteArray) (hs : s.size ≤ 1000000) (ok : HdOk h) (h1 : h.whole = false) (h2 : h.status = 0) (c : HdC hb g v st w h h.empty h.bytes) :
    Calls Tryz.prog 64 #[ptr hb, .string s] w fun r w' => r = .returned (.int .i64 (lineP h s).status) ∧ Hid (Took hb g v st w (lineP h s) w') := by
  have hby := ok.bytes
  have hem := ok.low h1 h2
  obtain ⟨b, hb0⟩ : ∃ b, b = h.bytes + (s.size + 2) := ⟨_, rfl⟩
  have hz : (h.bytes : Int) + ((s.size : Int) + 2) = (b : Int) := by omega
  have d3 : w.cell? ⟨hb, 3, none⟩ = some (.int .i64 (h.bytes : Int)) := c.row.cell 3
  have f3 := c.row.free 3
  have hwr1 : IntKind.i64.wrap ((s.size : Int) + 2) = (s.size : Int) + 2 := by rw [IntKind.wrap_i64]; omega
  have hwr2 : IntKind.i64.wrap ((h.bytes : Int) + ((s.size : Int) + 2)) = (b : Int) := by rw [IntKind.wrap_i64]; omega
  obtain ⟨W1, hW1⟩ : ∃ W1, W1 = w.setCell ⟨hb, 3, none⟩ (.int .i64 (b : Int)) := ⟨_, rfl⟩
  have c1 : HdC hb g v st W1 h h.empty b := by rw [hW1]; exact c.set 3 _ rfl rfl rfl rfl
  have m1 : Mods [hb] w W1 := by rw [hW1]; exact (Mods.refl _ _).setCell (.inl (by simp)) _
  have e3 : W1.cell? ⟨hb, 3, none⟩ = some (.int .i64 (b : Int)) := c1.row.cell 3
  have e1 : W1.cell? ⟨hb, 1, none⟩ = some st := c1.row.cell 1
  have HLG := Lib.hid (fun (x : 256 < s.size) => lineP_long (s := s) h1 h2 x)
  have HMU := Lib.hid (fun (x : ¬ 256 < s.size) (y : 1024 < b) => lineP_much (s := s) h1 h2 x (by rw [← hb0]; exact y))
  have HGO := Lib.hid (fun (x : ¬ 256 < s.size) (y : ¬ 1024 < b) => (show lineP h s = bodyP { h with bytes := b } s by rw [hb0]; exact lineP_go (s := s) h1 h2 x (by rw [← hb0]; exact y)))
  have H0 := Lib.hid h2
  have C1 := Lib.hid c1
  have M1 := Lib.hid m1
  unfold ptr at *
  have hbz : ((s.size : Int) == 0) = false ∨ s.size = 0 := by
    by_cases x : s.size = 0
    · exact .inr x
    · exact .inl (by rw [beq_eq_false_iff_ne]; omega)
  by_cases hl : 256 < s.size ∨ 1024 < b
  · have HX := Lib.hid (show lineP h s = { h with status := longS h } by
      by_cases x : 256 < s.size
      · exact HLG.out x
      · exact HMU.out x (hl.resolve_left x))
    have hcase : (256 < s.size) ∨ (¬ 256 < s.size ∧ 1024 < b) := by omega
    clear HLG HMU HGO hl hbz h1 h2 c m1 hem hby hb0 hz
    rcases c1.sta with ⟨a0, rfl⟩ | ⟨a0, sb, rfl, hr⟩
    · have HL := Lib.hid (longS_n a0)
      clear c1 a0
      rcases hcase with x | ⟨x, y⟩
      · have x2 : (256 : Int) < (s.size : Int) := by omega
        clear x
        go_enter Tryz.func64, Tryz.ntmps64
        go_upto_region 2 with fail
        rw [← hW1]
        clear hW1 d3 f3
        go_wp2_with fail
        go_ret
        exact ⟨by rw [HX.out, HL.out]; rfl, Lib.hid (by rw [HX.out, HL.out]; exact took_long C1.out M1.out H0.out (by decide))⟩
      · have x2 : decide ((256 : Int) < (s.size : Int)) = false := by simp; omega
        have y2 : (1024 : Int) < (b : Int) := by omega
        clear x y
        go_enter Tryz.func64, Tryz.ntmps64
        go_upto_region 2 with fail
        rw [← hW1]
        clear hW1 d3 f3
        go_wp2_with fail
        go_ret
        exact ⟨by rw [HX.out, HL.out]; rfl, Lib.hid (by rw [HX.out, HL.out]; exact took_long C1.out M1.out H0.out (by decide))⟩
    · have HL := Lib.hid (longS_y a0)
      clear c1 a0 hr
      rcases hcase with x | ⟨x, y⟩
      · have x2 : (256 : Int) < (s.size : Int) := by omega
        clear x
        go_enter Tryz.func64, Tryz.ntmps64
        go_upto_region 2 with fail
        rw [← hW1]
        clear hW1 d3 f3
        go_wp2_with fail
        go_ret
        exact ⟨by rw [HX.out, HL.out]; rfl, Lib.hid (by rw [HX.out, HL.out]; exact took_long C1.out M1.out H0.out (by decide))⟩
      · have x2 : decide ((256 : Int) < (s.size : Int)) = false := by simp; omega
        have y2 : (1024 : Int) < (b : Int) := by omega
        clear x y
        go_enter Tryz.func64, Tryz.ntmps64
        go_upto_region 2 with fail
        rw [← hW1]
        clear hW1 d3 f3
        go_wp2_with fail
        go_ret
        exact ⟨by rw [HX.out, HL.out]; rfl, Lib.hid (by rw [HX.out, HL.out]; exact took_long C1.out M1.out H0.out (by decide))⟩
  · have x1 : ¬ 256 < s.size := by omega
    have y1 : ¬ 1024 < b := by omega
    have hx := HGO.out x1 y1
    have x2 : decide ((256 : Int) < (s.size : Int)) = false := by simp; omega
    have y2 : decide ((1024 : Int) < (b : Int)) = false := by simp; omega
    clear HLG HMU HGO hl y1 hb0 hz hby
    rcases c1.sta with ⟨a0, rfl⟩ | ⟨a0, sb, rfl, hr⟩
    · by_cases z0 : s.size = 0
      · have hem2 := emp_yes z0
        have hx := hx.trans (bodyP_skip (h := { h with bytes := b }) a0 z0)
        simp only at hx
        have HP := Lib.hid (fun r hr => pass_a h.empty hem c1 r hr)
        obtain ⟨r0, hr0⟩ : ∃ r0 : Int, (if 4 < h.empty + 1 then (400 : Int) else 0) = r0 := ⟨_, rfl⟩
        have HX := Lib.hid (show (lineP h s).status = r0 by rw [hx]; exact hr0)
        have HXX := Lib.hid hx
        have HP := Lib.hid (HP.out r0 hr0)
        clear hr0 hx hbz h1 h2 c m1 c1 a0 z0 hem x1
        unfold ptr at HP
        go_enter Tryz.func64, Tryz.ntmps64
        go_upto_region 2 with fail
        rw [← hW1]
        clear hW1 d3 f3
        go_wp2_with (go_at_call 86; refine HP.out.mono ?_; rintro e w2 ⟨rfl, ⟨k, hk, hk2⟩, hm⟩; have CK := Lib.hid hk; have HK := Lib.hid hk2; have M2 := Lib.hid hm; clear hk hk2 hm)
        go_ret
        exact ⟨by rw [HX.out]; rfl, Lib.hid (by rw [HXX.out]; exact took_pass CK.out (M1.out.trans M2.out (fun k hk => .inl hk)) H0.out rfl rfl HK.out)⟩
      · have hem2 := emp_no (s := s) (by omega)
        have HX := Lib.hid (hx.trans (bodyP_start (h := { h with bytes := b }) a0 z0))
        have HB := Lib.hid (begin_a s (by omega) a0 c1)
        have HS := Lib.hid (start_status (h := { h with bytes := b }) (l := s.data.toList) h2)
        clear hx hbz h1 h2 c m1 c1 a0 z0 hem x1
        unfold ptr at HB
        go_enter Tryz.func64, Tryz.ntmps64
        go_upto_region 2 with fail
        rw [← hW1]
        clear hW1 d3 f3
        go_wp2_with (go_at_call 87; refine HB.out.mono ?_; rintro e w2 ⟨rfl, hk, hm⟩; have HK := Lib.hid hk.out; have M2 := Lib.hid hm; clear hk hm)
        go_ret
        obtain ⟨st', ck, hk⟩ := HK.out
        exact ⟨by rw [HX.out, HS.out]; rfl, Lib.hid (by rw [HX.out]; exact took_start ck (M1.out.trans M2.out (fun k hk => .inl hk)) H0.out rfl (fun k h => Nat.le_trans M1.out.size (hk k h)))⟩
    · by_cases z0 : s.size = 0
      · have hem2 := emp_yes z0
        have HX := Lib.hid (hx.trans (bodyP_end (h := { h with bytes := b }) a0 z0))
        have HE := Lib.hid (end_a a0 ok.lite c1)
        clear hx hbz h1 h2 c m1 c1 a0 z0 hem x1 hr
        unfold ptr at HE
        go_enter Tryz.func64, Tryz.ntmps64
        go_upto_region 2 with fail
        rw [← hW1]
        clear hW1 d3 f3
        go_wp2_with (go_at_call 88; refine HE.out.mono ?_; rintro e w2 ⟨rfl, hk, hm⟩; have HK := Lib.hid hk.out; have M2 := Lib.hid hm; clear hk hm)
        go_ret
        exact ⟨by rw [HX.out]; rfl, Lib.hid (by rw [HX.out]; exact took_end HK.out (M1.out.trans M2.out (fun k hk => .inl hk)) H0.out)⟩
      · have hem2 := emp_no (s := s) (by omega)
        have HX := Lib.hid hx
        have HA0 := Lib.hid a0
        have HZ0 := Lib.hid z0
        have HB := Lib.hid (lay_a s (by omega) c1)
        have HS := Lib.hid (lay_status (b := b) a0 z0 h2)
        clear hx hbz h1 h2 c m1 c1 a0 z0 hem x1 hr
        unfold ptr at HB
        go_enter Tryz.func64, Tryz.ntmps64
        go_upto_region 2 with fail
        rw [← hW1]
        clear hW1 d3 f3
        go_wp2_with (go_at_call 89; refine HB.out.mono ?_; rintro e w2 ⟨rfl, hk⟩; have HK := Lib.hid hk.out; clear hk)
        go_ret
        obtain ⟨u, ck, hm, hk⟩ := HK.out
        exact ⟨by rw [HX.out, HS.out]; rfl, Lib.hid (by rw [HX.out]; exact took_lay HA0.out HZ0.out M1.out ck hm hk H0.out rfl)⟩
end Go.Proofs.YtgkhelbpccehcaaGreatDoor

/- What holds of every head that lines have made. No program but for what Parse answers. -/
namespace Go.Proofs.YtgkhelbpccehcaaGreatDoor
open Go.RowKit
set_option linter.unusedVariables false
set_option linter.unusedSimpArgs false

def TgtLe (t : Tgt) (n : Nat) : Prop := t.host.size ≤ n ∧ t.path.size ≤ n ∧ t.query.size ≤ n
theorem noT_le (n : Nat) : TgtLe noT n := ⟨Nat.zero_le _, Nat.zero_le _, Nat.zero_le _⟩
theorem TgtLe.more {t : Tgt} {n m : Nat} (h : TgtLe t n) (hm : n ≤ m) : TgtLe t m := ⟨Nat.le_trans h.1 hm, Nat.le_trans h.2.1 hm, Nat.le_trans h.2.2 hm⟩
theorem lowL_len13 (l : List UInt8) : (lowL l).length = l.length := by simp [lowL]
theorem orgL_le {l p q : List UInt8} (h : orgL l = some (p, q)) : p.length ≤ l.length + 1 ∧ q.length ≤ l.length := by
  unfold orgL at h
  split at h
  · cases hd : decL (upL (isC 63) l) with
    | none => rw [hd] at h; cases h
    | some d =>
      rw [hd] at h
      simp only [Option.bind_some] at h
      cases hc : clnL d with
      | none => rw [hc] at h; cases h
      | some p' =>
        rw [hc] at h
        simp only [Option.map_some, Option.some.injEq, Prod.mk.injEq] at h
        obtain ⟨rfl, rfl⟩ := h
        have h1 := clnL_len hc
        have h2 := decL_len _ _ hd
        have h3 := upL_len (isC 63) l
        exact ⟨by omega, by rw [List.length_drop]; omega⟩
  · cases h
theorem orgF_le {f : Int} {x : ByteArray} {l : List UInt8} {n : Nat} (hx : x.size ≤ n) (hl : l.length + 1 ≤ n) : TgtLe (orgF f x l).1 n := by
  cases h : orgL l with
  | none => rw [orgF_no h]; exact noT_le n
  | some r =>
    obtain ⟨p, q⟩ := r
    have := orgL_le h
    rw [orgF_yes h]
    refine ⟨hx, ?_, ?_⟩
    · show (ofL p).size ≤ n; rw [ofL_size]; omega
    · show (ofL q).size ≤ n; rw [ofL_size]; omega
theorem parT_le (m l : List UInt8) (n : Nat) (hl : l.length + 2 ≤ n) : TgtLe (parT m l).1 n := by
  unfold parT
  split
  · exact noT_le n
  split
  · unfold authL
    split
    · exact ⟨by show (ofL (lowL l)).size ≤ n; rw [ofL_size, lowL_len13]; omega, Nat.zero_le _, Nat.zero_le _⟩
    · exact noT_le n
  split
  · exact noT_le n
  split
  · exact orgF_le (Nat.zero_le _) (by omega)
  split
  · unfold absL
    split
    · have h1 : (hostOf (l.drop 7)).length ≤ l.length := by
        have := upL_len endB (l.drop 7)
        rw [List.length_drop] at this
        unfold hostOf; omega
      refine orgF_le (by rw [ofL_size, lowL_len13]; omega) ?_
      unfold restOf
      split
      · rw [List.length_drop, List.length_drop]; omega
      · rw [List.length_cons, List.length_drop, List.length_drop]; omega
    · exact noT_le n
  · exact noT_le n
theorem wordN_le (l : List UInt8) (k : Nat) : (wordN l k).length ≤ l.length := by
  unfold wordN
  rw [List.getD_eq_getElem?_getD]
  cases h : (wordsL l)[k]? with
  | none => exact Nat.zero_le _
  | some p => exact (words_parts (List.mem_of_getElem? h)).2
theorem verM_or (v : List UInt8) : verM v = 0 ∨ verM v = 1 := by unfold verM; split <;> simp

theorem HdOk.long {h : HdP} (o : HdOk h) (n : Int) (hn : n ≠ 0) : HdOk { h with status := n } :=
  ⟨o.bytes, o.empty, fun _ e => absurd e hn, o.none, o.len, o.small, o.minor, o.meth, o.host, o.path, o.query⟩
theorem HdOk.body {h : HdP} (o : HdOk h) (s : ByteArray) (hs : s.size ≤ 256) (h1 : h.whole = false) (h2 : h.status = 0) : HdOk (bodyP h s) := by
  have he := o.low h1 h2
  have hsl : s.data.toList.length = s.size := rfl
  cases hst : h.started with
  | false =>
    by_cases z0 : s.size = 0
    · rw [bodyP_skip hst z0]
      refine ⟨o.bytes, by show h.empty + 1 ≤ 5; omega, fun _ e => ?_, o.none, o.len, o.small, o.minor, o.meth, o.host, o.path, o.query⟩
      by_cases h4 : 4 < h.empty + 1
      · simp only [h4, if_true] at e; cases e
      · show h.empty + 1 ≤ 4; omega
    · rw [bodyP_start hst z0]
      by_cases e0 : startS s.data.toList = 0
      · rw [startP_yes e0]
        have ht := parT_le (wordN s.data.toList 0) (wordN s.data.toList 1) 1000 (by have := wordN_le s.data.toList 1; omega)
        refine ⟨o.bytes, o.empty, fun _ _ => he, fun e => by simp at e, o.len, o.small, verM_or _, ?_, ht.1, ht.2.1, ht.2.2⟩
        show (ofL (wordN s.data.toList 0)).size ≤ 1000
        rw [ofL_size]
        have := wordN_le s.data.toList 0
        omega
      · rw [startP_bad e0]; exact o.long _ e0
  | true =>
    by_cases z0 : s.size = 0
    · rw [bodyP_end hst z0]
      exact ⟨o.bytes, o.empty, fun _ _ => he, o.none, o.len, o.small, o.minor, o.meth, o.host, o.path, o.query⟩
    · by_cases e1 : (parR s).2 = 0
      · by_cases e2 : 24 ≤ h.S.length
        · rw [bodyP_full hst z0 e1 e2]; exact o.long _ (by decide)
        · rw [bodyP_add hst z0 e1 e2]
          have hp := par_ok e1
          refine ⟨o.bytes, o.empty, fun _ _ => he, (fun e => by simp only at e; rw [hst] at e; cases e), by show (h.S ++ [(parR s).1]).length ≤ 24; rw [List.length_append]; simp; omega, fun p hp2 => ?_, o.minor, o.meth, o.host, o.path, o.query⟩
          rcases List.mem_append.1 hp2 with hp2 | hp2
          · exact o.small p hp2
          · rw [List.mem_singleton] at hp2
            subst hp2
            exact ⟨by omega, by omega⟩
      · rw [bodyP_bad hst z0 e1]; exact o.long _ (by decide)
theorem HdOk.line {h : HdP} (o : HdOk h) (s : ByteArray) : HdOk (lineP h s) := by
  by_cases he : h.whole = true ∨ h.status ≠ 0
  · rw [lineP_end s he]; exact o
  · have h1 : h.whole = false := by cases hw : h.whole with | false => rfl | true => exact absurd (.inl hw) he
    have h2 : h.status = 0 := by
      by_cases e : h.status = 0
      · exact e
      · exact absurd (.inr e) he
    have hl : longS h ≠ 0 := by unfold longS; split <;> decide
    by_cases h3 : 256 < s.size
    · rw [lineP_long h1 h2 h3]; exact o.long _ hl
    by_cases h4 : 1024 < h.bytes + (s.size + 2)
    · rw [lineP_much h1 h2 h3 h4]; exact o.long _ hl
    rw [lineP_go h1 h2 h3 h4]
    exact HdOk.body (h := { h with bytes := h.bytes + (s.size + 2) }) ⟨by show h.bytes + (s.size + 2) ≤ 1024; omega, o.empty, o.low, o.none, o.len, o.small, o.minor, o.meth, o.host, o.path, o.query⟩ s (by omega) h1 h2
theorem HdOk.play {h : HdP} (o : HdOk h) : ∀ l : List ByteArray, HdOk (playP h l)
  | [] => o
  | s :: l => by rw [playP_cons]; exact (o.line s).play l
end Go.Proofs.YtgkhelbpccehcaaGreatDoor

/- Line, Start, How and New of the code's head. Conditions: lines of at most a million bytes. -/
namespace Go.Proofs.YtgkhelbpccehcaaGreatDoor
open Go.RowKit
set_option linter.unusedVariables false
set_option linter.unusedSimpArgs false

/-- The end of a function that answers a target alone. -/
theorem end_T1 {fn : Func} {a : Act} {w W : World} {r : Nat} {t0 : Tgt} {f : Int} {h p k : ByteArray} {q : Tmp} (hres : fn.results = #[.cell q 37])
    (hrow : Row W r 37 t0.cells) (h2 : a.tmps.getD q undef = .pointer (some ⟨r, 0, none⟩)) (hd : a.defers = []) (hn : w.heap.size ≤ r) (hM : Mods [] w W) :
    bodyPost Tryz.prog fn (fun e w' => e = .returned (.agg #[.int .i64 f, .string h, .string p, .string k]) ∧ Mods [] w w') .ret a ((((W.setCell ⟨r, 0, none⟩ (.int .i64 f)).setCell ⟨r, 1, none⟩ (.string h)).setCell ⟨r, 2, none⟩ (.string p)).setCell ⟨r, 3, none⟩ (.string k)) := by
  have hR := hrow.put ⟨f, h, p, k⟩
  have hM2 := hM.put (.inr hn) ⟨f, h, p, k⟩
  change bodyPost Tryz.prog fn _ .ret a (setT W r ⟨f, h, p, k⟩)
  generalize setT W r ⟨f, h, p, k⟩ = w6 at hR hM2 ⊢
  refine bodyPost_ret (v := .agg #[.int .i64 f, .string h, .string p, .string k]) ?_ hd ⟨rfl, hM2⟩
  have g2 : a.tmps[q]?.getD undef = .pointer (some ⟨r, 0, none⟩) := by simpa using h2
  have c0 := hR.cell 0
  have c1 := hR.cell 1
  have c2 := hR.cell 2
  have c3 := hR.cell 3
  simp only [Tgt.cells, List.getElem?_toArray, List.getElem?_cons_zero, List.getElem?_cons_succ] at c0 c1 c2 c3
  have ha := Tryz.isAgg37 w6
  have hs := Tryz.sizeOf37 w6
  simp [results, hres, go_sem, g2, c0, c1, c2, c3, ha, hs]
/-- What a call leaves: the head, what has turned. -/
def Lined (F : List Nat) (w : World) (hb : Nat) (h' : HdP) (w' : World) : Prop := ∃ F', HdA F' w' hb h' ∧ Mods F w w' ∧ ∀ k ∈ F', k ∈ F ∨ w.heap.size ≤ k
theorem Lined.of_took {hb g : Nat} {v st : Value} {w w' : World} {h' : HdP} (t : Took hb g v st w h' w') (o : HdOk h') : Lined (hbl hb g v st) w hb h' (w'.setCell ⟨hb, 9, none⟩ (.int .i64 h'.status)) := by
  obtain ⟨u, st', e', z', c, hz, hm, hn⟩ := t
  refine ⟨hbl hb g u st', ⟨⟨g, u, st', e', z', c.set 9 _ (h' := h') rfl rfl rfl rfl, rfl, hz⟩, o⟩, hm.setCell (.inl (by simp)) _, hn⟩
theorem Lined.low {F : List Nat} {w w' w2 : World} {hb : Nat} {h' : HdP} (l : Lined F w hb h' w') (hm : Mods [] w' w2) : Lined F w hb h' w2 := by
  obtain ⟨F', a, hm0, hn⟩ := l
  exact ⟨F', a.low hm, hm0.trans hm (fun _ h => nomatch h), hn⟩
set_option maxRecDepth 10000 in
set_option maxHeartbeats 2000000 in
theorem line_a {F : List Nat} {w : World} {hb : Nat} {h : HdP} (s : ByteArray) (hs : s.size ≤ 1000000) (a : HdA F w hb h) :
    Calls Tryz.prog 51 #[ptr hb, .string s] w fun r w' => r = .returned (.tuple #[.bool (lineP h s).whole, .int .i64 (lineP h s).status]) ∧ Hid (Lined F w hb (lineP h s) w') := by
  obtain ⟨g, v, st, e, z, c, rfl, hz⟩ := a.ex
  have ok := a.ok
  have HO := Lib.hid (ok.line s)
  have HA := Lib.hid a
  have c8 : w.cell? ⟨hb, 8, none⟩ = some (.bool h.whole) := c.row.cell 8
  have c9 : w.cell? ⟨hb, 9, none⟩ = some (.int .i64 h.status) := c.row.cell 9
  unfold ptr
  by_cases he : h.whole = true ∨ h.status ≠ 0
  · have HX := Lib.hid (lineP_end s he)
    have HL := Lib.hid (show Lined (hbl hb g v st) w hb h w from ⟨_, a, Mods.refl _ _, fun k hk => .inl hk⟩)
    have hcase : h.whole = true ∨ (h.whole = false ∧ (h.status == 0) = false) := by
      cases hw : h.whole with
      | true => exact .inl rfl
      | false => exact .inr ⟨rfl, by rw [beq_eq_false_iff_ne]; exact he.resolve_left (by rw [hw]; simp)⟩
    clear a c he hz ok
    obtain ⟨b0, hb0⟩ : ∃ b0, b0 = h.whole := ⟨_, rfl⟩
    obtain ⟨n0, hn0⟩ : ∃ n0, n0 = h.status := ⟨_, rfl⟩
    rw [← hb0] at c8 hcase
    rw [← hn0] at c9 hcase
    have HB := Lib.hid hb0.symm
    have HN := Lib.hid hn0.symm
    clear hb0 hn0
    rcases hcase with rfl | ⟨rfl, hn⟩
    all_goals
      go_enter Tryz.func51, Tryz.ntmps51
      go_upto_region 5 with fail
      go_quiet (fail)
      go_wp2
      go_ret2
      exact ⟨by rw [HX.out, HB.out, HN.out]; rfl, Lib.hid (by rw [HX.out]; exact HL.out.low (by exact (Mods.refl _ _).drewN _))⟩
  · have h1 : h.whole = false := by cases hw : h.whole with | false => rfl | true => exact absurd (.inl hw) he
    have h2 : h.status = 0 := by
      by_cases e : h.status = 0
      · exact e
      · exact absurd (.inr e) he
    obtain ⟨rfl, rfl⟩ := hz h1 h2
    have HT := Lib.hid (take_a s hs ok h1 h2 c)
    rw [h1] at c8
    rw [h2] at c9
    clear a c he hz ok h1 h2
    unfold ptr at HT
    generalize lineP h s = h' at *
    go_enter Tryz.func51, Tryz.ntmps51
    go_upto_region 5 with (go_at_call 64; refine HT.out.mono ?_; rintro e w1 ⟨rfl, hk⟩; have HK := Lib.hid hk.out; obtain ⟨u1, st1, e1, z1, k1, -⟩ := hk.out; have d9 : w1.cell? ⟨hb, 9, none⟩ = some (.int .i64 0) := k1.row.cell 9; have f9 := k1.row.free 9; clear hk k1)
    have hl := Lined.of_took HK.out HO.out
    obtain ⟨W2, hW2⟩ : ∃ W2, W2 = w1.setCell ⟨hb, 9, none⟩ (.int .i64 h'.status) := ⟨_, rfl⟩
    rw [← hW2] at hl ⊢
    clear hW2 d9 f9 c8 c9 u1 st1 e1 z1
    have HL := Lib.hid hl
    obtain ⟨F', a2, -, -⟩ := hl
    obtain ⟨g2, v2, st2, e2, z2, cc, -, -⟩ := a2.ex
    have d8 : W2.cell? ⟨hb, 8, none⟩ = some (.bool h'.whole) := cc.row.cell 8
    have d9 : W2.cell? ⟨hb, 9, none⟩ = some (.int .i64 h'.status) := cc.row.cell 9
    clear a2 cc F' g2 v2 st2 e2 z2
    go_quiet (fail)
    go_wp2
    go_ret2
    exact ⟨rfl, Lib.hid (HL.out.low (by exact (Mods.refl _ _).drewN _))⟩
set_option maxRecDepth 10000 in
set_option maxHeartbeats 2000000 in
theorem copied_h (t : Tgt) (w : World) (h1 : t.host.size ≤ 1000000) (h2 : t.path.size ≤ 1000000) (h3 : t.query.size ≤ 1000000) : Calls Tryz.prog 41 #[.agg t.cells] w fun e w' => e = .returned (.agg t.cells) ∧ Mods [] w w' := by
  obtain ⟨f, x, y, z⟩ := t
  simp only [Tgt.cells] at *
  have HX := Lib.hid (fun w => cloneT x h1 w)
  have HY := Lib.hid (fun w => cloneT y h2 w)
  have HZ := Lib.hid (fun w => cloneT z h3 w)
  have m0 := ((Mods.refl [] w).alloc (.cells #[.int .i64 f, .string x, .string y, .string z] 37)).alloc (.cells #[.int .i64 0, .string ⟨#[]⟩, .string ⟨#[]⟩, .string ⟨#[]⟩] 37)
  have r0 := (Row.new w 37 #[.int .i64 f, .string x, .string y, .string z]).alloc (.cells #[.int .i64 0, .string ⟨#[]⟩, .string ⟨#[]⟩, .string ⟨#[]⟩] 37)
  have r1 := Row.new (w.alloc (.cells #[.int .i64 f, .string x, .string y, .string z] 37)) 37 noT.cells
  rw [World.size_alloc] at r1
  obtain ⟨W, hW⟩ : ∃ W, W = (w.alloc (.cells #[.int .i64 f, .string x, .string y, .string z] 37)).alloc (.cells #[.int .i64 0, .string ⟨#[]⟩, .string ⟨#[]⟩, .string ⟨#[]⟩] 37) := ⟨_, rfl⟩
  obtain ⟨b, hb⟩ : ∃ b, b = w.heap.size := ⟨_, rfl⟩
  have r1 : Row W (b + 1) 37 noT.cells := by rw [hW, hb]; exact r1
  rw [← hW, ← hb] at r0
  rw [← hW] at m0
  have M0 := Lib.hid m0
  have c1 : W.cell? ⟨b, 1, none⟩ = some (.string x) := r0.cell 1
  have c2 : W.cell? ⟨b, 2, none⟩ = some (.string y) := r0.cell 2
  have c3 : W.cell? ⟨b, 3, none⟩ = some (.string z) := r0.cell 3
  have R0 := Lib.hid r0
  have R1 := Lib.hid r1
  have HB := Lib.hid (show w.heap.size ≤ b by rw [hb]; exact Nat.le_refl _)
  clear r0 r1 m0
  go_enter Tryz.func41, Tryz.ntmps41
  go_upto_region 1 with fail
  rw [← hW, ← hb]
  clear hW hb
  go_cut [] (fun wx => Hid (Row wx b 37 #[.int .i64 f, .string x, .string y, .string z] ∧ Row wx (b + 1) 37 noT.cells ∧ Mods [] w wx))
  case first =>
    go_region_held3 (fun w' => w'.cell? ⟨b, 1, none⟩ = some (.string x) ∧ w'.cell? ⟨b, 2, none⟩ = some (.string y) ∧ w'.cell? ⟨b, 3, none⟩ = some (.string z)) (simp [*, World.cell?_alloc_some, World.cell?_setCell_same', World.cell?_setCell_other]) (first
      | (go_at_call 40; (with_reducible show Calls _ _ #[.string x] _ _); refine (HX.out _).mono ?_; rintro e v0 ⟨rfl, hm⟩; have MA0 := Lib.hid (show Mods [] W v0 by first | exact hm | exact of_drewT hm); have c01 := cell_mods c1 MA0.out (by simp); have c02 := cell_mods c2 MA0.out (by simp); have c03 := cell_mods c3 MA0.out (by simp); have FR0 := Lib.hid (R0.out.mods MA0.out (by simp)); have f01 := FR0.out.free 1; have f02 := FR0.out.free 2; have f03 := FR0.out.free 3; clear hm)
      | (go_at_call 40; (with_reducible show Calls _ _ #[.string y] _ _); refine (HY.out _).mono ?_; rintro e v1 ⟨rfl, hm⟩; have MA1 := Lib.hid (show Mods [] v0 v1 by first | exact hm | exact of_drewT hm); have c11 := cell_mods c01 MA1.out (by simp); have c12 := cell_mods c02 MA1.out (by simp); have c13 := cell_mods c03 MA1.out (by simp); have FR1 := Lib.hid (FR0.out.mods MA1.out (by simp)); have f11 := FR1.out.free 1; have f12 := FR1.out.free 2; have f13 := FR1.out.free 3; clear hm)
      | (go_at_call 40; (with_reducible show Calls _ _ #[.string z] _ _); refine (HZ.out _).mono ?_; rintro e v2 ⟨rfl, hm⟩; have MA2 := Lib.hid (show Mods [] v1 v2 by first | exact hm | exact of_drewT hm); have c21 := cell_mods c11 MA2.out (by simp); have c22 := cell_mods c12 MA2.out (by simp); have c23 := cell_mods c13 MA2.out (by simp); have FR2 := Lib.hid (FR1.out.mods MA2.out (by simp)); have f21 := FR2.out.free 1; have f22 := FR2.out.free 2; have f23 := FR2.out.free 3; clear hm))
    go_wp2
    go_meet
    case rel => exact Lib.hid ⟨((FR2.out.set 1 _).set 2 _).set 3 _, ((R1.out.mods MA0.out (by simp)).mods MA1.out (by simp)).mods MA2.out (by simp) |>.far (by show b + 1 ≠ b; omega) _ |>.far (by show b + 1 ≠ b; omega) _ |>.far (by show b + 1 ≠ b; omega) _, ((((M0.out.on MA0.out).on MA1.out).on MA2.out).setCell (.inr HB.out) _ |>.setCell (.inr HB.out) _).setCell (.inr HB.out) _⟩
  case rest =>
    obtain ⟨q0, q1, q2⟩ := hcut.out
    have Q1 := Lib.hid q1
    have Q2 := Lib.hid q2
    have e0 : wc.cell? ⟨b, 0, none⟩ = some (.int .i64 f) := q0.cell 0
    have e1 : wc.cell? ⟨b, 1, none⟩ = some (.string x) := q0.cell 1
    have e2 : wc.cell? ⟨b, 2, none⟩ = some (.string y) := q0.cell 2
    have e3 : wc.cell? ⟨b, 3, none⟩ = some (.string z) := q0.cell 3
    obtain ⟨k0, k1, k2, k3, f0, f1, f2, f3⟩ := q1.facts
    simp only [noT, noB] at k0 k1 k2 k3
    clear hcut q0 q1 q2 c1 c2 c3
    go_wp2
    exact end_T1 rfl Q1.out rfl rfl (Nat.le_of_lt (Nat.lt_succ_of_le HB.out)) Q2.out
end Go.Proofs.YtgkhelbpccehcaaGreatDoor

/- Start, How and New of the code's head. Conditions: none. -/
namespace Go.Proofs.YtgkhelbpccehcaaGreatDoor
open Go.RowKit
set_option linter.unusedVariables false
set_option linter.unusedSimpArgs false

/-- The end of Start. -/
theorem end_S {fn : Func} {a : Act} {w W : World} {r : Nat} {t0 : Tgt} {f : Int} {h p k : ByteArray} {q1 q q2 : Tmp} {m : ByteArray} {n : Int} (hres : fn.results = #[.tmp q1, .cell q 37, .tmp q2])
    (hrow : Row W r 37 t0.cells) (h1 : a.tmps.getD q1 undef = .string m) (h2 : a.tmps.getD q undef = .pointer (some ⟨r, 0, none⟩)) (h3 : a.tmps.getD q2 undef = .int .i64 n) (hd : a.defers = []) (hn : w.heap.size ≤ r) (hM : Mods [] w W) :
    bodyPost Tryz.prog fn (fun e w' => e = .returned (.tuple #[.string m, .agg #[.int .i64 f, .string h, .string p, .string k], .int .i64 n]) ∧ Mods [] w w') .ret a ((((W.setCell ⟨r, 0, none⟩ (.int .i64 f)).setCell ⟨r, 1, none⟩ (.string h)).setCell ⟨r, 2, none⟩ (.string p)).setCell ⟨r, 3, none⟩ (.string k)) := by
  have hR := hrow.put ⟨f, h, p, k⟩
  have hM2 := hM.put (.inr hn) ⟨f, h, p, k⟩
  change bodyPost Tryz.prog fn _ .ret a (setT W r ⟨f, h, p, k⟩)
  generalize setT W r ⟨f, h, p, k⟩ = w6 at hR hM2 ⊢
  refine bodyPost_ret (v := .tuple #[.string m, .agg #[.int .i64 f, .string h, .string p, .string k], .int .i64 n]) ?_ hd ⟨rfl, hM2⟩
  have g1 : a.tmps[q1]?.getD undef = .string m := by simpa using h1
  have g2 : a.tmps[q]?.getD undef = .pointer (some ⟨r, 0, none⟩) := by simpa using h2
  have g3 : a.tmps[q2]?.getD undef = .int .i64 n := by simpa using h3
  have c0 := hR.cell 0
  have c1 := hR.cell 1
  have c2 := hR.cell 2
  have c3 := hR.cell 3
  simp only [Tgt.cells, List.getElem?_toArray, List.getElem?_cons_zero, List.getElem?_cons_succ] at c0 c1 c2 c3
  have ha := Tryz.isAgg37 w6
  have hs := Tryz.sizeOf37 w6
  simp [results, hres, go_sem, g1, g2, g3, c0, c1, c2, c3, ha, hs]
/-- The end of a function that answers how alone. -/
theorem end_H1 {fn : Func} {a : Act} {w W : World} {r : Nat} {h0 : HowP} {k l : Int} {c x : Bool} {q : Tmp} (hres : fn.results = #[.cell q 65])
    (hrow : Row W r 65 h0.cells) (h2 : a.tmps.getD q undef = .pointer (some ⟨r, 0, none⟩)) (hd : a.defers = []) (hn : w.heap.size ≤ r) (hM : Mods [] w W) :
    bodyPost Tryz.prog fn (fun e w' => e = .returned (.agg #[.int .i64 k, .int .i64 l, .bool c, .bool x]) ∧ Mods [] w w') .ret a ((((W.setCell ⟨r, 0, none⟩ (.int .i64 k)).setCell ⟨r, 1, none⟩ (.int .i64 l)).setCell ⟨r, 2, none⟩ (.bool c)).setCell ⟨r, 3, none⟩ (.bool x)) := by
  have hR := hrow.putH ⟨k, l, c, x⟩
  have hM2 := hM.putH (.inr hn) ⟨k, l, c, x⟩
  change bodyPost Tryz.prog fn _ .ret a (setH W r ⟨k, l, c, x⟩)
  generalize setH W r ⟨k, l, c, x⟩ = w6 at hR hM2 ⊢
  refine bodyPost_ret (v := .agg #[.int .i64 k, .int .i64 l, .bool c, .bool x]) ?_ hd ⟨rfl, hM2⟩
  have g2 : a.tmps[q]?.getD undef = .pointer (some ⟨r, 0, none⟩) := by simpa using h2
  have c0 := hR.cell 0
  have c1 := hR.cell 1
  have c2 := hR.cell 2
  have c3 := hR.cell 3
  simp only [HowP.cells, List.getElem?_toArray, List.getElem?_cons_zero, List.getElem?_cons_succ] at c0 c1 c2 c3
  have ha := Tryz.isAgg65 w6
  have hs := Tryz.sizeOf65 w6
  simp [results, hres, go_sem, g2, c0, c1, c2, c3, ha, hs]
/-- The same, where the block is new. -/
theorem end_H2 {fn : Func} {a : Act} {w : World} {k l : Int} {c x : Bool} {q : Tmp} (hres : fn.results = #[.cell q 65])
    (h2 : a.tmps.getD q undef = .pointer (some ⟨w.heap.size, 0, none⟩)) (hd : a.defers = []) :
    bodyPost Tryz.prog fn (fun e w' => e = .returned (.agg #[.int .i64 k, .int .i64 l, .bool c, .bool x]) ∧ Mods [] w w') .ret a (w.alloc (.cells #[.int .i64 k, .int .i64 l, .bool c, .bool x] 65)) := by
  have hR := Row.new w 65 (⟨k, l, c, x⟩ : HowP).cells
  have hM2 := (Mods.refl [] w).alloc (.cells (⟨k, l, c, x⟩ : HowP).cells 65)
  change bodyPost Tryz.prog fn _ .ret a (w.alloc (.cells (⟨k, l, c, x⟩ : HowP).cells 65))
  generalize w.alloc (.cells (⟨k, l, c, x⟩ : HowP).cells 65) = w6 at hR hM2 ⊢
  refine bodyPost_ret (v := .agg #[.int .i64 k, .int .i64 l, .bool c, .bool x]) ?_ hd ⟨rfl, hM2⟩
  have g2 : a.tmps[q]?.getD undef = .pointer (some ⟨w.heap.size, 0, none⟩) := by simpa using h2
  have c0 := hR.cell 0
  have c1 := hR.cell 1
  have c2 := hR.cell 2
  have c3 := hR.cell 3
  simp only [HowP.cells, List.getElem?_toArray, List.getElem?_cons_zero, List.getElem?_cons_succ] at c0 c1 c2 c3
  have ha := Tryz.isAgg65 w6
  have hs := Tryz.sizeOf65 w6
  simp [results, hres, go_sem, g2, c0, c1, c2, c3, ha, hs]
/-- The same of a target's block that is new (Start). -/
theorem end_S2 {fn : Func} {a : Act} {w : World} {f : Int} {h p k : ByteArray} {q1 q q2 : Tmp} {m : ByteArray} {n : Int} (hres : fn.results = #[.tmp q1, .cell q 37, .tmp q2])
    (h1 : a.tmps.getD q1 undef = .string m) (h2 : a.tmps.getD q undef = .pointer (some ⟨w.heap.size, 0, none⟩)) (h3 : a.tmps.getD q2 undef = .int .i64 n) (hd : a.defers = []) :
    bodyPost Tryz.prog fn (fun e w' => e = .returned (.tuple #[.string m, .agg #[.int .i64 f, .string h, .string p, .string k], .int .i64 n]) ∧ Mods [] w w') .ret a (w.alloc (.cells #[.int .i64 f, .string h, .string p, .string k] 37)) := by
  have hR := Row.new w 37 (⟨f, h, p, k⟩ : Tgt).cells
  have hM2 := (Mods.refl [] w).alloc (.cells (⟨f, h, p, k⟩ : Tgt).cells 37)
  change bodyPost Tryz.prog fn _ .ret a (w.alloc (.cells (⟨f, h, p, k⟩ : Tgt).cells 37))
  generalize w.alloc (.cells (⟨f, h, p, k⟩ : Tgt).cells 37) = w6 at hR hM2 ⊢
  refine bodyPost_ret (v := .tuple #[.string m, .agg #[.int .i64 f, .string h, .string p, .string k], .int .i64 n]) ?_ hd ⟨rfl, hM2⟩
  have g1 : a.tmps[q1]?.getD undef = .string m := by simpa using h1
  have g2 : a.tmps[q]?.getD undef = .pointer (some ⟨w.heap.size, 0, none⟩) := by simpa using h2
  have g3 : a.tmps[q2]?.getD undef = .int .i64 n := by simpa using h3
  have c0 := hR.cell 0
  have c1 := hR.cell 1
  have c2 := hR.cell 2
  have c3 := hR.cell 3
  simp only [Tgt.cells, List.getElem?_toArray, List.getElem?_cons_zero, List.getElem?_cons_succ] at c0 c1 c2 c3
  have ha := Tryz.isAgg37 w6
  have hs := Tryz.sizeOf37 w6
  simp [results, hres, go_sem, g1, g2, g3, c0, c1, c2, c3, ha, hs]
set_option maxRecDepth 10000 in
set_option maxHeartbeats 2000000 in
theorem start_a {F : List Nat} {w : World} {hb : Nat} {h : HdP} (a : HdA F w hb h) :
    Calls Tryz.prog 28 #[ptr hb] w fun r w' => r = .returned (.tuple #[.string h.meth, .agg h.tgt.cells, .int .i64 h.minor]) ∧ Mods [] w w' := by
  obtain ⟨g, v, st, e, z, c, rfl, -⟩ := a.ex
  have ok := a.ok
  have c1 : w.cell? ⟨hb, 1, none⟩ = some st := c.row.cell 1
  have hlt : hb < w.heap.size := c.row.lt
  unfold ptr
  rcases c.sta with ⟨a0, rfl⟩ | ⟨a0, sb, rfl, hr⟩
  · obtain ⟨h1, h2, h3, -⟩ := ok.none a0
    rw [h1, h2, h3]
    clear a c ok a0 h1 h2 h3
    have c1a := fun o => cell_alloc c1 o
    go_enter Tryz.func28, Tryz.ntmps28
    go_wp2
    exact end_S2 rfl rfl rfl rfl rfl
  · have z1 := ok.meth
    have z2 := ok.host
    have z3 := ok.path
    have z4 := ok.query
    have hlt2 : sb < w.heap.size := hr.lt
    obtain ⟨s0, s1, s2, s3, s4, s5⟩ : w.cell? ⟨sb, 0, none⟩ = some (.string h.meth) ∧ w.cell? ⟨sb, 1, none⟩ = some (.int .i64 h.tgt.form) ∧ w.cell? ⟨sb, 2, none⟩ = some (.string h.tgt.host) ∧ w.cell? ⟨sb, 3, none⟩ = some (.string h.tgt.path) ∧ w.cell? ⟨sb, 4, none⟩ = some (.string h.tgt.query) ∧ w.cell? ⟨sb, 5, none⟩ = some (.int .i64 h.minor) :=
      ⟨hr.cell 0, hr.cell 1, hr.cell 2, hr.cell 3, hr.cell 4, hr.cell 5⟩
    clear a c ok a0 hr
    generalize h.meth = m at *
    generalize h.minor = n at *
    generalize h.tgt = T at *
    obtain ⟨f, x, y, k⟩ := T
    simp only at *
    have HM := Lib.hid (fun w => cloneT m (by omega) w)
    have HT := Lib.hid (fun w => copied_h ⟨f, x, y, k⟩ w (by show x.size ≤ 1000000; omega) (by show y.size ≤ 1000000; omega) (by show k.size ≤ 1000000; omega))
    simp only [Tgt.cells] at HT ⊢
    have r0 := Row.new w 37 noT.cells
    have m0 := (Mods.refl [] w).alloc (.cells noT.cells 37)
    have n1 : ¬ hb = w.heap.size := Nat.ne_of_lt hlt
    have n2 : ¬ w.heap.size = hb := fun e => n1 e.symm
    have n3 : ¬ sb = w.heap.size := Nat.ne_of_lt hlt2
    have n4 : ¬ w.heap.size = sb := fun e => n3 e.symm
    replace c1 := cell_mods c1 m0 (by simp)
    replace s0 := cell_mods s0 m0 (by simp)
    replace s1 := cell_mods s1 m0 (by simp)
    replace s2 := cell_mods s2 m0 (by simp)
    replace s3 := cell_mods s3 m0 (by simp)
    replace s4 := cell_mods s4 m0 (by simp)
    replace s5 := cell_mods s5 m0 (by simp)
    obtain ⟨W, hW⟩ : ∃ W, W = w.alloc (.cells noT.cells 37) := ⟨_, rfl⟩
    have HWR := Lib.hid (Nat.le_refl w.heap.size)
    obtain ⟨r, hr0⟩ : ∃ r, r = w.heap.size := ⟨_, rfl⟩
    rw [← hr0] at n1 n2 n3 n4
    rw [← hW, ← hr0] at r0
    rw [← hW] at m0 c1 s0 s1 s2 s3 s4 s5
    have HR0 := Lib.hid hr0
    have R0 := Lib.hid r0
    have M0 := Lib.hid m0
    clear r0 m0 hlt hlt2 z1 z2 z3 z4 HWR
    unfold ptr at *
    go_enter Tryz.func28, Tryz.ntmps28
    go_upto_region 1 with fail
    change Code.wp _ _ _ _ (w.alloc (.cells noT.cells 37))
    rw [← hW, ← hr0]
    clear hW hr0
    go_upto_region 3 with fail
    go_region_held3 (fun w' => w'.cell? ⟨hb, 1, none⟩ = some (.pointer (some ⟨sb, 0, none⟩)) ∧ w'.cell? ⟨sb, 0, none⟩ = some (.string m) ∧ w'.cell? ⟨sb, 1, none⟩ = some (.int .i64 f) ∧ w'.cell? ⟨sb, 2, none⟩ = some (.string x) ∧ w'.cell? ⟨sb, 3, none⟩ = some (.string y) ∧ w'.cell? ⟨sb, 4, none⟩ = some (.string k) ∧ w'.cell? ⟨sb, 5, none⟩ = some (.int .i64 n)) (go_keep) (first
      | (go_at_call 40; refine (HM.out _).mono ?_; rintro e v1 ⟨rfl, hm⟩; have M1 := Lib.hid (show Mods [] W v1 from of_drewT hm); have d1 := cell_mods c1 M1.out (by simp); have t0 := cell_mods s0 M1.out (by simp); have t1 := cell_mods s1 M1.out (by simp); have t2 := cell_mods s2 M1.out (by simp); have t3 := cell_mods s3 M1.out (by simp); have t4 := cell_mods s4 M1.out (by simp); have t5 := cell_mods s5 M1.out (by simp); clear hm)
      | (go_at_call 41; refine (HT.out _).mono ?_; rintro e v2 ⟨rfl, hm⟩; have M2 := Lib.hid (show Mods [] v1 v2 from hm); have e1 := cell_mods d1 M2.out (by simp); have u0 := cell_mods t0 M2.out (by simp); have u1 := cell_mods t1 M2.out (by simp); have u2 := cell_mods t2 M2.out (by simp); have u3 := cell_mods t3 M2.out (by simp); have u4 := cell_mods t4 M2.out (by simp); have u5 := cell_mods t5 M2.out (by simp); have R2 := Lib.hid ((R0.out.mods M1.out (by simp)).mods M2.out (by simp)); obtain ⟨k0, k1, k2, k3, f0, f1, f2, f3⟩ := R2.out.facts; simp only [noT, noB] at k0 k1 k2 k3; clear hm))
    go_wp2
    exact end_S rfl R2.out rfl rfl rfl rfl (by rw [HR0.out]; exact Nat.le_refl _) ((M0.out.on M1.out).on M2.out)
set_option maxRecDepth 10000 in
set_option maxHeartbeats 2000000 in
theorem how_a {F : List Nat} {w : World} {hb : Nat} {h : HdP} (a : HdA F w hb h) :
    Calls Tryz.prog 29 #[ptr hb] w fun r w' => r = .returned (howV h.how) ∧ Mods [] w w' := by
  obtain ⟨g, v, st, e, z, c, rfl, -⟩ := a.ex
  obtain ⟨-, -, -, -, c4, c5, c6, c7, -⟩ := c.facts
  have d4 := fun o => cell_alloc c4 o
  have d5 := fun o => cell_alloc c5 o
  have d6 := fun o => cell_alloc c6 o
  have d7 := fun o => cell_alloc c7 o
  unfold ptr howV
  clear a c
  generalize h.how = r at *
  obtain ⟨k, l, c, x⟩ := r
  simp only at *
  go_enter Tryz.func29, Tryz.ntmps29
  go_wp2
  exact end_H2 rfl rfl rfl
set_option maxRecDepth 10000 in
theorem new_h (w : World) : Calls Tryz.prog 48 #[] w fun r w' => Hid (∃ hb F, r = .returned (ptr hb) ∧ HdA F w' hb newH ∧ Mods [] w w' ∧ ∀ k ∈ F, w.heap.size ≤ k) := by
  have HO := Lib.hid (of_a (.slice none 0 0) [] w (.inl ⟨rfl, none, 0, rfl⟩) (by decide) (fun p hp => nomatch hp))
  unfold ptr at HO
  go_enter Tryz.func48, Tryz.ntmps48
  go_wp2_with (go_at_call 60; refine HO.out.mono ?_; rintro e w1 ⟨g, u, rfl, hm⟩; have HM := Lib.hid hm; clear hm)
  go_ret
  refine Lib.hid ⟨w1.heap.size, hbl w1.heap.size g u (.pointer none), rfl, ⟨⟨g, u, .pointer none, 0, 0, ⟨Row.new w1 67 (headCells g (.pointer none) 0 0 newH), HM.out.fld.low ((Mods.refl [] w1).alloc _), .inl ⟨rfl, rfl⟩⟩, rfl, fun _ _ => ⟨rfl, rfl⟩⟩, newH_ok⟩, HM.out.mods.alloc _, fun k hk => ?_⟩
  simp only [List.mem_cons, List.mem_append, stB, List.not_mem_nil, false_or] at hk
  rcases hk with e | e | e
  · rw [e]; exact HM.out.mods.size
  · rw [e]; exact HM.out.new
  · exact HM.out.news k e
end Go.Proofs.YtgkhelbpccehcaaGreatDoor

/- A body in chunks, byte by byte: plain functions of chapter 14. No program but for what Parse answers. -/
namespace Go.Proofs.YtgkhelbpccehcaaGreatDoor
open Go.RowKit
set_option linter.unusedVariables false
set_option linter.unusedSimpArgs false

/-- Where a reader is: 0 a size line, 1 data, 2 what stands behind data, 3 a trailer. -/
structure ChP where
  state : Nat
  line : List UInt8
  left : Nat
  ends : Nat
  body : List UInt8
  trail : List FV
  whole : Bool
  status : Int
def newC : ChP := ⟨0, [], 0, 0, [], [], false, 0⟩
def isHx (c : UInt8) : Bool := decide (digB c < 16)
def hxs (s : List UInt8) : List UInt8 := s.takeWhile isHx
def hxn (s : List UInt8) : Nat := (numB 16 12 (hxs s)).1.toNat
/-- A size line. -/
def sizeP (r : ChP) (s : List UInt8) : ChP :=
  if (hxs s).length < 1 ∨ 6 < (hxs s).length then { r with status := 400 }
  else if parsL (s.drop (hxs s).length) = none then { r with status := 400 }
  else if 2048 < r.body.length + hxn s then { r with status := 413 }
  else if hxn s = 0 then { r with state := 3 }
  else { r with state := 1, left := hxn s }
/-- A trailer, or the empty line. -/
def trailP (r : ChP) (s : List UInt8) : ChP :=
  if s = [] then { r with whole := true }
  else if (parR (ofL s)).2 ≠ 0 then { r with status := 400 }
  else if r.trail.length = 8 ∨ 512 < r.ends + (s.length + 2) then { r with status := 431 }
  else { r with ends := r.ends + (s.length + 2), trail := r.trail ++ [(parR (ofL s)).1] }
def dataP (r : ChP) (c : UInt8) : ChP := { r with body := r.body ++ [c], left := r.left - 1, state := if r.left = 1 then 2 else 1, line := if r.left = 1 then [] else r.line }
def crlfP (r : ChP) (c : UInt8) : ChP :=
  if r.line = [] then (if c = 13 then { r with line := [13] } else { r with status := 400 })
  else (if c = 10 then { r with line := [], state := 0 } else { r with status := 400 })
/-- The bytes of a line that count. -/
def cntL (l : List UInt8) (c : UInt8) : Nat := if c = 13 then l.length else l.length + 1
def endP (r : ChP) : ChP :=
  if r.line.getLast? = some 13 then (if r.state = 0 then sizeP { r with line := [] } r.line.dropLast else trailP { r with line := [] } r.line.dropLast) else { r with status := 400 }
def growP (r : ChP) (c : UInt8) : ChP :=
  if r.state = 0 ∧ 64 < cntL r.line c then { r with status := 400 }
  else if r.state ≠ 0 ∧ (256 < cntL r.line c ∨ 512 < r.ends + cntL r.line c) then { r with status := 431 }
  else { r with line := r.line ++ [c] }
def oneP (r : ChP) (c : UInt8) : ChP :=
  if r.state = 1 then dataP r c else if r.state = 2 then crlfP r c else if c = 10 then endP r else growP r c
def doneC (r : ChP) : Bool := r.whole || decide (r.status ≠ 0)
/-- What a reader is behind bytes; how many it took. -/
def feedP : ChP → List UInt8 → ChP × Nat
  | r, [] => (r, 0)
  | r, c :: l => if doneC r = true then (r, 0) else ((feedP (oneP r c) l).1, (feedP (oneP r c) l).2 + 1)
theorem feed_nil (r : ChP) : feedP r [] = (r, 0) := rfl
theorem feed_done {r : ChP} (h : doneC r = true) : ∀ l, feedP r l = (r, 0)
  | [] => rfl
  | c :: l => by rw [feedP, if_pos h]
theorem feed_cons {r : ChP} (h : doneC r = false) (c : UInt8) (l : List UInt8) : feedP r (c :: l) = ((feedP (oneP r c) l).1, (feedP (oneP r c) l).2 + 1) := by rw [feedP, if_neg (by rw [h]; simp)]
theorem feed_le : ∀ (l : List UInt8) (r : ChP), (feedP r l).2 ≤ l.length
  | [], r => Nat.le_refl _
  | c :: l, r => by
    cases h : doneC r with
    | true => rw [feed_done h]; exact Nat.zero_le _
    | false => rw [feed_cons h]; have := feed_le l (oneP r c); simp only [List.length_cons]; omega
/-- Fewer bytes are taken than there are just where it was whole or refused. -/
theorem feed_lt : ∀ (l : List UInt8) (r : ChP), (feedP r l).2 < l.length → doneC (feedP r l).1 = true
  | [], r, h => absurd h (Nat.lt_irrefl _)
  | c :: l, r, h => by
    cases hd : doneC r with
    | true => rw [feed_done hd]; exact hd
    | false =>
      rw [feed_cons hd] at h ⊢
      exact feed_lt l (oneP r c) (by simp only [List.length_cons] at h; omega)
/-- However the bytes are parted. -/
theorem feed_app : ∀ (a b : List UInt8) (r : ChP), feedP r (a ++ b) = ((feedP (feedP r a).1 b).1, (feedP r a).2 + (feedP (feedP r a).1 b).2)
  | [], b, r => by rw [feed_nil, List.nil_append, Nat.zero_add]
  | c :: a, b, r => by
    cases h : doneC r with
    | true => rw [feed_done h, feed_done h]; show (r, 0) = ((feedP r b).1, 0 + (feedP r b).2); rw [feed_done h]; rfl
    | false =>
      rw [List.cons_append, feed_cons h, feed_cons h, feed_app a b (oneP r c)]
      show ((feedP (feedP (oneP r c) a).1 b).1, (feedP (oneP r c) a).2 + (feedP (feedP (oneP r c) a).1 b).2 + 1) = ((feedP (feedP (oneP r c) a).1 b).1, (feedP (oneP r c) a).2 + 1 + (feedP (feedP (oneP r c) a).1 b).2)
      congr 1
      omega
theorem feed_cut (a b : List UInt8) (r : ChP) : (feedP r (a ++ b)).1 = (feedP (feedP r a).1 b).1 := by rw [feed_app]

/-! Ways that end nowhere. -/
/-- All of some bytes are taken, and the reader goes on. -/
def Goes (r : ChP) (l : List UInt8) (r' : ChP) : Prop := feedP r l = (r', l.length)
theorem Goes.nil (r : ChP) : Goes r [] r := rfl
theorem Goes.cons {r r' : ChP} {c : UInt8} {l : List UInt8} (h : doneC r = false) (hl : Goes (oneP r c) l r') : Goes r (c :: l) r' := by
  unfold Goes at *
  rw [feed_cons h, hl]; rfl
theorem Goes.app {r r1 r2 : ChP} {a b : List UInt8} (h1 : Goes r a r1) (h2 : Goes r1 b r2) : Goes r (a ++ b) r2 := by
  unfold Goes at *
  rw [feed_app, h1, List.length_append]
  show ((feedP r1 b).1, a.length + (feedP r1 b).2) = _
  rw [h2]
theorem Goes.more {r r1 : ChP} {a : List UInt8} (h : Goes r a r1) (b : List UInt8) : feedP r (a ++ b) = ((feedP r1 b).1, a.length + (feedP r1 b).2) := by
  rw [feed_app]
  unfold Goes at h
  rw [h]
theorem Goes.done {r r1 : ChP} {a : List UInt8} (h : Goes r a r1) (hd : doneC r1 = true) (b : List UInt8) : feedP r (a ++ b) = (r1, a.length) := by
  rw [h.more, feed_done hd]; rfl

/-! Data. -/
theorem data_goes {r : ChP} : ∀ (p : List UInt8) (b : List UInt8) (ln : List UInt8), p ≠ [] → r.whole = false → r.status = 0 →
    Goes { r with state := 1, left := p.length, body := b, line := ln } p { r with state := 2, left := 0, body := b ++ p, line := [] }
  | [], _, _, h, _, _ => absurd rfl h
  | [c], b, ln, _, h1, h2 => by
    refine Goes.cons (by unfold doneC; simp [h1, h2]) ?_
    exact Goes.nil _
  | c :: d :: p, b, ln, _, h1, h2 => by
    refine Goes.cons (by unfold doneC; simp [h1, h2]) ?_
    have ih := data_goes (r := r) (d :: p) (b ++ [c]) ln (by simp) h1 h2
    rw [List.append_assoc] at ih
    have e : oneP { r with state := 1, left := (c :: d :: p).length, body := b, line := ln } c = { r with state := 1, left := (d :: p).length, body := b ++ [c], line := ln } := by
      unfold oneP
      rw [if_pos rfl]
      unfold dataP
      simp
    rw [e]
    exact ih
theorem crlf_goes {r : ChP} (h1 : r.whole = false) (h2 : r.status = 0) : Goes { r with state := 2, line := [] } [13, 10] { r with state := 0, line := [] } := by
  refine Goes.cons (by unfold doneC; simp [h1, h2]) (Goes.cons ?_ ?_)
  · show doneC { r with state := 2, line := [13] } = false
    unfold doneC; simp [h1, h2]
  · exact Goes.nil _

/-! Lines. -/
/-- Bytes without an end of line, fewer than may be. -/
theorem line_goes {r : ChP} (hs : r.state = 0 ∨ r.state = 3) (h1 : r.whole = false) (h2 : r.status = 0) : ∀ (l ln : List UInt8), (∀ x ∈ l, x ≠ 10) →
    (r.state = 0 → ln.length + l.length ≤ 64) → (r.state = 3 → ln.length + l.length ≤ 256 ∧ r.ends + (ln.length + l.length) ≤ 512) →
    Goes { r with line := ln } l { r with line := ln ++ l }
  | [], ln, _, _, _ => by rw [List.append_nil]; exact Goes.nil _
  | c :: l, ln, h, h64, h256 => by
    refine Goes.cons (by unfold doneC; simp [h1, h2]) ?_
    have hc : cntL ln c ≤ ln.length + 1 := by unfold cntL; split <;> omega
    have e : oneP { r with line := ln } c = { r with line := ln ++ [c] } := by
      unfold oneP
      have hn := h c (by simp)
      rcases hs with hs | hs
      · have := h64 hs
        simp only [List.length_cons] at this
        rw [if_neg (by show ¬ r.state = 1; omega), if_neg (by show ¬ r.state = 2; omega), if_neg hn]
        unfold growP
        rw [if_neg (by rintro ⟨_, h⟩; exact absurd h (by show ¬ 64 < cntL ln c; omega)), if_neg (by rintro ⟨h, _⟩; exact h hs)]
      · have := h256 hs
        simp only [List.length_cons] at this
        rw [if_neg (by show ¬ r.state = 1; omega), if_neg (by show ¬ r.state = 2; omega), if_neg hn]
        unfold growP
        rw [if_neg (by rintro ⟨h, _⟩; exact absurd (hs.symm.trans h) (by decide)), if_neg]
        rintro ⟨_, h | h⟩
        · exact absurd h (by show ¬ 256 < cntL ln c; omega)
        · exact absurd h (by show ¬ 512 < r.ends + cntL ln c; omega)
    rw [e]
    have ih := line_goes hs h1 h2 l (ln ++ [c]) (fun x hx => h x (by simp [hx])) (fun hz => by have := h64 hz; simp only [List.length_cons, List.length_append, List.length_nil] at *; omega) (fun hz => by have := h256 hz; simp only [List.length_cons, List.length_append, List.length_nil] at *; omega)
    rw [List.append_assoc] at ih
    exact ih
/-- A carriage return counts for nothing yet. -/
theorem cr_goes {r : ChP} (hs : r.state = 0 ∨ r.state = 3) (h1 : r.whole = false) (h2 : r.status = 0) (h64 : r.state = 0 → r.line.length ≤ 64) (h256 : r.state = 3 → r.line.length ≤ 256 ∧ r.ends + r.line.length ≤ 512) : Goes r [13] { r with line := r.line ++ [13] } := by
  refine Goes.cons (by unfold doneC; simp [h1, h2]) ?_
  have e : oneP r 13 = { r with line := r.line ++ [13] } := by
    unfold oneP
    rw [if_neg (by omega), if_neg (by omega), if_neg (by decide)]
    unfold growP
    have hc : cntL r.line 13 = r.line.length := by unfold cntL; rw [if_pos rfl]
    rw [hc]
    rw [if_neg (by rintro ⟨h, h3⟩; have := h64 h; omega), if_neg]
    rintro ⟨h, h3⟩
    rcases hs with hs | hs
    · exact h hs
    · have := h256 hs; omega
  rw [e]
  exact Goes.nil _
theorem lf_goes {r : ChP} {l : List UInt8} (hs : r.state = 0 ∨ r.state = 3) (h1 : r.whole = false) (h2 : r.status = 0) : Goes { r with line := l ++ [13] } [10] (if r.state = 0 then sizeP { r with line := [] } l else trailP { r with line := [] } l) := by
  refine Goes.cons (by unfold doneC; simp [h1, h2]) ?_
  have e : oneP { r with line := l ++ [13] } 10 = if r.state = 0 then sizeP { r with line := [] } l else trailP { r with line := [] } l := by
    unfold oneP
    rw [if_neg (by show ¬ r.state = 1; omega), if_neg (by show ¬ r.state = 2; omega), if_pos rfl]
    unfold endP
    rw [if_pos (by show (l ++ [13]).getLast? = some 13; simp)]
    show (if r.state = 0 then sizeP _ (l ++ [13]).dropLast else trailP _ (l ++ [13]).dropLast) = _
    rw [List.dropLast_concat]
  rw [e]
  exact Goes.nil _
/-- A whole line. -/
theorem whole_line {r : ChP} {l : List UInt8} (hs : r.state = 0 ∨ r.state = 3) (h1 : r.whole = false) (h2 : r.status = 0) (hl : r.line = []) (h10 : ∀ x ∈ l, x ≠ 10) (h64 : r.state = 0 → l.length ≤ 64) (h256 : r.state = 3 → l.length ≤ 256 ∧ r.ends + l.length ≤ 512) :
    Goes r (l ++ [13, 10]) (if r.state = 0 then sizeP r l else trailP r l) := by
  have e0 : r = { r with line := [] } := by cases r; simp only at hl; rw [hl]
  have g1 : Goes r l { r with line := l } := by
    have h := line_goes hs h1 h2 l [] h10 (by simpa using h64) (by simpa using h256)
    rw [List.nil_append, ← e0] at h
    exact h
  have g2 := cr_goes (r := { r with line := l }) hs h1 h2 h64 h256
  have g3 := lf_goes (r := r) (l := l) hs h1 h2
  rw [← e0] at g3
  have g4 := (g1.app g2).app g3
  rw [List.append_assoc] at g4
  exact g4
end Go.Proofs.YtgkhelbpccehcaaGreatDoor

/- Rows of bytes: read wherever they begin, and an object's own. No text of the program. -/
namespace Go.Proofs.YtgkhelbpccehcaaGreatDoor
open Go.RowKit
set_option linter.unusedVariables false
set_option linter.unusedSimpArgs false

/-- Bytes lie behind a slice, wherever it begins. -/
def BsAt (W : World) (v : Value) (l : List UInt8) : Prop :=
  (l = [] ∧ ∃ a cap, v = .slice a 0 cap) ∨
  ∃ (b off cap : Nat), v = .slice (some ⟨b, off, none⟩) l.length cap ∧ 0 < l.length ∧ b < W.heap.size ∧ l.length ≤ cap ∧ cap ≤ 9223372036854775807 ∧ ∀ j (h : j < l.length), W.cell? ⟨b, off + j, none⟩ = some (.int .u8 (l[j].toNat : Int))
/-- Bytes of an object's own, from their row's head on. -/
def BRow (w : World) (v : Value) (l : List UInt8) : Prop := w.ownsRow 0 5 1 v l.length (bys l)
theorem bys_at (l : List UInt8) (j : Nat) (h : j < l.length) : (bys l)[j]? = some (.int .u8 (l[j].toNat : Int)) := by simp [bys, h]
theorem bys_append (a b : List UInt8) : bys (a ++ b) = bys a ++ bys b := by simp [bys]
theorem bys_one (l : List UInt8) : ∀ u ∈ bys l, u.oneCell' = true := by
  intro u hu
  simp only [bys, List.mem_map] at hu
  obtain ⟨c, _, rfl⟩ := hu
  rfl
section
variable {W W' w w' : World} {v : Value} {l : List UInt8} {F : List Nat} {base : Nat}
theorem BsAt.mods (h : BsAt W v l) (hm : Mods F W W') (hn : ∀ k ∈ v.ownBlock.toList, k ∉ F) : BsAt W' v l := by
  rcases h with h | ⟨b, off, cap, rfl, h0, hlt, h1, h2, hc⟩
  · exact .inl h
  · have hb : b ∉ F := hn b (by simp [Value.ownBlock])
    exact .inr ⟨b, off, cap, rfl, h0, Nat.lt_of_lt_of_le hlt hm.size, h1, h2, fun j hj => cell_mods (hc j hj) hm hb⟩
theorem BsAt.low (h : BsAt W v l) (hm : Mods [] W W') : BsAt W' v l := h.mods hm (by simp)
theorem BsAt.same (h : BsAt W v l) (e : W'.heap = W.heap) : BsAt W' v l := by
  rcases h with h | ⟨b, off, cap, rfl, h0, hlt, h1, h2, hc⟩
  · exact .inl h
  · exact .inr ⟨b, off, cap, rfl, h0, by rw [e]; exact hlt, h1, h2, fun j hj => (World.cell?_of_block (by rw [e])).trans (hc j hj)⟩
theorem BsAt.len (h : BsAt W v l) : ∃ a cap, v = .slice a l.length cap := by
  rcases h with ⟨rfl, a, cap, rfl⟩ | ⟨b, off, cap, rfl, _⟩
  · exact ⟨a, cap, rfl⟩
  · exact ⟨_, cap, rfl⟩
theorem BsAt.lt (h : BsAt W v l) (h0 : 0 < l.length) : ∀ k ∈ v.ownBlock.toList, k < W.heap.size := by
  rcases h with ⟨rfl, _⟩ | ⟨b, off, cap, rfl, _, hlt, _⟩
  · cases h0
  · intro k hk
    have : k = b := by simpa [Value.ownBlock, eq_comm] using hk
    subst this; exact hlt
theorem BsAt.of_row (h : W.ownsRow base 5 1 v l.length (bys l)) : BsAt W v l := by
  rcases h.2 with ⟨rfl, h1⟩ | ⟨g, cap, cur, rfl, hb, hg, hn, hm, hc, ht⟩
  · exact .inl ⟨List.eq_nil_of_length_eq_zero h1, _, _, rfl⟩
  · by_cases h0 : l.length = 0
    · obtain rfl : l = [] := List.eq_nil_of_length_eq_zero h0
      exact .inl ⟨rfl, _, _, rfl⟩
    · refine .inr ⟨g, 0, cap, rfl, by omega, (Array.getElem?_eq_some_iff.1 hg).1, hn, by unfold maxLen at hm; omega, fun j hj => ?_⟩
      have e : cur.toList[j]? = some (.int .u8 (l[j].toNat : Int)) := by
        have h1 : (cur.toList.take (l.length * 1))[j]? = (bys l)[j]? := by rw [ht]
        rw [List.getElem?_take, if_pos (by omega), bys_at l j hj] at h1
        exact h1
      have e2 : cur[j]? = some (.int .u8 (l[j].toNat : Int)) := by rw [← Array.getElem?_toList]; exact e
      rw [Nat.zero_add]
      exact (cell_of_row W g j cur _ (0, 0) hg).trans e2
theorem BsAt.new (W : World) (l : List UInt8) (h0 : 0 < l.length) (h : l.length ≤ 1000000000) : BsAt (W.alloc (.cells (bys l).toArray 5)) (.slice (some ⟨W.heap.size, 0, none⟩) l.length l.length) l := by
  refine .inr ⟨_, 0, _, rfl, h0, by simp, Nat.le_refl _, by omega, fun j hj => ?_⟩
  rw [(Row.new W _ (bys l).toArray).cell, Nat.zero_add, List.getElem?_toArray]
  exact bys_at l j hj
/-- The first k of them. -/
theorem BsAt.to {A : Option Addr} {n c : Nat} (h : BsAt W (.slice A n c) l) (k : Nat) (hk : k ≤ n) : BsAt W (.slice A k c) (l.take k) := by
  rcases h with ⟨rfl, a, cap, hv⟩ | ⟨b, off, cap, hv, h0, hlt, h1, h2, hc⟩
  · injection hv with e1 e2 e3
    subst e1 e2 e3
    obtain rfl : k = 0 := by omega
    exact .inl ⟨rfl, _, _, rfl⟩
  · injection hv with e1 e2 e3
    subst e1 e2 e3
    by_cases hk0 : k = 0
    · subst hk0; exact .inl ⟨by simp, _, _, rfl⟩
    · have hl : (l.take k).length = k := by rw [List.length_take]; omega
      refine .inr ⟨b, off, c, by rw [hl], by omega, hlt, by rw [hl]; omega, h2, fun j hj => ?_⟩
      rw [List.getElem_take]
      exact hc j (by omega)
/-- What stands behind the first k. -/
theorem BsAt.from' {A : Option Addr} {n c : Nat} (h : BsAt W (.slice A n c) l) (k : Nat) (hk : k ≤ n) {A2 : Option Addr} (hA : A2 = if c = k then A else Option.map (fun x => x.add k) A) (n2 c2 : Nat) (hn : n2 = n - k) (hc2 : c2 = c - k) : BsAt W (.slice A2 n2 c2) (l.drop k) := by
  subst hA hn hc2
  rcases h with ⟨rfl, a, cap, hv⟩ | ⟨b, off, cap, hv, h0, hlt, h1, h2, hc⟩
  · injection hv with e1 e2 e3
    subst e1 e2 e3
    obtain rfl : k = 0 := by omega
    exact .inl ⟨rfl, _, _, rfl⟩
  · injection hv with e1 e2 e3
    subst e1 e2 e3
    by_cases hkn : k = l.length
    · subst hkn
      exact .inl ⟨by simp, _, _, by rw [Nat.sub_self]⟩
    · have hne : c ≠ k := by omega
      rw [if_neg hne]
      refine .inr ⟨b, off + k, c - k, by rw [List.length_drop, Option.map_some, add_none], by rw [List.length_drop]; omega, hlt, by rw [List.length_drop]; omega, by omega, fun j hj => ?_⟩
      rw [List.length_drop] at hj
      rw [List.getElem_drop, Nat.add_assoc]
      exact hc (k + j) (by omega)
/-- Bytes turned into a text. -/
theorem BsAt.text (h : BsAt W v l) : (convert 22 9 v).run Tryz.prog W = .ok (.string (ofL l)) W := by
  rcases h with ⟨rfl, a, cap, rfl⟩ | ⟨b, off, cap, rfl, h0, hlt, h1, h2, hc⟩
  · cases a with
    | none => exact run_convert_bytes_nil W 22 5 Tryz.underlying22 Tryz.underlying5 0 cap 9 Tryz.underlying9
    | some a => exact run_convert_bytes_back W 22 9 5 a cap [] Tryz.underlying22 Tryz.underlying5 Tryz.underlying9 (fun j hj => absurd hj (Nat.not_lt_zero _))
  · exact run_convert_bytes_back W 22 9 5 ⟨b, off, none⟩ cap l Tryz.underlying22 Tryz.underlying5 Tryz.underlying9 fun j hj => by
      rw [add_none]; exact hc j hj

theorem BRow.nil (w : World) : BRow w (.slice none 0 0) [] := World.ownsRow_nil _ _ _ _
theorem BRow.mods (h : BRow w v l) (hm : Mods F w w') (hn : ∀ k ∈ v.ownBlock.toList, k ∉ F) : BRow w' v l := own_mods h hm hn
theorem BRow.low (h : BRow w v l) (hm : Mods [] w w') : BRow w' v l := h.mods hm (by simp)
theorem BRow.lt (h : BRow w v l) : ∀ k ∈ v.ownBlock.toList, k < w.heap.size := own_lt h
theorem BRow.form (h : BRow w v l) : ∃ a c, v = .slice a l.length c ∧ l.length ≤ c ∧ c ≤ maxLen := own_slice h
theorem BRow.at (h : BRow w v l) : BsAt w v l := BsAt.of_row h
theorem BRow.cut0 {A : Option Addr} {n c : Nat} (h : BRow w (.slice A n c) l) : BRow w (.slice A 0 c) [] := by
  obtain ⟨h1, h2⟩ := h
  rcases h2 with ⟨hv, h0⟩ | ⟨g, cap, cur, hv, hb, hg, hn, hm, hc, ht⟩
  · injection hv with e1 e2 e3
    subst e1 e2 e3
    exact BRow.nil w
  · injection hv with e1 e2 e3
    subst e1 e2 e3
    exact ⟨rfl, .inr ⟨g, c, cur, rfl, hb, hg, by simp, hm, hc, by simp [bys]⟩⟩
end
theorem cut0_block (A : Option Addr) (n c m d : Nat) : (Value.slice A n c).ownBlock = (Value.slice A m d).ownBlock := by cases A <;> rfl
/-- One byte more behind a row. -/
theorem app_row {w : World} {u : Value} {l : List UInt8} (h : BRow w u l) (hl : l.length ≤ 1000000) (c : UInt8) :
    ∃ (b c' : Nat) (w' : World), (Builtin.append_ #[22, 22] 22 #[u, .slice (some ⟨w.heap.size, 0, none⟩) 1 1]).run Tryz.prog (w.alloc (.cells #[.int .u8 (c.toNat : Int)] 5)) = .ok (.slice (some ⟨b, 0, none⟩) (l.length + 1) c') w' ∧
      BRow w' (.slice (some ⟨b, 0, none⟩) (l.length + 1) c') (l ++ [c]) ∧ Mods u.ownBlock.toList w w' ∧ (some b = u.ownBlock ∨ w.heap.size ≤ b) := by
  obtain ⟨i0, hi, hz0, hz1, hz2⟩ := info_parts infoU8
  obtain ⟨v', w5, hrun, hown', hgrow, -, hbl⟩ := run_append_own_at (P := Tryz.prog) (w := w.alloc (.cells #[.int .u8 (c.toNat : Int)] 5)) 0 22 22 5 i0 (.int .u8 0) 1 1 Tryz.underlying22 hi hz0 hz1 hz2 rfl (by decide)
    u l.length (bys l) (h.low ((Mods.refl [] w).alloc _)) ⟨w.heap.size, 0, none⟩ 1 1 [.int .u8 (c.toNat : Int)] rfl (cells_new w [.int .u8 (c.toNat : Int)] _) (by simp [Value.oneCell']) (by unfold maxLen; omega) (by omega) (Nat.zero_le _)
  obtain ⟨b, c', rfl⟩ := ownsRow_succ hown'
  refine ⟨b, c', w5, hrun, ?_, ((Mods.refl _ w).alloc _).grown hgrow (fun k e => .inl (by rw [e]; simp)), ?_⟩
  · unfold BRow
    rw [List.length_append, bys_append]; exact hown'
  · rcases hbl with h | h
    · exact .inl h
    · have : b = w.heap.size + 1 := by simpa [Value.ownBlock] using h
      exact .inr (by omega)
end Go.Proofs.YtgkhelbpccehcaaGreatDoor

/- append of rows and of texts onto bytes that a function gathers. No text of the program. -/
namespace Go.Proofs.YtgkhelbpccehcaaGreatDoor
open Go.RowKit
set_option linter.unusedVariables false
set_option linter.unusedSimpArgs false

/-- append, by how it runs. -/
theorem wpList_run_app2 {P : Program} {ops : Array Oper} {rest : List Oper} {o : Oper} {a : Act} {w w' : World} {Q : Exit → Act → World → Prop} (hgd : o.guard = none) (s x : Operand) (t t2 : TypeId)
    (ho : o.op = .call { callee := .builtin .append, args := #[s, x], argTypes := #[t, t2] }) {v u v' : Value} (hs : a.eval s = v) (hx : a.eval x = u)
    (hr : (Builtin.append_ #[t, t2] o.type #[v, u]).run P w = .ok v' w') (h : wpList P ops Q rest (a.put o.dst v') w') : wpList P ops Q (o :: rest) a w := by
  refine wpList_plain hgd fun K hK => ?_
  unfold Oper.wp
  simp [execOp, ho, resolve, invoke, builtin, hs, hx, hr, Result.andThen]
  exact hK _ _ h
theorem step_run_appB {P : Program} {ops : Array Oper} {o : Oper} {a : Act} {w w' : World} {K : Act → World → Prop} {Q : Exit → Act → World → Prop} {E : Prop} (hgd : o.guard = none) {s x : Operand} {t t2 : TypeId} {v u v' : Value}
    (ho : o.op = .call { callee := .builtin .append, args := #[s, x], argTypes := #[t, t2] }) (hs : a.eval s = v) (hx : a.eval x = u)
    (hr : (Builtin.append_ #[t, t2] o.type #[v, u]).run P w = .ok v' w') (hK : K (a.put o.dst v') w') : if Region.wanted o (yielded ops a.tmps) = true then Oper.wp P o a w K Q else E := by
  have hw : Region.wanted o (yielded ops a.tmps) = true := by simp [Region.wanted, hgd]
  rw [if_pos hw]
  unfold Oper.wp
  simp [execOp, ho, resolve, invoke, builtin, hs, hx, hr, Result.andThen]
  exact hK
/-- append of nothing. -/
theorem run_app_none {w : World} {n c : Nat} {a A : Option Addr} {k : Nat} (hle : n ≤ c) : (Builtin.append_ #[22, 22] 22 #[.slice a n c, .slice A 0 k]).run Tryz.prog w = .ok (.slice a n c) w := by
  obtain ⟨i0, hi, hz0, hz1, hz2⟩ := info_parts infoU8
  have ht := Tryz.underlying22
  cases a <;> cases A <;> simp [Builtin.append_, run_underlying ht, sizeOf, typeInfo, hi, Builtin.lenOf, Builtin.firstCells, loadCells, loadCellsFrom, hle, storeCells]
/-- append of a row of bytes. -/
theorem app_bs {w0 w : World} {l m : List UInt8} {v u : Value} (h : GB w0 l v w) (hb : BsAt w u m) (hroom : l.length + m.length ≤ 1000000000) :
    ∃ (a : Option Addr) (n c : Nat) (w' : World), (Builtin.append_ #[22, 22] 22 #[v, u]).run Tryz.prog w = .ok (.slice a n c) w' ∧ GB w0 (l ++ m) (.slice a n c) w' := by
  obtain ⟨i0, hi, hz0, hz1, hz2⟩ := info_parts infoU8
  rcases hb with ⟨rfl, A, k, rfl⟩ | ⟨b, off, cap, rfl, h0, hlt, h1, h2, hc⟩
  · obtain ⟨a, c, hv⟩ := h.form
    have hle : l.length ≤ c := by
      rcases h.row.2 with ⟨e, h3⟩ | ⟨g, cap, cur, e, _, _, h3, _⟩
      · omega
      · rw [hv] at e; injection e with _ _ e3; omega
    subst hv
    exact ⟨a, l.length, c, w, run_app_none hle, by simpa using h⟩
  · obtain ⟨v', w5, hrun, hown', hgrow, -, hbl⟩ := run_append_own_at (P := Tryz.prog) (w := w) w0.heap.size 22 22 5 i0 (.int .u8 0) 1 1 Tryz.underlying22 hi hz0 hz1 hz2 rfl (by decide)
      v l.length (bys l) h.row ⟨b, off, none⟩ m.length cap (bys m) (by rw [bys_len, Nat.mul_one]) (fun j x hj => by
        rw [add_none]
        have hj2 : j < m.length := by have := (List.getElem?_eq_some_iff.1 hj).1; rw [bys_len] at this; exact this
        rw [bys_at m j hj2] at hj
        rw [hc j hj2]; exact hj) (bys_one m) (by unfold maxLen; omega) (by omega) h.low.size
    have hg : GB w0 (l ++ m) v' w5 := by
      refine ⟨?_, h.low.grown hgrow h.low.size fun k e => (h.row.lt k e).1⟩
      rw [List.length_append, bys_append]; exact hown'
    obtain ⟨a, c, rfl⟩ := hg.form
    exact ⟨a, _, c, w5, hrun, hg⟩
/-- append of a text. -/
theorem app_str {w0 w : World} {l : List UInt8} {v : Value} (h : GB w0 l v w) (s : ByteArray) (hroom : l.length + s.size ≤ 1000000000) :
    ∃ (a : Option Addr) (n c : Nat) (w' : World), (Builtin.append_ #[22, 9] 22 #[v, .string s]).run Tryz.prog w = .ok (.slice a n c) w' ∧ GB w0 (l ++ s.data.toList) (.slice a n c) w' := by
  obtain ⟨i0, hi, hz0, hz1, hz2⟩ := info_parts infoU8
  obtain ⟨v', w5, hrun, hown', hgrow, hnil⟩ := Lib.run_append_own_string (P := Tryz.prog) w w0.heap.size 22 9 22 5 i0 Tryz.underlying22 Tryz.underlying9 hi hz0 hz1 hz2
    v l.length (bys l) h.row s (by unfold maxLen; omega) (by omega) h.low.size
  have hg : GB w0 (l ++ s.data.toList) v' w5 := by
    refine ⟨?_, h.low.grown hgrow h.low.size fun k e => (h.row.lt k e).1⟩
    rw [List.length_append, show bys (l ++ s.data.toList) = bys l ++ Lib.strCells s by rw [bys_append]; rfl, len_data]; exact hown'
  obtain ⟨a, c, rfl⟩ := hg.form
  exact ⟨a, _, c, w5, hrun, hg⟩
theorem gb_nilB (w : World) : GB w [] (.slice none 0 0) w := ⟨World.ownsRow_nil _ _ _ _, Below.refl _ _⟩
theorem gb_madeB (w : World) : GB w [] (.slice (some ⟨w.heap.size, 0, none⟩) 0 0) (w.alloc (.cells #[] 5)) :=
  ⟨World.ownsRow_made w #[] 0 (Nat.le_refl _) (by unfold maxLen; omega) (by simp), (Below.refl _ w).alloc (Nat.le_refl _) _⟩
theorem GB.at {w0 w : World} {l : List UInt8} {v : Value} (h : GB w0 l v w) : BsAt w v l := BsAt.of_row h.row
theorem GB.own {w0 w : World} {l : List UInt8} {v : Value} (h : GB w0 l v w) : BRow w v l := own_base (w' := w) h.row (Nat.zero_le _)
theorem GB.mods {w0 w : World} {l : List UInt8} {v : Value} (h : GB w0 l v w) : Mods [] w0 w := Mods.of_below h.low
theorem GB.news {w0 w : World} {l : List UInt8} {v : Value} (h : GB w0 l v w) : ∀ k ∈ v.ownBlock.toList, w0.heap.size ≤ k := by
  intro k hk
  exact (h.row.lt k (by simpa using hk)).1
theorem GB.on {w0 w w' : World} {l : List UInt8} {v : Value} (h : GB w0 l v w) (hm : Mods [] w w') : GB w0 l v w' := h.below hm.below
theorem GB.since {w0 w1 w : World} {l : List UInt8} {v : Value} (h : GB w1 l v w) (hm : Mods [] w0 w1) : GB w0 l v w :=
  ⟨own_base (w' := w) h.row hm.size, (hm.trans (Mods.of_below (F := []) h.low) (fun _ h => nomatch h)).below⟩
end Go.Proofs.YtgkhelbpccehcaaGreatDoor

/- What chapter 14's laws ask of a reader of chunks, in plain terms. No program but for what Parse answers. -/
namespace Go.Proofs.YtgkhelbpccehcaaGreatDoor
open Go.RowKit
set_option linter.unusedVariables false
set_option linter.unusedSimpArgs false

/-! Digits. -/
theorem dgt_hx (d : Nat) (h : d < 16) : isHx (dgt d) = true :=
  List.all_eq_true.1 (show (List.range 16).all (fun d => isHx (dgt d)) = true by decide +kernel) d (by rw [List.mem_range]; exact h)
theorem digs_hx (u : Nat) : (digs 16 u).all isHx = true := by
  induction u using Nat.strongRecOn with
  | ind u ih =>
    by_cases h : u < 16
    · rw [digs_low h]; simp [dgt_hx u h]
    · rw [digs_high (by omega) (by decide), List.all_append, ih (u / 16) (by omega)]; simp [dgt_hx (u % 16) (by omega)]
theorem hx_10 {l : List UInt8} (h : l.all isHx = true) : ∀ x ∈ l, x ≠ 10 := fun x hx e => by
  subst e
  have := List.all_eq_true.1 h 10 hx
  revert this; decide
theorem hxs_all {l : List UInt8} (h : l.all isHx = true) : hxs l = l := by
  unfold hxs
  induction l with
  | nil => rfl
  | cons c r ih =>
    rw [List.all_cons, Bool.and_eq_true] at h
    rw [List.takeWhile_cons, if_pos h.1, ih h.2]
theorem pars_nil : parsL [] = some [] := pars_end rfl
/-- A size line of a number. -/
theorem size_num {r : ChP} {n : Nat} (hn : n ≤ 4095) : sizeP r (digs 16 n) = if 2048 < r.body.length + n then { r with status := 413 } else if n = 0 then { r with state := 3 } else { r with state := 1, left := n } := by
  have h := digs_hx n
  have h0 := digs_pos 16 n
  have hl := digs_le 16 (by decide) 2 n (by omega)
  have hx := hxs_all h
  have hv : hxn (digs 16 n) = n := by
    unfold hxn
    have hq : numB 16 12 (digs 16 n) = ((n : Int), true) := numB_digs 16 (by decide) (by decide) 11 n (Nat.lt_of_le_of_lt hn (by decide))
    rw [hx, hq]
    simp
  have hpos := List.length_pos_iff.2 h0
  unfold sizeP
  rw [hx, hv, if_neg (by omega), List.drop_length, pars_nil, if_neg (by simp)]

/-! Chunks. -/
def chunkC (p : List UInt8) : List UInt8 := if p = [] then [] else digs 16 p.length ++ [13, 10] ++ p ++ [13, 10]
def endC : List UInt8 := [48, 13, 10, 13, 10]
def encC (ps : List (List UInt8)) : List UInt8 := ps.flatMap chunkC ++ endC
/-- Ready for a size line, some data being there. -/
def RdC (b : List UInt8) : ChP := { newC with body := b }
theorem size_goes (b : List UInt8) {n : Nat} (hn : n ≤ 4095) : Goes (RdC b) (digs 16 n ++ [13, 10]) (if 2048 < b.length + n then { RdC b with status := 413 } else if n = 0 then { RdC b with state := 3 } else { RdC b with state := 1, left := n }) := by
  have h := whole_line (r := RdC b) (l := digs 16 n) (.inl rfl) rfl rfl rfl (hx_10 (digs_hx n)) (fun _ => by have := digs_le 16 (by decide) 2 n (by omega); omega) (fun h => by cases h)
  rw [if_pos (show (RdC b).state = 0 from rfl), size_num hn] at h
  exact h
theorem part_goes {b p : List UInt8} (h0 : p ≠ []) (hp : p.length ≤ 4095) (hb : b.length + p.length ≤ 2048) : Goes (RdC b) (chunkC p) (RdC (b ++ p)) := by
  have hpos := List.length_pos_iff.2 h0
  have g1 := size_goes b hp
  rw [if_neg (by omega), if_neg (by omega)] at g1
  have g2 := data_goes (r := RdC b) p b [] h0 rfl rfl
  have g3 := crlf_goes (r := { RdC b with left := 0, body := b ++ p }) rfl rfl
  unfold chunkC
  rw [if_neg h0]
  exact (g1.app g2).app g3
theorem parts_goes : ∀ (ps : List (List UInt8)) (b : List UInt8), (∀ p ∈ ps, p.length ≤ 4095) → b.length + ps.flatten.length ≤ 2048 → Goes (RdC b) (ps.flatMap chunkC) (RdC (b ++ ps.flatten))
  | [], b, _, _ => by rw [List.flatten_nil, List.append_nil]; exact Goes.nil _
  | p :: ps, b, h, hb => by
    rw [List.flatten_cons, List.length_append] at hb
    rw [List.flatMap_cons, List.flatten_cons, ← List.append_assoc]
    by_cases h0 : p = []
    · subst h0
      rw [List.append_nil]
      have := parts_goes ps b (fun q hq => h q (by simp [hq])) (by simpa using hb)
      exact (Goes.nil _).app this
    · exact (part_goes h0 (h p (by simp)) (by omega)).app (parts_goes ps (b ++ p) (fun q hq => h q (by simp [hq])) (by rw [List.length_append]; omega))
theorem zero_goes (b : List UInt8) (hb : b.length ≤ 2048) : Goes (RdC b) [48, 13, 10] { RdC b with state := 3 } := by
  have g := size_goes b (n := 0) (by omega)
  rw [if_neg (by omega), if_pos rfl, digs_low (by decide)] at g
  exact g
theorem empty_goes {r : ChP} (hs : r.state = 3) (h1 : r.whole = false) (h2 : r.status = 0) (hl : r.line = []) (he : r.ends ≤ 512) : Goes r [13, 10] { r with whole := true } := by
  have g := whole_line (r := r) (l := []) (.inr hs) h1 h2 hl (fun x hx => nomatch hx) (fun h => by rw [hs] at h; cases h) (fun _ => ⟨by decide, by simpa using he⟩)
  rw [if_neg (by rw [hs]; decide)] at g
  exact g
/-- Read, chunks are the body, all of them taken and nothing behind them. -/
theorem enc_feed (ps : List (List UInt8)) (m : List UInt8) (h : ∀ p ∈ ps, p.length ≤ 4095) (hb : ps.flatten.length ≤ 2048) : feedP newC (encC ps ++ m) = ({ RdC ps.flatten with state := 3, whole := true }, (encC ps).length) := by
  have g1 := parts_goes ps [] h (by simpa using hb)
  rw [List.nil_append] at g1
  have g2 := zero_goes ps.flatten hb
  have g3 := empty_goes (r := { RdC ps.flatten with state := 3 }) rfl rfl rfl rfl (show (0 : Nat) ≤ 512 by decide)
  have g := (g1.app g2).app g3
  have e : ps.flatMap chunkC ++ [48, 13, 10] ++ [13, 10] = encC ps := by unfold encC endC; rw [List.append_assoc]; rfl
  rw [e] at g
  exact g.done rfl m
/-- More than may be: refused. -/
theorem enc_much : ∀ (ps : List (List UInt8)) (b m : List UInt8), (∀ p ∈ ps, p.length ≤ 4095) → b.length ≤ 2048 → 2048 < b.length + ps.flatten.length →
    (feedP (RdC b) (ps.flatMap chunkC ++ m)).1.status = 413 ∧ (feedP (RdC b) (ps.flatMap chunkC ++ m)).1.whole = false
  | [], b, m, _, hb, h => by simp at h; omega
  | p :: ps, b, m, h, hb, hm => by
    rw [List.flatten_cons, List.length_append] at hm
    rw [List.flatMap_cons, List.append_assoc]
    by_cases h0 : p = []
    · subst h0
      exact enc_much ps b m (fun q hq => h q (by simp [hq])) hb (by simpa using hm)
    · by_cases hp : b.length + p.length ≤ 2048
      · rw [(part_goes h0 (h p (by simp)) hp).more]
        exact enc_much ps (b ++ p) m (fun q hq => h q (by simp [hq])) (by rw [List.length_append]; omega) (by rw [List.length_append]; omega)
      · have g := size_goes b (h p (by simp))
        rw [if_pos (by omega)] at g
        unfold chunkC
        rw [if_neg h0, List.append_assoc, List.append_assoc, g.done rfl]
        exact ⟨rfl, rfl⟩

/-! Trailers. -/
def fldC (p : FV) : List UInt8 := (lineK p.1 p.2 1).data.toList ++ [13, 10]
def TrC (b : List UInt8) (S : List FV) (e : Nat) : ChP := { RdC b with state := 3, trail := S, ends := e }
theorem ok_10 {p : FV} (h : okF p = true) : ∀ x ∈ (lineK p.1 p.2 1).data.toList, x ≠ 10 := fun x hx e => by
  subst e
  unfold okF at h
  rw [Bool.and_eq_true, Bool.and_eq_true] at h
  obtain ⟨⟨h1, h2⟩, _⟩ := h
  rw [lineK_list, app_listL] at hx
  rcases List.mem_append.1 hx with hx | hx
  · unfold tokL at h1
    rw [Bool.and_eq_true] at h1
    have := List.all_eq_true.1 h1.1 10 hx
    revert this; decide +kernel
  · rcases List.mem_cons.1 hx with hx | hx
    · revert hx; decide
    · rcases List.mem_append.1 hx with hx | hx
      · have : (10 : UInt8) = 32 := by
          have e1 : (spL 1).data.toList = [32] := rfl
          rw [e1] at hx; simp at hx
        revert this; decide
      · unfold valL at h2
        have := List.all_eq_true.1 h2 10 hx
        revert this; decide +kernel
theorem fldC_len (p : FV) : (fldC p).length = p.1.size + p.2.size + 4 := by
  unfold fldC
  rw [List.length_append]
  have : (lineK p.1 p.2 1).data.toList.length = (lineK p.1 p.2 1).size := rfl
  rw [this, lineK_size]; simp; omega
theorem trail_line (b : List UInt8) (S : List FV) (e : Nat) {p : FV} (h : okF p = true) (hp : p.1.size + p.2.size ≤ 100) (he : e + (fldC p).length ≤ 512) :
    Goes (TrC b S e) (fldC p) (if S.length = 8 then { TrC b S e with status := 431 } else TrC b (S ++ [p]) (e + (fldC p).length)) := by
  have hz : (lineK p.1 p.2 1).data.toList.length = p.1.size + p.2.size + 2 := by
    have : (lineK p.1 p.2 1).data.toList.length = (lineK p.1 p.2 1).size := rfl
    rw [this, lineK_size]; omega
  rw [fldC_len] at he ⊢
  have g := whole_line (r := TrC b S e) (l := (lineK p.1 p.2 1).data.toList) (.inr rfl) rfl rfl rfl (ok_10 h) (fun h => by cases h) (fun _ => ⟨by omega, by show e + _ ≤ 512; omega⟩)
  rw [if_neg (show ¬ (TrC b S e).state = 0 from fun h => by cases h)] at g
  have hpar : parR (ofL (lineK p.1 p.2 1).data.toList) = (p, 0) := by
    rw [ofL_data]
    exact lineK_par 1 h (by have : (lineK p.1 p.2 1).data.toList.length = (lineK p.1 p.2 1).size := rfl
                            omega)
  have hne : (lineK p.1 p.2 1).data.toList ≠ [] := by intro h0; rw [h0] at hz; simp at hz
  have e1 : trailP (TrC b S e) (lineK p.1 p.2 1).data.toList = if S.length = 8 then { TrC b S e with status := 431 } else TrC b (S ++ [p]) (e + (p.1.size + p.2.size + 4)) := by
    unfold trailP
    rw [if_neg hne, hpar, if_neg (by simp), hz]
    by_cases h8 : S.length = 8
    · rw [if_pos (.inl h8), if_pos h8]
    · rw [if_neg (by rintro (h | h); exact h8 h; exact absurd h (by show ¬ 512 < e + _; omega)), if_neg h8]
      show ChP.mk _ _ _ (e + (p.1.size + p.2.size + 2 + 2)) _ _ _ _ = _
      rw [show e + (p.1.size + p.2.size + 2 + 2) = e + (p.1.size + p.2.size + 4) by omega]
      rfl
  rw [e1] at g
  exact g
def fldsC (l : List FV) : List UInt8 := l.flatMap fldC
theorem trails_goes (b : List UInt8) : ∀ (l S : List FV) (e : Nat), (∀ p ∈ l, okF p = true ∧ p.1.size + p.2.size ≤ 100) → S.length + l.length ≤ 8 → e + (fldsC l).length ≤ 512 → Goes (TrC b S e) (fldsC l) (TrC b (S ++ l) (e + (fldsC l).length))
  | [], S, e, _, _, _ => by rw [List.append_nil]; exact Goes.nil _
  | p :: l, S, e, h, h8, he => by
    have hp := h p (by simp)
    rw [List.length_cons] at h8
    have hl : (fldsC (p :: l)).length = (fldC p).length + (fldsC l).length := by unfold fldsC; rw [List.flatMap_cons, List.length_append]
    rw [hl] at he ⊢
    have g1 := trail_line b S e hp.1 hp.2 (by omega)
    rw [if_neg (by omega)] at g1
    have g2 := trails_goes b l (S ++ [p]) (e + (fldC p).length) (fun q hq => h q (by simp [hq])) (by rw [List.length_append]; simp; omega) (by omega)
    rw [List.append_assoc, Nat.add_assoc] at g2
    exact g1.app g2
/-- Up to eight trailers are told. -/
theorem trails_law (body : List UInt8) (l : List FV) (hb : body.length ≤ 1000) (h : ∀ p ∈ l, okF p = true ∧ p.1.size + p.2.size ≤ 100) (he : (fldsC l).length ≤ 512) (h8 : l.length ≤ 8) :
    feedP newC (chunkC body ++ [48, 13, 10] ++ fldsC l ++ [13, 10]) = ({ TrC body l (fldsC l).length with whole := true }, (chunkC body ++ [48, 13, 10] ++ fldsC l ++ [13, 10]).length) := by
  have g1 := parts_goes [body] [] (fun p hp => by have : p = body := by simpa using hp
                                                  subst this; omega) (by simp; omega)
  rw [List.flatMap_cons, List.flatMap_nil, List.append_nil, List.nil_append, List.flatten_cons, List.flatten_nil, List.append_nil] at g1
  have g2 := zero_goes body (by omega)
  have g3 := trails_goes body l [] 0 h (by simpa using h8) (by omega)
  rw [Nat.zero_add, List.nil_append] at g3
  have g4 := empty_goes (r := TrC body l (fldsC l).length) rfl rfl rfl rfl he
  exact ((g1.app g2).app g3).app g4
/-- The ninth is refused. -/
theorem trails_many (body : List UInt8) (l m : List FV) (p : FV) (rest : List UInt8) (hb : body.length ≤ 1000) (h : ∀ q ∈ l, okF q = true ∧ q.1.size + q.2.size ≤ 100) (hp : okF p = true ∧ p.1.size + p.2.size ≤ 100) (he : (fldsC l).length + (fldC p).length ≤ 512) (h8 : l.length = 8) :
    (feedP newC (chunkC body ++ [48, 13, 10] ++ fldsC l ++ fldC p ++ rest)).1 = { TrC body l (fldsC l).length with status := 431 } := by
  have g1 := parts_goes [body] [] (fun p hp => by have : p = body := by simpa using hp
                                                  subst this; omega) (by simp; omega)
  rw [List.flatMap_cons, List.flatMap_nil, List.append_nil, List.nil_append, List.flatten_cons, List.flatten_nil, List.append_nil] at g1
  have g2 := zero_goes body (by omega)
  have g3 := trails_goes body l [] 0 h (by simp; omega) (by omega)
  rw [Nat.zero_add, List.nil_append] at g3
  have g4 := trail_line body l (fldsC l).length hp.1 hp.2 (by omega)
  rw [if_pos h8] at g4
  have g := ((g1.app g2).app g3).app g4
  have hd := g.done rfl rest
  exact congrArg Prod.fst hd

/-! The bytes that the laws know. -/
def knC : List UInt8 := [51, 59, 97, 61, 98, 13, 10, 97, 98, 99, 13, 10, 48, 13, 10, 13, 10, 120]
theorem knC_feed : (feedP newC knC).2 = 17 ∧ (feedP newC knC).1.whole = true ∧ (feedP newC knC).1.status = 0 ∧ (feedP newC knC).1.body = [97, 98, 99] := by decide +kernel
theorem knC_enc : encC [[97], []] = [49, 13, 10, 97, 13, 10, 48, 13, 10, 13, 10] := by decide +kernel
end Go.Proofs.YtgkhelbpccehcaaGreatDoor

/- A reader of chunks: what holds behind each byte, and how the code counts it. No program but for what Parse answers. -/
namespace Go.Proofs.YtgkhelbpccehcaaGreatDoor
open Go.RowKit
set_option linter.unusedVariables false
set_option linter.unusedSimpArgs false

/-- What holds of every reader that bytes have made. -/
structure ChOk (r : ChP) : Prop where
  st : r.state ≤ 3
  body : r.body.length ≤ 2048
  room : r.state = 1 → 1 ≤ r.left ∧ r.body.length + r.left ≤ 2048
  crlf : r.state = 2 → r.line = [] ∨ r.line = [13]
  data : r.state = 1 → r.line = []
  size : r.state = 0 → r.line.length ≤ 65
  line : r.line.length ≤ 257
  ends : r.ends ≤ 512
  len : r.trail.length ≤ 8
  small : ∀ p ∈ r.trail, p.1.size ≤ 256 ∧ p.2.size ≤ 256
theorem newC_ok : ChOk newC := ⟨by decide, by decide, (fun h => by cases h), (fun h => by cases h), (fun h => by cases h), (fun _ => by decide), by decide, by decide, by decide, (fun _ h => nomatch h)⟩
theorem done_no {r : ChP} (h : doneC r = false) : r.whole = false ∧ r.status = 0 := by
  unfold doneC at h
  rw [Bool.or_eq_false_iff] at h
  exact ⟨h.1, by have := h.2; simpa using this⟩
theorem done_of {r : ChP} (h1 : r.whole = false) (h2 : r.status = 0) : doneC r = false := by unfold doneC; rw [h1, h2]; rfl
theorem parR_size {s : ByteArray} (h : (parR s).2 = 0) : (parR s).1.1.size ≤ 256 ∧ (parR s).1.2.size ≤ 256 := by
  by_cases hl : 256 < s.size
  · rw [parR_long hl] at h; cases h
  · rcases colon_cases s with hc | ⟨i, hc, hi⟩
    · rw [parR_none hl hc] at h; cases h
    · cases hok : okF (fldAt s i) with
      | false => rw [parR_bad hl hc hok] at h; cases h
      | true =>
        rw [parR_yes hl hc hok]
        have h2 := fldAt_size s i
        exact ⟨show (fldAt s i).1.size ≤ 256 by omega, show (fldAt s i).2.size ≤ 256 by omega⟩
/-! A size line. -/
/-- What sizeOf answers. -/
def szO (s : List UInt8) : Nat × Bool := if (hxs s).length < 1 ∨ 6 < (hxs s).length then (0, false) else if parsL (s.drop (hxs s).length) = none then (0, false) else (hxn s, true)
/-- What a size line tells: its status, how much is left behind it, whether it was the last. -/
def szS (b : Nat) (s : List UInt8) : Int := if (szO s).2 = false then 400 else if 2048 < b + (szO s).1 then 413 else 0
theorem sizeP_szo (r : ChP) (s : List UInt8) : sizeP r s = if (szO s).2 = false then { r with status := 400 } else if 2048 < r.body.length + (szO s).1 then { r with status := 413 } else if (szO s).1 = 0 then { r with state := 3 } else { r with state := 1, left := (szO s).1 } := by
  unfold sizeP szO
  split
  · simp
  · split
    · simp
    · simp
theorem sizeP_bad {r : ChP} {s : List UInt8} (h : (szO s).2 = false) : sizeP r s = { r with status := 400 } := by rw [sizeP_szo, if_pos h]
theorem sizeP_much {r : ChP} {s : List UInt8} (h : (szO s).2 = true) (h2 : 2048 < r.body.length + (szO s).1) : sizeP r s = { r with status := 413 } := by rw [sizeP_szo, if_neg (by rw [h]; simp), if_pos h2]
theorem sizeP_last {r : ChP} {s : List UInt8} (h : (szO s).2 = true) (h2 : ¬ 2048 < r.body.length + (szO s).1) (h3 : (szO s).1 = 0) : sizeP r s = { r with state := 3 } := by rw [sizeP_szo, if_neg (by rw [h]; simp), if_neg h2, if_pos h3]
theorem sizeP_more {r : ChP} {s : List UInt8} (h : (szO s).2 = true) (h2 : ¬ 2048 < r.body.length + (szO s).1) (h3 : ¬ (szO s).1 = 0) : sizeP r s = { r with state := 1, left := (szO s).1 } := by rw [sizeP_szo, if_neg (by rw [h]; simp), if_neg h2, if_neg h3]
theorem sizeP_ok {r : ChP} {s : List UInt8} (o : ChOk r) (hl : r.line = []) (h0 : r.state = 0) : ChOk (sizeP r s) := by
  rw [sizeP_szo]
  split
  · exact ⟨o.st, o.body, o.room, o.crlf, o.data, o.size, o.line, o.ends, o.len, o.small⟩
  · split
    · exact ⟨o.st, o.body, o.room, o.crlf, o.data, o.size, o.line, o.ends, o.len, o.small⟩
    · split
      · exact ⟨show (3 : Nat) ≤ 3 by decide, o.body, (fun h => by cases h), (fun h => by cases h), (fun h => by cases h), (fun h => by cases h), o.line, o.ends, o.len, o.small⟩
      · exact ⟨show (1 : Nat) ≤ 3 by decide, o.body, (fun _ => ⟨by show 1 ≤ (szO s).1; omega, by show r.body.length + (szO s).1 ≤ 2048; omega⟩), (fun h => by cases h), (fun _ => hl), (fun h => by cases h), o.line, o.ends, o.len, o.small⟩
/-! A trailer. -/
theorem trailP_end (r : ChP) : trailP r [] = { r with whole := true } := by unfold trailP; rw [if_pos rfl]
theorem trailP_bad {r : ChP} {s : List UInt8} (h0 : s ≠ []) (h : (parR (ofL s)).2 ≠ 0) : trailP r s = { r with status := 400 } := by unfold trailP; rw [if_neg h0, if_pos h]
theorem trailP_much {r : ChP} {s : List UInt8} (h0 : s ≠ []) (h : (parR (ofL s)).2 = 0) (h1 : r.trail.length = 8 ∨ 512 < r.ends + (s.length + 2)) : trailP r s = { r with status := 431 } := by unfold trailP; rw [if_neg h0, if_neg (by simpa using h), if_pos h1]
theorem trailP_more {r : ChP} {s : List UInt8} (h0 : s ≠ []) (h : (parR (ofL s)).2 = 0) (h1 : ¬ (r.trail.length = 8 ∨ 512 < r.ends + (s.length + 2))) : trailP r s = { r with ends := r.ends + (s.length + 2), trail := r.trail ++ [(parR (ofL s)).1] } := by unfold trailP; rw [if_neg h0, if_neg (by simpa using h), if_neg h1]
theorem trailP_ok {r : ChP} {s : List UInt8} (o : ChOk r) (h3 : r.state = 3) : ChOk (trailP r s) := by
  by_cases h0 : s = []
  · subst h0; rw [trailP_end]; exact ⟨o.st, o.body, o.room, o.crlf, o.data, o.size, o.line, o.ends, o.len, o.small⟩
  · by_cases h : (parR (ofL s)).2 = 0
    · by_cases h1 : r.trail.length = 8 ∨ 512 < r.ends + (s.length + 2)
      · rw [trailP_much h0 h h1]; exact ⟨o.st, o.body, o.room, o.crlf, o.data, o.size, o.line, o.ends, o.len, o.small⟩
      · rw [trailP_more h0 h h1]
        rw [not_or] at h1
        refine ⟨o.st, o.body, o.room, o.crlf, o.data, o.size, o.line, by show r.ends + (s.length + 2) ≤ 512; omega, ?_, ?_⟩
        · have := o.len
          show (r.trail ++ _).length ≤ 8
          rw [List.length_append]; simp; omega
        · intro p hp
          rcases List.mem_append.1 hp with hp | hp
          · exact o.small p hp
          · rw [List.mem_singleton] at hp; subst hp; exact parR_size h
    · rw [trailP_bad h0 h]; exact ⟨o.st, o.body, o.room, o.crlf, o.data, o.size, o.line, o.ends, o.len, o.small⟩
/-! All bytes. -/
theorem ChOk.fresh {r : ChP} (o : ChOk r) : ChOk { r with line := [] } := ⟨o.st, o.body, o.room, (fun _ => .inl rfl), (fun _ => rfl), (fun _ => show (0 : Nat) ≤ 65 by decide), show (0 : Nat) ≤ 257 by decide, o.ends, o.len, o.small⟩
theorem ChOk.bad {r : ChP} (o : ChOk r) (n : Int) : ChOk { r with status := n } := ⟨o.st, o.body, o.room, o.crlf, o.data, o.size, o.line, o.ends, o.len, o.small⟩
theorem ChOk.one {r : ChP} (o : ChOk r) (c : UInt8) : ChOk (oneP r c) := by
  unfold oneP
  split
  · rename_i h1
    obtain ⟨hl, hb⟩ := o.room h1
    have hd := o.data h1
    refine ⟨?_, ?_, ?_, ?_, ?_, ?_, ?_, o.ends, o.len, o.small⟩
    · show (if r.left = 1 then 2 else 1) ≤ 3; split <;> omega
    · show (r.body ++ [c]).length ≤ 2048; rw [List.length_append]; simp; omega
    · intro h
      have hne : r.left ≠ 1 := by intro e; simp only [dataP, e, if_true] at h; cases h
      exact ⟨by show 1 ≤ r.left - 1; omega, by show (r.body ++ [c]).length + (r.left - 1) ≤ 2048; rw [List.length_append]; simp; omega⟩
    · intro _; left; show (if r.left = 1 then [] else r.line) = []; split
      · rfl
      · exact hd
    · intro _; show (if r.left = 1 then [] else r.line) = []; split
      · rfl
      · exact hd
    · intro _; show (if r.left = 1 then [] else r.line).length ≤ 65; split
      · decide
      · rw [hd]; decide
    · show (if r.left = 1 then [] else r.line).length ≤ 257; split
      · decide
      · rw [hd]; decide
  · split
    · rename_i h1 h2
      unfold crlfP
      split
      · split
        · exact ⟨o.st, o.body, o.room, (fun _ => .inr rfl), (fun h => absurd h h1), (fun h => by rw [show r.state = 2 from h2] at h; cases h), by show [(13 : UInt8)].length ≤ 257; decide, o.ends, o.len, o.small⟩
        · exact o.bad 400
      · split
        · exact ⟨show (0 : Nat) ≤ 3 by decide, o.body, (fun h => by cases h), (fun h => by cases h), (fun h => by cases h), (fun _ => show (0 : Nat) ≤ 65 by decide), show (0 : Nat) ≤ 257 by decide, o.ends, o.len, o.small⟩
        · exact o.bad 400
    · rename_i h1 h2
      split
      · unfold endP
        split
        · split
          · rename_i h0; exact sizeP_ok o.fresh rfl h0
          · rename_i h0; exact trailP_ok o.fresh (by show r.state = 3; have := o.st; omega)
        · exact o.bad 400
      · unfold growP
        split
        · exact o.bad 400
        · split
          · exact o.bad 431
          · rename_i h3 h4
            have hcnt : ∀ c, r.line.length ≤ cntL r.line c := fun c => by unfold cntL; split <;> omega
            have hc := hcnt c
            have hc2 : r.line.length + 1 ≤ cntL r.line c + 1 := by omega
            refine ⟨o.st, o.body, o.room, (fun h => absurd h h2), (fun h => absurd h h1), ?_, ?_, o.ends, o.len, o.small⟩
            · intro h0
              have : ¬ 64 < cntL r.line c := fun h => h3 ⟨h0, h⟩
              show (r.line ++ [c]).length ≤ 65; rw [List.length_append]; simp; omega
            · show (r.line ++ [c]).length ≤ 257
              rw [List.length_append]; simp
              by_cases h0 : r.state = 0
              · have : ¬ 64 < cntL r.line c := fun h => h3 ⟨h0, h⟩
                omega
              · have : ¬ 256 < cntL r.line c := fun h => h4 ⟨h0, .inl h⟩
                omega
theorem ChOk.feed : ∀ (l : List UInt8) {r : ChP}, ChOk r → ChOk (feedP r l).1
  | [], r, o => o
  | c :: l, r, o => by
    cases h : doneC r with
    | true => rw [feed_done h]; exact o
    | false => rw [feed_cons h]; exact ChOk.feed l (o.one c)

/-! How the code counts. -/
def lnC (r : ChP) : List UInt8 := if r.state = 1 ∨ r.state = 2 then [] else r.line
def lfC (r : ChP) : Nat := if r.state = 1 then r.left + 2 else if r.state = 2 then (if r.line = [] then 2 else 1) else 0
def laC (r : ChP) : Bool := decide (r.state = 3)
/-- How many bytes of a line count. -/
def cntT (L : List UInt8) : Nat := if L.getLast? = some 13 then L.length - 1 else L.length
theorem cntT_snoc (L : List UInt8) (c : UInt8) : cntT (L ++ [c]) = cntL L c := by
  unfold cntT cntL
  rw [List.getLast?_append]
  simp
/-- What weigh answers. -/
def wgS (last : Bool) (e : Nat) (L : List UInt8) : Int := if last = false then (if 64 < cntT L then 400 else 0) else if 256 < cntT L ∨ 512 < e + cntT L then 431 else 0
theorem grow_wg {r : ChP} {c : UInt8} (h0 : r.status = 0) (hs : r.state = 0 ∨ r.state = 3) : (growP r c).status = wgS (laC r) r.ends (r.line ++ [c]) ∧ (growP r c).body = r.body ∧ (growP r c).trail = r.trail ∧ (growP r c).whole = r.whole ∧ ((growP r c).status = 0 → growP r c = { r with line := r.line ++ [c] }) := by
  unfold growP wgS
  rw [cntT_snoc]
  rcases hs with hs | hs
  · have e1 : laC r = false := by unfold laC; rw [hs]; rfl
    rw [e1, if_pos rfl]
    by_cases h : 64 < cntL r.line c
    · rw [if_pos ⟨hs, h⟩, if_pos h]; exact ⟨rfl, rfl, rfl, rfl, fun h => by cases h⟩
    · rw [if_neg (fun x => h x.2), if_neg (fun x => x.1 hs), if_neg h]; exact ⟨h0, rfl, rfl, rfl, fun _ => rfl⟩
  · have e1 : laC r = true := by unfold laC; rw [hs]; rfl
    have hs0 : r.state ≠ 0 := by omega
    rw [e1, if_neg (show ¬ (r.state = 0 ∧ 64 < cntL r.line c) from fun x => hs0 x.1), if_neg (show ¬ (true = false) by decide)]
    by_cases h : 256 < cntL r.line c ∨ 512 < r.ends + cntL r.line c
    · rw [if_pos ⟨hs0, h⟩, if_pos h]; exact ⟨rfl, rfl, rfl, rfl, fun h => by cases h⟩
    · rw [if_neg (fun x => h x.2), if_neg h]; exact ⟨h0, rfl, rfl, rfl, fun _ => rfl⟩
end Go.Proofs.YtgkhelbpccehcaaGreatDoor

/- Rows of bytes behind a slice of slices. No text of the program. -/
namespace Go.Proofs.YtgkhelbpccehcaaGreatDoor
open Go.RowKit
set_option linter.unusedVariables false
set_option linter.unusedSimpArgs false

/-- Rows of bytes lie behind a slice of slices. -/
def PsAt (W : World) (v : Value) (ps : List (List UInt8)) : Prop :=
  (ps = [] ∧ ∃ a cap, v = .slice a 0 cap) ∨
  ∃ (b off cap : Nat), v = .slice (some ⟨b, off, none⟩) ps.length cap ∧ 0 < ps.length ∧ b < W.heap.size ∧ ∀ j (h : j < ps.length), ∃ u, W.cell? ⟨b, off + j, none⟩ = some u ∧ BsAt W u ps[j]
theorem PsAt.low {W W' : World} {v : Value} {ps : List (List UInt8)} (h : PsAt W v ps) (hm : Mods [] W W') : PsAt W' v ps := by
  rcases h with h | ⟨b, off, cap, rfl, h0, hlt, hc⟩
  · exact .inl h
  · refine .inr ⟨b, off, cap, rfl, h0, Nat.lt_of_lt_of_le hlt hm.size, fun j hj => ?_⟩
    obtain ⟨u, h1, h2⟩ := hc j hj
    exact ⟨u, cell_mods h1 hm (by simp), h2.low hm⟩
theorem PsAt.len {W : World} {v : Value} {ps : List (List UInt8)} (h : PsAt W v ps) : ∃ a cap, v = .slice a ps.length cap := by
  rcases h with ⟨rfl, a, cap, rfl⟩ | ⟨b, off, cap, rfl, _⟩
  · exact ⟨a, cap, rfl⟩
  · exact ⟨_, cap, rfl⟩
theorem PsAt.one {W : World} {u : Value} {p : List UInt8} (h : BsAt W u p) (t : TypeId) : PsAt (W.alloc (.cells #[u] t)) (.slice (some ⟨W.heap.size, 0, none⟩) 1 1) [p] :=
  .inr ⟨_, 0, 1, rfl, by simp, by simp, fun j hj => by
    have : j = 0 := by simp only [List.length_cons, List.length_nil] at hj; omega
    subst this
    exact ⟨u, (Row.new W t #[u]).cell 0, h.low ((Mods.refl [] W).alloc _)⟩⟩
end Go.Proofs.YtgkhelbpccehcaaGreatDoor

/- Bytes, rows of bytes, numbers that came in. Condition: they lie within the reach. -/
namespace Go.Proofs.YtgkhelbpccehcaaGreatDoor
open Go.ChangeShapes Go.WideShapes Go.ChangeAt Go.RowKit Go.Deep
set_option maxRecDepth 10000
set_option linter.unusedVariables false
set_option linter.unusedSimpArgs false

theorem u8_wf14 {n : Int} (h : (Lit.int .u8 n).wf = true) : 0 ≤ n ∧ n ≤ 255 := by simpa [Lit.wf, IntKind.min, IntKind.max, IntKind.signed, IntKind.bits] using h
theorem ofNat_toNat14 {z : Int} (h : 0 ≤ z ∧ z ≤ 255) : ((UInt8.ofNat z.toNat).toNat : Int) = z := by
  rw [UInt8.toNat_ofNat']; omega
theorem addr_add14 (b off j : Nat) : (⟨b, off, none⟩ : Addr).add j = ⟨b, off + j, none⟩ := by
  unfold Addr.add; split <;> simp_all
section
variable {H : Type} {enc : TypeId × Value → H} {W : World} {base : Nat} {held : Bool} {b0 : Nat}
theorem trod_bs {fuel : Nat} {c : Value} {x : DataW H × List MemPlace} (h : DataW.trod enc Tryz.prog W base (fun _ => true) held fuel 22 [c] = some x) (hsz : ∀ n ∈ x.1.weights Tryz.prog 22, n ≤ reachBytes) :
    ∃ l : List UInt8, BsAt W c l := by
  rcases open_ints Tryz.underlying22 Tryz.underlying5 (by kernel_rfl) h with ⟨hcs, _⟩ | ⟨x, l, cp, zs, hcs, _, hl, hm, hz, hx, hcell, hws⟩
  · injection hcs with hcs
    subst hcs
    exact ⟨[], .inl ⟨rfl, _, _, rfl⟩⟩
  · injection hcs with hcs
    subst hcs
    have hz' : zs.length = cp := by simpa using hz
    have hcp : cp ≤ reachBytes := by
      have hb : Tryz.prog.bytesOf 5 = 1 := by kernel_rfl
      have := hsz _ (by rw [hx]; simp only [DataW.weights, Tryz.underlying22]; exact List.mem_cons_self)
      simp only [lits, List.length_map, List.length_take, List.length_drop, hb] at this
      omega
    have hrb : reachBytes = 140737488351232 := rfl
    have hlen : ((zs.take l).map fun z => UInt8.ofNat z.toNat).length = l := by rw [List.length_map, List.length_take]; omega
    by_cases h0 : l = 0
    · subst h0
      exact ⟨[], .inl ⟨rfl, _, _, rfl⟩⟩
    · obtain ⟨b, off, spot⟩ := x
      have hc0 := hcell 0 (by omega)
      have hspot : spot = none := by simpa [Addr.add] using World.cell?_spot hc0
      subst hspot
      refine ⟨(zs.take l).map fun z => UInt8.ofNat z.toNat, .inr ⟨b, off, cp, by rw [hlen], by rw [hlen]; omega, ?_, by rw [hlen]; omega, by omega, fun i hi => ?_⟩⟩
      · have := World.block_lt_of_cell? W _ hc0
        simpa [addr_add14] using this
      · rw [hlen] at hi
        have hi2 : i < zs.length := by omega
        have hc := hcell i hi2
        rw [List.getD_eq_getElem?_getD, List.getElem?_eq_getElem hi2, Option.getD_some, addr_add14] at hc
        rw [hc]
        simp only [List.getElem_map, List.getElem_take]
        rw [ofNat_toNat14 (u8_wf14 (hws _ (List.getElem_mem hi2)))]
theorem open_bs14 {v : Value} {d : DataW H} {p : List MemPlace} (hv : Value.okWide Tryz.prog W .any b0 22 v) (h : DataW.Trod enc Tryz.prog W base (fun _ => true) held 22 v d p) (hsz : ∀ n ∈ d.weights Tryz.prog 22, n ≤ reachBytes) :
    ∃ l : List UInt8, BsAt W v l := by
  obtain ⟨a0, len0, cap0, rfl⟩ := okWide_slice Tryz.underlying22 hv
  obtain ⟨fuel, hf⟩ := h
  exact trod_bs hf hsz
theorem open_rows14 {v : Value} {d : DataW H} {p : List MemPlace} (hv : Value.okWide Tryz.prog W .any b0 59 v) (h : DataW.Trod enc Tryz.prog W base (fun _ => true) held 59 v d p) (hsz : ∀ n ∈ d.weights Tryz.prog 59, n ≤ reachBytes) : ∃ ps, PsAt W v ps ∧ ps.length ≤ 9223372036854775807 := by
  obtain ⟨a0, len0, cap0, rfl⟩ := okWide_slice Tryz.underlying59 hv
  obtain ⟨fuel, hf⟩ := h
  rcases open_slice Tryz.underlying59 hf with ⟨hcs, _⟩ | ⟨x, l, c, m, n, D, Pl, hcs, _, hl, hm, hmm, hx, hi⟩
  · simp [Value.cells] at hcs
    obtain ⟨rfl, rfl, rfl⟩ := hcs
    exact ⟨[], .inl ⟨rfl, _, _, rfl⟩, by simp⟩
  · simp [Value.cells] at hcs
    obtain ⟨rfl, rfl, rfl⟩ := hcs
    by_cases h0 : len0 = 0
    · subst h0; exact ⟨[], .inl ⟨rfl, _, _, rfl⟩, by simp⟩
    · have hmz : len0 ≤ m := by rw [hmm]; split <;> omega
      have hC : Tryz.prog.cellsOf 22 = 1 := by kernel_rfl
      rw [hC] at hi
      simp only [Prod.mk.injEq] at hx
      obtain ⟨hd, _⟩ := hx
      have each : ∀ i, i < len0 → ∃ q : Value × List UInt8, W.cell? ((x.add (i * 1)).add 0) = some q.1 ∧ BsAt W q.1 q.2 := by
        intro i him
        obtain ⟨cs', hc, ht⟩ := hi i (by omega)
        obtain ⟨_, hcl, hat⟩ := World.cells?_some hc
        match cs', hcl with
        | [c0], _ =>
          obtain ⟨r, w⟩ := trod_bs ht (fun n hn => by
            refine hsz n ?_
            rw [hd]
            simp only [DataW.weights, Tryz.underlying59]
            exact List.mem_cons_of_mem _ (List.mem_append_left _ (weights_all hn (List.mem_map.2 ⟨i, List.mem_range.2 him, rfl⟩))))
          exact ⟨(c0, r), hat 0 (by decide), w⟩
      obtain ⟨b, off, spot⟩ := x
      obtain ⟨q0, hc0, _⟩ := each 0 (by omega)
      have hspot : spot = none := by simpa [Addr.add] using World.cell?_spot hc0
      subst hspot
      have hb : b < W.heap.size := by
        have := World.block_lt_of_cell? W _ hc0
        simpa [addr_add14] using this
      simp only [addr_add14, Nat.add_zero, Nat.mul_one] at each
      let g : Nat → Value × List UInt8 := fun j => if h : j < len0 then Classical.choose (each j h) else q0
      have hg : ∀ j, j < len0 → W.cell? ⟨b, off + j, none⟩ = some (g j).1 ∧ BsAt W (g j).1 (g j).2 := fun j hj => by
        have := Classical.choose_spec (each j hj)
        simp only [g, dif_pos hj]
        exact this
      refine ⟨(List.range len0).map fun j => (g j).2, .inr ⟨b, off, cap0, by rw [List.length_map, List.length_range], by rw [List.length_map, List.length_range]; omega, hb, fun j hj => ?_⟩, by rw [List.length_map, List.length_range]; unfold maxLen at hm; omega⟩
      rw [List.length_map, List.length_range] at hj
      refine ⟨(g j).1, (hg j hj).1, ?_⟩
      simp only [List.getElem_map, List.getElem_range]
      exact (hg j hj).2
end
end Go.Proofs.YtgkhelbpccehcaaGreatDoor

/- Readers of chunks in memory, the code's and the document's, over one plain reader. No program but for the types' numbers. -/
namespace Go.Proofs.YtgkhelbpccehcaaGreatDoor
open Go.RowKit
set_option linter.unusedVariables false
set_option linter.unusedSimpArgs false

/-- What turned of blocks F, and which ones are held behind it. -/
structure Grew (F F' : List Nat) (w w' : World) : Prop where
  mods : Mods F w w'
  news : ∀ k ∈ F', k ∈ F ∨ w.heap.size ≤ k
theorem Grew.refl (F : List Nat) (w : World) : Grew F F w w := ⟨Mods.refl _ _, fun k hk => .inl hk⟩
theorem Grew.trans {F F1 F2 : List Nat} {w w1 w2 : World} (h1 : Grew F F1 w w1) (h2 : Grew F1 F2 w1 w2) : Grew F F2 w w2 :=
  ⟨h1.mods.trans h2.mods h1.news, fun k hk => by
    rcases h2.news k hk with h | h
    · exact h1.news k h
    · exact .inr (Nat.le_trans h1.mods.size h)⟩
theorem Grew.low {F F1 : List Nat} {w w1 w2 : World} (h1 : Grew F F1 w w1) (h2 : Mods [] w1 w2) : Grew F F1 w w2 := ⟨h1.mods.trans h2 (fun _ h => nomatch h), h1.news⟩
theorem Grew.of_low {F : List Nat} {w w1 : World} (h : Mods [] w w1) : Grew F F w w1 := ⟨h.more (fun _ h => nomatch h), fun k hk => .inl hk⟩
theorem own_ne_own {w : World} {e e' : TypeId} {s s' n n' : Nat} {v v' : Value} {xs xs' : List Value} (h : w.ownsRow 0 e s v n xs) (h' : w.ownsRow 0 e' s' v' n' xs') (hne : e ≠ e') : ∀ k ∈ v.ownBlock.toList, k ∉ v'.ownBlock.toList := by
  intro k hk hk'
  rcases h'.2 with ⟨rfl, _⟩ | ⟨g', cap, cur, rfl, _, hh, _⟩
  · simp [Value.ownBlock] at hk'
  · have : k = g' := by simpa [Value.ownBlock, eq_comm] using hk'
    subst this
    exact own_ne_row h (show Row w k e' cur from hh) hne k hk rfl

/-- An object with three rows of its own: bytes of a line, bytes of a body, fields. -/
structure Rd3 (t : TypeId) (cs : Value → Value → Value → Array Value) (g : Nat) (vl vb vt : Value) (w : World) (L B : List UInt8) (T : List FV) : Prop where
  row : Row w g t (cs vl vb vt)
  line : BRow w vl L
  body : BRow w vb B
  trail : w.ownsRow 0 81 2 vt T.length (encF T)
  apart : ∀ k ∈ vl.ownBlock.toList, k ∉ vb.ownBlock.toList
/-- Its blocks. -/
abbrev rdb (g : Nat) (vl vb vt : Value) : List Nat := g :: (vl.ownBlock.toList ++ (vb.ownBlock.toList ++ vt.ownBlock.toList))
section
variable {t : TypeId} {cs cs' : Value → Value → Value → Array Value} {g : Nat} {vl vb vt v' : Value} {w w' w4 : World} {L B L' B' : List UInt8} {T T' : List FV} {F : List Nat}
theorem Rd3.mods (c : Rd3 t cs g vl vb vt w L B T) (hm : Mods F w w') (hF : ∀ k ∈ rdb g vl vb vt, k ∉ F) : Rd3 t cs g vl vb vt w' L B T :=
  ⟨c.row.mods hm (hF g (by simp)), c.line.mods hm (fun k hk => hF k (by simp [hk])), c.body.mods hm (fun k hk => hF k (by simp [hk])), own_mods c.trail hm (fun k hk => hF k (by simp [hk])), c.apart⟩
theorem Rd3.low (c : Rd3 t cs g vl vb vt w L B T) (hm : Mods [] w w') : Rd3 t cs g vl vb vt w' L B T := c.mods hm (by simp)
theorem Rd3.lt (c : Rd3 t cs g vl vb vt w L B T) : ∀ k ∈ rdb g vl vb vt, k < w.heap.size := by
  intro k hk
  simp only [List.mem_cons, List.mem_append] at hk
  rcases hk with rfl | hk | hk | hk
  · exact c.row.lt
  · exact c.line.lt k hk
  · exact c.body.lt k hk
  · exact own_lt c.trail k hk
theorem Rd3.ne_l (c : Rd3 t cs g vl vb vt w L B T) (ht : 5 ≠ t := by decide) : ∀ k ∈ vl.ownBlock.toList, k ≠ g := own_ne_row c.line c.row ht
theorem Rd3.ne_b (c : Rd3 t cs g vl vb vt w L B T) (ht : 5 ≠ t := by decide) : ∀ k ∈ vb.ownBlock.toList, k ≠ g := own_ne_row c.body c.row ht
theorem Rd3.ne_t (c : Rd3 t cs g vl vb vt w L B T) (ht : 81 ≠ t := by decide) : ∀ k ∈ vt.ownBlock.toList, k ≠ g := own_ne_row c.trail c.row ht
/-- A cell that is none of the three slices. -/
theorem Rd3.set (c : Rd3 t cs g vl vb vt w L B T) (i : Nat) (u : Value) (he : (cs vl vb vt).setIfInBounds i u = cs' vl vb vt) (ht : 5 ≠ t := by decide) (hf : 81 ≠ t := by decide) :
    Rd3 t cs' g vl vb vt (w.setCell ⟨g, i, none⟩ u) L B T := by
  have hm : Mods [g] w (w.setCell ⟨g, i, none⟩ u) := (Mods.refl [g] w).setCell (.inl (by simp)) u
  exact ⟨he ▸ c.row.set i u, c.line.mods hm (fun k hk => by simpa using c.ne_l ht k hk), c.body.mods hm (fun k hk => by simpa using c.ne_b ht k hk), own_mods c.trail hm (fun k hk => by simpa using c.ne_t hf k hk), c.apart⟩
theorem Rd3.put (c : Rd3 t cs g vl vb vt w L B T) (i : Nat) (u : Value) (hm : Mods F w w4) (hF : ∀ k ∈ F, k ∈ rdb g vl vb vt) (hn : ∀ k ∈ rdb g v' vb vt, k ∈ rdb g vl vb vt ∨ w.heap.size ≤ k) : Grew (rdb g vl vb vt) (rdb g v' vb vt) w (w4.setCell ⟨g, i, none⟩ u) :=
  ⟨(hm.more (fun k hk => .inl (hF k hk))).setCell (.inl (by simp)) u, hn⟩
theorem Rd3.set_grew (c : Rd3 t cs g vl vb vt w L B T) (i : Nat) (u : Value) : Grew (rdb g vl vb vt) (rdb g vl vb vt) w (w.setCell ⟨g, i, none⟩ u) :=
  ⟨(Mods.refl _ w).setCell (.inl (by simp)) u, fun k hk => .inl hk⟩
/-- The line's row is another one. -/
theorem Rd3.putL (c : Rd3 t cs g vl vb vt w L B T) (h : BRow w4 v' L') (hm : Mods vl.ownBlock.toList w w4) (hn : ∀ k ∈ v'.ownBlock.toList, k ∈ vl.ownBlock.toList ∨ w.heap.size ≤ k) (i : Nat) (he : (cs vl vb vt).setIfInBounds i v' = cs' v' vb vt)
    (ht : 5 ≠ t := by decide) (hf : 81 ≠ t := by decide) :
    Rd3 t cs' g v' vb vt (w4.setCell ⟨g, i, none⟩ v') L' B T ∧ Grew (rdb g vl vb vt) (rdb g v' vb vt) w (w4.setCell ⟨g, i, none⟩ v') := by
  have hr := c.row.mods hm (fun hk => c.ne_l ht g hk rfl)
  have hm2 : Mods [g] w4 (w4.setCell ⟨g, i, none⟩ v') := (Mods.refl [g] w4).setCell (.inl (by simp)) v'
  refine ⟨⟨he ▸ hr.set i v', h.mods hm2 (fun k hk => by simpa using own_ne_row h hr ht k hk), ?_, ?_, ?_⟩, ⟨(hm.more (fun k hk => .inl (by simp [hk]))).setCell (.inl (by simp)) v', ?_⟩⟩
  · exact (c.body.mods hm (fun k hk hk2 => c.apart k hk2 hk)).mods hm2 (fun k hk => by simpa using c.ne_b ht k hk)
  · exact own_mods (own_mods c.trail hm (fun k hk hk2 => own_ne_own c.line c.trail (by decide) k hk2 hk)) hm2 (fun k hk => by simpa using c.ne_t hf k hk)
  · intro k hk hb
    rcases hn k hk with h | h
    · exact c.apart k h hb
    · have := c.body.lt k hb; omega
  · intro k hk
    simp only [List.mem_cons, List.mem_append] at hk ⊢
    rcases hk with hk | hk | hk | hk
    · exact .inl (.inl hk)
    · rcases hn k hk with h | h
      · exact .inl (.inr (.inl h))
      · exact .inr h
    · exact .inl (.inr (.inr (.inl hk)))
    · exact .inl (.inr (.inr (.inr hk)))
/-- The body's row is another one. -/
theorem Rd3.putB (c : Rd3 t cs g vl vb vt w L B T) (h : BRow w4 v' B') (hm : Mods vb.ownBlock.toList w w4) (hn : ∀ k ∈ v'.ownBlock.toList, k ∈ vb.ownBlock.toList ∨ w.heap.size ≤ k) (i : Nat) (he : (cs vl vb vt).setIfInBounds i v' = cs' vl v' vt)
    (ht : 5 ≠ t := by decide) (hf : 81 ≠ t := by decide) :
    Rd3 t cs' g vl v' vt (w4.setCell ⟨g, i, none⟩ v') L B' T ∧ Grew (rdb g vl vb vt) (rdb g vl v' vt) w (w4.setCell ⟨g, i, none⟩ v') := by
  have hr := c.row.mods hm (fun hk => c.ne_b ht g hk rfl)
  have hm2 : Mods [g] w4 (w4.setCell ⟨g, i, none⟩ v') := (Mods.refl [g] w4).setCell (.inl (by simp)) v'
  refine ⟨⟨he ▸ hr.set i v', ?_, h.mods hm2 (fun k hk => by simpa using own_ne_row h hr ht k hk), ?_, ?_⟩, ⟨(hm.more (fun k hk => .inl (by simp [hk]))).setCell (.inl (by simp)) v', ?_⟩⟩
  · exact (c.line.mods hm (fun k hk hk2 => c.apart k hk hk2)).mods hm2 (fun k hk => by simpa using c.ne_l ht k hk)
  · exact own_mods (own_mods c.trail hm (fun k hk hk2 => own_ne_own c.body c.trail (by decide) k hk2 hk)) hm2 (fun k hk => by simpa using c.ne_t hf k hk)
  · intro k hk hb
    rcases hn k hb with h | h
    · exact c.apart k hk h
    · have := c.line.lt k hk; omega
  · intro k hk
    simp only [List.mem_cons, List.mem_append] at hk ⊢
    rcases hk with hk | hk | hk | hk
    · exact .inl (.inl hk)
    · exact .inl (.inr (.inl hk))
    · rcases hn k hk with h | h
      · exact .inl (.inr (.inr (.inl h)))
      · exact .inr h
    · exact .inl (.inr (.inr (.inr hk)))
/-- The fields' row is another one. -/
theorem Rd3.putT (c : Rd3 t cs g vl vb vt w L B T) (h : w4.ownsRow 0 81 2 v' T'.length (encF T')) (hm : Mods vt.ownBlock.toList w w4) (hn : ∀ k ∈ v'.ownBlock.toList, k ∈ vt.ownBlock.toList ∨ w.heap.size ≤ k) (i : Nat) (he : (cs vl vb vt).setIfInBounds i v' = cs' vl vb v')
    (ht : 5 ≠ t := by decide) (hf : 81 ≠ t := by decide) :
    Rd3 t cs' g vl vb v' (w4.setCell ⟨g, i, none⟩ v') L B T' ∧ Grew (rdb g vl vb vt) (rdb g vl vb v') w (w4.setCell ⟨g, i, none⟩ v') := by
  have hr := c.row.mods hm (fun hk => c.ne_t hf g hk rfl)
  have hm2 : Mods [g] w4 (w4.setCell ⟨g, i, none⟩ v') := (Mods.refl [g] w4).setCell (.inl (by simp)) v'
  refine ⟨⟨he ▸ hr.set i v', ?_, ?_, own_mods h hm2 (fun k hk => by simpa using own_ne_row h hr hf k hk), c.apart⟩, ⟨(hm.more (fun k hk => .inl (by simp [hk]))).setCell (.inl (by simp)) v', ?_⟩⟩
  · exact (c.line.mods hm (fun k hk hk2 => own_ne_own c.line c.trail (by decide) k hk hk2)).mods hm2 (fun k hk => by simpa using c.ne_l ht k hk)
  · exact (c.body.mods hm (fun k hk hk2 => own_ne_own c.body c.trail (by decide) k hk hk2)).mods hm2 (fun k hk => by simpa using c.ne_b ht k hk)
  · intro k hk
    simp only [List.mem_cons, List.mem_append] at hk ⊢
    rcases hk with hk | hk | hk | hk
    · exact .inl (.inl hk)
    · exact .inl (.inr (.inl hk))
    · exact .inl (.inr (.inr (.inl hk)))
    · rcases hn k hk with h | h
      · exact .inl (.inr (.inr (.inr h)))
      · exact .inr h
end

/-! The code's reader. -/
def ckCells (left : Nat) (last : Bool) (e : Nat) (whole : Bool) (st : Int) (vl vb vt : Value) : Array Value := #[vl, .int .i64 left, vb, .bool last, .int .i64 e, vt, .bool whole, .int .i64 st]
abbrev CkC (g : Nat) (vl vb vt : Value) (w : World) (L : List UInt8) (left : Nat) (last : Bool) (e : Nat) (B : List UInt8) (T : List FV) (whole : Bool) (st : Int) : Prop := Rd3 109 (ckCells left last e whole st) g vl vb vt w L B T
theorem CkC.facts {g : Nat} {vl vb vt : Value} {w : World} {L B : List UInt8} {left e : Nat} {last whole : Bool} {T : List FV} {st : Int} (c : CkC g vl vb vt w L left last e B T whole st) :
    w.cell? ⟨g, 0, none⟩ = some vl ∧ w.cell? ⟨g, 1, none⟩ = some (.int .i64 left) ∧ w.cell? ⟨g, 2, none⟩ = some vb ∧ w.cell? ⟨g, 3, none⟩ = some (.bool last) ∧ w.cell? ⟨g, 4, none⟩ = some (.int .i64 e) ∧ w.cell? ⟨g, 5, none⟩ = some vt ∧ w.cell? ⟨g, 6, none⟩ = some (.bool whole) ∧ w.cell? ⟨g, 7, none⟩ = some (.int .i64 st) :=
  ⟨c.row.cell 0, c.row.cell 1, c.row.cell 2, c.row.cell 3, c.row.cell 4, c.row.cell 5, c.row.cell 6, c.row.cell 7⟩
/-- How the code counts where it is. -/
def RelC (r : ChP) (L : List UInt8) (left : Nat) (last : Bool) (e : Nat) : Prop := doneC r = false → L = lnC r ∧ left = lfC r ∧ last = laC r ∧ e = r.ends
/-- The code's reader, as a law holds it: F are its blocks. -/
structure CkA (F : List Nat) (w : World) (g : Nat) (r : ChP) : Prop where
  ex : ∃ vl vb vt L left last e, CkC g vl vb vt w L left last e r.body r.trail r.whole r.status ∧ F = rdb g vl vb vt ∧ RelC r L left last e
  ok : ChOk r
/-- What a byte has made, ahead of the storing of its status. -/
def TookC (g : Nat) (vl vb vt : Value) (w : World) (r : ChP) (w' : World) : Prop :=
  ∃ ul ub ut L left last e, CkC g ul ub ut w' L left last e r.body r.trail r.whole 0 ∧ RelC r L left last e ∧ Grew (rdb g vl vb vt) (rdb g ul ub ut) w w'
theorem CkA.mods {F G : List Nat} {w w' : World} {g : Nat} {r : ChP} (a : CkA F w g r) (hm : Mods G w w') (hF : ∀ k ∈ F, k ∉ G) : CkA F w' g r := by
  obtain ⟨vl, vb, vt, L, left, last, e, c, rfl, hz⟩ := a.ex
  exact ⟨⟨vl, vb, vt, L, left, last, e, c.mods hm hF, rfl, hz⟩, a.ok⟩
theorem CkA.low {F : List Nat} {w w' : World} {g : Nat} {r : ChP} (a : CkA F w g r) (hm : Mods [] w w') : CkA F w' g r := a.mods hm (by simp)
theorem CkA.lt {F : List Nat} {w : World} {g : Nat} {r : ChP} (a : CkA F w g r) : ∀ k ∈ F, k < w.heap.size := by
  obtain ⟨vl, vb, vt, L, left, last, e, c, rfl, hz⟩ := a.ex
  exact c.lt

/-! The document's reader. -/
def rfCells (state left e : Nat) (whole : Bool) (st : Int) (vl vb vt : Value) : Array Value := #[vb, vt, .bool whole, .int .i64 st, .int .i64 state, vl, .int .i64 left, .int .i64 e]
abbrev CkX (g : Nat) (vl vb vt : Value) (w : World) (L : List UInt8) (state left e : Nat) (B : List UInt8) (T : List FV) (whole : Bool) (st : Int) : Prop := Rd3 90 (rfCells state left e whole st) g vl vb vt w L B T
theorem CkX.facts {g : Nat} {vl vb vt : Value} {w : World} {L B : List UInt8} {state left e : Nat} {whole : Bool} {T : List FV} {st : Int} (c : CkX g vl vb vt w L state left e B T whole st) :
    w.cell? ⟨g, 0, none⟩ = some vb ∧ w.cell? ⟨g, 1, none⟩ = some vt ∧ w.cell? ⟨g, 2, none⟩ = some (.bool whole) ∧ w.cell? ⟨g, 3, none⟩ = some (.int .i64 st) ∧ w.cell? ⟨g, 4, none⟩ = some (.int .i64 state) ∧ w.cell? ⟨g, 5, none⟩ = some vl ∧ w.cell? ⟨g, 6, none⟩ = some (.int .i64 left) ∧ w.cell? ⟨g, 7, none⟩ = some (.int .i64 e) :=
  ⟨c.row.cell 0, c.row.cell 1, c.row.cell 2, c.row.cell 3, c.row.cell 4, c.row.cell 5, c.row.cell 6, c.row.cell 7⟩
/-- Where the document's reader is. -/
def RelX (r : ChP) (L : List UInt8) (state left e : Nat) : Prop := doneC r = false → L = r.line ∧ state = r.state ∧ (r.state = 1 → left = r.left) ∧ e = r.ends
structure CkR (F : List Nat) (w : World) (g : Nat) (r : ChP) : Prop where
  ex : ∃ vl vb vt L state left e, CkX g vl vb vt w L state left e r.body r.trail r.whole r.status ∧ F = rdb g vl vb vt ∧ RelX r L state left e
  ok : ChOk r
theorem CkR.mods {F G : List Nat} {w w' : World} {g : Nat} {r : ChP} (a : CkR F w g r) (hm : Mods G w w') (hF : ∀ k ∈ F, k ∉ G) : CkR F w' g r := by
  obtain ⟨vl, vb, vt, L, state, left, e, c, rfl, hz⟩ := a.ex
  exact ⟨⟨vl, vb, vt, L, state, left, e, c.mods hm hF, rfl, hz⟩, a.ok⟩
theorem CkR.low {F : List Nat} {w w' : World} {g : Nat} {r : ChP} (a : CkR F w g r) (hm : Mods [] w w') : CkR F w' g r := a.mods hm (by simp)
theorem CkR.lt {F : List Nat} {w : World} {g : Nat} {r : ChP} (a : CkR F w g r) : ∀ k ∈ F, k < w.heap.size := by
  obtain ⟨vl, vb, vt, L, state, left, e, c, rfl, hz⟩ := a.ex
  exact c.lt
end Go.Proofs.YtgkhelbpccehcaaGreatDoor
