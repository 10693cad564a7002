/- A path written with percents, of the code and of the document. Conditions: texts of at most a million bytes. -/
import Derived.Test.YtgckpoecdaioiaaTt11
import Derived.Test.YtgckpoecdaioiaaTl11
import Derived.Test.YtgckpoecdaioiaaTp11
import Derived.Deep.CutBlock
import Derived.Deep.RegionWith
namespace Go.Proofs.Ytgckpoecdaioiaa
open Go.RowKit
set_option linter.unusedVariables false
set_option linter.unusedSimpArgs false

def bysU (l : List UInt8) : List Value := bys l
theorem app_bytes {w0 w : World} {l : List UInt8} {v : Value} (h : GB w0 l v w) (l2 : List UInt8) (h2 : 0 < l2.length) (hroom : l.length + l2.length ≤ 9000000) :
    ∃ (g n' c' : Nat) (w' : World), (Builtin.append_ #[42, 42] 42 #[v, .slice (some ⟨w.heap.size, 0, none⟩) l2.length l2.length]).run Try.prog (w.alloc (.cells (bys l2).toArray 5)) = .ok (.slice (some ⟨g, 0, none⟩) n' c') w' ∧
      GB w0 (l ++ l2) (.slice (some ⟨g, 0, none⟩) n' c') w' := by
  obtain ⟨i0, hi, hz0, hz1, hz2⟩ := info_parts infoU8
  obtain ⟨v', w5, hrun, hown', hgrow, -, -⟩ := run_append_own_at (P := Try.prog) (w := w.alloc (.cells (bys l2).toArray 5)) w0.heap.size 42 42 5 i0 (.int .u8 0) 1 1 Try.underlying42 hi hz0 hz1 hz2 rfl (by decide)
    v l.length (bys l) (h.row.alloc _) ⟨w.heap.size, 0, none⟩ l2.length l2.length (bys l2) (by rw [bys_len, Nat.mul_one]) (cells_new w (bys l2) _) (fun u hu => by
      simp only [bys, List.mem_map] at hu
      obtain ⟨c, _, rfl⟩ := hu
      rfl) (by unfold maxLen; omega) (by omega) (by have := h.low.size; simp; omega)
  obtain ⟨m, hm⟩ : ∃ m, l2.length = m + 1 := ⟨l2.length - 1, by omega⟩
  rw [hm, ← Nat.add_assoc] at hown'
  obtain ⟨g, c', rfl⟩ := own_succ hown'
  refine ⟨g, _, c', w5, hrun, ?_, (h.low.alloc h.low.size _).grown hgrow (by have := h.low.size; simp; omega) fun k e => (h.row.lt k e).1⟩
  rw [List.length_append, show bys (l ++ l2) = bys l ++ bys l2 by simp [bys], hm, ← Nat.add_assoc]; exact hown'

theorem step_run_app2 {P : Program} {o : Oper} {a : Act} {w w' : World} {K : Act → World → Prop} {Q : Exit → Act → World → Prop} {s x : Operand} {t t2 : TypeId} {v u v' : Value}
    (ho : o.op = .call { callee := .builtin .append, args := #[s, x], argTypes := #[t, t2] }) (hs : a.eval s = v) (hx : a.eval x = u)
    (hr : (Builtin.append_ #[t, t2] o.type #[v, u]).run P w = .ok v' w') (hK : K (a.put o.dst v') w') : Oper.wp P o a w K Q := by
  unfold Oper.wp
  simp [execOp, ho, resolve, invoke, builtin, hs, hx, hr, Result.andThen]
  exact hK

theorem step_app2 {P : Program} {ops : Array Oper} {o : Oper} {a : Act} {w w' : World} {K : Act → World → Prop} {Q : Exit → Act → World → Prop} {E : Prop} (hgd : o.guard = none) {s x : Operand} {t t2 : TypeId} {v u v' : Value}
    (ho : o.op = .call { callee := .builtin .append, args := #[s, x], argTypes := #[t, t2] }) (hs : a.eval s = v) (hx : a.eval x = u)
    (hr : (Builtin.append_ #[t, t2] o.type #[v, u]).run P w = .ok v' w') (hK : K (a.put o.dst v') w') : if Region.wanted o (yielded ops a.tmps) = true then Oper.wp P o a w K Q else E := by
  have hw : Region.wanted o (yielded ops a.tmps) = true := by simp [Region.wanted, hgd]
  rw [if_pos hw]
  exact step_run_app2 ho hs hx hr hK
theorem app3 {w0 w : World} {l : List UInt8} {v : Value} (h : GB w0 l v w) (hroom : l.length + 3 ≤ 9000000) (x y : UInt8) :
    ∃ (g n' c' : Nat) (w' : World), (Builtin.append_ #[42, 42] 42 #[v, .slice (some ⟨w.heap.size, 0, none⟩) 3 3]).run Try.prog (w.alloc (.cells #[.int .u8 37, .int .u8 (x.toNat : Int), .int .u8 (y.toNat : Int)] 5)) = .ok (.slice (some ⟨g, 0, none⟩) n' c') w' ∧
      GB w0 (l ++ [37, x, y]) (.slice (some ⟨g, 0, none⟩) n' c') w' := app_bytes h [37, x, y] (by simp) hroom
theorem GB.drew {w0 w : World} {l : List UInt8} {v : Value} (h : GB w0 l v w) : GB w0 l v w.drew := h.below ⟨rfl, rfl, rfl, Nat.le_refl _, fun _ _ => rfl⟩
theorem and15 (c : UInt8) : bits BinOp.and IntKind.u8 (c.toNat : Int) 15 = (c.toNat : Int) % 16 := by
  have := by_byte (fun c => decide (bits BinOp.and IntKind.u8 (c.toNat : Int) 15 = (c.toNat : Int) % 16)) (by decide +kernel) c
  exact of_decide_eq_true this
theorem caps_all : ∀ n : Fin 16, (⟨#[48, 49, 50, 51, 52, 53, 54, 55, 56, 57, 65, 66, 67, 68, 69, 70]⟩ : ByteArray)[n.1]'(n.2) = capsL.getD n.1 0 := by decide +kernel
theorem caps_at (i : Int) (n : Nat) (hn : n < 16) (e : i.toNat = n) (hp : i.toNat < (⟨#[48, 49, 50, 51, 52, 53, 54, 55, 56, 57, 65, 66, 67, 68, 69, 70]⟩ : ByteArray).size) : (⟨#[48, 49, 50, 51, 52, 53, 54, 55, 56, 57, 65, 66, 67, 68, 69, 70]⟩ : ByteArray)[i.toNat]'hp = capsL.getD n 0 := by
  subst e
  exact caps_all ⟨i.toNat, hn⟩

set_option maxRecDepth 10000 in
set_option maxHeartbeats 1000000 in
theorem wpath_a (t : Tgt) (hp : t.path.size ≤ 1000) (hq : t.query.size ≤ 1000) (w : World) :
    Calls Try.prog 50 #[.agg #[.int .i64 t.form, .string t.host, .string t.path, .string t.query]] w fun e w' => e = .returned (.string (ofL (textL t))) ∧ Mods [] w w' := by
  obtain ⟨f, h, s, q⟩ := t
  simp only at hp hq
  have HX := Lib.hid (show textL ⟨f, h, s, q⟩ = pathL s.data.toList ++ queL q.data.toList from rfl)
  go_enter Try.func50, Try.ntmps50
  go_upto_region 2 with fail
  obtain ⟨w1, hw1⟩ : ∃ w1, w1 = w.alloc (.cells #[.int .i64 f, .string h, .string s, .string q] 23) := ⟨_, rfl⟩
  obtain ⟨n0, hn0⟩ : ∃ n0, n0 = w.heap.size := ⟨_, rfl⟩
  have HB := Lib.hid (show Row w1 n0 23 #[.int .i64 f, .string h, .string s, .string q] by rw [hw1, hn0]; exact Row.new w _ _)
  have HM := Lib.hid (show Mods [] w w1 by rw [hw1]; exact (Mods.refl [] w).alloc _)
  rw [← hw1, ← hn0]
  clear hw1 hn0
  have c2 := HB.out.cell 2
  simp only [List.getElem?_toArray, List.getElem?_cons_zero, List.getElem?_cons_succ] at c2
  have HG0 := Lib.hid (gb_nil w1)
  go_wp2
  clear c2
  go_loopw [3, 9] (fun v i wr => ∃ (k : Nat), k ≤ s.size ∧ i = .int .i64 k ∧ GB w1 (pathL (s.data.toList.take k)) v wr) (fun _ i _ => s.size - (intOf i).toNat)
  case atStart => exact ⟨0, Nat.zero_le _, rfl, HG0.out⟩
  case round =>
    obtain ⟨k, hk, rfl, hG⟩ := hrel
    have HG := Lib.hid hG
    have hR := HB.out.mods (Mods.of_below (F := []) hG.low) (by simp)
    have HR := Lib.hid hR
    have hlen := (pathL_len (s.data.toList.take k)).2
    rw [take_len s hk] at hlen
    clear hG
    by_cases hlt : k < s.size
    · have c2 := hR.cell 2
      simp only [List.getElem?_toArray, List.getElem?_cons_zero, List.getElem?_cons_succ] at c2
      have hsn := pathL_snoc (s.data.toList.take k) s[k]
      rw [← take_snoc s k hlt] at hsn
      clear hR
      cases hpl : plainB s[k] with
      | true =>
        rw [show pathB s[k] = [s[k]] by unfold pathB; rw [if_pos hpl]] at hsn
        have HC := Lib.hid (fun w => hpl ▸ plain_a s[k] w)
        obtain ⟨g, n', c', w3, hrun, hg4⟩ := app_byte HG.out (by omega) s[k]
        rw [← hsn] at hg4
        have HG4 := Lib.hid hg4
        clear hg4 hpl hsn
        go_wp2_with (first
          | (go_at_call 44; refine (HC.out _).mono ?_; rintro e w' ⟨rfl, rfl⟩)
          | (at_builtin; refine wpList_run_app rfl (.tmp 18) (.tmp 20) 42 42 rfl rfl rfl hrun ?_))
        go_roundw
        case rel => exact ⟨k + 1, by omega, by go_num, HG4.out⟩
        case measure => simp [intOf]; omega
      | false =>
        rw [show pathB s[k] = pctL s[k] by unfold pathB; rw [if_neg (by rw [hpl]; simp)]] at hsn
        have HC := Lib.hid (fun w => hpl ▸ plain_a s[k] w)
        have hb := s[k].toNat_lt
        have i1 : (0 : Int) ≤ (s[k].toNat : Int) / 16 := by omega
        have i2 : (s[k].toNat : Int) / 16 < 16 := by omega
        have hand := and15 s[k]
        have i3 : 0 ≤ bits BinOp.and IntKind.u8 (s[k].toNat : Int) 15 := by omega
        have i4 : bits BinOp.and IntKind.u8 (s[k].toNat : Int) 15 < 16 := by omega
        have hi1 : ((s[k].toNat : Int) / 16).toNat < (⟨#[48, 49, 50, 51, 52, 53, 54, 55, 56, 57, 65, 66, 67, 68, 69, 70]⟩ : ByteArray).size := by show _ < 16; omega
        have hi2 : (bits BinOp.and IntKind.u8 (s[k].toNat : Int) 15).toNat < (⟨#[48, 49, 50, 51, 52, 53, 54, 55, 56, 57, 65, 66, 67, 68, 69, 70]⟩ : ByteArray).size := by show _ < 16; omega
        obtain ⟨g, n', c', w3, hrun, hg4⟩ := app3 HG.out.drew (by omega) ((⟨#[48, 49, 50, 51, 52, 53, 54, 55, 56, 57, 65, 66, 67, 68, 69, 70]⟩ : ByteArray)[((s[k].toNat : Int) / 16).toNat]'hi1) ((⟨#[48, 49, 50, 51, 52, 53, 54, 55, 56, 57, 65, 66, 67, 68, 69, 70]⟩ : ByteArray)[(bits BinOp.and IntKind.u8 (s[k].toNat : Int) 15).toNat]'hi2)
        rw [caps_at _ (s[k].toNat / 16) (by omega) (by omega) hi1, caps_at _ (s[k].toNat % 16) (by omega) (by omega) hi2] at hg4
        rw [show (pathL (s.data.toList.take k) ++ [37, capsL.getD (s[k].toNat / 16) 0, capsL.getD (s[k].toNat % 16) 0]) = pathL (s.data.toList.take (k + 1)) from hsn.symm] at hg4
        have HG4 := Lib.hid hg4
        simp only [World.size_drew] at hrun
        change Sem.run _ _ (World.drew (World.alloc wr _)) = _ at hrun
        clear hg4 hpl hsn hb hand
        go_upto_region 8 with (go_at_call 44; refine (HC.out _).mono ?_; rintro e w' ⟨rfl, rfl⟩)
        go_region_law (refine step_app2 rfl rfl rfl rfl hrun ?_)
        all_goals
          clear hrun
          go_wp2
          go_roundw
          case rel => exact ⟨k + 1, by omega, by go_num, HG4.out⟩
          case measure => simp [intOf]; omega
    · have c3 := hR.cell 3
      simp only [List.getElem?_toArray, List.getElem?_cons_zero, List.getElem?_cons_succ] at c3
      have htk : s.data.toList.take k = s.data.toList := List.take_of_length_le (by rw [len_data]; omega)
      rw [htk] at HG
      have hlen2 := (pathL_len s.data.toList).2
      rw [len_data] at hlen2
      clear hR hlen htk
      by_cases hq0 : q.data.toList = []
      · have hz : q.size = 0 := by show q.data.toList.length = 0; rw [hq0]; rfl
        have e1 := emp_yes hz
        have HX2 := Lib.hid (show textL ⟨f, h, s, q⟩ = pathL s.data.toList by rw [HX.out]; unfold queL; rw [if_pos hq0]; simp)
        obtain ⟨A, c, rfl⟩ := HG.out.form
        have hback := conv_gat HG.out
        clear hz hq0
        go_wp2
        go_ret
        exact ⟨by rw [HX2.out]; rfl, HM.out.on (.of_below (HG.out.low))⟩
      · obtain ⟨e1, e2⟩ := emp_no (size_pos hq0)
        have HX2 := Lib.hid (show textL ⟨f, h, s, q⟩ = pathL s.data.toList ++ [63] ++ q.data.toList by rw [HX.out]; unfold queL; rw [if_neg hq0]; simp)
        clear hq0
        obtain ⟨g, n', c', w3, hrun, hg3⟩ := app_byte HG.out.drew (by omega) 63
        obtain ⟨g2, n2, d2, w4, hrun2, hg4⟩ := app_text hg3 q (by rw [List.length_append]; simp; omega) (by simp)
        have hR3 := HB.out.mods (Mods.of_below (F := []) hg3.low) (by simp)
        have d3 := hR3.cell 3
        simp only [List.getElem?_toArray, List.getElem?_cons_zero, List.getElem?_cons_succ] at d3
        have e3 := cell_alloc c3 (.cells #[.int .u8 63] 5)
        have HG4 := Lib.hid hg4
        have hback := conv_gat hg4
        rw [← HX2.out] at hback
        simp only [World.size_drew] at hrun
        change Sem.run _ _ (World.drew (World.alloc wr _)) = _ at hrun
        clear hg3 hg4 hR3
        go_upto_region 11 with fail
        go_region_law (first | (refine step_app2 rfl rfl rfl rfl hrun ?_) | (refine step_app2 rfl rfl rfl rfl hrun2 ?_))
        all_goals
          clear hrun hrun2
          go_wp2
          go_ret
          exact ⟨rfl, HM.out.on (.of_below (HG4.out.low))⟩
end Go.Proofs.Ytgckpoecdaioiaa
