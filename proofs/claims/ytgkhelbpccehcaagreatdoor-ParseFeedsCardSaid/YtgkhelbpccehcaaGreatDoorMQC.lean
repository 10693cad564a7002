/- Host of the document. Conditions: a text of at most a million bytes. -/
import Derived.Test.YtgkhelbpccehcaaGreatDoorMQB
import Derived.Deep.CutBlock
import Derived.Maps.AppendAt
import Derived.Lib.AppendStr
import Derived.Laws.IdiomStrings
import Derived.Laws.BytesArg
import Derived.Laws.MakeOwn
namespace Go.Proofs.YtgkhelbpccehcaaGreatDoor
open Go.RowKit
set_option linter.unusedVariables false
set_option linter.unusedSimpArgs false

theorem nm_len {s : ByteArray} {k : Nat} (hk : k < s.size) (h0 : (s.data.toList.take k).all nameB = true) (h : nameB s[k] = false) : (nmL s.data.toList).length = k := by
  unfold nmL
  exact upL_first (p := fun c => !nameB c) hk (by simpa using h0) (by simp [h])
theorem nm_full {s : ByteArray} (h0 : s.data.toList.all nameB = true) : (nmL s.data.toList).length = s.size := by
  have : nmL s.data.toList = s.data.toList := upL_all fun x hx => by simp [List.all_eq_true.1 h0 x hx]
  rw [this, len_data]
theorem name_al {c : UInt8} (h : alB c = true) : nameB c = true := by unfold nameB; rw [h]; rfl
theorem name_45 {c : UInt8} (h : c = 45) : nameB c = true := by subst h; decide +kernel
theorem name_46 {c : UInt8} (h : c = 46) : nameB c = true := by subst h; decide +kernel
theorem name_no {c : UInt8} (h : alB c = false) (h1 : c ≠ 45) (h2 : c ≠ 46) : nameB c = false := by
  unfold nameB inL; rw [h]
  simp only [List.any_cons, List.any_nil, Bool.or_false, Bool.false_or, Bool.or_eq_false_iff, beq_eq_false_iff_ne]
  exact ⟨Ne.symm h1, Ne.symm h2⟩
theorem b_yes {c : UInt8} (d : UInt8) (h : c = d) : ((c.toNat : Int) == (d.toNat : Int)) = true ∧ ((c.toNat : Int) != (d.toNat : Int)) = false := by subst h; simp
theorem b_no {c : UInt8} (d : UInt8) (h : c ≠ d) : ((c.toNat : Int) == (d.toNat : Int)) = false ∧ ((c.toNat : Int) != (d.toNat : Int)) = true := ne_int h
theorem first_of {u s : ByteArray} {k : Nat} (hl : u.data.toList = s.data.toList.drop k) (hp : 0 < u.size) (hk : k < s.size) : u[0] = s[k] := by
  have e1 := at_listT _ 0 hp
  rw [hl, List.getElem?_drop, Nat.add_zero, at_listT s k hk] at e1
  injection e1 with e1
  exact e1.symm

set_option maxRecDepth 10000 in
set_option maxHeartbeats 1000000 in
theorem host_r (s : ByteArray) (w : World) (hs : s.size ≤ 1000000) : Calls Tryz.prog 97 #[.string s] w fun e w' => e = .returned (.bool (hostL s.data.toList)) ∧ w = w' := by
  have HLN := Lib.hid (len_data s)
  go_enter Tryz.func97, Tryz.ntmps97
  go_wp2
  go_loop [3] (fun i => ∃ (k : Nat), k ≤ s.size ∧ i = .int .i64 k ∧ (s.data.toList.take k).all nameB = true) (fun i => s.size - (intOf i).toNat)
  case atStart => exact ⟨0, Nat.zero_le _, rfl, rfl⟩
  case round =>
    obtain ⟨k, hk, rfl, hall⟩ := hrel
    have HA := Lib.hid hall
    clear hall
    by_cases hlt : k < s.size
    · cases ha : alB s[k] with
      | true =>
        have HN := Lib.hid (take_all hlt HA.out (name_al ha))
        have HC := Lib.hid (fun w => ha ▸ alnum_r s[k] w)
        clear ha
        go_wp2_with (go_at_call 118; refine (HC.out _).mono ?_; rintro e w' ⟨rfl, rfl⟩)
        go_round
        case rel => exact ⟨k + 1, by omega, by go_num, HN.out⟩
        case measure => simp [intOf]; omega
      | false =>
        have HC := Lib.hid (fun w => ha ▸ alnum_r s[k] w)
        by_cases h45 : s[k] = 45
        · have HN := Lib.hid (take_all hlt HA.out (name_45 h45))
          have e1 := (b_yes 45 h45).1
          clear ha h45
          simp only [show ((45 : UInt8).toNat : Int) = 45 from rfl] at e1
          go_wp2_with (go_at_call 118; refine (HC.out _).mono ?_; rintro e w' ⟨rfl, rfl⟩)
          go_round
          case rel => exact ⟨k + 1, by omega, by go_num, HN.out⟩
          case measure => simp [intOf]; omega
        · have e1 := (b_no 45 h45).1
          simp only [show ((45 : UInt8).toNat : Int) = 45 from rfl] at e1
          by_cases h46 : s[k] = 46
          · have HN := Lib.hid (take_all hlt HA.out (name_46 h46))
            have e2 := (b_yes 46 h46).1
            simp only [show ((46 : UInt8).toNat : Int) = 46 from rfl] at e2
            clear ha h45 h46
            go_wp2_with (go_at_call 118; refine (HC.out _).mono ?_; rintro e w' ⟨rfl, rfl⟩)
            go_round
            case rel => exact ⟨k + 1, by omega, by go_num, HN.out⟩
            case measure => simp [intOf]; omega
          · have e2 := (b_no 46 h46).1
            simp only [show ((46 : UInt8).toNat : Int) = 46 from rfl] at e2
            have hnm := nm_len hlt HA.out (name_no ha h45 h46)
            clear ha h45 h46
            have HNM := Lib.hid hnm
            clear hnm
            by_cases h1 : k < 1
            · have HH := Lib.hid (host_short (l := s.data.toList) (.inl (by rw [HNM.out]; exact h1)))
              have h2 : (k : Int) < 1 := by omega
              clear h1
              go_wp2_with (go_at_call 118; refine (HC.out _).mono ?_; rintro e w' ⟨rfl, rfl⟩)
              go_ret
              exact ⟨ret_bool HH.out.symm, rfl⟩
            · have h2 : decide ((k : Int) < 1) = false := by simp; omega
              by_cases h100 : 100 < k
              · have HH := Lib.hid (host_short (l := s.data.toList) (.inr (by rw [HNM.out]; exact h100)))
                clear h1
                go_wp2_with (go_at_call 118; refine (HC.out _).mono ?_; rintro e w' ⟨rfl, rfl⟩)
                go_ret
                exact ⟨ret_bool HH.out.symm, rfl⟩
              · have h3 : decide (100 < k) = false := by simpa using h100
                have hl := ext_from s k
                have hsz : (s.extract k s.size).size = s.size - k := by rw [ByteArray.size_extract]; omega
                have c0 : (0 : Int) ≤ (k : Int) := by omega
                have c1 : (k : Int) ≤ (s.size : Int) := by omega
                obtain ⟨u, hu⟩ : ∃ u, u = s.extract k s.size := ⟨_, rfl⟩
                rw [← hu] at hl hsz
                have HU := Lib.hid hu
                clear hu
                have hp : 0 < u.size := by omega
                have hus : u.size ≤ 1000000 := by omega
                clear hsz
                have hu0 := first_of hl hp hlt
                have hat := at_listT s k hlt
                obtain ⟨e3, e4⟩ := emp_no hp
                by_cases h58 : s[k] = 58
                · have e5 : ((u[0].toNat : Int) != 58) = false := by rw [hu0, h58]; rfl
                  have hport := host_port (l := s.data.toList) (by rw [HNM.out]; omega) (by rw [HNM.out]; omega) (by rw [HNM.out, hat, h58])
                  rw [HNM.out] at hport
                  have hl2 : s.data.toList.drop (k + 1) = u.data.toList.drop 1 := by rw [hl, List.drop_drop]
                  rw [hl2] at hport
                  clear h58 hu0 hat hl hl2
                  by_cases h6 : 6 < u.size
                  · have HH := Lib.hid (show hostL s.data.toList = false by rw [hport]; exact port_long (by rw [List.length_drop, len_data]; omega))
                    clear hport
                    go_upto_region 7 with (go_at_call 118; refine (HC.out _).mono ?_; rintro e w' ⟨rfl, rfl⟩)
                    rw [← HU.out]
                    go_wp2
                    go_ret
                    exact ⟨ret_bool HH.out.symm, rfl⟩
                  · have hpl := ext_from u 1
                    have hps : (u.extract 1 u.size).size = u.size - 1 := by rw [ByteArray.size_extract]; omega
                    have c2 : (1 : Int) ≤ (u.size : Int) := by omega
                    have h7 : decide (6 < u.size) = false := by simpa using h6
                    obtain ⟨v, hv⟩ : ∃ v, v = u.extract 1 u.size := ⟨_, rfl⟩
                    rw [← hv] at hpl hps
                    rw [← hpl, port_short (by rw [len_data]; omega)] at hport
                    have HNU := Lib.hid (fun w => num_R v w (by omega))
                    unfold NumIs at HNU
                    have HV := Lib.hid hv
                    have HH := Lib.hid hport
                    clear hv hport hpl hps
                    obtain ⟨n, hn⟩ : ∃ n, n = (numB 10 15 v.data.toList).1 := ⟨_, rfl⟩
                    obtain ⟨ok, hok⟩ : ∃ ok, ok = (numB 10 15 v.data.toList).2 := ⟨_, rfl⟩
                    rw [← hn, ← hok] at HH HNU
                    clear hn hok
                    cases ok with
                    | false =>
                      go_upto_region 7 with (go_at_call 118; refine (HC.out _).mono ?_; rintro e w' ⟨rfl, rfl⟩)
                      rw [← HU.out]
                      go_wp2_with (
                        (go_at_call 102; rw [← HV.out]; refine (HNU.out _).mono ?_; rintro e w' ⟨rfl, rfl⟩))
                      go_ret
                      exact ⟨ret_bool (by rw [HH.out]; rfl), rfl⟩
                    | true =>
                      go_upto_region 7 with (go_at_call 118; refine (HC.out _).mono ?_; rintro e w' ⟨rfl, rfl⟩)
                      rw [← HU.out]
                      go_wp2_with (
                        (go_at_call 102; rw [← HV.out]; refine (HNU.out _).mono ?_; rintro e w' ⟨rfl, rfl⟩))
                      go_ret
                      exact ⟨ret_bool (by rw [HH.out]; simp), rfl⟩
                · have e5 : ((u[0].toNat : Int) != 58) = true := by rw [hu0]; have := (b_no 58 h58).2; simpa using this
                  have HH := Lib.hid (host_else (l := s.data.toList) (c := s[k]) (by rw [HNM.out, hat]) h58)
                  clear h58 hu0 hat hl
                  go_upto_region 7 with (go_at_call 118; refine (HC.out _).mono ?_; rintro e w' ⟨rfl, rfl⟩)
                  rw [← HU.out]
                  go_wp2
                  go_ret
                  exact ⟨ret_bool HH.out.symm, rfl⟩
    · obtain rfl : k = s.size := by omega
      have hnm := nm_full (take_end hlt HA.out)
      have HNM := Lib.hid hnm
      clear hnm
      by_cases h1 : s.size < 1
      · have HH := Lib.hid (host_short (l := s.data.toList) (.inl (by rw [HNM.out]; exact h1)))
        have h2 : (s.size : Int) < 1 := by omega
        clear h1
        go_wp2
        go_ret
        exact ⟨ret_bool HH.out.symm, rfl⟩
      · have h2 : decide ((s.size : Int) < 1) = false := by simp; omega
        by_cases h100 : 100 < s.size
        · have HH := Lib.hid (host_short (l := s.data.toList) (.inr (by rw [HNM.out]; exact h100)))
          clear h1
          go_wp2
          go_ret
          exact ⟨ret_bool HH.out.symm, rfl⟩
        · have h3 : decide (100 < s.size) = false := by simpa using h100
          have HH := Lib.hid (host_bare (l := s.data.toList) (by rw [HNM.out]; omega) (by rw [HNM.out]; omega) (by rw [HNM.out]; exact HLN.out.symm))
          have hsz : (s.extract s.size s.size).size = 0 := by rw [ByteArray.size_extract]; omega
          have e3 := emp_yes hsz
          go_wp2
          go_ret
          exact ⟨ret_bool HH.out.symm, rfl⟩
end Go.Proofs.YtgkhelbpccehcaaGreatDoor

/- A row of bytes that a function gathers: append of a byte, of a text; bytes turned into a text; a row cut back. Conditions: as each says. -/
namespace Go.Proofs.YtgkhelbpccehcaaGreatDoor
open Go.RowKit
set_option linter.unusedVariables false

theorem own_succ {W : World} {base : Nat} {e : TypeId} {size : Nat} {v : Value} {k : Nat} {xs : List Value} (h : W.ownsRow base e size v (k + 1) xs) : ∃ g cap, v = .slice (some ⟨g, 0, none⟩) (k + 1) cap := by
  rcases h.2 with ⟨_, h0⟩ | ⟨g, cap, _, rfl, _⟩
  · omega
  · exact ⟨g, cap, rfl⟩
theorem add_noneT (b off j : Nat) : (⟨b, off, none⟩ : Addr).add j = ⟨b, off + j, none⟩ := by
  unfold Addr.add; split <;> simp_all
/-- append, by how it runs. -/
theorem wpList_run_appT {P : Program} {ops : Array Oper} {rest : List Oper} {o : Oper} {a : Act} {w w' : World} {Q : Exit → Act → World → Prop} (hgd : o.guard = none) (s x : Operand) (t t2 : TypeId)
    (ho : o.op = .call { callee := .builtin .append, args := #[s, x], argTypes := #[t, t2] }) {v u v' : Value} (hs : a.eval s = v) (hx : a.eval x = u)
    (hr : (Builtin.append_ #[t, t2] o.type #[v, u]).run P w = .ok v' w') (h : wpList P ops Q rest (a.put o.dst v') w') : wpList P ops Q (o :: rest) a w := by
  refine wpList_plain hgd fun K hK => ?_
  unfold Oper.wp
  simp [execOp, ho, resolve, invoke, builtin, hs, hx, hr, Result.andThen]
  exact hK _ _ h
/-- A row of n elements of a type that a function of w0 has gathered. -/
structure GatT (w0 : World) (t : TypeId) (size : Nat) (n : Nat) (xs : List Value) (v : Value) (w : World) : Prop where
  row : w.ownsRow w0.heap.size t size v n xs
  low : Below w0.heap.size w0 w
theorem GatT.below {w0 w w' : World} {t : TypeId} {size n : Nat} {xs : List Value} {v : Value} (h : GatT w0 t size n xs v w) (hb : Below w.heap.size w w') : GatT w0 t size n xs v w' :=
  ⟨h.row.kept (row := none) ⟨hb.os, hb.tape, hb.output, hb.size, fun k hk _ => hb.block k hk⟩ (by rcases h.row.2 with ⟨rfl, _⟩ | ⟨g, cap, cur, rfl, _⟩ <;> simp [Value.ownBlock]), h.low.trans (hb.mono h.low.size)⟩
theorem GatT.form {w0 w : World} {t : TypeId} {size n : Nat} {xs : List Value} {v : Value} (h : GatT w0 t size n xs v w) : ∃ a c, v = .slice a n c := by
  rcases h.row.2 with ⟨hv, h0⟩ | ⟨g, cap, cur, rfl, _⟩
  · exact ⟨none, 0, by rw [hv, h0]⟩
  · exact ⟨_, _, rfl⟩
theorem cells_newT (w : World) (l : List Value) (t : TypeId) : ∀ (j : Nat) u, l[j]? = some u → (w.alloc (.cells l.toArray t)).cell? ((⟨w.heap.size, 0, none⟩ : Addr).add j) = some u := by
  intro j u hj
  rw [add_noneT, Nat.zero_add, (Row.new w t l.toArray).cell j]
  simpa using hj
theorem app_gatT {w0 w : World} {st t : TypeId} {z : Value} {size bytes n : Nat} {xs : List Value} {v : Value} (h : GatT w0 t size n xs v w) (hu : Tryz.prog.underlying st = some (.slice t))
    (hinfo : (Tryz.prog.info? t).map (fun i => (i.zero, i.size, i.bytes)) = some (some z, size, bytes)) (hz : z.cells.size = size) (h0 : 0 < size) (hroom : n + 1 ≤ 2000000) (hby : bytes ≤ 1000)
    (l : List Value) (hl : l.length = size) (h1 : ∀ u ∈ l, u.oneCell' = true) :
    ∃ (g n' c' : Nat) (w' : World), (Builtin.append_ #[st, st] st #[v, .slice (some ⟨w.heap.size, 0, none⟩) 1 1]).run Tryz.prog (w.alloc (.cells l.toArray t)) = .ok (.slice (some ⟨g, 0, none⟩) n' c') w' ∧
      GatT w0 t size (n + 1) (xs ++ l) (.slice (some ⟨g, 0, none⟩) n' c') w' := by
  obtain ⟨i0, hi, hz0, hz1, hz2⟩ := info_parts hinfo
  obtain ⟨v', w5, hrun, hown', hgrow, -, -⟩ := run_append_own_at (P := Tryz.prog) (w := w.alloc (.cells l.toArray t)) w0.heap.size st st t i0 z size bytes hu hi hz0 hz1 hz2 hz h0
    v n xs (h.row.alloc _) ⟨w.heap.size, 0, none⟩ 1 1 l (by omega) (cells_newT w l t) h1 (by unfold maxLen; omega) (by have := Nat.mul_le_mul hroom hby; omega) (by have := h.low.size; simp; omega)
  obtain ⟨g, c', rfl⟩ := own_succ hown'
  exact ⟨g, _, c', w5, hrun, hown', (h.low.alloc h.low.size _).grown hgrow (by have := h.low.size; simp; omega) fun k e => (h.row.lt k e).1⟩

def bysT (l : List UInt8) : List Value := l.map fun c => Value.int .u8 (c.toNat : Int)
theorem infoU8T : (Tryz.prog.info? 5).map (fun i => (i.zero, i.size, i.bytes)) = some (some (.int .u8 0), 1, 1) := by kernel_rfl
/-- Bytes that were gathered. -/
def GBT (w0 : World) (l : List UInt8) (v : Value) (w : World) : Prop := GatT w0 5 1 l.length (bysT l) v w
theorem app_byteT {w0 w : World} {l : List UInt8} {v : Value} (h : GBT w0 l v w) (hroom : l.length + 1 ≤ 2000000) (c : UInt8) :
    ∃ (g n' c' : Nat) (w' : World), (Builtin.append_ #[22, 22] 22 #[v, .slice (some ⟨w.heap.size, 0, none⟩) 1 1]).run Tryz.prog (w.alloc (.cells #[.int .u8 (c.toNat : Int)] 5)) = .ok (.slice (some ⟨g, 0, none⟩) n' c') w' ∧
      GBT w0 (l ++ [c]) (.slice (some ⟨g, 0, none⟩) n' c') w' := by
  obtain ⟨g, n', c', w', hr, hg⟩ := app_gatT h Tryz.underlying22 infoU8T rfl (by decide) hroom (by decide) [.int .u8 (c.toNat : Int)] rfl (by simp [Value.oneCell'])
  refine ⟨g, n', c', w', hr, ?_⟩
  unfold GBT
  rw [List.length_append, show bysT (l ++ [c]) = bysT l ++ [.int .u8 (c.toNat : Int)] by simp [bysT]]; exact hg
theorem conv_gatT {w0 w : World} {l : List UInt8} {v : Value} (h : GBT w0 l v w) : (convert 22 9 v).run Tryz.prog w = .ok (.string ⟨l.toArray⟩) w := by
  rcases h.row.2 with ⟨rfl, h0⟩ | ⟨g, cap, cur, rfl, hb, hg, hn, hm, hc, ht⟩
  · obtain rfl : l = [] := List.eq_nil_of_length_eq_zero h0
    exact run_convert_bytes_nil w 22 5 Tryz.underlying22 Tryz.underlying5 0 0 9 Tryz.underlying9
  · refine run_convert_bytes_back w 22 9 5 ⟨g, 0, none⟩ cap l Tryz.underlying22 Tryz.underlying5 Tryz.underlying9 fun j hj => ?_
    have e : cur.toList[j]? = some (.int .u8 (l[j].toNat : Int)) := by
      have h1 : (cur.toList.take (l.length * 1))[j]? = (bysT l)[j]? := by rw [ht]
      rw [List.getElem?_take, if_pos (by omega)] at h1
      rw [h1]; simp [bysT, hj]
    rw [add_noneT, Nat.zero_add]
    have e2 : cur[j]? = some (.int .u8 (l[j].toNat : Int)) := by rw [← Array.getElem?_toList]; exact e
    simp only [World.cell?, hg]
    simp [e2]
theorem gb_nilT (w : World) : GBT w [] (.slice none 0 0) w := ⟨World.ownsRow_nil _ _ _ _, Below.refl _ _⟩
theorem make_capT (n : Nat) (h : n ≤ 1000000) (w : World) : (Instr.makeSlice 22 (.int .i64 0) (.int .i64 (n : Int))).run Tryz.prog w =
    .ok (.slice (some ⟨w.heap.size, 0, none⟩) 0 n) (w.alloc (.cells (madeCells #[.int .u8 0] n) 5)) := by
  obtain ⟨i, hi, hz, hs, hb⟩ := info_parts infoU8T
  have := run_make (P := Tryz.prog) w 22 5 i (.int .u8 0) Tryz.underlying22 hi hz .i64 .i64 0 n (by omega) (by omega) (by rw [hb]; omega) (by omega)
  simpa [hs, Value.cells] using this
theorem gb_madeT (w : World) (n : Nat) (h : n ≤ 1000000) : GBT w [] (.slice (some ⟨w.heap.size, 0, none⟩) 0 n) (w.alloc (.cells (madeCells #[.int .u8 0] n) 5)) :=
  ⟨World.ownsRow_made w (madeCells #[.int .u8 0] n) n (Nat.le_refl _) (by unfold maxLen; omega) (by simp [madeCells]), (Below.refl _ w).alloc (Nat.le_refl _) _⟩

theorem bys_str (s : ByteArray) : Lib.strCells s = bysT s.data.toList := rfl
/-- append of a text's bytes. -/
theorem app_text {w0 w : World} {l : List UInt8} {v : Value} (h : GBT w0 l v w) (s : ByteArray) (hroom : l.length + s.size ≤ 10000000) (hp : 0 < l.length) :
    ∃ (g n' c' : Nat) (w' : World), (Builtin.append_ #[22, 9] 22 #[v, .string s]).run Tryz.prog w = .ok (.slice (some ⟨g, 0, none⟩) n' c') w' ∧
      GBT w0 (l ++ s.data.toList) (.slice (some ⟨g, 0, none⟩) n' c') w' := by
  obtain ⟨i0, hi, hz0, hz1, hz2⟩ := info_parts infoU8T
  obtain ⟨v', w5, hrun, hown', hgrow, hnil⟩ := Lib.run_append_own_string (P := Tryz.prog) w w0.heap.size 22 9 22 5 i0 Tryz.underlying22 Tryz.underlying9 hi hz0 hz1 hz2
    v l.length (bysT l) h.row s (by unfold maxLen; omega) (by omega) h.low.size
  rcases hown'.2 with ⟨rfl, h0⟩ | ⟨g, cap, cur, rfl, _⟩
  · omega
  · refine ⟨g, _, cap, w5, hrun, ?_, h.low.grown hgrow h.low.size fun k e => (h.row.lt k e).1⟩
    rw [List.length_append, show bysT (l ++ s.data.toList) = bysT l ++ Lib.strCells s by rw [bys_str]; simp [bysT], len_data]; exact hown'
/-- A row cut back to its first k. -/
theorem GBT.cut {w0 w : World} {l : List UInt8} {g n c : Nat} (h : GBT w0 l (.slice (some ⟨g, 0, none⟩) n c) w) (k : Nat) (hk : k ≤ l.length) : GBT w0 (l.take k) (.slice (some ⟨g, 0, none⟩) k c) w := by
  obtain ⟨⟨h1, h2⟩, hlow⟩ := h
  rcases h2 with ⟨hv, _⟩ | ⟨g', cap, cur, hv, hb, hg, hn, hm, hc, ht⟩
  · cases hv
  · injection hv with e1 e2 e3
    injection e1 with e1
    injection e1 with e1
    subst e1 e2 e3
    have hkl : (l.take k).length = k := by rw [List.length_take]; omega
    refine ⟨⟨by simp [bysT], .inr ⟨g, c, cur, by rw [hkl], hb, hg, by rw [hkl]; omega, hm, hc, ?_⟩⟩, hlow⟩
    rw [hkl, show bysT (l.take k) = (bysT l).take k by simp [bysT, List.map_take], ← ht, List.take_take]
    congr 1; omega
/-- A byte of a row. -/
theorem GBT.cell {w0 w : World} {l : List UInt8} {g n c : Nat} (h : GBT w0 l (.slice (some ⟨g, 0, none⟩) n c) w) (j : Nat) (hj : j < l.length) : w.cell? ⟨g, j, none⟩ = some (.int .u8 (l[j].toNat : Int)) := by
  have := h.row.cells (g := g) rfl j (.int .u8 (l[j].toNat : Int)) (by simp [bysT, hj])
  rw [add_noneT, Nat.zero_add] at this; exact this
theorem GBT.len {w0 w : World} {l : List UInt8} {a : Option Addr} {n c : Nat} (h : GBT w0 l (.slice a n c) w) : n = l.length := by
  rcases h.row.2 with ⟨hv, h0⟩ | ⟨g', cap, cur, hv, _⟩
  · injection hv with _ e _; omega
  · injection hv
end Go.Proofs.YtgkhelbpccehcaaGreatDoor

/- Decode of the code. Conditions: a text of at most a million bytes. -/
namespace Go.Proofs.YtgkhelbpccehcaaGreatDoor
open Go.RowKit
set_option linter.unusedVariables false
set_option linter.unusedSimpArgs false

theorem digB_lt {c : UInt8} (h : digB c ≠ 16) : 0 ≤ digB c ∧ digB c < 16 := by have := digB_le c; omega
theorem hx_nat {a b : UInt8} (h : digB a ≠ 16) (h2 : digB b ≠ 16) : ((hxB a b).toNat : Int) = digB a * 16 + digB b := by
  have h3 := digB_lt h; have h4 := digB_lt h2
  unfold hxB
  rw [if_neg (by omega), UInt8.toNat_ofNat']
  omega
theorem hex_two (a b : UInt8) : (numB 16 12 [a, b]).1 = ((hxB a b).toNat : Int) := by
  unfold numB
  rw [if_neg (by simp)]
  have ha := digB_le a
  have hb := digB_le b
  by_cases h1 : digB a = 16
  · rw [numL_bad (by omega)]; unfold hxB; rw [if_pos (Or.inl h1)]; rfl
  · rw [numL_good (by omega)]
    by_cases h2 : digB b = 16
    · rw [numL_bad (by omega)]; unfold hxB; rw [if_pos (Or.inr h2)]; rfl
    · rw [numL_good (by omega), numL_nil, hx_nat h1 h2]
      show (0 * 16 + digB a) * 16 + digB b = _
      omega
theorem u8_same {n : Int} (h : 0 ≤ n) (h2 : n < 256) : IntKind.u8.wrap n = n := by
  rw [IntKind.wrap_u8]; omega

set_option maxRecDepth 10000 in
theorem hexbyte_a (s : ByteArray) (hs : s.size ≤ 1000000) (w : World) : Calls Tryz.prog 184 #[.string s] w fun e w' => e = .returned (.int .u8 ((hexL s.data.toList).toNat : Int)) ∧ w = w' := by
  by_cases h2 : s.size < 2
  · have H := Lib.hid (show hexL s.data.toList = 0 by
      have : s.data.toList.length < 2 := h2
      match hl : s.data.toList, this with
      | [], _ => rfl
      | [_], _ => rfl)
    go_enter Tryz.func184, Tryz.ntmps184
    go_wp2
    go_ret
    exact ⟨by rw [H.out]; rfl, rfl⟩
  · have hd : s.data.toList = s[0]'(by omega) :: s[1]'(by omega) :: s.data.toList.drop 2 := by
      have e1 := drop_cons s 0 (by omega)
      have e2 := drop_cons s 1 (by omega)
      rw [List.drop_zero] at e1
      rw [e2] at e1; exact e1
    have hl : (s.extract 0 2).data.toList = [s[0]'(by omega), s[1]'(by omega)] := by
      rw [ByteArray.data_extract, Array.toList_extract]
      show (s.data.toList.drop 0).take 2 = _
      rw [List.drop_zero, hd]; rfl
    have hx : hexL s.data.toList = hxB (s[0]'(by omega)) (s[1]'(by omega)) := by rw [hd]; rfl
    have hsz := ext_le s 0 2
    obtain ⟨u, hu⟩ : ∃ u, u = s.extract 0 2 := ⟨_, rfl⟩
    rw [← hu] at hl hsz
    have HU := Lib.hid hu
    have HH := Lib.hid (fun w => hex_a u w (by omega))
    unfold NumIs at HH
    rw [hl, hex_two, ← hx] at HH
    clear hl hu hd hx
    have hb := (hexL s.data.toList).toNat_lt
    obtain ⟨n, hn⟩ : ∃ n, n = (hexL s.data.toList).toNat := ⟨_, rfl⟩
    rw [← hn] at hb HH ⊢
    have hw := u8_same (n := (n : Int)) (by omega) (by omega)
    have c2 : (2 : Int) ≤ (s.size : Int) := by omega
    obtain ⟨ok, hok⟩ : ∃ ok, ok = (numB 16 12 [s[0]'(by omega), s[1]'(by omega)]).2 := ⟨_, rfl⟩
    rw [← hok] at HH
    clear hn hok
    go_enter Tryz.func184, Tryz.ntmps184
    go_wp2_with (go_at_call 166; try rw [← HU.out]; refine (HH.out _).mono ?_; rintro e w' ⟨rfl, rfl⟩)
    go_ret
    exact ⟨rfl, rfl⟩

/-- What Decode answers. -/
def decA (l : List UInt8) : ByteArray × Int := match decL l with | some d => (ofL d, 0) | none => (⟨#[]⟩, 8)
theorem decA_no {l : List UInt8} (h : decL l = none) : decA l = (⟨#[]⟩, 8) := by unfold decA; rw [h]
theorem decA_yes {l d : List UInt8} (h : decL l = some d) : decA l = (ofL d, 0) := by unfold decA; rw [h]
theorem ret_si {p : ByteArray × Int} {a : ByteArray} {c : Int} (h : p = (a, c)) : Ending.returned (.tuple #[.string a, .int .i64 c]) = .returned (.tuple #[.string p.1, .int .i64 p.2]) := by rw [h]
theorem drop_two (s : ByteArray) (k : Nat) (h : k + 1 < s.size) : s.data.toList.drop k = s[k] :: s[k + 1] :: s.data.toList.drop (k + 2) := by
  rw [drop_cons s k (by omega), drop_cons s (k + 1) h]
theorem hexL_drop {s : ByteArray} {k : Nat} (h : hexL (s.data.toList.drop k) ≠ 0) : ∃ (h1 : k + 1 < s.size), hexL (s.data.toList.drop k) = hxB (s[k]'(by omega)) s[k + 1] := by
  rcases Nat.lt_or_ge (k + 1) s.size with h1 | h1
  · exact ⟨h1, by rw [drop_two s k h1]; rfl⟩
  · exfalso; apply h
    have : (s.data.toList.drop k).length < 2 := by rw [List.length_drop, len_data]; omega
    match hl : s.data.toList.drop k, this with
    | [], _ => rfl
    | [_], _ => rfl

set_option maxRecDepth 10000 in
set_option maxHeartbeats 1000000 in
theorem decode_a (s : ByteArray) (hs : s.size ≤ 1000000) (w : World) :
    Calls Tryz.prog 152 #[.string s] w fun e w' => e = .returned (.tuple #[.string (decA s.data.toList).1, .int .i64 (decA s.data.toList).2]) ∧ Mods [] w w' := by
  have hmk := make_capT s.size hs w
  have HM := Lib.hid (gb_madeT w s.size hs)
  go_enter Tryz.func152, Tryz.ntmps152
  go_wp2
  clear hmk
  go_loopw [4, 5] (fun v i wr => ∃ (k : Nat) (acc : List UInt8), k ≤ s.size ∧ i = .int .i64 k ∧ acc.length ≤ k ∧ decL s.data.toList = decT acc (s.data.toList.drop k) ∧ GBT w acc v wr) (fun _ i _ => s.size - (intOf i).toNat)
  case atStart => exact ⟨0, [], Nat.zero_le _, rfl, Nat.le_refl _, by rw [List.drop_zero, decT_start], HM.out⟩
  case round =>
    obtain ⟨k, acc, hk, rfl, hacc, hd, hG⟩ := hrel
    have HD := Lib.hid hd
    have HG := Lib.hid hG
    clear hd hG
    by_cases hlt : k < s.size
    · have hdc := drop_cons s k hlt
      by_cases hc : s[k] = 37
      · have e1 : ((s[k].toNat : Int) == 37) = true := by rw [hc]; rfl
        have hl := ext_from s (k + 1)
        have hsz := ext_le s (k + 1) s.size
        have c1 : (0 : Int) ≤ (k : Int) + 1 := by omega
        have c2 : (k : Int) + 1 ≤ (s.size : Int) := by omega
        obtain ⟨u, hu⟩ : ∃ u, u = s.extract (k + 1) s.size := ⟨_, rfl⟩
        rw [← hu] at hl hsz
        have HU := Lib.hid hu
        have HH := Lib.hid (fun w => hexbyte_a u (by omega) w)
        rw [hl] at HH
        clear hu hl
        by_cases hz : hexL (s.data.toList.drop (k + 1)) = 0
        · have HN := Lib.hid (show decL s.data.toList = none by rw [HD.out, hdc, hc, decT_bad hz])
          rw [hz] at HH
          clear hz hdc hc
          go_wp2_with (go_at_call 184; try rw [← HU.out]; refine (HH.out _).mono ?_; rintro e w' ⟨rfl, rfl⟩)
          go_ret2
          exact ⟨ret_si (decA_no HN.out), .of_below HG.out.low⟩
        · obtain ⟨h1, he⟩ := hexL_drop hz
          have HN := Lib.hid (show decL s.data.toList = decT (acc ++ [hexL (s.data.toList.drop (k + 1))]) (s.data.toList.drop (k + 3)) by
            rw [HD.out, hdc, hc, drop_two s (k + 1) h1, decT_hex (by rw [← he]; exact hz)]; rfl)
          have hne : (((hexL (s.data.toList.drop (k + 1))).toNat : Int) == 0) = false := by
            have := (ne_int hz).1; simpa using this
          obtain ⟨b, hb⟩ : ∃ b, b = hexL (s.data.toList.drop (k + 1)) := ⟨_, rfl⟩
          rw [← hb] at HH HN hne
          clear hz hdc hc he hb
          obtain ⟨g, n', c', w3, hrun, hg4⟩ := app_byteT HG.out (by omega) b
          have HG4 := Lib.hid hg4
          clear hg4
          go_wp2_with (first
            | (go_at_call 184; try rw [← HU.out]; refine (HH.out _).mono ?_; rintro e w' ⟨rfl, rfl⟩)
            | (at_builtin; refine wpList_run_appT rfl (.tmp 30) (.tmp 32) 22 22 rfl rfl rfl hrun ?_))
          go_roundw
          case rel => exact ⟨k + 3, _, by omega, by go_num, by rw [List.length_append]; simp; omega, HN.out, HG4.out⟩
          case measure => simp [intOf]; omega
      · have e1 : ((s[k].toNat : Int) == 37) = false := by have := (ne_int (x := s[k]) (y := 37) hc).1; simpa using this
        have HN := Lib.hid (show decL s.data.toList = decT (acc ++ [s[k]]) (s.data.toList.drop (k + 1)) by rw [HD.out, hdc, decT_plain hc])
        clear hdc hc
        obtain ⟨g, n', c', w3, hrun, hg4⟩ := app_byteT HG.out (by omega) s[k]
        have HG4 := Lib.hid hg4
        clear hg4
        go_wp2_with (at_builtin; refine wpList_run_appT rfl (.tmp 30) (.tmp 32) 22 22 rfl rfl rfl hrun ?_)
        go_roundw
        case rel => exact ⟨k + 1, _, by omega, by go_num, by rw [List.length_append]; simp; omega, HN.out, HG4.out⟩
        case measure => simp [intOf]; omega
    · obtain rfl : k = s.size := by omega
      have HN := Lib.hid (show decL s.data.toList = some acc by rw [HD.out, List.drop_of_length_le (by rw [len_data]; exact Nat.le_refl _), decT_nil])
      obtain ⟨A, c, rfl⟩ := HG.out.form
      have hback := conv_gatT HG.out
      go_wp2
      go_ret2
      exact ⟨ret_si (decA_yes HN.out), .of_below HG.out.low⟩
end Go.Proofs.YtgkhelbpccehcaaGreatDoor

/- Clean of the code. Conditions: a path of at most a million bytes. -/
namespace Go.Proofs.YtgkhelbpccehcaaGreatDoor
open Go.RowKit
set_option linter.unusedVariables false
set_option linter.unusedSimpArgs false

/-- The parts that are left from k on. -/
def remS (l : List UInt8) (k : Nat) : List (List UInt8) := if k < l.length then splitS (l.drop (k + 1)) else []
theorem remS_end {l : List UInt8} {k : Nat} (h : ¬ k < l.length) : remS l k = [] := by unfold remS; rw [if_neg h]
theorem isC_no {d x : UInt8} (h : isC d x = false) : x ≠ d := by intro e; subst e; simp [isC] at h
theorem isC_yes {d x : UInt8} (h : isC d x = true) : x = d := by simpa [isC] using h
theorem remS_step {l : List UInt8} {k : Nat} (h : k < l.length) (p : List UInt8) (hp : p = upL (isC 47) (l.drop (k + 1))) :
    remS l k = p :: remS l (k + 1 + p.length) ∧ k + 1 + p.length ≤ l.length ∧ ∀ x ∈ p, x ≠ 47 := by
  have hno : ∀ x ∈ p, x ≠ 47 := fun x hx => isC_no (upL_no (isC 47) _ x (by rw [← hp]; exact hx))
  have hle := upL_len (isC 47) (l.drop (k + 1))
  rw [← hp, List.length_drop] at hle
  refine ⟨?_, by omega, hno⟩
  unfold remS
  rw [if_pos h]
  rcases Nat.lt_or_ge p.length (l.drop (k + 1)).length with hlt | hge
  · obtain ⟨c, hc, hpc⟩ := upL_end (isC 47) (l.drop (k + 1)) (by rw [← hp]; exact hlt)
    rw [← hp] at hc
    have e47 := isC_yes hpc
    subst e47
    obtain ⟨h1, h2⟩ := List.getElem?_eq_some_iff.1 hc
    have e : l.drop (k + 1) = p ++ 47 :: (l.drop (k + 1)).drop (p.length + 1) := by
      conv => lhs; rw [upL_drop (isC 47) (l.drop (k + 1)), ← hp, List.drop_eq_getElem_cons h1, h2]
    rw [List.length_drop] at hlt
    rw [if_pos (by omega)]
    conv => lhs; rw [e, splitS_at hno]
    rw [List.drop_drop, show k + 1 + (p.length + 1) = k + 1 + p.length + 1 by omega]
  · have e : p = l.drop (k + 1) := by
      have := upL_len_full (p := isC 47) (l := l.drop (k + 1)) (by rw [← hp]; have := upL_len (isC 47) (l.drop (k + 1)); rw [← hp] at this; omega)
      rw [hp]; exact this
    rw [List.length_drop] at hge
    rw [if_neg (by omega), splitS_no (by rw [← e]; exact hno), ← e]
theorem remS_start {l : List UInt8} (h : slashL l = true) : remS l 0 = splitS l.tail := by
  unfold remS
  cases l with
  | nil => simp [slashL] at h
  | cons c r => rw [if_pos (by simp)]; rfl
theorem joinS_last {st : List (List UInt8)} (h : st ≠ []) : joinS st = joinS st.dropLast ++ 47 :: st.getLast h := by
  conv => lhs; rw [← List.dropLast_concat_getLast h, joinS_snoc]
theorem joinS_zero {st : List (List UInt8)} (h : (joinS st).length = 0) : st = [] := by
  cases st with
  | nil => rfl
  | cons p r => simp [joinS] at h
/-- What Clean answers. -/
def clnA (l : List UInt8) : ByteArray × Bool := match clnL l with | some d => (ofL d, true) | none => (⟨#[]⟩, false)
theorem clnA_no {l : List UInt8} (h : clnL l = none) : clnA l = (⟨#[]⟩, false) := by unfold clnA; rw [h]
theorem clnA_yes {l d : List UInt8} (h : clnL l = some d) : clnA l = (ofL d, true) := by unfold clnA; rw [h]
theorem ret_sb {p : ByteArray × Bool} {a : ByteArray} {c : Bool} (h : p = (a, c)) : Ending.returned (.tuple #[.string a, .bool c]) = .returned (.tuple #[.string p.1, .bool p.2]) := by rw [h]

theorem GBT.fits {w0 w : World} {l : List UInt8} {g n c : Nat} (h : GBT w0 l (.slice (some ⟨g, 0, none⟩) n c) w) : n ≤ c := by
  rcases h.row.2 with ⟨hv, h0⟩ | ⟨g', cap, cur, hv, _, _, h1, _⟩
  · cases hv
  · injection hv with _ e1 e2; omega

set_option maxRecDepth 10000 in
theorem wol_a {w0 w : World} {a p : List UInt8} {g c : Nat} (hp : ∀ x ∈ p, x ≠ 47) (hz : (a ++ 47 :: p).length ≤ 10000000)
    (h : GBT w0 (a ++ 47 :: p) (.slice (some ⟨g, 0, none⟩) (a ++ 47 :: p).length c) w) :
    Calls Tryz.prog 185 #[.slice (some ⟨g, 0, none⟩) (a ++ 47 :: p).length c] w fun e w' => e = .returned (.slice (some ⟨g, 0, none⟩) a.length c) ∧ w = w' := by
  have HC := Lib.hid (fun j hj => h.cell j hj)
  have hnc := h.fits
  obtain ⟨l, hl⟩ : ∃ l, l = a ++ 47 :: p := ⟨_, rfl⟩
  have hat : ∀ j (hj : j < l.length), a.length < j → l[j] ≠ 47 := by
    intro j hj hja
    subst hl
    rw [List.getElem_append_right (by omega)]
    rw [List.getElem_cons, dif_neg (by omega)]
    exact hp _ (List.getElem_mem _)
  have hat2 : ∀ j (hj : j < l.length), j = a.length → l[j] = 47 := by
    intro j hj he
    subst hl he
    simp
  have hlen : a.length < l.length := by rw [hl]; simp
  rw [← hl] at HC hz hnc ⊢
  have HA := Lib.hid hat
  have HB := Lib.hid hat2
  clear hat hat2 hl hp h
  obtain ⟨n, hn⟩ : ∃ n, n = a.length := ⟨_, rfl⟩
  obtain ⟨m, hm⟩ : ∃ m, m = l.length := ⟨_, rfl⟩
  have HM := Lib.hid hm
  have HN := Lib.hid hn
  rw [← hn, ← hm] at hlen
  rw [← hm] at hz hnc
  rw [← hn, ← hm]
  clear hn hm
  go_enter Tryz.func185, Tryz.ntmps185
  go_wp2
  go_loop [3] (fun i => ∃ (k : Nat), n ≤ k ∧ k < m ∧ i = .int .i64 k) (fun i => (intOf i).toNat)
  case atStart => exact ⟨m - 1, by omega, by omega, by congr 1; omega⟩
  case round =>
    obtain ⟨k, hnk, hkm, rfl⟩ := hrel
    have hk2 : k < l.length := by rw [← HM.out]; exact hkm
    have hcell := HC.out k hk2
    by_cases hk : k = n
    · have e1 : ((l[k].toNat : Int) != 47) = false := by
        have : l[k] = 47 := HB.out k hk2 (hk.trans HN.out)
        rw [this]; rfl
      have HK := Lib.hid hk
      clear hk
      go_wp2
      go_ret
      exact ⟨(by show Ending.returned (.slice _ k c) = _; rw [HK.out]), rfl⟩
    · have e1 : ((l[k].toNat : Int) != 47) = true := by
        have := (ne_int (x := l[k]) (y := 47) (HA.out k hk2 (by have := HN.out; omega))).2; simpa using this
      have hk1 : n < k := by omega
      clear hk
      go_wp2
      go_round
      case rel => exact ⟨k - 1, by omega, by omega, by congr 1; omega⟩
      case measure => simp [intOf]; omega

set_option maxRecDepth 10000 in
set_option maxHeartbeats 2000000 in
theorem clean_a (s : ByteArray) (hs : s.size ≤ 1000000) (w : World) :
    Calls Tryz.prog 153 #[.string s] w fun e w' => e = .returned (.tuple #[.string (clnA s.data.toList).1, .bool (clnA s.data.toList).2]) ∧ Mods [] w w' := by
  cases hsl : slashL s.data.toList with
  | false =>
    have HS := Lib.hid (fun w => hsl ▸ slash_a s w hs)
    have HR := Lib.hid (clnA_no (clnL_no hsl))
    clear hsl
    go_enter Tryz.func153, Tryz.ntmps153
    go_wp2_with (go_at_call 130; refine (HS.out _).mono ?_; rintro e w' ⟨rfl, rfl⟩)
    go_ret2
    exact ⟨ret_sb HR.out, Mods.refl _ _⟩
  | true =>
    have HS := Lib.hid (fun w => hsl ▸ slash_a s w hs)
    have HR := Lib.hid (clnL_yes hsl)
    have H0 := Lib.hid (remS_start hsl)
    have hmk := make_capT s.size hs w
    have HM := Lib.hid (gb_madeT w s.size hs)
    have HL := Lib.hid (len_data s)
    clear hsl
    go_enter Tryz.func153, Tryz.ntmps153
    go_wp2_with (go_at_call 130; refine (HS.out _).mono ?_; rintro e w' ⟨rfl, rfl⟩)
    clear hmk
    go_loopw [4, 5, 6] (fun v pv i wr => ∃ (k : Nat) (st : List (List UInt8)) (pt : ByteArray), k ≤ s.size ∧ i = .int .i64 k ∧ pv = .string pt ∧ (joinS st).length ≤ k ∧
      clnS [] (splitS s.data.toList.tail) = clnS st (remS s.data.toList k) ∧ lastP (splitS s.data.toList.tail) = lastP (pt.data.toList :: remS s.data.toList k) ∧ OrdS st ∧ GBT w (joinS st) v wr) (fun _ _ i _ => s.size - (intOf i).toNat)
    case atStart => exact ⟨0, [], ⟨#[]⟩, Nat.zero_le _, rfl, rfl, Nat.le_refl _, by rw [H0.out], by rw [lastP_cons _ (by rw [H0.out]; exact splitS_ne _), H0.out], (fun p hp => nomatch hp), HM.out⟩
    case round =>
      obtain ⟨k, st, pt, hk, rfl, rfl, hjl, hcl, hla, hor, hG⟩ := hrel
      have HC := Lib.hid hcl
      have HP := Lib.hid hla
      have HO := Lib.hid hor
      have HG := Lib.hid hG
      clear hcl hla hor hG
      by_cases hlt : k < s.size
      · have hl := ext_from s (k + 1)
        have hsz := ext_le s (k + 1) s.size
        have c1 : (0 : Int) ≤ (k : Int) + 1 := by omega
        have c2 : (k : Int) + 1 ≤ (s.size : Int) := by omega
        obtain ⟨u, hu⟩ : ∃ u, u = s.extract (k + 1) s.size := ⟨_, rfl⟩
        rw [← hu] at hl hsz
        have HU := Lib.hid hu
        have HT := Lib.hid (fun w => upto_a u ⟨#[47]⟩ (by omega) w)
        have hpl := up_47 u
        have hps := upA_size ⟨#[47]⟩ u
        obtain ⟨p, hp⟩ : ∃ p, p = upA ⟨#[47]⟩ u := ⟨_, rfl⟩
        rw [← hp] at HT hpl hps
        rw [hl] at hpl
        obtain ⟨r1, r2, r3⟩ := remS_step (k := k) (by rw [HL.out]; exact hlt) p.data.toList hpl
        rw [len_data] at r1 r2
        rw [HL.out] at r2
        have HC2 := Lib.hid (HC.out.trans (by rw [r1]))
        have HP2 := Lib.hid (show lastP (splitS s.data.toList.tail) = lastP (p.data.toList :: remS s.data.toList (k + 1 + p.size)) by rw [HP.out, r1, lastP_cons _ (by simp)])
        have HNO := Lib.hid r3
        clear hu hp hl hpl r1 r3 HC HP
        by_cases h2 : p.data.toList = [46, 46]
        · by_cases he : st = []
          · subst he
            have HN := Lib.hid (show clnA s.data.toList = (⟨#[]⟩, false) from clnA_no (by rw [HR.out, HC2.out, h2, clnS_out]; rfl))
            have e1 := text_eq h2
            have hlow := Lib.hid HG.out.low
            obtain ⟨A, c, rfl⟩ := HG.out.form
            clear h2
            go_wp2_with (go_at_call 149; try rw [← HU.out]; refine (HT.out _).mono ?_; rintro e w' ⟨rfl, rfl⟩)
            go_ret2
            exact ⟨ret_sb HN.out, .of_below hlow.out⟩
          · have hj := joinS_last he
            have HN := Lib.hid (show clnS [] (splitS s.data.toList.tail) = clnS st.dropLast (remS s.data.toList (k + 1 + p.size)) by rw [HC2.out, h2, clnS_up he])
            have hnl := (HO.out _ (List.getLast_mem he)).2
            have hO2 := Lib.hid HO.out.drop
            have e1 := text_eq h2
            have hne : joinS st ≠ [] := by rw [hj]; simp
            obtain ⟨g, c, hv, -⟩ := own_some (n := (joinS st).length) (by
              have := HG.out.row
              exact ⟨this.1, by rcases this.2 with h | ⟨g', cap, cur, h1, h2, h3⟩; exact .inl h; exact .inr ⟨g', cap, cur, h1, Nat.zero_le _, h3⟩⟩) (List.length_pos_iff.2 hne)
            subst hv
            have hG2 := HG.out
            rw [hj] at hG2 hjl
            have HW := Lib.hid (wol_a hnl (by omega) hG2)
            have HG3 := Lib.hid (show GBT w (joinS st.dropLast) (.slice (some ⟨g, 0, none⟩) (joinS st.dropLast).length c) wr by
              have := hG2.cut (joinS st.dropLast).length (by simp)
              rw [List.take_left] at this; exact this)
            rw [List.length_append] at hjl
            have e2 : (((joinS st).length : Int) == 0) = false := by
              have := List.length_pos_iff.2 hne
              rw [beq_eq_false_iff_ne]; omega
            have hj2 : (joinS st.dropLast).length ≤ k := by omega
            rw [← hj] at HW
            clear h2 he hj hnl hG2 hne HG hjl
            obtain ⟨n1, hn1⟩ : ∃ n, n = (joinS st).length := ⟨_, rfl⟩
            obtain ⟨n2, hn2⟩ : ∃ n, n = (joinS st.dropLast).length := ⟨_, rfl⟩
            rw [← hn1] at HW e2
            rw [← hn2] at HW HG3 hj2
            have H2 := Lib.hid hn2
            rw [← hn1]
            clear hn1 hn2
            go_wp2_with (first
              | (go_at_call 149; try rw [← HU.out]; refine (HT.out _).mono ?_; rintro e w' ⟨rfl, rfl⟩)
              | (go_at_call 185; refine HW.out.mono ?_; rintro e w' ⟨rfl, rfl⟩))
            go_roundw
            case rel => exact ⟨k + 1 + p.size, st.dropLast, p, r2, by go_num, rfl, by rw [← H2.out]; omega, HN.out, HP2.out, hO2.out, HG3.out⟩
            case measure => simp [intOf]; omega
        · cases hd : dotsL p.data.toList with
          | true =>
            have HN := Lib.hid (show clnS [] (splitS s.data.toList.tail) = clnS st (remS s.data.toList (k + 1 + p.size)) by rw [HC2.out, clnS_dot h2 hd])
            have HD := Lib.hid (fun w => hd ▸ dots_a p w)
            have e1 := text_ne h2
            clear h2 hd
            go_wp2_with (first
              | (go_at_call 149; try rw [← HU.out]; refine (HT.out _).mono ?_; rintro e w' ⟨rfl, rfl⟩)
              | (go_at_call 186; refine (HD.out _).mono ?_; rintro e w' ⟨rfl, rfl⟩))
            go_roundw
            case rel => exact ⟨k + 1 + p.size, st, p, r2, by go_num, rfl, by omega, HN.out, HP2.out, HO.out, HG.out⟩
            case measure => simp [intOf]; omega
          | false =>
            have HN := Lib.hid (show clnS [] (splitS s.data.toList.tail) = clnS (st ++ [p.data.toList]) (remS s.data.toList (k + 1 + p.size)) by rw [HC2.out, clnS_part hd])
            have HD := Lib.hid (fun w => hd ▸ dots_a p w)
            have HO2 := Lib.hid (HO.out.snoc hd HNO.out)
            have e1 := text_ne h2
            clear h2 hd
            obtain ⟨g, n', c', w3, hrun, hg3⟩ := app_byteT HG.out (by omega) 47
            obtain ⟨g2, n2, c2, w4, hrun2, hg4⟩ := app_text hg3 p (by rw [List.length_append]; simp; omega) (by simp)
            have HG4 := Lib.hid (show GBT w (joinS (st ++ [p.data.toList])) _ w4 by rw [joinS_snoc, show joinS st ++ 47 :: p.data.toList = joinS st ++ [47] ++ p.data.toList by simp]; exact hg4)
            have hjl2 : (joinS (st ++ [p.data.toList])).length ≤ k + 1 + p.size := by rw [joinS_snoc, List.length_append, List.length_cons, len_data]; omega
            clear hg3 hg4
            go_wp2_with (first
              | (go_at_call 149; try rw [← HU.out]; refine (HT.out _).mono ?_; rintro e w' ⟨rfl, rfl⟩)
              | (go_at_call 186; refine (HD.out _).mono ?_; rintro e w' ⟨rfl, rfl⟩)
              | (at_builtin; refine wpList_run_appT rfl (.tmp 44) (.tmp 45) 22 22 rfl rfl rfl hrun ?_)
              | (at_builtin; refine wpList_run_appT rfl (.tmp 46) (.tmp 47) 22 9 rfl rfl rfl hrun2 ?_))
            go_roundw
            case rel => exact ⟨k + 1 + p.size, st ++ [p.data.toList], p, r2, by go_num, rfl, hjl2, HN.out, HP2.out, HO2.out, HG4.out⟩
            case measure => simp [intOf]; omega
      · have hrem := remS_end (l := s.data.toList) (k := k) (by rw [HL.out]; exact hlt)
        have hcl := HC.out
        have hla := HP.out
        rw [hrem] at hcl hla
        rw [clnS_nil] at hcl
        have hres : clnL s.data.toList = some (joinS st ++ tailP pt.data.toList) := by rw [HR.out, hcl, hla]; rfl
        clear hrem hcl hla
        cases hd : dotsL pt.data.toList with
        | true =>
          have HRES := Lib.hid (show clnL s.data.toList = some (joinS st ++ [47]) by rw [hres]; unfold tailP; rw [if_pos hd])
          have HD := Lib.hid (fun w => hd ▸ dots_a pt w)
          clear hres hd
          obtain ⟨g, n', c', w3, hrun, hg3⟩ := app_byteT HG.out (by omega) 47
          have hback := conv_gatT hg3
          have HL3 := Lib.hid hg3.low
          clear hg3
          go_wp2_with (first
            | (go_at_call 186; refine (HD.out _).mono ?_; rintro e w' ⟨rfl, rfl⟩)
            | (at_builtin; refine wpList_run_appT rfl (.tmp 51) (.tmp 52) 22 22 rfl rfl rfl hrun ?_))
          go_ret2
          exact ⟨ret_sb (clnA_yes HRES.out), .of_below HL3.out⟩
        | false =>
          have HRES := Lib.hid (show clnL s.data.toList = some (joinS st) by rw [hres]; unfold tailP; rw [if_neg (by rw [hd]; simp)]; simp)
          have HD := Lib.hid (fun w => hd ▸ dots_a pt w)
          clear hres hd
          obtain ⟨A, c, rfl⟩ := HG.out.form
          have hback := conv_gatT HG.out
          have HL3 := Lib.hid HG.out.low
          go_wp2_with (go_at_call 186; refine (HD.out _).mono ?_; rintro e w' ⟨rfl, rfl⟩)
          go_ret2
          exact ⟨ret_sb (clnA_yes HRES.out), .of_below HL3.out⟩
end Go.Proofs.YtgkhelbpccehcaaGreatDoor

/- Decode of the document. Conditions: a text of at most a million bytes. -/
namespace Go.Proofs.YtgkhelbpccehcaaGreatDoor
open Go.RowKit
set_option linter.unusedVariables false
set_option linter.unusedSimpArgs false

theorem dig_as (c : UInt8) {d : Int} (h : digR c = d) (w : World) : Calls Tryz.prog 93 #[.int .u8 (c.toNat : Int)] w fun e w' => e = .returned (.int .i64 d) ∧ w = w' := by
  subst h; exact dig_r c w
theorem digR_lt {c : UInt8} (h : digB c = 16) : digR c < 0 := by rw [digR_eq, if_pos h]; omega
theorem digR_ge {c : UInt8} (h : digB c ≠ 16) : digR c = digB c := by rw [digR_eq, if_neg h]
theorem hex_bits (a b : Nat) (ha : a < 16) (hb : b < 16) : bits BinOp.or IntKind.i64 ((a : Int) * 16) (b : Int) = (a : Int) * 16 + b := by
  have : (List.range 16).all (fun x => (List.range 16).all (fun y => decide (bits BinOp.or IntKind.i64 ((x : Int) * 16) (y : Int) = (x : Int) * 16 + y))) = true := by decide +kernel
  have h1 := List.all_eq_true.1 this a (by rw [List.mem_range]; exact ha)
  have h2 := List.all_eq_true.1 h1 b (by rw [List.mem_range]; exact hb)
  exact of_decide_eq_true h2
theorem dec_short {acc l : List UInt8} (h : l.length < 2) : decT acc (37 :: l) = none := decT_bad (by
  match l, h with
  | [], _ => rfl
  | [_], _ => rfl)
theorem hxB_zero {a b : UInt8} (h : digB a = 16 ∨ digB b = 16) : hxB a b = 0 := by unfold hxB; rw [if_pos h]

set_option maxRecDepth 10000 in
set_option maxHeartbeats 1000000 in
theorem decode_r (s : ByteArray) (hs : s.size ≤ 1000000) (w : World) :
    Calls Tryz.prog 120 #[.string s] w fun e w' => e = .returned (.tuple #[.string (decA s.data.toList).1, .int .i64 (decA s.data.toList).2]) ∧ Mods [] w w' := by
  have HM := Lib.hid (gb_nilT w)
  go_enter Tryz.func120, Tryz.ntmps120
  go_wp2
  go_loopw [4, 5] (fun v i wr => ∃ (k : Nat) (acc : List UInt8), k ≤ s.size ∧ i = .int .i64 k ∧ acc.length ≤ k ∧ decL s.data.toList = decT acc (s.data.toList.drop k) ∧ GBT w acc v wr) (fun _ i _ => s.size - (intOf i).toNat)
  case atStart => exact ⟨0, [], Nat.zero_le _, rfl, Nat.le_refl _, by rw [List.drop_zero, decT_start], HM.out⟩
  case round =>
    obtain ⟨k, acc, hk, rfl, hacc, hd, hG⟩ := hrel
    have HD := Lib.hid hd
    have HG := Lib.hid hG
    clear hd hG
    by_cases hlt : k < s.size
    · have hdc := drop_cons s k hlt
      by_cases hc : s[k] = 37
      · have e1 : ((s[k].toNat : Int) != 37) = false := by rw [hc]; rfl
        by_cases h2 : k + 2 < s.size
        · have e0 : decide ((s.size : Int) ≤ (k : Int) + 2) = false := by simp; omega
          have h1 : k + 1 < s.size := by omega
          have hdd : s.data.toList.drop (k + 1) = s[k + 1] :: s[k + 2] :: s.data.toList.drop (k + 3) := drop_two s (k + 1) (by omega)
          rw [hdd] at hdc
          by_cases ha : digB s[k + 1] = 16
          · have HN := Lib.hid (show decL s.data.toList = none by rw [HD.out, hdc, hc]; exact decT_bad (hxB_zero (.inl ha)))
            have hra := digR_lt ha
            obtain ⟨da, hda⟩ : ∃ d, d = digR s[k + 1] := ⟨_, rfl⟩
            have HDA := Lib.hid (fun w => dig_as s[k + 1] hda.symm w)
            rw [← hda] at hra
            clear hdc hdd hc ha hda
            go_wp2_with (go_at_call 93; (with_reducible show Calls _ _ #[.int .u8 (s[k + 1].toNat : Int)] _ _); refine (HDA.out _).mono ?_; rintro e w' ⟨rfl, rfl⟩)
            go_ret2
            exact ⟨ret_si (decA_no HN.out), .of_below HG.out.low⟩
          · have hra := digR_ge ha
            have hla := digB_lt ha
            by_cases hb : digB s[k + 2] = 16
            · have HN := Lib.hid (show decL s.data.toList = none by rw [HD.out, hdc, hc]; exact decT_bad (hxB_zero (.inr hb)))
              have hrb := digR_lt hb
              obtain ⟨da, hda⟩ : ∃ d, d = digR s[k + 1] := ⟨_, rfl⟩
              obtain ⟨db, hdb⟩ : ∃ d, d = digR s[k + 2] := ⟨_, rfl⟩
              have HDA := Lib.hid (fun w => dig_as s[k + 1] hda.symm w)
              have HDB := Lib.hid (fun w => dig_as s[k + 2] hdb.symm w)
              have hra2 : 0 ≤ da := by rw [hda, hra]; exact hla.1
              rw [← hdb] at hrb
              clear hdc hdd hc ha hb hra hla hda hdb
              go_wp2_with (first
                | (go_at_call 93; (with_reducible show Calls _ _ #[.int .u8 (s[k + 1].toNat : Int)] _ _); refine (HDA.out _).mono ?_; rintro e w' ⟨rfl, rfl⟩)
                | (go_at_call 93; (with_reducible show Calls _ _ #[.int .u8 (s[k + 2].toNat : Int)] _ _); refine (HDB.out _).mono ?_; rintro e w' ⟨rfl, rfl⟩))
              go_ret2
              exact ⟨ret_si (decA_no HN.out), .of_below HG.out.low⟩
            · have hrb := digR_ge hb
              have hlb := digB_lt hb
              have hx := hx_nat ha hb
              have hdx : decL s.data.toList = decT acc (37 :: s[k + 1] :: s[k + 2] :: s.data.toList.drop (k + 3)) := by rw [HD.out, hdc, hc]
              obtain ⟨x, hxx⟩ : ∃ x, x = hxB s[k + 1] s[k + 2] := ⟨_, rfl⟩
              have HBAD := Lib.hid (show x = 0 → decL s.data.toList = none from fun h => by rw [hdx]; exact decT_bad (hxx.symm.trans h))
              have HGOOD := Lib.hid (show x ≠ 0 → decL s.data.toList = decT (acc ++ [x]) (s.data.toList.drop (k + 3)) from fun h => by rw [hdx, decT_hex (by rw [← hxx]; exact h), ← hxx])
              rw [← hxx] at hx
              obtain ⟨a0, ha0⟩ := Int.eq_ofNat_of_zero_le hla.1
              obtain ⟨b0, hb0⟩ := Int.eq_ofNat_of_zero_le hlb.1
              have HDA := Lib.hid (fun w => dig_as s[k + 1] (hra.trans ha0) w)
              have HDB := Lib.hid (fun w => dig_as s[k + 2] (hrb.trans hb0) w)
              rw [ha0] at hla hx
              rw [hb0] at hlb hx
              have ha16 : a0 < 16 := by omega
              have hb16 : b0 < 16 := by omega
              have hor := hex_bits a0 b0 ha16 hb16
              have hw := u8_same (n := (a0 : Int) * 16 + b0) (by omega) (by omega)
              have hxb := x.toNat_lt
              rw [← hx] at hor hw
              have HX := Lib.hid hx
              clear hdc hdd hc ha hb hra hla hrb hlb ha0 hb0 hdx hxx hx
              by_cases hz : x = 0
              · have HN := Lib.hid (HBAD.out hz)
                have hz1 : ((x.toNat : Int) == 0) = true := by rw [hz]; rfl
                clear hz
                go_wp2_with (first
                  | (go_at_call 93; (with_reducible show Calls _ _ #[.int .u8 (s[k + 1].toNat : Int)] _ _); refine (HDA.out _).mono ?_; rintro e w' ⟨rfl, rfl⟩)
                  | (go_at_call 93; (with_reducible show Calls _ _ #[.int .u8 (s[k + 2].toNat : Int)] _ _); refine (HDB.out _).mono ?_; rintro e w' ⟨rfl, rfl⟩))
                go_quiet (first | (go_at_call 93; (with_reducible show Calls _ _ #[.int .u8 (s[k + 1].toNat : Int)] _ _); exact quiet_left (HDA.out _)) | (go_at_call 93; (with_reducible show Calls _ _ #[.int .u8 (s[k + 2].toNat : Int)] _ _); exact quiet_left (HDB.out _)))
                go_wp2
                go_ret2
                exact ⟨ret_si (decA_no HN.out), .of_below (HG.out.low.trans ((Drawn.more (Drawn.refl wr) _).below.mono HG.out.low.size))⟩
              · have HN := Lib.hid (HGOOD.out hz)
                have hz1 : ((x.toNat : Int) == 0) = false := by have := (b_no 0 hz).1; simpa using this
                clear hz
                go_wp2_with (first
                  | (go_at_call 93; (with_reducible show Calls _ _ #[.int .u8 (s[k + 1].toNat : Int)] _ _); refine (HDA.out _).mono ?_; rintro e w' ⟨rfl, rfl⟩)
                  | (go_at_call 93; (with_reducible show Calls _ _ #[.int .u8 (s[k + 2].toNat : Int)] _ _); refine (HDB.out _).mono ?_; rintro e w' ⟨rfl, rfl⟩))
                go_quiet (first | (go_at_call 93; (with_reducible show Calls _ _ #[.int .u8 (s[k + 1].toNat : Int)] _ _); exact quiet_left (HDA.out _)) | (go_at_call 93; (with_reducible show Calls _ _ #[.int .u8 (s[k + 2].toNat : Int)] _ _); exact quiet_left (HDB.out _)))
                obtain ⟨wd, hwd⟩ : ∃ wd, wd = wr.drewN nq := ⟨_, rfl⟩
                have hg2 : GBT w acc u4 wd := by rw [hwd]; exact HG.out.below ((Drawn.more (Drawn.refl wr) nq).below)
                rw [← hwd]
                clear hwd
                obtain ⟨g, n', c', w3, hrun, hg4⟩ := app_byteT hg2 (by omega) x
                have HG4 := Lib.hid hg4
                clear hg4 hg2
                go_wp2_with (at_builtin; refine wpList_run_appT rfl (.tmp 59) (.tmp 61) 22 22 rfl rfl rfl hrun ?_)
                go_roundw
                case rel => exact ⟨k + 3, _, by omega, by go_num, by rw [List.length_append]; simp; omega, HN.out, HG4.out⟩
                case measure => simp [intOf]; omega
        · have e0 : (s.size : Int) ≤ (k : Int) + 2 := by omega
          have HN := Lib.hid (show decL s.data.toList = none by rw [HD.out, hdc, hc]; exact dec_short (by rw [List.length_drop, len_data]; omega))
          clear hdc hc h2
          go_wp2
          go_ret2
          exact ⟨ret_si (decA_no HN.out), .of_below HG.out.low⟩
      · have e1 : ((s[k].toNat : Int) != 37) = true := by have := (b_no 37 hc).2; simpa using this
        have HN := Lib.hid (show decL s.data.toList = decT (acc ++ [s[k]]) (s.data.toList.drop (k + 1)) by rw [HD.out, hdc, decT_plain hc])
        clear hdc hc
        obtain ⟨g, n', c', w3, hrun, hg4⟩ := app_byteT HG.out (by omega) s[k]
        have HG4 := Lib.hid hg4
        clear hg4
        go_wp2_with (at_builtin; refine wpList_run_appT rfl (.tmp 17) (.tmp 21) 22 22 rfl rfl rfl hrun ?_)
        go_roundw
        case rel => exact ⟨k + 1, _, by omega, by go_num, by rw [List.length_append]; simp; omega, HN.out, HG4.out⟩
        case measure => simp [intOf]; omega
    · obtain rfl : k = s.size := by omega
      have HN := Lib.hid (show decL s.data.toList = some acc by rw [HD.out, List.drop_of_length_le (by rw [len_data]; exact Nat.le_refl _), decT_nil])
      obtain ⟨A, c, rfl⟩ := HG.out.form
      have hback := conv_gatT HG.out
      go_wp2
      go_ret2
      exact ⟨ret_si (decA_yes HN.out), .of_below HG.out.low⟩
end Go.Proofs.YtgkhelbpccehcaaGreatDoor

/- Clean of the document. Conditions: a path of at most a million bytes. -/
namespace Go.Proofs.YtgkhelbpccehcaaGreatDoor
open Go.RowKit
set_option linter.unusedVariables false
set_option linter.unusedSimpArgs false

def strP (p : List UInt8) : Value := .string (ofL p)
def strsP (st : List (List UInt8)) : List Value := st.map strP
theorem infoStr : (Tryz.prog.info? 9).map (fun i => (i.zero, i.size, i.bytes)) = some (some (.string ByteArray.empty), 1, 16) := by kernel_rfl
/-- Parts that were gathered. -/
def GS (w0 : World) (st : List (List UInt8)) (v : Value) (w : World) : Prop := GatT w0 9 1 st.length (strsP st) v w
theorem gs_nil (w : World) : GS w [] (.slice none 0 0) w := ⟨World.ownsRow_nil _ _ _ _, Below.refl _ _⟩
theorem strsP_len (st : List (List UInt8)) : (strsP st).length = st.length := by simp [strsP]
theorem GS.cut {w0 w : World} {l : List (List UInt8)} {g n c : Nat} (h : GS w0 l (.slice (some ⟨g, 0, none⟩) n c) w) (k : Nat) (hk : k ≤ l.length) : GS w0 (l.take k) (.slice (some ⟨g, 0, none⟩) k c) w := by
  obtain ⟨⟨h1, h2⟩, hlow⟩ := h
  rcases h2 with ⟨hv, _⟩ | ⟨g', cap, cur, hv, hb, hg, hn, hm, hc, ht⟩
  · cases hv
  · injection hv with e1 e2 e3
    injection e1 with e1
    injection e1 with e1
    subst e1 e2 e3
    have hkl : (l.take k).length = k := by rw [List.length_take]; omega
    refine ⟨⟨by simp [strsP], .inr ⟨g, c, cur, by rw [hkl], hb, hg, by rw [hkl]; omega, hm, hc, ?_⟩⟩, hlow⟩
    rw [hkl, show strsP (l.take k) = (strsP l).take k by simp [strsP, List.map_take], ← ht, List.take_take]
    congr 1; omega
theorem GS.fits {w0 w : World} {l : List (List UInt8)} {A : Option Addr} {n c : Nat} (h : GS w0 l (.slice A n c) w) : n = l.length ∧ n ≤ c := by
  rcases h.row.2 with ⟨hv, h0⟩ | ⟨g', cap, cur, hv, _, _, h1, _⟩
  · injection hv with _ e1 e2; omega
  · injection hv with _ e1 e2; omega
theorem GS.cell {w0 w : World} {l : List (List UInt8)} {g n c : Nat} (h : GS w0 l (.slice (some ⟨g, 0, none⟩) n c) w) (j : Nat) (hj : j < l.length) : w.cell? ⟨g, j, none⟩ = some (.string (ofL l[j])) := by
  have := h.row.cells (g := g) rfl j (.string (ofL l[j])) (by simp [strsP, strP, hj])
  rw [add_noneT, Nat.zero_add] at this; exact this
theorem GS.some {w0 w : World} {l : List (List UInt8)} {v : Value} (h : GS w0 l v w) (hn : l ≠ []) : ∃ g c, v = .slice (some ⟨g, 0, none⟩) l.length c := by
  rcases h.row.2 with ⟨_, h0⟩ | ⟨g, cap, _, rfl, _⟩
  · exact absurd (List.eq_nil_of_length_eq_zero h0) hn
  · exact ⟨g, cap, rfl⟩
theorem add_part {w0 w : World} {st : List (List UInt8)} {v : Value} (h : GS w0 st v w) (hz : st.length + 1 ≤ 2000000) (p : List UInt8) :
    ∃ (A' : Option Addr) (C' : Nat) (w1 : World) (g n' c' : Nat) (w2 : World),
      (Builtin.append_ #[112, 112] 112 #[.slice (some ⟨w.heap.size, 0, none⟩) 0 0, v]).run Tryz.prog (w.alloc (.cells #[] 9)) = .ok (.slice A' st.length C') w1 ∧
      (Builtin.append_ #[112, 112] 112 #[.slice A' st.length C', .slice (some ⟨w1.heap.size, 0, none⟩) 1 1]).run Tryz.prog (w1.alloc (.cells #[.string (ofL p)] 9)) = .ok (.slice (some ⟨g, 0, none⟩) n' c') w2 ∧
      GS w0 (st ++ [p]) (.slice (some ⟨g, 0, none⟩) n' c') w2 := by
  obtain ⟨i0, hi, hz0, hz1, hz2⟩ := info_parts infoStr
  have ht := Tryz.underlying112
  have hown : (w.alloc (.cells #[] 9)).ownsRow w0.heap.size 9 1 (.slice (some ⟨w.heap.size, 0, none⟩) 0 0) 0 [] :=
    ⟨rfl, .inr ⟨w.heap.size, 0, #[], rfl, h.low.size, heap_alloc_new w _, Nat.le_refl _, by unfold maxLen; omega, rfl, rfl⟩⟩
  have first : ∃ (A' : Option Addr) (C' : Nat) (w1 : World), (Builtin.append_ #[112, 112] 112 #[.slice (some ⟨w.heap.size, 0, none⟩) 0 0, v]).run Tryz.prog (w.alloc (.cells #[] 9)) = .ok (.slice A' st.length C') w1 ∧
      GS w0 st (.slice A' st.length C') w1 := by
    by_cases he : st = []
    · subst he
      obtain ⟨A, C, rfl⟩ := h.form
      refine ⟨some ⟨w.heap.size, 0, none⟩, 0, w.alloc (.cells #[] 9), ?_, hown, h.low.alloc h.low.size _⟩
      cases A <;> simp [Builtin.append_, run_underlying ht, sizeOf, typeInfo, hi, Builtin.lenOf, Builtin.firstCells, loadCells, loadCellsFrom, storeCells]
    · obtain ⟨g, c, rfl⟩ := h.some he
      obtain ⟨v', w5, hrun, hown', hgrow, -, -⟩ := run_append_own_at (P := Tryz.prog) (w := w.alloc (.cells #[] 9)) w0.heap.size 112 112 9 i0 (.string ByteArray.empty) 1 16 ht hi hz0 hz1 hz2 rfl (by decide)
        (.slice (some ⟨w.heap.size, 0, none⟩) 0 0) 0 [] hown ⟨g, 0, none⟩ st.length c (strsP st) (by rw [strsP_len, Nat.mul_one]) (fun j u hj => by
          have hjl : j < st.length := by rw [← strsP_len]; exact (List.getElem?_eq_some_iff.1 hj).1
          have e : u = .string (ofL st[j]) := by simp [strsP, strP, hjl] at hj; exact hj.symm
          rw [add_noneT, Nat.zero_add, e]
          exact cell_alloc (h.cell j hjl) _) (fun u hu => by
          simp only [strsP, List.mem_map] at hu
          obtain ⟨b, _, rfl⟩ := hu
          rfl) (by unfold maxLen; omega) (by omega) (by have := h.low.size; simp; omega)
      rw [Nat.zero_add, List.nil_append] at hown'
      have hlow : Below w0.heap.size w0 w5 := (h.low.alloc h.low.size _).grown hgrow (by have := h.low.size; simp; omega) fun k e => by
        have : k = w.heap.size := by simpa [Value.ownBlock, eq_comm] using e
        rw [this]; exact h.low.size
      rcases hown'.2 with ⟨hv, h0⟩ | ⟨g2, cap, cur, rfl, _⟩
      · exact ⟨none, 0, w5, by rw [hrun, hv, h0], by rw [hv] at hown'; rw [h0]; exact ⟨by rw [h0] at hown' ⊢; exact hown', hlow⟩⟩
      · exact ⟨_, cap, w5, hrun, hown', hlow⟩
  obtain ⟨A', C', w1, hr1, hg1⟩ := first
  obtain ⟨g, n', c', w2, hr2, hg2⟩ := app_gatT hg1 ht infoStr rfl (by decide) hz (by decide) [.string (ofL p)] rfl (by simp [Value.oneCell'])
  refine ⟨A', C', w1, g, n', c', w2, hr1, hr2, ?_⟩
  unfold GS
  rw [List.length_append, show strsP (st ++ [p]) = strsP st ++ [.string (ofL p)] by simp [strsP, strP]]
  exact hg2

/-! The path, byte by byte. -/
theorem cut_onT {cur r : List UInt8} {c : UInt8} (h : c ≠ 47) : cutS cur (c :: r) = cutS (cur ++ [c]) r := by simp only [cutS]; rw [if_neg h]
theorem cut_slash (cur r : List UInt8) : cutS cur (47 :: r) = cur :: cutS [] r := by simp [cutS]
theorem ext_listT (s : ByteArray) (f k : Nat) : (s.extract f k).data.toList = (s.data.toList.drop f).take (k - f) := by
  rw [ByteArray.data_extract, Array.toList_extract]
theorem ext_selfT (s : ByteArray) (k : Nat) : (s.extract k k).data.toList = [] := by rw [ext_listT]; simp
theorem ext_snocT (s : ByteArray) (f k : Nat) (h : f ≤ k) (hk : k < s.size) : (s.extract f (k + 1)).data.toList = (s.extract f k).data.toList ++ [s[k]] := by
  rw [ext_listT, ext_listT, show k + 1 - f = (k - f) + 1 by omega, List.take_succ_eq_append_getElem (by rw [List.length_drop]; show k - f < s.size - f; omega), List.getElem_drop]
  congr 2
  show s.data.toList[f + (k - f)]'_ = _
  simp only [show f + (k - f) = k by omega]; rfl
theorem ext_len (s : ByteArray) (f k : Nat) (h : f ≤ k) (hk : k ≤ s.size) : (s.extract f k).data.toList.length = k - f := by
  rw [ext_listT, List.length_take, List.length_drop, len_data]; omega
theorem joinS_take {st : List (List UInt8)} {k : Nat} (h : k < st.length) : joinS (st.take (k + 1)) = joinS (st.take k) ++ 47 :: st[k] := by
  rw [List.take_succ_eq_append_getElem h, joinS_snoc]
theorem join_le : ∀ (st : List (List UInt8)), st.length ≤ (joinS st).length
  | [] => by simp
  | p :: r => by have := join_le r; simp only [joinS, List.length_cons, List.length_append, List.cons_append]; omega
theorem joinS_take_le (st : List (List UInt8)) (k : Nat) : (joinS (st.take k)).length ≤ (joinS st).length := by
  have : joinS st = joinS (st.take k) ++ joinS (st.drop k) := by
    have h : ∀ a b : List (List UInt8), joinS (a ++ b) = joinS a ++ joinS b := by
      intro a b
      induction a with
      | nil => rfl
      | cons p r ih => simp [joinS, ih]
    rw [← h, List.take_append_drop]
  rw [this, List.length_append]; omega
theorem join_drop_le (st : List (List UInt8)) : (joinS st.dropLast).length ≤ (joinS st).length := by
  rw [List.dropLast_eq_take]; exact joinS_take_le _ _
end Go.Proofs.YtgkhelbpccehcaaGreatDoor

/- Clean of the document. Conditions: a path of at most a million bytes. -/
namespace Go.Proofs.YtgkhelbpccehcaaGreatDoor
open Go.RowKit
set_option linter.unusedVariables false
set_option linter.unusedSimpArgs false

set_option maxRecDepth 10000 in
set_option maxHeartbeats 2000000 in
theorem clean_r (s : ByteArray) (hs : s.size ≤ 1000000) (w : World) :
    Calls Tryz.prog 121 #[.string s] w fun e w' => e = .returned (.tuple #[.string (clnA s.data.toList).1, .bool (clnA s.data.toList).2]) ∧ Mods [] w w' := by
  by_cases h0 : s.size = 0
  · have HR := Lib.hid (clnA_no (clnL_no (show slashL s.data.toList = false by rw [nil_data h0]; rfl)))
    have h1 := emp_yes h0
    clear h0
    go_enter Tryz.func121, Tryz.ntmps121
    go_wp2
    go_ret2
    exact ⟨ret_sb HR.out, Mods.refl _ _⟩
  · have hp : 0 < s.size := by omega
    obtain ⟨h1, h2⟩ := emp_no hp
    have hd := drop_cons s 0 hp
    rw [List.drop_zero] at hd
    by_cases hc : s[0] = 47
    · have hsl : slashL s.data.toList = true := by rw [hd, hc]; rfl
      have HR := Lib.hid (clnL_yes hsl)
      have htail : s.data.toList.tail = s.data.toList.drop 1 := by rw [List.drop_one]
      have e1 : ((s[0].toNat : Int) != 47) = false := by rw [hc]; rfl
      have c1 : (1 : Int) ≤ (s.size : Int) := by omega
      have hSl : (s.extract 1 s.size ++ ⟨#[47]⟩).data.toList = s.data.toList.tail ++ [47] := by
        rw [ByteArray.data_append, Array.toList_append, ext_from, htail]
      have hSz : (s.extract 1 s.size ++ ⟨#[47]⟩).size = s.size := by
        rw [ByteArray.size_append, ByteArray.size_extract]; show _ + 1 = _; omega
      obtain ⟨S, hS⟩ : ∃ S, S = s.extract 1 s.size ++ ⟨#[47]⟩ := ⟨_, rfl⟩
      have HS := Lib.hid hS
      rw [← hS] at hSl hSz
      have hsp : splitS s.data.toList.tail = cutS [] S.data.toList := by rw [hSl, cutS_split]; rfl
      have HSP := Lib.hid hsp
      have HM := Lib.hid (gs_nil w)
      have hne := splitS_ne s.data.toList.tail
      have HNE := Lib.hid hne
      have hS1 : S.size ≤ 1000000 := by omega
      clear hd hc hsl htail hSl hS hsp hne hSz
      go_enter Tryz.func121, Tryz.ntmps121
      go_upto_region 6 with fail
      rw [← HS.out]
      go_wp2
      go_loopw [4, 5, 7, 8] (fun v lv fv i wr => ∃ (k f : Nat) (st : List (List UInt8)) (lt : ByteArray), f ≤ k ∧ k ≤ S.size ∧ i = .int .i64 k ∧ fv = .int .i64 f ∧ lv = .string lt ∧ (joinS st).length ≤ f ∧
        clnS [] (splitS s.data.toList.tail) = clnS st (cutS (S.extract f k).data.toList (S.data.toList.drop k)) ∧ lastP (splitS s.data.toList.tail) = lastP (lt.data.toList :: cutS (S.extract f k).data.toList (S.data.toList.drop k)) ∧ GS w st v wr) (fun _ _ _ i _ => S.size - (intOf i).toNat)
      case atStart => exact ⟨0, 0, [], ⟨#[]⟩, Nat.le_refl _, Nat.zero_le _, rfl, rfl, rfl, Nat.le_refl _, by rw [ext_selfT, List.drop_zero, HSP.out], by rw [ext_selfT, List.drop_zero, ← HSP.out, lastP_cons _ HNE.out], HM.out⟩
      case round =>
        obtain ⟨k, f, st, lt, hfk, hk, rfl, rfl, rfl, hjl, hcl, hla, hG⟩ := hrel
        have HC := Lib.hid hcl
        have HP := Lib.hid hla
        have HG := Lib.hid hG
        clear hcl hla hG
        by_cases hlt : k < S.size
        · have hdc := drop_cons S k hlt
          by_cases hc : S[k] = 47
          · have e2 : ((S[k].toNat : Int) != 47) = false := by rw [hc]; rfl
            have c2 : (0 : Int) ≤ (f : Int) := by omega
            have c3 : (f : Int) ≤ (k : Int) := by omega
            have c4 : (k : Int) ≤ (S.size : Int) := by omega
            have hul := ext_len S f k hfk (by omega)
            obtain ⟨u, hu⟩ : ∃ u, u = S.extract f k := ⟨_, rfl⟩
            rw [← hu] at HC HP hul
            have HU := Lib.hid hu
            have HC2 := Lib.hid (show clnS [] (splitS s.data.toList.tail) = clnS st (u.data.toList :: cutS (S.extract (k + 1) (k + 1)).data.toList (S.data.toList.drop (k + 1))) by rw [HC.out, hdc, hc, cut_slash, ext_selfT])
            have HP2 := Lib.hid (show lastP (splitS s.data.toList.tail) = lastP (u.data.toList :: cutS (S.extract (k + 1) (k + 1)).data.toList (S.data.toList.drop (k + 1))) by rw [HP.out, hdc, hc, cut_slash, ext_selfT, lastP_cons _ (by simp)])
            clear hu hdc hc HC HP
            by_cases hu0 : u.data.toList = []
            · have HN := Lib.hid (show clnS [] (splitS s.data.toList.tail) = clnS st (cutS (S.extract (k + 1) (k + 1)).data.toList (S.data.toList.drop (k + 1))) by rw [HC2.out, clnS_dot (by rw [hu0]; simp) (by rw [hu0]; rfl)])
              have e3 := emp_yes (show u.size = 0 by show u.data.toList.length = 0; rw [hu0]; rfl)
              clear hu0 hul
              go_upto_region 13 with fail
              rw [← HU.out]
              go_wp2
              go_roundw
              case rel => exact ⟨k + 1, k + 1, st, u, Nat.le_refl _, by omega, by go_num, by go_num, rfl, by omega, HN.out, HP2.out, HG.out⟩
              case measure => simp [intOf]; omega
            · obtain ⟨e3, e4⟩ := emp_no (size_pos hu0)
              by_cases hu1 : u.data.toList = [46]
              · have HN := Lib.hid (show clnS [] (splitS s.data.toList.tail) = clnS st (cutS (S.extract (k + 1) (k + 1)).data.toList (S.data.toList.drop (k + 1))) by rw [HC2.out, clnS_dot (by rw [hu1]; simp) (by rw [hu1]; rfl)])
                have e5 := text_eq hu1
                clear hu0 hu1 hul
                go_upto_region 13 with fail
                rw [← HU.out]
                go_wp2
                go_roundw
                case rel => exact ⟨k + 1, k + 1, st, u, Nat.le_refl _, by omega, by go_num, by go_num, rfl, by omega, HN.out, HP2.out, HG.out⟩
                case measure => simp [intOf]; omega
              · have e5 := text_ne hu1
                by_cases hu2 : u.data.toList = [46, 46]
                · have e6 := text_eq hu2
                  by_cases he : st = []
                  · subst he
                    have HN := Lib.hid (show clnA s.data.toList = (⟨#[]⟩, false) from clnA_no (by rw [HR.out, HC2.out, hu2, clnS_out]; rfl))
                    obtain ⟨A, c, rfl⟩ := HG.out.form
                    clear hu0 hu1 hu2 hul
                    go_upto_region 13 with fail
                    rw [← HU.out]
                    go_wp2
                    go_ret2
                    exact ⟨ret_sb HN.out, .of_below HG.out.low⟩
                  · have HN := Lib.hid (show clnS [] (splitS s.data.toList.tail) = clnS st.dropLast (cutS (S.extract (k + 1) (k + 1)).data.toList (S.data.toList.drop (k + 1))) by rw [HC2.out, hu2, clnS_up he])
                    obtain ⟨g, c, rfl⟩ := HG.out.some he
                    have hf := HG.out.fits.2
                    have hcut := HG.out.cut (st.length - 1) (by omega)
                    rw [← List.dropLast_eq_take] at hcut
                    have hpos := List.length_pos_iff.2 he
                    have e7 : ((st.length : Int) == 0) = false := by rw [beq_eq_false_iff_ne]; omega
                    have hdl := join_drop_le st
                    have hnb := join_le st
                    obtain ⟨n, hn⟩ : ∃ n, n = st.length := ⟨_, rfl⟩
                    rw [← hn] at hf hcut hpos e7 hnb
                    rw [← hn]
                    have HCUT := Lib.hid (fun q (hq : q = n - 1) => hq ▸ hcut)
                    clear hu0 hu1 hu2 hul he hcut hn
                    go_upto_region 13 with fail
                    rw [← HU.out]
                    go_wp2
                    go_roundw
                    case rel => exact ⟨k + 1, k + 1, st.dropLast, u, Nat.le_refl _, by omega, by go_num, by go_num, rfl, by omega, HN.out, HP2.out, HCUT.out _ (by omega)⟩
                    case measure => simp [intOf]; omega
                · have e6 := text_ne hu2
                  have hdo : dotsL u.data.toList = false := by unfold dotsL; simp [hu0, hu1, hu2]
                  have HN := Lib.hid (show clnS [] (splitS s.data.toList.tail) = clnS (st ++ [u.data.toList]) (cutS (S.extract (k + 1) (k + 1)).data.toList (S.data.toList.drop (k + 1))) by rw [HC2.out, clnS_part hdo])
                  have hlen := join_le st
                  obtain ⟨A1, C1, w1, g, n', c', w2, hr1, hr2, hg2⟩ := add_part HG.out (by omega) u.data.toList
                  rw [ofL_data] at hr2
                  have HG2 := Lib.hid hg2
                  have hjl2 : (joinS (st ++ [u.data.toList])).length ≤ k + 1 := by rw [joinS_snoc, List.length_append, List.length_cons, hul]; omega
                  clear hu0 hu1 hu2 hul hdo hg2 hlen
                  go_upto_region 13 with fail
                  rw [← HU.out]
                  go_wp2_with (first
                    | (at_builtin; refine wpList_run_appT rfl (.tmp 38) (.tmp 39) 112 112 rfl rfl rfl hr1 ?_)
                    | (at_builtin; refine wpList_run_appT rfl (.tmp 40) (.tmp 42) 112 112 rfl rfl rfl hr2 ?_))
                  go_roundw
                  case rel => exact ⟨k + 1, k + 1, st ++ [u.data.toList], u, Nat.le_refl _, by omega, by go_num, by go_num, rfl, hjl2, HN.out, HP2.out, HG2.out⟩
                  case measure => simp [intOf]; omega
          · have e2 : ((S[k].toNat : Int) != 47) = true := by have := (b_no 47 hc).2; simpa using this
            have HC2 := Lib.hid (HC.out.trans (by rw [hdc, cut_onT hc, ← ext_snocT S f k hfk hlt]))
            have HP2 := Lib.hid (HP.out.trans (by rw [hdc, cut_onT hc, ← ext_snocT S f k hfk hlt]))
            clear hdc hc HC HP
            go_wp2
            go_roundw
            case rel => exact ⟨k + 1, f, st, lt, by omega, by omega, by go_num, rfl, rfl, hjl, HC2.out, HP2.out, HG.out⟩
            case measure => simp [intOf]; omega
        · obtain rfl : k = S.size := by omega
          have hdr : S.data.toList.drop S.size = [] := List.drop_of_length_le (by rw [len_data]; exact Nat.le_refl _)
          have hcl := HC.out
          have hla := HP.out
          rw [hdr] at hcl hla
          rw [show cutS (S.extract f S.size).data.toList [] = [] from rfl] at hcl hla
          rw [clnS_nil] at hcl
          have hres : clnL s.data.toList = some (joinS st ++ tailP lt.data.toList) := by rw [HR.out, hcl, hla]; rfl
          have hlast : st = [] → dotsL lt.data.toList = true := fun h => by
            rw [h] at hcl
            have := clnS_last _ _ hcl HNE.out
            rw [hla] at this; exact this
          have HRES := Lib.hid hres
          have HLAST := Lib.hid hlast
          clear hdr hcl hla hres hlast HC HP
          by_cases he : st = []
          · have hd := HLAST.out he
            have HRR := Lib.hid (show clnL s.data.toList = some [47] by rw [HRES.out, he]; unfold tailP; rw [if_pos hd]; rfl)
            subst he
            obtain ⟨A, c, rfl⟩ := HG.out.form
            clear hd
            go_wp2
            refine wp_loop_rounds 1 ?_
            rw [rounds_succ]
            go_wp2
            go_ret2
            exact ⟨ret_sb (clnA_yes HRR.out), .of_below HG.out.low⟩
          · obtain ⟨g, c, rfl⟩ := HG.out.some he
            have HCE := Lib.hid (fun j hj => HG.out.cell j hj)
            have HJ := Lib.hid (fun j (hj : j < st.length) => (show ofL (joinS (st.take j)) ++ ⟨#[47]⟩ ++ ofL st[j] = ofL (joinS (st.take (j + 1))) from bytes_ext (by
              rw [ByteArray.data_append, ByteArray.data_append, Array.toList_append, Array.toList_append, ofL_list, ofL_list, ofL_list, joinS_take hj]; simp)))
            have HT := Lib.hid (fun j => joinS_take_le st j)
            have hstb := join_le st
            go_wp2
            go_loop [9, 10] (fun o i => ∃ (j : Nat), j ≤ st.length ∧ i = .int .i64 j ∧ o = .string (ofL (joinS (st.take j)))) (fun _ i => st.length - (intOf i).toNat)
            case atStart => exact ⟨0, Nat.zero_le _, rfl, rfl⟩
            case round =>
              obtain ⟨j, hj, rfl, rfl⟩ := hrel
              by_cases hjt : j < st.length
              · have hcell := HCE.out j hjt
                have hjj := HJ.out j hjt
                have hjs := HT.out j
                have hjs2 := HT.out (j + 1)
                have hos := ofL_size (joinS (st.take j))
                have hqs := ofL_size st[j]
                rw [joinS_take hjt, List.length_append, List.length_cons, ← hqs] at hjs2
                rw [← hos] at hjs hjs2
                obtain ⟨o, ho⟩ : ∃ o, o = ofL (joinS (st.take j)) := ⟨_, rfl⟩
                obtain ⟨q, hq⟩ : ∃ q, q = ofL st[j] := ⟨_, rfl⟩
                rw [← ho] at hjj hjs hjs2
                rw [← hq] at hcell hjj hjs2
                clear hos hqs
                rw [← ho]
                have HJJ := Lib.hid hjj
                clear ho hq hjj
                go_wp2
                go_round
                case rel => exact ⟨j + 1, by omega, by go_num, by rw [HJJ.out]⟩
                case measure => simp [intOf]; omega
              · obtain rfl : j = st.length := by omega
                have hol : (ofL (joinS (st.take st.length))).data.toList = joinS st := by rw [ofL_list, List.take_length]
                obtain ⟨o, ho⟩ : ∃ o, o = ofL (joinS (st.take st.length)) := ⟨_, rfl⟩
                rw [← ho] at hol
                rw [← ho]
                obtain ⟨e1, e2⟩ := emp_no (s := o) (size_pos (by rw [hol]; intro h; exact he (joinS_zero (by rw [h]; rfl))))
                have hosz : o.size ≤ 1000000 := by have := congrArg List.length hol; rw [len_data] at this; omega
                have HOL := Lib.hid hol
                clear ho hol
                cases hd : dotsL lt.data.toList with
                | false =>
                  have HRR := Lib.hid (show clnA s.data.toList = (o, true) from by
                    rw [clnA_yes (show clnL s.data.toList = some o.data.toList by rw [HRES.out, HOL.out]; unfold tailP; rw [if_neg (by rw [hd]; simp)]; simp), ofL_data])
                  have hall : lt.data.toList ≠ [] ∧ lt.data.toList ≠ [46] ∧ lt.data.toList ≠ [46, 46] := by
                    unfold dotsL at hd; simpa using hd
                  obtain ⟨e3, e4⟩ := emp_no (size_pos hall.1)
                  have e5 := text_ne hall.2.1
                  have e6 := text_ne hall.2.2
                  clear hd hall
                  go_wp2
                  go_ret2
                  exact ⟨ret_sb HRR.out, .of_below HG.out.low⟩
                | true =>
                  have HRR := Lib.hid (show clnA s.data.toList = (o ++ ⟨#[47]⟩, true) from by
                    rw [clnA_yes (show clnL s.data.toList = some (o.data.toList ++ [47]) by rw [HRES.out, HOL.out]; unfold tailP; rw [if_pos hd]), show ofL (o.data.toList ++ [47]) = o ++ ⟨#[47]⟩ from bytes_ext (by rw [ofL_list, ByteArray.data_append, Array.toList_append])])
                  have hall : lt.data.toList = [] ∨ lt.data.toList = [46] ∨ lt.data.toList = [46, 46] := by
                    unfold dotsL at hd; exact of_decide_eq_true hd
                  clear hd
                  rcases hall with h | h | h
                  · obtain rfl : lt = ⟨#[]⟩ := bytes_ext h
                    go_wp2
                    go_ret2
                    exact ⟨ret_sb HRR.out, .of_below HG.out.low⟩
                  · obtain rfl : lt = ⟨#[46]⟩ := bytes_ext h
                    go_wp2
                    go_ret2
                    exact ⟨ret_sb HRR.out, .of_below HG.out.low⟩
                  · obtain rfl : lt = ⟨#[46, 46]⟩ := bytes_ext h
                    go_wp2
                    go_ret2
                    exact ⟨ret_sb HRR.out, .of_below HG.out.low⟩
    · have HR := Lib.hid (clnA_no (clnL_no (show slashL s.data.toList = false by rw [hd]; exact slash_cons hc)))
      have e1 : ((s[0].toNat : Int) != 47) = true := by have := (b_no 47 hc).2; simpa using this
      clear hd hc
      go_enter Tryz.func121, Tryz.ntmps121
      go_wp2
      go_ret2
      exact ⟨ret_sb HR.out, Mods.refl _ _⟩
end Go.Proofs.YtgkhelbpccehcaaGreatDoor

/- Targets as plain data, and what Parse makes of a text. No program. -/
namespace Go.Proofs.YtgkhelbpccehcaaGreatDoor
open Go.RowKit
set_option linter.unusedVariables false
set_option linter.unusedSimpArgs false

/-- A target. -/
structure Tgt where
  form : Int
  host : ByteArray
  path : ByteArray
  query : ByteArray
def noB : ByteArray := ⟨#[]⟩
def noT : Tgt := ⟨0, noB, noB, noB⟩
def allowB (c : UInt8) : Bool := plainB c || isC 37 c || isC 63 c
/-- A path and a query. -/
def orgL (l : List UInt8) : Option (List UInt8 × List UInt8) :=
  if l.all allowB = true then (decL (upL (isC 63) l)).bind fun d => (clnL d).map fun p => (p, l.drop ((upL (isC 63) l).length + 1)) else none
theorem orgL_bad {l : List UInt8} (h : l.all allowB = false) : orgL l = none := by unfold orgL; rw [if_neg (by rw [h]; simp)]
theorem orgL_dec {l : List UInt8} (h : l.all allowB = true) (h2 : decL (upL (isC 63) l) = none) : orgL l = none := by unfold orgL; rw [if_pos h, h2]; rfl
theorem orgL_cln {l d : List UInt8} (h : l.all allowB = true) (h2 : decL (upL (isC 63) l) = some d) (h3 : clnL d = none) : orgL l = none := by unfold orgL; rw [if_pos h, h2]; simp [h3]
theorem orgL_yes {l d p : List UInt8} (h : l.all allowB = true) (h2 : decL (upL (isC 63) l) = some d) (h3 : clnL d = some p) : orgL l = some (p, l.drop ((upL (isC 63) l).length + 1)) := by unfold orgL; rw [if_pos h, h2]; simp [h3]
/-- What a path of some form and host is. -/
def orgF (f : Int) (h : ByteArray) (l : List UInt8) : Tgt × Int := match orgL l with | some (p, q) => (⟨f, h, ofL p, ofL q⟩, 0) | none => (noT, 8)
theorem orgF_no {f : Int} {h : ByteArray} {l : List UInt8} (e : orgL l = none) : orgF f h l = (noT, 8) := by unfold orgF; rw [e]
theorem orgF_yes {f : Int} {h : ByteArray} {l p q : List UInt8} (e : orgL l = some (p, q)) : orgF f h l = (⟨f, h, ofL p, ofL q⟩, 0) := by unfold orgF; rw [e]
def endB (c : UInt8) : Bool := isC 47 c || isC 63 c
def hostOf (l : List UInt8) : List UInt8 := upL endB l
/-- What stands behind the host, with a slash ahead. -/
def restOf (l : List UInt8) : List UInt8 := if slashL (l.drop (hostOf l).length) = true then l.drop (hostOf l).length else 47 :: l.drop (hostOf l).length
def absL (l : List UInt8) : Tgt × Int := if hostL (hostOf l) = true then orgF 2 (ofL (lowL (hostOf l))) (restOf l) else (noT, 8)
def authL (l : List UInt8) : Tgt × Int := if hostL l = true ∧ inL l 58 = true then (⟨3, ofL (lowL l), noB, noB⟩, 0) else (noT, 8)
def connectL : List UInt8 := [67, 79, 78, 78, 69, 67, 84]
def optionsL : List UInt8 := [79, 80, 84, 73, 79, 78, 83]
def httpL : List UInt8 := [104, 116, 116, 112, 58, 47, 47]
/-- Whether a text begins with http and two slashes. -/
def schemeL (l : List UInt8) : Bool := decide (7 ≤ l.length) && decide (lowL (l.take 7) = httpL)
/-- What Parse answers. -/
def parT (m l : List UInt8) : Tgt × Int :=
  if 200 < l.length then (noT, 9)
  else if m = connectL then authL l
  else if m = optionsL ∧ l = [42] then (⟨4, noB, noB, noB⟩, 0)
  else if slashL l = true then orgF 1 noB l
  else if schemeL l = true then absL (l.drop 7)
  else (noT, 8)
theorem parT_long {m l : List UInt8} (h : 200 < l.length) : parT m l = (noT, 9) := by unfold parT; rw [if_pos h]
theorem parT_con {m l : List UInt8} (h : ¬ 200 < l.length) (h1 : m = connectL) : parT m l = authL l := by unfold parT; rw [if_neg h, if_pos h1]
theorem parT_opt {m l : List UInt8} (h : ¬ 200 < l.length) (h1 : m ≠ connectL) (h2 : m = optionsL ∧ l = [42]) : parT m l = (⟨4, noB, noB, noB⟩, 0) := by unfold parT; rw [if_neg h, if_neg h1, if_pos h2]
theorem parT_org {m l : List UInt8} (h : ¬ 200 < l.length) (h1 : m ≠ connectL) (h2 : ¬ (m = optionsL ∧ l = [42])) (h3 : slashL l = true) : parT m l = orgF 1 noB l := by unfold parT; rw [if_neg h, if_neg h1, if_neg h2, if_pos h3]
theorem parT_abs {m l : List UInt8} (h : ¬ 200 < l.length) (h1 : m ≠ connectL) (h2 : ¬ (m = optionsL ∧ l = [42])) (h3 : slashL l = false) (h4 : schemeL l = true) : parT m l = absL (l.drop 7) := by unfold parT; rw [if_neg h, if_neg h1, if_neg h2, if_neg (by rw [h3]; simp), if_pos h4]
theorem parT_no {m l : List UInt8} (h : ¬ 200 < l.length) (h1 : m ≠ connectL) (h2 : ¬ (m = optionsL ∧ l = [42])) (h3 : slashL l = false) (h4 : schemeL l = false) : parT m l = (noT, 8) := by unfold parT; rw [if_neg h, if_neg h1, if_neg h2, if_neg (by rw [h3]; simp), if_neg (by rw [h4]; simp)]
end Go.Proofs.YtgkhelbpccehcaaGreatDoor

/- A target in memory. No program but for the type's number. -/
namespace Go.Proofs.YtgkhelbpccehcaaGreatDoor
open Go.RowKit
set_option linter.unusedVariables false
set_option linter.unusedSimpArgs false

def Tgt.cells (t : Tgt) : Array Value := #[.int .i64 t.form, .string t.host, .string t.path, .string t.query]

/-! A target in memory. -/
/-- What such a call answers. -/
def TAns (w : World) (r : Tgt × Int) (e : Ending) (w' : World) : Prop := e = .returned (.tuple #[.agg r.1.cells, .int .i64 r.2]) ∧ Mods [] w w'
theorem TAns.mk' {w w' : World} {r : Tgt × Int} {t : Tgt} {n : Int} (h : r = (t, n)) (hm : Mods [] w w') : TAns w r (.returned (.tuple #[.agg t.cells, .int .i64 n])) w' := by subst h; exact ⟨rfl, hm⟩
theorem ret_tgt {fn : Func} {a : Act} {W : World} {R : Ending → World → Prop} {r : Nat} {x : Tgt} {t : TypeId} {q q2 : Tmp} {v : Value} (hres : fn.results = #[.cell q t, .tmp q2])
    (hrow : Row W r t x.cells)
    (ha : (isAgg t).run Tryz.prog W = .ok true W) (hs : (Go.sizeOf t).run Tryz.prog W = .ok 4 W)
    (h2 : a.tmps.getD q undef = .pointer (some ⟨r, 0, none⟩)) (h3 : a.tmps.getD q2 undef = v) (hd : a.defers = []) (hR : R (.returned (.tuple #[.agg x.cells, v])) W) : bodyPost Tryz.prog fn R .ret a W := by
  refine bodyPost_ret (v := .tuple #[.agg x.cells, v]) ?_ hd hR
  have g2 : a.tmps[q]?.getD undef = .pointer (some ⟨r, 0, none⟩) := by simpa using h2
  have g3 : a.tmps[q2]?.getD undef = v := by simpa using h3
  have c0 := hrow.cell 0
  have c1 := hrow.cell 1
  have c2 := hrow.cell 2
  have c3 := hrow.cell 3
  simp only [Tgt.cells, List.getElem?_toArray, List.getElem?_cons_zero, List.getElem?_cons_succ] at c0 c1 c2 c3
  simp [results, hres, go_sem, g2, g3, c0, c1, c2, c3, ha, hs, Tgt.cells]
/-- A world in which a target was stored. -/
def setT (w : World) (n : Nat) (t : Tgt) : World := (((w.setCell ⟨n, 0, none⟩ (.int .i64 t.form)).setCell ⟨n, 1, none⟩ (.string t.host)).setCell ⟨n, 2, none⟩ (.string t.path)).setCell ⟨n, 3, none⟩ (.string t.query)
theorem Row.put {w : World} {n : Nat} {T : TypeId} {t0 : Tgt} (h : Row w n T t0.cells) (t : Tgt) : Row (setT w n t) n T t.cells := ((((h.set 0 _).set 1 _).set 2 _).set 3 _)
theorem Mods.put {F : List Nat} {a w : World} (h : Mods F a w) {n : Nat} (hn : n ∈ F ∨ a.heap.size ≤ n) (t : Tgt) : Mods F a (setT w n t) := (((h.setCell hn _).setCell hn _).setCell hn _).setCell hn _
/-- The end of a function that has stored its result. -/
theorem end_T {fn : Func} {a : Act} {w W : World} {rr : Tgt × Int} {r : Nat} {t0 : Tgt} {f : Int} {h p k : ByteArray} {q q2 : Tmp} {n : Int} (hres : fn.results = #[.cell q 37, .tmp q2])
    (hrow : Row W r 37 t0.cells) (h2 : a.tmps.getD q undef = .pointer (some ⟨r, 0, none⟩)) (h3 : a.tmps.getD q2 undef = .int .i64 n) (hd : a.defers = [])
    (hX : rr = (⟨f, h, p, k⟩, n)) (hM : Mods [] w W) (hn : w.heap.size ≤ r) :
    bodyPost Tryz.prog fn (TAns w rr) .ret a ((((W.setCell ⟨r, 0, none⟩ (.int .i64 f)).setCell ⟨r, 1, none⟩ (.string h)).setCell ⟨r, 2, none⟩ (.string p)).setCell ⟨r, 3, none⟩ (.string k)) := by
  have hR := hrow.put ⟨f, h, p, k⟩
  have hM2 := hM.put (.inr hn) ⟨f, h, p, k⟩
  change bodyPost Tryz.prog fn (TAns w rr) .ret a (setT W r ⟨f, h, p, k⟩)
  generalize setT W r ⟨f, h, p, k⟩ = w6 at hR hM2 ⊢
  exact ret_tgt (x := ⟨f, h, p, k⟩) hres hR (Tryz.isAgg37 _) (Tryz.sizeOf37 _) h2 h3 hd (TAns.mk' hX hM2)
/-- The same, where nothing was called behind the making of the result's block. -/
theorem end_N {fn : Func} {a : Act} {w : World} {rr : Tgt × Int} {f : Int} {h p k : ByteArray} {q q2 : Tmp} {n : Int} (hres : fn.results = #[.cell q 37, .tmp q2])
    (h2 : a.tmps.getD q undef = .pointer (some ⟨w.heap.size, 0, none⟩)) (h3 : a.tmps.getD q2 undef = .int .i64 n) (hd : a.defers = [])
    (hX : rr = (⟨f, h, p, k⟩, n)) :
    bodyPost Tryz.prog fn (TAns w rr) .ret a (w.alloc (.cells #[.int .i64 f, .string h, .string p, .string k] 37)) := by
  have hR : Row (w.alloc (.cells #[.int .i64 f, .string h, .string p, .string k] 37)) w.heap.size 37 (⟨f, h, p, k⟩ : Tgt).cells := Row.new w _ _
  have hM2 := (Mods.refl [] w).alloc (.cells #[.int .i64 f, .string h, .string p, .string k] 37)
  generalize w.alloc (.cells #[.int .i64 f, .string h, .string p, .string k] 37) = w6 at hR hM2 ⊢
  exact ret_tgt (x := ⟨f, h, p, k⟩) hres hR (Tryz.isAgg37 _) (Tryz.sizeOf37 _) h2 h3 hd (TAns.mk' hX hM2)
/-- What a walk asks of a target's block. -/
theorem Row.facts {w : World} {n : Nat} {T : TypeId} {t : Tgt} (h : Row w n T t.cells) :
    w.cell? ⟨n, 0, none⟩ = some (.int .i64 t.form) ∧ w.cell? ⟨n, 1, none⟩ = some (.string t.host) ∧ w.cell? ⟨n, 2, none⟩ = some (.string t.path) ∧ w.cell? ⟨n, 3, none⟩ = some (.string t.query) ∧
    w.frozen? ⟨n, 0, none⟩ = false ∧ w.frozen? ⟨n, 1, none⟩ = false ∧ w.frozen? ⟨n, 2, none⟩ = false ∧ w.frozen? ⟨n, 3, none⟩ = false :=
  ⟨h.cell 0, h.cell 1, h.cell 2, h.cell 3, h.free 0, h.free 1, h.free 2, h.free 3⟩
/-- The block of the result, when the world has turned by new memory alone. -/
theorem res_T {w w' : World} (h : Mods [] (w.alloc (.cells #[.int .i64 0, .string ⟨#[]⟩, .string ⟨#[]⟩, .string ⟨#[]⟩] 37)) w') : Row w' w.heap.size 37 noT.cells ∧ Mods [] w w' :=
  ⟨(Row.new w _ _).mods h (by simp), ((Mods.refl [] w).alloc _).trans h (fun _ h => nomatch h)⟩
theorem Mods.on {w w1 w2 : World} (h : Mods [] w w1) (h2 : Mods [] w1 w2) : Mods [] w w2 := h.trans h2 (fun _ h => nomatch h)
end Go.Proofs.YtgkhelbpccehcaaGreatDoor

/- A path and a query of the code (origin). Conditions: a text of at most a million bytes. -/
namespace Go.Proofs.YtgkhelbpccehcaaGreatDoor
open Go.RowKit
set_option linter.unusedVariables false
set_option linter.unusedSimpArgs false

theorem of_drewT {F : List Nat} {a w : World} (h : Mods F a.drew w) : Mods F a w := ⟨h.os, h.tape, h.output, h.size, h.block⟩
theorem cloneT (a : ByteArray) (hs : a.size ≤ 1000000) (w : World) : Calls Tryz.prog 40 #[.string a] w fun e w' => e = .returned (.string a) ∧ Mods [] w w' := by
  go_enter Tryz.func40, Tryz.ntmps40
  go_wp2_with fail
  refine (clone_shelfT a _ (by omega)).mono ?_
  rintro e w2 ⟨rfl, hd⟩
  have H := Lib.hid hd
  clear hd
  go_wp2
  go_ret
  exact ⟨rfl, .of_below H.out⟩
theorem allow_plain {c : UInt8} (h : plainB c = true) : allowB c = true := by unfold allowB; rw [h]; rfl
theorem allow_37 {c : UInt8} (h : c = 37) : allowB c = true := by subst h; decide +kernel
theorem allow_63 {c : UInt8} (h : c = 63) : allowB c = true := by subst h; decide +kernel
theorem allow_no {c : UInt8} (h : plainB c = false) (h1 : c ≠ 37) (h2 : c ≠ 63) : allowB c = false := by
  unfold allowB isC; rw [h]; simp [h1, h2]
theorem all_bad {s : ByteArray} {k : Nat} (hk : k < s.size) {p : UInt8 → Bool} (h : p s[k] = false) : s.data.toList.all p = false := by
  rw [List.all_eq_false]
  exact ⟨s[k], List.getElem_mem (by exact hk), by simp [h]⟩
theorem bytes_eqT {a b : ByteArray} (h : a = b) : (a.toList == b.toList) = true ∧ (a.toList != b.toList) = false := by subst h; simp
theorem bytes_neT {a b : ByteArray} (h : a ≠ b) : (a.toList == b.toList) = false ∧ (a.toList != b.toList) = true := by
  have : a.toList ≠ b.toList := fun e => h (bytes_ext (by rw [← ByteArray.toList_eq, ← ByteArray.toList_eq, e]))
  simpa using this
theorem up_eq {ends s u : ByteArray} (hu : u = upA ends s) (h : u.size = s.size) : u = s := by
  apply bytes_ext
  have h1 := upA_list ends s
  rw [← hu] at h1
  rw [h1]
  exact upL_len_full (by rw [← h1]; exact h)

set_option maxRecDepth 10000 in
set_option maxHeartbeats 2000000 in
theorem origin_a (s : ByteArray) (hs : s.size ≤ 1000000) (w : World) : Calls Tryz.prog 131 #[.string s] w (TAns w (orgF 1 noB s.data.toList)) := by
  have HU := Lib.hid (fun w => upto_a s ⟨#[63]⟩ hs w)
  have hul := up_63 s
  have hus := upA_size ⟨#[63]⟩ s
  have hue := up_eq (ends := ⟨#[63]⟩) (s := s) rfl
  obtain ⟨u, hu⟩ : ∃ u, u = upA ⟨#[63]⟩ s := ⟨_, rfl⟩
  rw [← hu] at HU hul hus hue
  have HUE := Lib.hid hue
  clear hu hue
  have hu1 : u.size ≤ 1000000 := by omega
  have HUL := Lib.hid hul
  clear hul
  have HD := Lib.hid (fun w => decode_a u hu1 w)
  go_enter Tryz.func131, Tryz.ntmps131
  go_wp2
  obtain ⟨w0, hw0⟩ : ∃ w0, w0 = w.alloc (.cells #[.int .i64 0, .string ⟨#[]⟩, .string ⟨#[]⟩, .string ⟨#[]⟩] 37) := ⟨_, rfl⟩
  obtain ⟨n0, hn0⟩ : ∃ n0, n0 = w.heap.size := ⟨_, rfl⟩
  have HR0 := Lib.hid (show Row w0 n0 37 noT.cells by rw [hw0, hn0]; exact Row.new w _ _)
  have HM0 := Lib.hid (show Mods [] w w0 by rw [hw0]; exact (Mods.refl [] w).alloc _)
  have HN0 := Lib.hid (show w.heap.size ≤ n0 by omega)
  rw [← hw0, ← hn0]
  clear hw0 hn0
  go_loop [13] (fun i => ∃ (k : Nat), k ≤ s.size ∧ i = .int .i64 k ∧ (s.data.toList.take k).all allowB = true) (fun i => s.size - (intOf i).toNat)
  case atStart => exact ⟨0, Nat.zero_le _, rfl, rfl⟩
  case round =>
    obtain ⟨k, hk, rfl, hall⟩ := hrel
    have HA := Lib.hid hall
    clear hall
    by_cases hlt : k < s.size
    · cases hp : plainB s[k] with
      | true =>
        have HN := Lib.hid (take_all hlt HA.out (allow_plain hp))
        have HC := Lib.hid (fun w => hp ▸ plain_aT s[k] w)
        clear hp
        go_wp2_with (go_at_call 151; refine (HC.out _).mono ?_; rintro e w' ⟨rfl, rfl⟩)
        go_round
        case rel => exact ⟨k + 1, by omega, by go_num, HN.out⟩
        case measure => simp [intOf]; omega
      | false =>
        have HC := Lib.hid (fun w => hp ▸ plain_aT s[k] w)
        by_cases h37 : s[k] = 37
        · have HN := Lib.hid (take_all hlt HA.out (allow_37 h37))
          have e1 : ((s[k].toNat : Int) != 37) = false := by rw [h37]; rfl
          clear hp h37
          go_wp2_with (go_at_call 151; refine (HC.out _).mono ?_; rintro e w' ⟨rfl, rfl⟩)
          go_round
          case rel => exact ⟨k + 1, by omega, by go_num, HN.out⟩
          case measure => simp [intOf]; omega
        · have e1 : ((s[k].toNat : Int) != 37) = true := by have := (b_no 37 h37).2; simpa using this
          by_cases h63 : s[k] = 63
          · have HN := Lib.hid (take_all hlt HA.out (allow_63 h63))
            have e2 : ((s[k].toNat : Int) != 63) = false := by rw [h63]; rfl
            clear hp h37 h63
            go_wp2_with (go_at_call 151; refine (HC.out _).mono ?_; rintro e w' ⟨rfl, rfl⟩)
            go_round
            case rel => exact ⟨k + 1, by omega, by go_num, HN.out⟩
            case measure => simp [intOf]; omega
          · have e2 : ((s[k].toNat : Int) != 63) = true := by have := (b_no 63 h63).2; simpa using this
            have HX := Lib.hid (orgF_no (f := 1) (h := noB) (orgL_bad (all_bad hlt (allow_no hp h37 h63))))
            clear hp h37 h63
            obtain ⟨c0, c1, c2, c3, f0, f1, f2, f3⟩ := HR0.out.facts
            simp only [noT, noB] at c0 c1 c2 c3
            go_wp2_with (go_at_call 151; refine (HC.out _).mono ?_; rintro e w' ⟨rfl, rfl⟩)
            exact end_T rfl HR0.out rfl rfl rfl HX.out (HM0.out) HN0.out
    · have hal := take_end hlt HA.out
      have HAL := Lib.hid hal
      clear hal
      cases hd : decL u.data.toList with
      | none =>
        have HX := Lib.hid (orgF_no (f := 1) (h := noB) (orgL_dec HAL.out (by rw [← HUL.out]; exact hd)))
        rw [decA_no hd] at HD
        clear hd
        go_wp2_with (first
          | (go_at_call 149; refine (HU.out _).mono ?_; rintro e w' ⟨rfl, rfl⟩)
          | (go_at_call 152; refine (HD.out _).mono ?_; rintro e w1 ⟨rfl, hm⟩; have M1 := Lib.hid hm; have R1 := Lib.hid (HR0.out.mods hm (by simp)); obtain ⟨c0, c1, c2, c3, f0, f1, f2, f3⟩ := R1.out.facts; simp only [noT, noB] at c0 c1 c2 c3; clear hm))
        exact end_T rfl R1.out rfl rfl rfl HX.out (HM0.out.on M1.out) HN0.out
      | some d =>
        have hds : d.length ≤ 1000000 := by have := decL_len _ _ hd; rw [len_data] at this; omega
        rw [decA_yes hd] at HD
        have HCL := Lib.hid (fun w => clean_a (ofL d) (by rw [ofL_size]; exact hds) w)
        rw [ofL_list] at HCL
        cases hc : clnL d with
        | none =>
          have HX := Lib.hid (orgF_no (f := 1) (h := noB) (orgL_cln HAL.out (by rw [← HUL.out]; exact hd) hc))
          rw [clnA_no hc] at HCL
          clear hd hc hds
          go_wp2_with (first
            | (go_at_call 149; refine (HU.out _).mono ?_; rintro e w' ⟨rfl, rfl⟩)
            | (go_at_call 152; refine (HD.out _).mono ?_; rintro e w1 ⟨rfl, hm⟩; have M1 := Lib.hid hm; have R1 := Lib.hid (HR0.out.mods hm (by simp)); clear hm)
            | (go_at_call 153; refine (HCL.out _).mono ?_; rintro e w2 ⟨rfl, hm⟩; have M2 := Lib.hid (M1.out.on hm); have R2 := Lib.hid (R1.out.mods hm (by simp)); obtain ⟨c0, c1, c2, c3, f0, f1, f2, f3⟩ := R2.out.facts; simp only [noT, noB] at c0 c1 c2 c3; clear hm))
          exact end_T rfl R2.out rfl rfl rfl HX.out (HM0.out.on M2.out) HN0.out
        | some p =>
          have hx := orgF_yes (f := 1) (h := noB) (orgL_yes HAL.out (by rw [← HUL.out]; exact hd) hc)
          rw [← HUL.out, len_data] at hx
          rw [clnA_yes hc] at HCL
          clear hd hc hds
          go_upto_region 14 with (first
            | (go_at_call 149; refine (HU.out _).mono ?_; rintro e w' ⟨rfl, rfl⟩)
            | (go_at_call 152; refine (HD.out _).mono ?_; rintro e w1 ⟨rfl, hm⟩; have M1 := Lib.hid hm; have R1 := Lib.hid (HR0.out.mods hm (by simp)); clear hm)
            | (go_at_call 153; refine (HCL.out _).mono ?_; rintro e w2 ⟨rfl, hm⟩; have M2 := Lib.hid (M1.out.on hm); have R2 := Lib.hid (R1.out.mods hm (by simp)); clear hm))
          obtain ⟨x, hxx⟩ : ∃ x, x = ofL p := ⟨_, rfl⟩
          rw [← hxx] at hx
          rw [← hxx]
          clear hxx
          go_upto_region 15 with fail
          obtain ⟨w3, hw3⟩ : ∃ w3, w3 = w2.alloc (.cells #[.int .i64 1, .string ⟨#[]⟩, .string x, .string ⟨#[]⟩] 37) := ⟨_, rfl⟩
          obtain ⟨n1, hn1⟩ : ∃ n1, n1 = w2.heap.size := ⟨_, rfl⟩
          have hr3 : Row w3 n0 37 noT.cells := by rw [hw3]; exact R2.out.alloc _
          have ht3 : Row w3 n1 37 (⟨1, noB, x, noB⟩ : Tgt).cells := by rw [hw3, hn1]; exact Row.new w2 _ _
          have hm3 : Mods [] w w3 := by rw [hw3]; exact (HM0.out.on M2.out).alloc _
          have hne : n0 < n1 := by rw [hn1]; exact R2.out.lt
          rw [← hw3, ← hn1]
          clear hw3 hn1 M1 M2 R1 R2 HCL HD
          have HR3 := Lib.hid hr3
          have HT3 := Lib.hid ht3
          have HM3 := Lib.hid hm3
          clear hr3 ht3 hm3
          by_cases hz : u.size = s.size
          · have huse := HUE.out hz
            have e1 := (bytes_eqT huse).1
            have HX := Lib.hid (show orgF 1 noB s.data.toList = (⟨1, noB, x, noB⟩, 0) by
              rw [hx, hz, List.drop_of_length_le (by rw [len_data]; omega)]; rfl)
            clear huse hz hx
            obtain ⟨c0, c1, c2, c3, f0, f1, f2, f3⟩ := HR3.out.facts
            obtain ⟨d0, d1, d2, d3, -, -, -, -⟩ := HT3.out.facts
            simp only [noT, noB] at c0 c1 c2 c3 d0 d1 d2 d3
            go_wp2
            exact end_T rfl HR3.out rfl rfl rfl HX.out HM3.out HN0.out
          · have huse : u ≠ s := fun e => hz (by rw [e])
            have e1 := (bytes_neT huse).1
            have c4 : (0 : Int) ≤ (u.size : Int) + 1 := by omega
            have c5 : (u.size : Int) + 1 ≤ (s.size : Int) := by omega
            have hvl := ext_from s (u.size + 1)
            have hvs := ext_le s (u.size + 1) s.size
            obtain ⟨v, hv⟩ : ∃ v, v = s.extract (u.size + 1) s.size := ⟨_, rfl⟩
            rw [← hv] at hvl hvs
            have HV := Lib.hid hv
            have HX := Lib.hid (show orgF 1 noB s.data.toList = (⟨1, noB, x, v⟩, 0) by rw [hx, ← hvl, ofL_data])
            have HCL := Lib.hid (fun w => cloneT v (by omega) w)
            clear huse hz hx hvl hv
            go_upto_region 17 with (go_at_call 40; rw [← HV.out]; refine (HCL.out _).mono ?_; rintro e w4 ⟨rfl, hm⟩; have R4 := Lib.hid (HR3.out.mods hm (by simp)); have T4 := Lib.hid (HT3.out.mods hm (by simp)); have M4 := Lib.hid (HM3.out.on hm); have t3 := T4.out.cell 3; have tf := T4.out.free 3; simp only [Tgt.cells, List.getElem?_toArray, List.getElem?_cons_zero, List.getElem?_cons_succ, noB] at t3; clear hm)
            obtain ⟨w5, hw5⟩ : ∃ w5, w5 = w4.setCell ⟨n1, 3, none⟩ (.string v) := ⟨_, rfl⟩
            have hr5 : Row w5 n0 37 noT.cells := by rw [hw5]; exact R4.out.far (p := ⟨n1, 3, none⟩) (by show n0 ≠ n1; omega) (.string v)
            have ht5 : Row w5 n1 37 (⟨1, noB, x, v⟩ : Tgt).cells := by rw [hw5]; exact T4.out.set 3 (.string v)
            have hm5 : Mods [] w w5 := by rw [hw5]; exact M4.out.setCell (p := ⟨n1, 3, none⟩) (.inr (by show _ ≤ n1; have := HN0.out; omega)) _
            rw [← hw5]
            clear hw5 t3 tf R4 T4 M4 HR3 HT3 HM3
            have HR5 := Lib.hid hr5
            have HT5 := Lib.hid ht5
            have HM5 := Lib.hid hm5
            clear hr5 ht5 hm5
            obtain ⟨c0, c1, c2, c3, f0, f1, f2, f3⟩ := HR5.out.facts
            obtain ⟨d0, d1, d2, d3, -, -, -, -⟩ := HT5.out.facts
            simp only [noT, noB] at c0 c1 c2 c3 d0 d1 d2 d3
            go_wp2
            exact end_T rfl HR5.out rfl rfl rfl HX.out HM5.out HN0.out
end Go.Proofs.YtgkhelbpccehcaaGreatDoor

/- Parse of the code. Conditions: a method and a text of at most a million bytes. -/
namespace Go.Proofs.YtgkhelbpccehcaaGreatDoor
open Go.RowKit
set_option linter.unusedVariables false
set_option linter.unusedSimpArgs false

theorem lowerK (s : ByteArray) (hs : s.size ≤ 1000000) (w : World) : Calls Tryz.prog 150 #[.string s] w fun e w' => e = .returned (.string (ofL (lowL s.data.toList))) ∧ Mods [] w w' :=
  (lower_a s w (by unfold maxLen; omega)).mono fun e w' ⟨h1, h2⟩ => ⟨h1, .of_below h2⟩
theorem sameKT (a b : ByteArray) (ha : a.size ≤ 1000000) (hb : b.size ≤ 1000000) (w : World) : Calls Tryz.prog 154 #[.string a, .string b] w fun e w' => e = .returned (.bool (sameL a b)) ∧ Mods [] w w' :=
  (same_a a b w (by unfold maxLen; omega) (by unfold maxLen; omega)).mono fun e w' ⟨h1, h2⟩ => ⟨h1, .of_below h2.below⟩
def pickF (x y z : ByteArray) (j : Nat) : ByteArray := if j = 0 then x else if j = 1 then y else z
theorem join2 (x y : ByteArray) (hx : x.size ≤ 1000000) (hy : y.size ≤ 1000000) (w : World) (b : Nat) (hb : b = w.heap.size) :
    Calls Tryz.prog 155 #[.slice (some ⟨b, 0, none⟩) 2 2] (w.alloc (.cells #[.string x, .string y] 9)) fun e w' => e = .returned (.string (ofL (x.data.toList ++ y.data.toList))) ∧ Mods [] w w' := by
  subst hb
  refine (join_a w.heap.size 0 2 2 (pickF x y noB) _ (by simp) (by unfold maxLen; decide) ?_ ?_).mono ?_
  · intro j hj
    rw [Nat.zero_add]
    rcases (by omega : j = 0 ∨ j = 1) with rfl | rfl <;> simp [pickF]
  · simp only [joinF, pickF, List.length_append, len_data, List.nil_append]; simp; omega
  · rintro e w' ⟨rfl, hb⟩
    exact ⟨by simp [joinF, pickF, ofL], ((Mods.refl [] _).alloc _).on (.of_below hb)⟩
theorem in_58 (l : List UInt8) : (upL (isC 58) l = l) ↔ inL l 58 = false := by
  rw [upL_full]
  unfold inL
  rw [List.any_eq_false]
  constructor
  · intro h x hx; have := h x hx; simpa [isC] using this
  · intro h x hx; have := h x hx; simpa [isC] using this
theorem authL_no {l : List UInt8} (h : hostL l = false ∨ inL l 58 = false) : authL l = (noT, 8) := by
  unfold authL; rw [if_neg]; rintro ⟨h1, h2⟩; rcases h with h | h
  · rw [h] at h1; cases h1
  · rw [h] at h2; cases h2
theorem authL_yes {l : List UInt8} (h : hostL l = true) (h2 : inL l 58 = true) : authL l = (⟨3, ofL (lowL l), noB, noB⟩, 0) := by unfold authL; rw [if_pos ⟨h, h2⟩]
set_option maxRecDepth 10000 in
set_option maxHeartbeats 1000000 in
theorem authority_a (s : ByteArray) (hs : s.size ≤ 1000000) (w : World) : Calls Tryz.prog 129 #[.string s] w (TAns w (authL s.data.toList)) := by
  have HH := Lib.hid (fun w => host_a s w hs)
  cases hh : hostL s.data.toList with
  | false =>
    rw [hh] at HH
    have HX := Lib.hid (authL_no (.inl hh))
    clear hh
    go_enter Tryz.func129, Tryz.ntmps129
    go_wp2_with (go_at_call 148; refine (HH.out _).mono ?_; rintro e w' ⟨rfl, rfl⟩)
    exact end_N rfl rfl rfl rfl HX.out
  | true =>
    rw [hh] at HH
    have HU := Lib.hid (fun w => upto_a s ⟨#[58]⟩ hs w)
    have hul := up_58 s
    obtain ⟨u, hu⟩ : ∃ u, u = upA ⟨#[58]⟩ s := ⟨_, rfl⟩
    rw [← hu] at HU hul
    clear hu
    cases hi : inL s.data.toList 58 with
    | false =>
      have hus : u = s := bytes_ext (by rw [hul]; exact (in_58 _).2 hi)
      have e1 := (bytes_eqT hus).1
      have HX := Lib.hid (authL_no (.inr hi))
      clear hh hi hus hul
      go_enter Tryz.func129, Tryz.ntmps129
      go_wp2_with (first
        | (go_at_call 148; refine (HH.out _).mono ?_; rintro e w' ⟨rfl, rfl⟩)
        | (go_at_call 149; refine (HU.out _).mono ?_; rintro e w' ⟨rfl, rfl⟩))
      exact end_N rfl rfl rfl rfl HX.out
    | true =>
      have hus : u ≠ s := fun e => by
        have := (in_58 s.data.toList).1 (by rw [← hul, e])
        rw [hi] at this; cases this
      have e1 := (bytes_neT hus).1
      have HX := Lib.hid (authL_yes hh hi)
      have HL := Lib.hid (fun w => lowerK s hs w)
      obtain ⟨l, hl⟩ : ∃ l, l = ofL (lowL s.data.toList) := ⟨_, rfl⟩
      rw [← hl] at HX HL
      clear hh hi hus hul hl
      go_enter Tryz.func129, Tryz.ntmps129
      go_wp2_with (first
        | (go_at_call 148; refine (HH.out _).mono ?_; rintro e w' ⟨rfl, rfl⟩)
        | (go_at_call 149; refine (HU.out _).mono ?_; rintro e w' ⟨rfl, rfl⟩)
        | (go_at_call 150; refine (HL.out _).mono ?_; rintro e w1 ⟨rfl, hm⟩; have r1 := res_T hm; have R1 := Lib.hid r1; obtain ⟨c0, c1, c2, c3, f0, f1, f2, f3⟩ := r1.1.facts; simp only [noT, noB] at c0 c1 c2 c3; clear hm r1))
      exact end_T rfl R1.out.1 rfl rfl rfl HX.out R1.out.2 (Nat.le_refl _)

theorem up_end (s : ByteArray) : (upA ⟨#[47, 63]⟩ s).data.toList = hostOf s.data.toList := by
  rw [upA_list]
  have : inI (⟨#[47, 63]⟩ : ByteArray).data.toList = endB := funext fun c => by
    have := by_byte (fun c => inI [47, 63] c == endB c) (by decide +kernel) c
    simpa using this
  rw [this]; rfl
theorem absL_no {l : List UInt8} (h : hostL (hostOf l) = false) : absL l = (noT, 8) := by unfold absL; rw [if_neg (by rw [h]; simp)]
theorem absL_yes {l : List UInt8} (h : hostL (hostOf l) = true) : absL l = orgF 2 (ofL (lowL (hostOf l))) (restOf l) := by unfold absL; rw [if_pos h]
theorem orgF_cases (l : List UInt8) : (orgL l = none) ∨ ∃ p q, orgL l = some (p, q) := by
  cases h : orgL l with
  | none => exact .inl rfl
  | some x => exact .inr ⟨x.1, x.2, rfl⟩
end Go.Proofs.YtgkhelbpccehcaaGreatDoor
