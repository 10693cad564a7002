/- For every row of bytes as a body, the length that is told is believed, and the request behind it is read: the law returns true. -/
import Derived.Test.YtgkhelbpccehcaaGreatDoorCards
import Derived.Test.YtgkhelbpccehcaaGreatDoorTie
import Derived.Lay
import Derived.LaidOnce
import Derived.MakeChecks
import Derived.SevenTiedAt
import Derived.WalkKit
import Derived.ProofKit
import Derived.OpenShut
import Derived.ShutString
import Derived.ChangeOld
import Derived.Below
import Derived.SizedLaws
import Derived.Test.YtgkhelbpccehcaaGreatDoorMQI
import Derived.Test.YtgkhelbpccehcaaGreatDoorMQF
import Derived.Test.YtgkhelbpccehcaaGreatDoorMQD
import Derived.Test.YtgkhelbpccehcaaGreatDoorMQJ
import Derived.Carry
import Derived.Deep.CutBlock
namespace Go.Proofs.YtgkhelbpccehcaaGreatDoor.parseLengthIsOne
open Go.ChangeShapes Go.WideShapes Go.ChangeAt Go.RowKit
open Go.ChangeMaps (open_string shut_string)
set_option linter.unusedVariables false
theorem src_bs {w : World} {v : Value} {m : List UInt8} (h : BsAt w v m) : Src Tryz.prog 1 22 v m.length (bys m) w := by
  rcases h with ⟨rfl, a, cap, rfl⟩ | ⟨b, off, cap, rfl, h0, hlt, h1, h2, hc⟩
  · cases a with
    | none => exact Src.ofNil w Tryz.underlying22 cap
    | some a => exact Src.ofSlice w Tryz.underlying22 a 0 cap [] rfl (fun j u hj => by simp at hj) (fun u hu => by cases hu)
  · exact Src.ofSlice w Tryz.underlying22 ⟨b, off, none⟩ m.length cap (bys m) (by rw [bys_len, Nat.mul_one]) (fun j u hj => by
      rw [add_none]
      have hj2 : j < m.length := by have := (List.getElem?_eq_some_iff.1 hj).1; rw [bys_len] at this; exact this
      rw [bys_at m j hj2] at hj
      rw [hc j hj2]; exact hj) (bys_one m)
theorem src_str (w : World) (s : ByteArray) : Src Tryz.prog 1 9 (.string s) s.data.toList.length (bys s.data.toList) w := Src.ofString w Tryz.underlying9 s
def gz : ByteArray := ⟨#[71, 69, 84, 32, 47, 122, 32, 72, 84, 84, 80, 47, 49, 46, 48, 13, 10, 13, 10]⟩
theorem gz_list : gz.data.toList = lnsC [getZ, noB] := by decide
set_option maxRecDepth 100000 in
set_option maxHeartbeats 8000000 in
theorem walk (w : World) (hL : laidMetH Tryz.prog Rows.parseLengthIsOneRow.laid w) (v : Value) (l : List UInt8) (hb : BsAt w v l) :
    Calls Tryz.prog 8 #[v] w fun e w' => e = .returned (.bool true) ∧ Below w.heap.size w w' := by
  have HB := Lib.hid hb
  obtain ⟨A, c, rfl⟩ := hb.len
  clear hL hb
  by_cases hl : 1000 < l.length
  · have g1 : (1000 : Int) < (l.length : Int) := by omega
    clear hl
    go_enter Tryz.func8, Tryz.ntmps8
    go_wp2
    go_ret
    exact ⟨rfl, Below.refl _ _⟩
  have g1 : ¬ (1000 : Int) < (l.length : Int) := by omega
  have hlb : l.length ≤ 1000 := by omega
  obtain ⟨R1, e1, e2, e3, R2, e4, e5, e6⟩ := inner_law (inner := l) (by omega)
  have HD := Lib.hid (fun W => dec_r (l.length : Int) (by omega) W)
  have HN := Lib.hid (fun w => new_p w)
  unfold ptr at HN
  have hdz := dec_size (n := l.length) (by omega)
  clear hl
  simp only [Int.toNat_natCast] at HD
  obtain ⟨n, hn⟩ : ∃ n, n = l.length := ⟨_, rfl⟩
  rw [← hn] at HB HD hdz hlb g1 e1 ⊢
  have HNL := Lib.hid hn
  clear hn
  have hsl : (⟨#[80, 79, 83, 84, 32, 47, 32, 72, 84, 84, 80, 47, 49, 46, 49, 13, 10, 72, 111, 115, 116, 58, 32, 97, 13, 10, 67, 111, 110, 116, 101, 110, 116, 45, 76, 101, 110, 103, 116, 104, 58, 32]⟩ ++ decB n ++ ⟨#[13, 10, 13, 10]⟩).data.toList = hdR n ++ [13, 10] := sR_list n
  have hsz : (⟨#[80, 79, 83, 84, 32, 47, 32, 72, 84, 84, 80, 47, 49, 46, 49, 13, 10, 72, 111, 115, 116, 58, 32, 97, 13, 10, 67, 111, 110, 116, 101, 110, 116, 45, 76, 101, 110, 103, 116, 104, 58, 32]⟩ ++ decB n ++ ⟨#[13, 10, 13, 10]⟩).size = (hdR n).length + 2 := by
    show (⟨#[80, 79, 83, 84, 32, 47, 32, 72, 84, 84, 80, 47, 49, 46, 49, 13, 10, 72, 111, 115, 116, 58, 32, 97, 13, 10, 67, 111, 110, 116, 101, 110, 116, 45, 76, 101, 110, 103, 116, 104, 58, 32]⟩ ++ decB n ++ ⟨#[13, 10, 13, 10]⟩).data.toList.length = _
    rw [hsl]; simp
  have hsz1 : 0 < (⟨#[80, 79, 83, 84, 32, 47, 32, 72, 84, 84, 80, 47, 49, 46, 49, 13, 10, 72, 111, 115, 116, 58, 32, 97, 13, 10, 67, 111, 110, 116, 101, 110, 116, 45, 76, 101, 110, 103, 116, 104, 58, 32]⟩ ++ decB n ++ ⟨#[13, 10, 13, 10]⟩).size ∧ (⟨#[80, 79, 83, 84, 32, 47, 32, 72, 84, 84, 80, 47, 49, 46, 49, 13, 10, 72, 111, 115, 116, 58, 32, 97, 13, 10, 67, 111, 110, 116, 101, 110, 116, 45, 76, 101, 110, 103, 116, 104, 58, 32]⟩ ++ decB n ++ ⟨#[13, 10, 13, 10]⟩).size ≤ 1000 := by
    have h9 : (⟨#[80, 79, 83, 84, 32, 47, 32, 72, 84, 84, 80, 47, 49, 46, 49, 13, 10, 72, 111, 115, 116, 58, 32, 97, 13, 10, 67, 111, 110, 116, 101, 110, 116, 45, 76, 101, 110, 103, 116, 104, 58, 32]⟩ ++ decB n ++ ⟨#[13, 10, 13, 10]⟩).size = 42 + (decB n).size + 4 := by simp [ByteArray.size_append]; rfl
    omega
  go_enter Tryz.func8, Tryz.ntmps8
  have HCV := Lib.hid (fun W => conv_gm W (⟨#[80, 79, 83, 84, 32, 47, 32, 72, 84, 84, 80, 47, 49, 46, 49, 13, 10, 72, 111, 115, 116, 58, 32, 97, 13, 10, 67, 111, 110, 116, 101, 110, 116, 45, 76, 101, 110, 103, 116, 104, 58, 32]⟩ ++ decB n ++ ⟨#[13, 10, 13, 10]⟩) hsz1.1 (by omega))
  obtain ⟨s, hs⟩ : ∃ s, s = (⟨#[80, 79, 83, 84, 32, 47, 32, 72, 84, 84, 80, 47, 49, 46, 49, 13, 10, 72, 111, 115, 116, 58, 32, 97, 13, 10, 67, 111, 110, 116, 101, 110, 116, 45, 76, 101, 110, 103, 116, 104, 58, 32]⟩ ++ decB n ++ ⟨#[13, 10, 13, 10]⟩) := ⟨_, rfl⟩
  rw [← hs] at hsl hsz1 hsz
  have HS := Lib.hid hs
  have HSZ := Lib.hid hsz
  clear hsz
  rw [← hs] at HCV
  clear hs
  go_upto_region 4 with (go_at_call 22; refine (HD.out _).mono ?_; rintro z w1 ⟨rfl, hm⟩; have M1 := Lib.hid (show Mods [] w w1 from Mods.of_below hm); have hcx := HCV.out w1; obtain ⟨cap, W2, hcv, hgm⟩ := hcx; have GM2 := Lib.hid hgm; have hcv2 : (convert 9 22 (.string (⟨#[80, 79, 83, 84, 32, 47, 32, 72, 84, 84, 80, 47, 49, 46, 49, 13, 10, 72, 111, 115, 116, 58, 32, 97, 13, 10, 67, 111, 110, 116, 101, 110, 116, 45, 76, 101, 110, 103, 116, 104, 58, 32]⟩ ++ decB n ++ ⟨#[13, 10, 13, 10]⟩))).run Tryz.prog w1 = .ok (.slice (some ⟨w1.heap.size, 0, none⟩) s.size cap) W2 := (by rw [← HS.out]; exact hcv); clear hm hgm hcv)
  clear hdz g1 HD HCV HS
  have M2 := Lib.hid (M1.out.trans GM2.out.low (fun _ h => nomatch h))
  have hsl2 : s.data.toList.length = s.size := rfl
  obtain ⟨K, hK⟩ : ∃ K, K = s.size + n := ⟨_, rfl⟩
  have hKb : K ≤ 2000 := by have := hsz1.2; omega
  obtain ⟨b3, c3, W3, hrun1, gm3⟩ := GM.app GM2.out (src_bs (HB.out.low M2.out)) (by rw [hsl2, ← HNL.out]; omega)
  have hz3 : (s.data.toList ++ l).length = K := by rw [hK, List.length_append, HNL.out]; rfl
  obtain ⟨b4, c4, W4, hrun2, gm4⟩ := GM.app gm3 (src_str W3 gz) (by rw [hz3, show gz.data.toList.length = 19 from rfl]; omega)
  rw [hsl2, ← HNL.out, ← hK] at hrun1
  rw [hz3, show gz.data.toList.length = 19 from rfl] at hrun2
  have hz4 : (s.data.toList ++ l ++ gz.data.toList).length = K + 19 := by rw [List.length_append, hz3]; rfl
  have GM4 := Lib.hid gm4
  have HZ4 := Lib.hid hz4
  unfold gz at hrun2
  have HK := Lib.hid hK
  clear hK
  clear gm3 gm4 hz3 hz4 hsl2 hcv2
  go_upto_region 6 with (first
    | (at_builtin; refine wpList_run_app2 rfl (.tmp 20) (.tmp 21) 22 22 rfl rfl rfl hrun1 ?_)
    | (at_builtin; refine wpList_run_app2 rfl (.tmp 22) (.const (.string ⟨#[71, 69, 84, 32, 47, 122, 32, 72, 84, 84, 80, 47, 49, 46, 48, 13, 10, 13, 10]⟩)) 22 9 rfl rfl rfl hrun2 ?_)
    | (go_at_call 9; refine (HN.out _).mono ?_; rintro z w5 ⟨g, F, rfl, hk⟩; have HA := Lib.hid hk.out; clear hk))
  clear hrun1 hrun2 HN
  have M4 := Lib.hid (M1.out.trans GM4.out.low (fun _ h => nomatch h))
  have M5 := Lib.hid (M4.out.trans HA.out.2.1 (fun _ h => nomatch h))
  have hbs : BsAt w5 (.slice (some ⟨b4, 0, none⟩) (K + 19) c4) (s.data.toList ++ l ++ gz.data.toList) := by
    have h := GM4.out.at.low HA.out.2.1
    rw [HZ4.out] at h
    exact h
  have m6 := (Mods.refl [] w5).alloc (.cells #[.slice (some ⟨b4, 0, none⟩) (K + 19) c4] 22)
  have hbF : ∀ q ∈ F, b4 < q := fun q hq => by have h1 := HA.out.2.2 q hq; have h2 := GM4.out.lt; omega
  have hown : ∀ (nn cc : Nat) (off : Nat), ∀ q ∈ (Value.slice (some ⟨b4, off, none⟩) nn cc).ownBlock.toList, q = b4 := fun nn cc off q hq => by simpa [Value.ownBlock, eq_comm] using hq
  have hps : PsAp (w5.alloc (.cells #[.slice (some ⟨b4, 0, none⟩) (K + 19) c4] 22)) (.slice (some ⟨w5.heap.size, 0, none⟩) 1 1) [s.data.toList ++ l ++ gz.data.toList] F := by
    have h := psap_one (W := w5) (A := s.data.toList ++ l ++ gz.data.toList) (F := F) (a1 := some ⟨b4, 0, none⟩) (c1 := c4) (by rw [HZ4.out]; exact hbs) HA.out.1.lt (fun _ q hq hF => by have h1 := hown _ _ _ q hq; have h2 := hbF q hF; omega)
    rw [HZ4.out] at h
    exact h
  have hfd := feedr_p _ [s.data.toList ++ l ++ gz.data.toList] hps (HA.out.1.low m6) (by simp only [List.flatten_cons, List.flatten_nil, List.append_nil]; rw [HZ4.out]; omega) (by simp)
  rw [show [s.data.toList ++ l ++ gz.data.toList].flatten = hdR n ++ [13, 10] ++ l ++ lnsC [getZ, noB] by rw [hsl, gz_list]; simp, e1] at hfd
  simp only at hfd
  rw [← HSZ.out, ← HK.out] at hfd
  unfold ptr at hfd
  have HFD := Lib.hid hfd
  have M6 := Lib.hid (M5.out.trans m6 (fun _ h => nomatch h))
  have S5 := Lib.hid (show ∀ q ∈ F, w.heap.size ≤ q from fun q hq => by have h1 := HA.out.2.2 q hq; have h2 := M4.out.size; omega)
  have HBF := Lib.hid hbF
  have HOWN := Lib.hid hown
  have HB5 := Lib.hid hbs
  have HE := Lib.hid (And.intro e2 (And.intro e3 (And.intro e4 (And.intro e5 e6))))
  have hsm := hsz1.2
  clear hfd hps hbs hbF hown m6 e1 e2 e3 e4 e5 e6 hsl hsz1
  go_upto_region 7 with (go_at_call 11; refine HFD.out.mono ?_; rintro z w6 ⟨rfl, hk⟩; obtain ⟨F6, a6, hg6⟩ := hk.out; have A6 := Lib.hid a6; have G6 := Lib.hid hg6; clear hk a6 hg6)
  clear HFD
  have htk := takerq_p A6.out
  rw [take_w HE.out.1] at htk
  simp only at htk
  have HT1 := Lib.hid (take_w HE.out.1)
  obtain ⟨rq, hrq⟩ : ∃ rq, rq = rqOf R1 := ⟨_, rfl⟩
  have hbd : rq.body = l := by rw [hrq]; exact HE.out.2.1
  have hlf : rq.fields.length ≤ 24 := by rw [hrq]; exact A6.out.ok.head.len
  rw [← hrq] at htk
  have HT1' := Lib.hid (show takeR R1 = ({ R1 with phase := 0 }, rq, 0) by rw [hrq]; exact take_w HE.out.1)
  clear hrq
  obtain ⟨md, tg, mi, fs, bd, cl, xp⟩ := rq
  obtain ⟨tf, th, tp, tq⟩ := tg
  simp only at hbd hlf
  subst hbd
  unfold ptr reqV reqCells at htk
  simp only at htk
  have HTK := Lib.hid htk
  clear htk
  go_upto_region 8 with (go_at_call 14; refine HTK.out.mono ?_; rintro z w7 ⟨vf, vb, rfl, hk⟩; have hk2 := hk.out; unfold TookR at hk2; rw [HT1'.out] at hk2; simp only at hk2; have TR1 := Lib.hid hk2; obtain ⟨fa, fc, rfl⟩ := hk2.1.len; obtain ⟨ba, bc, rfl⟩ := hk2.2.1.len; clear hk hk2)
  clear HTK
  rw [← HNL.out] at TR1 ⊢
  obtain ⟨nf, hnf⟩ : ∃ n, n = fs.length := ⟨_, rfl⟩
  rw [← hnf]
  obtain ⟨tf1, tb1, F9, a9, hg9, hn9⟩ := TR1.out
  have mz := (Mods.refl [] w7).alloc (.cells #[.string md, .int .i64 tf, .string th, .string tp, .string tq, .int .i64 mi, .slice fa nf fc, .slice ba n bc, .bool cl, .bool xp] 40)
  have R20 := Lib.hid (Row.new w7 40 #[.string md, .int .i64 tf, .string th, .string tp, .string tq, .int .i64 mi, .slice fa nf fc, .slice ba n bc, .bool cl, .bool xp])
  have M7 := Lib.hid (show Mods [] w w7 from (M6.out.trans G6.out.mods (fun q hq => .inr (S5.out q hq))).trans hg9.mods (fun q hq => .inr (by
    rcases G6.out.news q hq with h | h
    · exact S5.out q h
    · have := M6.out.size; omega)))
  have S9 := Lib.hid (show ∀ q ∈ F9, w.heap.size ≤ q ∧ b4 < q ∧ q < w7.heap.size from fun q hq => by
    have h6 : ∀ q ∈ F6, w.heap.size ≤ q ∧ b4 < q := fun q hq => by
      rcases G6.out.news q hq with h | h
      · exact ⟨S5.out q h, HBF.out q h⟩
      · rw [World.size_alloc] at h
        have h1 := HA.out.2.1.size
        have h2 := GM4.out.lt
        have h3 := M5.out.size
        exact ⟨by omega, by omega⟩
    rcases hg9.news q hq with h | h
    · exact ⟨(h6 q h).1, (h6 q h).2, a9.lt q hq⟩
    · have h1 := HA.out.2.1.size
      have h2 := GM4.out.lt
      have h3 := M5.out.size
      have h4 := G6.out.mods.size
      rw [World.size_alloc] at h4
      exact ⟨by omega, by omega, a9.lt q hq⟩)
  have h6b : b4 ∉ F6 := fun hq => by
    rcases G6.out.news b4 hq with h | h
    · have := HBF.out b4 h; omega
    · rw [World.size_alloc] at h
      have h1 := HA.out.2.1.size
      have h2 := GM4.out.lt
      omega
  have hcap4 : K + 19 ≤ c4 := by
    rcases HB5.out with ⟨e, _⟩ | ⟨_, _, _, hv, _, _, h1, _⟩
    · have := HZ4.out; rw [e] at this; simp at this
    · injection hv with _ _ e; rw [HZ4.out] at h1; omega
  have hb7 : BsAt w7 (.slice (some ⟨b4, 0, none⟩) (K + 19) c4) (s.data.toList ++ bd ++ gz.data.toList) :=
    ((HB5.out.low ((Mods.refl [] w5).alloc _)).mods G6.out.mods (fun q hq h => by have h1 := HOWN.out _ _ _ q hq; have h2 := HBF.out q h; omega)).mods hg9.mods (fun q hq h => by have h1 := HOWN.out _ _ _ q hq; rw [h1] at h; exact h6b h)
  have hbz := (hb7.low mz).from' (K) (by omega) (A2 := some ⟨b4, K, none⟩) (by rw [if_neg (by omega), Option.map_some, add_none, Nat.zero_add]) 19 (c4 - (K)) (by omega) rfl
  rw [List.drop_left' (by rw [HK.out, List.length_append, HNL.out]; rfl), gz_list] at hbz
  have e4 := HE.out.2.2.1
  rw [HT1'.out] at e4
  simp only at e4
  have TB := Lib.hid (show BsAt w7 (.slice ba n bc) bd from tb1)
  have HN9 := Lib.hid hn9
  have MZ := Lib.hid mz
  obtain ⟨p7, hp7⟩ : ∃ p, p = w7.heap.size := ⟨_, rfl⟩
  obtain ⟨W7, hW7⟩ : ∃ W7, W7 = w7.alloc (.cells #[.string md, .int .i64 tf, .string th, .string tp, .string tq, .int .i64 mi, .slice fa nf fc, .slice ba n bc, .bool cl, .bool xp] 40) := ⟨_, rfl⟩
  have HP7 := Lib.hid hp7
  have a97 := a9.low mz
  rw [← hW7] at hbz MZ a97 ⊢
  rw [← hp7, ← hW7] at R20
  rw [← hp7]
  have m8 := (Mods.refl [] W7).alloc (.cells #[.slice (some ⟨b4, K, none⟩) 19 (c4 - (K))] 22)
  have hps2 : PsAp (W7.alloc (.cells #[.slice (some ⟨b4, K, none⟩) 19 (c4 - (K))] 22)) (.slice (some ⟨W7.heap.size, 0, none⟩) 1 1) [lnsC [getZ, noB]] F9 :=
    psap_one (W := W7) (A := lnsC [getZ, noB]) (F := F9) (a1 := some ⟨b4, K, none⟩) (c1 := c4 - (K)) hbz a97.lt (fun _ q hq hF => by have h1 := HOWN.out _ _ _ q hq; have h2 := (S9.out q hF).2.1; omega)
  have hfd2 := feedr_p _ [lnsC [getZ, noB]] hps2 (a97.low m8) (by decide) (by simp)
  rw [show [lnsC [getZ, noB]].flatten = lnsC [getZ, noB] by simp, e4] at hfd2
  simp only at hfd2
  rw [show (lnsC [getZ, noB]).length = 19 from rfl] at hfd2
  unfold ptr at hfd2
  have HFD2 := Lib.hid hfd2
  have M8 := Lib.hid ((M7.out.trans MZ.out (fun _ h => nomatch h)).trans m8 (fun _ h => nomatch h))
  have k1 : (K : Int) ≤ (c4 : Int) := by omega
  have k2 : ¬ c4 = K := by omega
  have hmn : min (K : Int) ((K : Int) + 19) = (K : Int) := by omega
  clear hfd2 hps2 m8 a97 hbz hb7 h6b hcap4 tf1 tb1 a9 hg9 hn9 mz hW7 hp7 e4 TR1 hnf
  go_upto_region 9 with (go_at_call 11; refine HFD2.out.mono ?_; rintro z w8 ⟨rfl, hk⟩; obtain ⟨F10, a10, hg10⟩ := hk.out; have A10 := Lib.hid a10; have G10 := Lib.hid hg10; clear hk a10 hg10)
  clear HFD2 hmn k1 k2
  have M9 := Lib.hid (show Mods [] w w8 from M8.out.trans G10.out.mods (fun q hq => .inr (S9.out q hq).1))
  have S10 := Lib.hid (show ∀ q ∈ F10, w.heap.size ≤ q ∧ q ≠ p7 ∧ (q ∈ F9 ∨ p7 < q) from fun q hq => by
    have hp := HP7.out
    rcases G10.out.news q hq with h | h
    · have h1 := S9.out q h
      exact ⟨h1.1, by omega, .inl h⟩
    · have h2 := R20.out.lt
      have h3 := M7.out.size
      rw [World.size_alloc] at h
      exact ⟨by omega, by omega, .inr (by omega)⟩)
  have r28 := R20.out.mods (show Mods F9 W7 w8 from (((Mods.refl [] W7).alloc _).more (fun _ h => nomatch h)).trans G10.out.mods (fun q hq => .inl hq)) (fun h => by have h1 := (S9.out _ h).2.2; have h2 := HP7.out; omega)
  have tb8 : BsAt w8 (.slice ba n bc) bd := ((TB.out.low MZ.out).low ((Mods.refl [] W7).alloc _)).mods' G10.out.mods (fun _ q hq => (HN9.out q (.inr hq)).2.1)
  have hbl : ∀ q ∈ (Value.slice ba n bc).ownBlock.toList, q ∉ F10 := fun q hq h => by
    have h1 := (HN9.out q (.inr hq))
    rcases (S10.out q h).2.2 with h2 | h2
    · exact h1.2.1 h2
    · have h3 := h1.2.2; have h4 := HP7.out; omega
  have htk2 := takerq_p A10.out
  rw [take_w HE.out.2.2.2.1] at htk2
  simp only at htk2
  obtain ⟨rq2, hrq2⟩ : ∃ rq2, rq2 = rqOf R2 := ⟨_, rfl⟩
  have htg2 : rq2.tgt = pathT ⟨#[47, 122]⟩ := by rw [hrq2]; exact HE.out.2.2.2.2
  rw [← hrq2] at htk2
  have HT2 := Lib.hid (show takeR R2 = ({ R2 with phase := 0 }, rq2, 0) by rw [hrq2]; exact take_w HE.out.2.2.2.1)
  clear hrq2
  obtain ⟨md2, tg2, mi2, fs2, bd2, cl2, xp2⟩ := rq2
  simp only at htg2
  subst htg2
  unfold ptr reqV reqCells pathT at htk2
  simp only at htk2
  have HTK2 := Lib.hid htk2
  have R28 := Lib.hid r28
  have TB8 := Lib.hid tb8
  have HBL := Lib.hid hbl
  clear htk2 r28 tb8 hbl
  go_upto_region 10 with (go_at_call 14; refine HTK2.out.mono ?_; rintro z w9 ⟨vf, vb, rfl, hk⟩; have hk2 := hk.out; unfold TookR at hk2; rw [HT2.out] at hk2; simp only at hk2; have TR2 := Lib.hid hk2; obtain ⟨ga, gc, rfl⟩ := hk2.1.len; obtain ⟨ha, hc, rfl⟩ := hk2.2.1.len; clear hk hk2)
  clear HTK2
  obtain ⟨-, -, F11, a11, hg11, -⟩ := TR2.out
  have r39 := R28.out.mods hg11.mods (fun h => (S10.out _ h).2.1 rfl)
  have tb9 : BsAt w9 (.slice ba n bc) bd := TB8.out.mods' hg11.mods (fun _ q hq => HBL.out q hq)
  have M10 := Lib.hid (show Mods [] w w9 from M9.out.trans hg11.mods (fun q hq => .inr (S10.out q hq).1))
  obtain ⟨nf2, hnf2⟩ : ∃ n, n = fs2.length := ⟨_, rfl⟩
  obtain ⟨nb2, hnb2⟩ : ∃ n, n = bd2.length := ⟨_, rfl⟩
  rw [← hnf2, ← hnb2]
  have HSM := Lib.hid (fun W' (hm : Mods [] w9 W') => same_l15 bd bd (.slice ba n bc) (.slice A n c) W' (tb9.low hm) (HB.out.low (M10.out.trans hm (fun _ h => nomatch h))) (r := true) (decide_eq_true rfl))
  obtain ⟨s0, s1, s2, s3, s4, s5, s6, s7, s8, s9⟩ := r39.ten
  have u7 := fun o => cell_alloc s7 o
  clear a11 hg11 r39 tb9 s0 s1 s2 s3 s4 s5 s6 s8 s9 TR2 hnf2 hnb2
  go_wp2_with (first
    | (go_at_call 23; refine (HSM.out _ ((Mods.refl [] w9).alloc _)).mono ?_; rintro z w10 ⟨rfl, hd⟩; have M11 := Lib.hid (show Mods [] w9 w10 from ((Mods.refl [] w9).alloc _).trans hd.mods15 (fun _ h => nomatch h)); obtain ⟨qd, rfl⟩ := hd)
    | (go_at_call 18; refine (known_15 _).mono ?_; rintro z w12 ⟨rfl, hm⟩; have M40 := Lib.hid ((M10.out.trans M11.out (fun _ h => nomatch h)).trans hm (fun _ h => nomatch h)); clear hm))
  go_ret
  exact ⟨rfl, M40.out.below⟩

theorem own : ownKnob Tryz.prog.godebug = none := by kernel_rfl
theorem laidOut : laidOutB Tryz.prog = true := by kernel_rfl
set_option maxRecDepth 100000 in
theorem lifted (os : Os) (started : os.Started) (H : Type) (enc : TypeId × Value → H) :
    ReturnsInHanded {} Tryz.checked os 8 .any (fun w args => (Rows.parseLengthIsOneSpec.pre enc Tryz.prog Tryz.f8 [] false w args ∧ laidMetH Tryz.prog Rows.parseLengthIsOneRow.laid w) ∧ sizedMet enc Tryz.prog Tryz.f8 (OpenSpec.ofChange Rows.parseLengthIsOneSpec) false w args)
      (Rows.parseLengthIsOneSpec.post enc Tryz.prog Tryz.f8 false true false false) := by
  refine returnsInHanded_of_change_and (C := Tryz.checked) (X := fun w _ => laidMetH Tryz.prog Rows.parseLengthIsOneRow.laid w) (fun _ _ _ hh h => h.of_heap hh) own started (by kernel_rfl) Tryz.func8
    (ChangeSpec.witness_shaped (enc := enc) (C := Tryz.checked) (os := os) (X := fun w _ => laidMetH Tryz.prog Rows.parseLengthIsOneRow.laid w) false (World.laidAll Tryz.prog os Rows.parseLengthIsOneRow.laid) #[.slice none 0 0] 8 (World.laidAll_os _ _ _)
      (World.shaped_of_ZipB (by kernel_rfl) (by kernel_rfl)) (by kernel_rfl) (by kernel_rfl) (by kernel_rfl)
      (by rw [MakeChecks.laidMetH_plain _ _ _ (by kernel_rfl)]; exact laidMet_laidAll _ (by kernel_rfl) (by kernel_rfl))) ?_
  intro W base args ds gs before hval0 hW hcnd hsz0 hL _
  have hsz : (DataW.weightsEach Tryz.prog (Tryz.f8.params.toList ++ Rows.parseLengthIsOneSpec.plain.varTypes Tryz.prog) (ds ++ gs)).all (· ≤ reachBytes) = true := hsz0
  have hval : ∀ (j : Nat) t v, Tryz.f8.params[j]? = some t → args[j]? = some v → Value.okWide Tryz.prog W .any base t v := hval0
  have hW' := hW
  obtain ⟨p, q, hA0, hV, rfl, hfz, hnd⟩ := hW
  have hA : DataW.TrodAll enc Tryz.prog W 0 (fun _ => true) true Tryz.f8.params.toList args.toList ds p := hA0
  rw [Tryz.params8] at hA hval hsz
  obtain ⟨v0, vs0, d0, ds0, p0, q0, hargs, rfl, rfl, h0, r0⟩ := trodAll_cons hA
  obtain ⟨rfl, rfl, rfl⟩ := trodAll_nil r0
  obtain rfl : args = #[v0] := by cases args; simp_all
  obtain ⟨rfl, rfl⟩ := trodVars_none hV
  have k0 := h0
  have lt0 : ∀ x ∈ p0, x.block < W.heap.size := by obtain ⟨m, hm⟩ := k0; exact DataW.trod_lt m _ _ _ hm
  obtain ⟨bl0, o0⟩ := open_bs14 (hval 0 22 v0 rfl rfl) k0 (fun n hn => by simpa using List.all_eq_true.1 hsz n (DataW.weights_mem_each (j := 0) (t := 22) rfl rfl n hn))
  clear hA0 hval0 hsz0 hsz
  refine (walk W hL v0 bl0 o0).mono fun e W' ⟨he, bel⟩ => ?_
  subst he
  exact ⟨_, rfl, _, _, _, [], _, [], hW', trodAll_mk1 (shut_bool Tryz.underlying4 _), (trodAll_cons_mk (Below.trod laidOut (by kernel_rfl) (of_decide_eq_true (by kernel_rfl)) k0 bel lt0) trodAll_mk0), rfl, bel.frame _, fun h => by cases h⟩

theorem over : Rows.parseLengthIsOneRow.holds Tryz.pinned (OpenSpec.ofChange Rows.parseLengthIsOneSpec) :=
  OpenClaim.holds_of_wide 8 Tryz.f8 rfl rfl rfl rfl rfl rfl rfl ⟨rfl, rfl, rfl, rfl, rfl⟩ rfl rfl rfl rfl rfl (by kernel_rfl) Tryz.func8 (by kernel_rfl)
    (of_decide_eq_true (by kernel_rfl)) (by unfold Func.isWrapper; first | (rw [if_pos (by decide +kernel)]; kernel_rfl) | (rw [if_neg (by decide +kernel)]; exact ⟨rfl, rfl⟩))
    (fun os started H enc _ => lifted os started H enc)

theorem said : Rows.ParseLengthIsOneSaid := over
theorem plain (f : FuncId) (fn : Func) (hf : Tryz.pinned.checked.prog.funcNamed "usher/usherlaw15.ParseLengthIsOne" = some f) (hfn : Tryz.pinned.checked.prog.funcs[f]? = some fn) :
    false = Tryz.pinned.checked.prog.looks [] ∧ ∀ (j : Nat) t, fn.params[j]? = some t → Tryz.pinned.checked.prog.wantsStandIn t = false := by
  obtain rfl : f = 8 := Option.some.inj ((show Tryz.prog.funcNamed "usher/usherlaw15.ParseLengthIsOne" = some 8 by kernel_rfl).symm.trans hf) |>.symm
  obtain rfl : fn = Tryz.f8 := (Option.some.inj (Tryz.func8.symm.trans hfn)).symm
  refine ⟨by kernel_rfl, fun j t ht => ?_⟩
  rw [Tryz.params8] at ht
  have hm : t ∈ [22] := by simpa using Array.mem_of_getElem? ht
  simp only [List.mem_cons, List.mem_nil_iff, or_false] at hm
  rcases hm with rfl
  · exact (show Tryz.prog.wantsStandIn 22 = false by kernel_rfl)
theorem proved : Rows.ParseLengthIsOneCardSaid :=
  Claim7.holds_tied_plain_at .later [] _ _ _ _ said (fun _ h => by cases h) (by kernel_rfl) (fun _ h => by cases h) parseLengthIsOne_row_tie rfl ⟨rfl, rfl⟩ (by kernel_rfl) rfl plain (by kernel_rfl)
end Go.Proofs.YtgkhelbpccehcaaGreatDoor.parseLengthIsOne
