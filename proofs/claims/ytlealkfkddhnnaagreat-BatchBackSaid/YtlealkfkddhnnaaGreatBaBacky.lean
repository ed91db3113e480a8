/- As the seat's text, without what nothing here names. -/
import Derived.Test.YtlealkfkddhnnaaGreatRows
import Derived.Test.YtlealkfkddhnnaaGreatBtcUy
import Derived.Test.YtlealkfkddhnnaaGreatBtcLy
import Derived.Test.YtlealkfkddhnnaaGreatK1y
import Derived.Deep.Cut
import Derived.ProofKit
import Derived.OpenShut
import Derived.ShutString
import Derived.ChangeOld
namespace Go.Proofs.YtlealkfkddhnnaaGreat.batchBack
open Go.ChangeShapes Go.WideShapes Go.ChangeAt Go.RowKit
open Go.ChangeMaps (open_string shut_string)
set_option linter.unusedVariables false
theorem own : ownKnob Tryz.prog.godebug = none := by kernel_rfl
theorem laidOut : laidOutB Tryz.prog = true := by kernel_rfl
open Cur Mem
set_option maxRecDepth 100000
theorem btb_pos (B : Bt) : 0 < (btb B).length := by
  have := vsz_pos B.1
  have h2 : (btb B).length = vsz B.1 + ((vz B.2.1 ++ (vz (B.2.2.length : Int) ++ hhz B.2.1 (hds B.2.2))).length + (bkb (jn B.2.2)).length) := by
    show ((vz B.1 ++ (vz B.2.1 ++ (vz (B.2.2.length : Int) ++ hhz B.2.1 (hds B.2.2)))) ++ bkb (jn B.2.2)).length = _
    rw [List.length_append, List.length_append, vz_length, Nat.add_assoc]
  omega
theorem back_dec {B : Bt} {Z : List Int} {l : Nat} (hZ : Z = btb B) (hl : l = Z.length) (hok : BtOk B) (hj : (jn B.2.2).length ≤ 300) (hjb : ∀ x ∈ jn B.2.2, 0 ≤ x ∧ x < 256) (hbb : ∀ x ∈ Z, 0 ≤ x ∧ x < 256) (hl3 : l ≤ 30000) (w : World) (A : Option Addr) (m : Nat) (hz : Bs w A l Z) (hm : l ≤ m) :
    Calls Tryz.prog 27 #[.slice A l m] w (BdPost (B, true, 0, 0) w) := by
  subst hZ hl
  have h := put_few (rest := []) hok hj hjb
  rw [List.append_nil] at h
  have h2 := bdecode_any A _ m (btb B) w hz hm (by omega) hbb (fun _ => h.1) (fun _ => h.2.1)
  rw [(dec_put hok (by omega) hjb).1] at h2
  exact h2
theorem back_loose {B : Bt} {Z : List Int} {l : Nat} (hZ : Z = btb B) (hl : l = Z.length) (hok : BtOk B) (hj : (jn B.2.2).length ≤ 300) (hjb : ∀ x ∈ jn B.2.2, 0 ≤ x ∧ x < 256) (hbb : ∀ x ∈ Z, 0 ≤ x ∧ x < 256) (hl3 : l ≤ 30000) (w : World) (A : Option Addr) (m : Nat) (hz : Bs w A l Z) (hm : l ≤ m) :
    Calls Tryz.prog 28 #[.slice A l m] w (BzPost (B, true, 0, 0) w) := by
  subst hZ hl
  have h := put_few (rest := []) hok hj hjb
  rw [List.append_nil] at h
  have h2 := bdecodeloose_any A _ m (btb B) w hz hm (by omega) hbb (fun _ => h.1) (fun _ => h.2.2)
  rw [(dec_put hok (by omega) hjb).2] at h2
  exact h2
theorem back_rest {B : Bt} {Z y : List Int} {l k : Nat} (hZ : Z = btb B) (hl : l = Z.length) (hok : BtOk B) (hj : (jn B.2.2).length ≤ 300) (hjb : ∀ x ∈ jn B.2.2, 0 ≤ x ∧ x < 256) (hbb : ∀ x ∈ Z, 0 ≤ x ∧ x < 256) (hl3 : l ≤ 30000) (hy : y.length = k) (hk : 0 < k) (hk1 : k ≤ 100) (hby : ∀ x ∈ y, 0 ≤ x ∧ x < 256) (w : World) (A : Option Addr) (m : Nat) (hz : Bs w A (l + k) (Z ++ y)) (hm : l + k ≤ m) :
    Calls Tryz.prog 27 #[.slice A ((l + k : Nat) : Int).toNat m] w (BdPost (bt0, false, 9, (l : Int)) w) := by
  subst hZ hl hy
  rw [Int.toNat_natCast]
  have h := put_few (rest := y) hok hj hjb
  have h2 := bdecode_any A _ m (btb B ++ y) w hz hm (by omega) (fun x hx => (List.mem_append.1 hx).elim (hbb x) (hby x)) (fun _ => h.1) (fun _ => h.2.1)
  have h3 := dec_rest (rest := y) hok (by omega) hjb hk
  rw [List.length_append] at h3
  rw [h3] at h2
  exact h2
theorem back_cut {B : Bt} {Z : List Int} {l j : Nat} (hZ : Z = btb B) (hl : l = Z.length) (hok : BtOk B) (hj : (jn B.2.2).length ≤ 300) (hjb : ∀ x ∈ jn B.2.2, 0 ≤ x ∧ x < 256) (hbb : ∀ x ∈ Z, 0 ≤ x ∧ x < 256) (hl3 : l ≤ 30000) (hjl : j < l) (w : World) (A : Option Addr) (m : Nat) (hz : Bs w A j (Z.take j)) (hm : j ≤ m) :
    Calls Tryz.prog 27 #[.slice A j m] w (BdPost (bt0, false, 1, (j : Int)) w) := by
  subst hZ hl
  have h2 := bdecode_any A j m ((btb B).take j) w hz hm (by omega) (fun x hx => hbb x (List.mem_of_mem_take hx)) (fun h => (cut_few hok hj hjb hjl h).1) (fun h => (cut_few hok hj hjb hjl h).2)
  rw [dec_cut hok (by omega) hjb hjl] at h2
  exact h2
set_option maxHeartbeats 8000000 in
theorem walk {H : Type} (enc : TypeId × Value → H) (w : World) (base : Nat) (v0 : Value) (d0 : DataW H) (p0 : List MemPlace) (g0 : Value.okWide Tryz.prog w .any base 25 v0) (h0 : DataW.Trod enc Tryz.prog w 0 (fun _ => true) true 25 v0 d0 p0) (v1 : Value) (d1 : DataW H) (p1 : List MemPlace) (g1 : Value.okWide Tryz.prog w .any base 28 v1) (h1 : DataW.Trod enc Tryz.prog w 0 (fun _ => true) true 28 v1 d1 p1) (v2 : Value) (d2 : DataW H) (p2 : List MemPlace) (g2 : Value.okWide Tryz.prog w .any base 3 v2) (h2 : DataW.Trod enc Tryz.prog w 0 (fun _ => true) true 3 v2 d2 p2) :
    Calls Tryz.prog 5 #[v0, v1, v2] w fun e w' => e = .returned (.bool true) ∧ Below w.heap.size w w' := by
  obtain ⟨ep, bs, A, n, m, L, rfl, ⟨e0, e9⟩, ⟨b0, b9⟩, hnm, hnil, hz⟩ := open_batch g0 h0
  obtain ⟨A', n', m', y, rfl, hnm', hy, hby', hA'⟩ := open_bytes g1 h1
  obtain ⟨cc, rfl, t0, t1⟩ := open_i64 g2 h2
  clear g0 h0 g1 h1 g2 h2
  have hb2 := below_one w (.cells (btenc ep bs A n m) 25)
  have HX := Lib.hid (Blk.new w (btenc ep bs A n m) 25)
  have HZ := Lib.hid (hz.below hb2)
  have HY := Lib.hid (hy.below hb2)
  have HbE := Lib.hid hb2
  have HNY := Lib.hid hA'
  have HBY := Lib.hid hby'
  have hwE : w.heap.size + 1 ≤ (w.alloc (.cells (btenc ep bs A n m) 25)).heap.size := by simp
  obtain ⟨x0, x1, x2⟩ := HX.out.c3
  clear hz hy hA' hby' hb2
  go_enter Tryz.func5, Tryz.ntmps5
  go_wp2_with fail
  clear x0 x1 x2
  generalize w.alloc (.cells (btenc ep bs A n m) 25) = wE at *
  refine (long25_any _ ep bs A n m L wE HZ.out).mono ?_
  rintro e w1 ⟨lb, rfl, hbd, hlong⟩
  cases lb
  case true =>
    clear hlong
    go_wp2_with fail
    refine (live25_any _).mono ?_
    rintro e wl ⟨rfl, hbl⟩
    replace hbd := hbd.trans (hbl.mono hbd.size)
    go_wp2
    go_ret
    exact ⟨rfl, HbE.out.trans (hbd.mono HbE.out.size)⟩
  obtain ⟨hn30, hsm, hjl⟩ := hlong rfl
  have HSM := Lib.hid hsm
  clear hlong hsm
  by_cases h100 : 100 < n'
  · have e1 : (100 : Int) < (n' : Int) := by omega
    clear h100
    go_wp2_with fail
    refine (live25_any _).mono ?_
    rintro e wl ⟨rfl, hbl⟩
    replace hbd := hbd.trans (hbl.mono hbd.size)
    go_wp2
    go_ret
    exact ⟨rfl, HbE.out.trans (hbd.mono HbE.out.size)⟩
  have e1 : ¬ (100 : Int) < (n' : Int) := by omega
  have hBY := bbytes_any (fun b' => b' < w.heap.size) ep bs A n m L w1 (HZ.out.below hbd) (fun b' hb => by have := Below.size hbd; omega) (by omega) HSM.out e0 e9 b0 b9 (by omega)
  unfold BbyPost at hBY
  obtain ⟨x0, x1, x2⟩ := (HX.out.below hbd).c3
  go_wp2_with fail
  clear x0 x1 x2
  refine hBY.mono ?_
  clear hBY
  rintro e w2 ⟨hb2, ⟨hok, g, rfl, hg, hbs⟩ | ⟨hok, rfl⟩⟩
  case inr =>
    replace hbd := hbd.trans (hb2.mono hbd.size)
    clear hb2 hok
    go_wp2_with fail
    refine (live25_any _).mono ?_
    rintro e wl ⟨rfl, hbl⟩
    replace hbd := hbd.trans (hbl.mono hbd.size)
    go_wp2
    go_ret
    exact ⟨rfl, HbE.out.trans (hbd.mono HbE.out.size)⟩
  replace hbd := hbd.trans (hb2.mono hbd.size)
  have hjb := jn_byte HZ.out
  have hlb : ∀ x ∈ L, lbd x.1 := fun x hx => (HZ.out.bds x hx).1
  have hOK : BtOk (ep, bs, L) := (btk_iff (B := (ep, bs, L)) hlb e0 e9 b0 b9).1 hok
  have hle := btb_len hok (by omega) hjb
  have hbb := btb_byte hok (by omega) hjb e0 e9 b0 b9 hlb
  have hps := btb_pos (ep, bs, L)
  obtain ⟨Z, hZ⟩ : ∃ Z, Z = btb (ep, bs, L) := ⟨_, rfl⟩
  rw [← hZ] at hbs hle hbb hps
  rw [← hZ]
  obtain ⟨l, hl⟩ : ∃ l, l = Z.length := ⟨_, rfl⟩
  rw [← hl] at hbs hle hps
  rw [← hl]
  have hM : ∃ M, M = min (max cc 0) ((l : Int) - 1) := ⟨_, rfl⟩
  obtain ⟨M, hM⟩ := hM
  have hM0 : 0 ≤ M := by omega
  have hM1 : M ≤ (l : Int) - 1 := by omega
  obtain ⟨j, rfl⟩ := Int.eq_ofNat_of_zero_le hM0
  have hjF : j < l := by omega
  have HM := Lib.hid hM
  have HC1 := Lib.hid (back_dec hZ hl hOK hjl hjb hbb hle)
  have HC2 := Lib.hid (back_loose hZ hl hOK hjl hjb hbb hle)
  have HC3 := Lib.hid (fun h => back_rest hZ hl hOK hjl hjb hbb hle HY.out.1 h (by omega) HBY.out)
  have HC4 := Lib.hid (back_cut hZ hl hOK hjl hjb hbb hle hjF)
  have HAL : Hid ((Z ++ y).length = l + n') := Lib.hid (by rw [List.length_append, ← hl, HY.out.1])
  have HL := Lib.hid hl
  clear hM t0 t1 hM1 hM0 hZ hl hok hOK hjb hlb hbb hb2 hg
  unfold BdPost at HC1
  unfold BzPost at HC2
  dsimp only at HC1 HC2
  go_wp2_with fail
  refine (HC1.out _ _ _ hbs (by omega)).mono ?_
  rintro e w4 ⟨A4, N4, m4, rfl, hb4, hE4, hN4, hsm4⟩
  replace hE4 := hE4.mono (Q := fun b => b < w4.heap.size) (fun b _ h => h)
  have hX := (Blk.new w4 (btenc ep bs A4 N4 m4) 25).alloc (.cells #[.int .i64 0, .int .i64 0] 48)
  have hY := Blk.new (w4.alloc (.cells (btenc ep bs A4 N4 m4) 25)) #[.int .i64 0, .int .i64 0] 48
  rw [World.size_alloc] at hY
  have hbx := below_two w4 (.cells (btenc ep bs A4 N4 m4) 25) (.cells #[.int .i64 0, .int .i64 0] 48)
  replace hbd := hbd.trans (hb4.mono hbd.size)
  replace hbd := hbd.trans (hbx.mono hbd.size)
  have hsx := (hbs.below hb4).below hbx
  replace hE4 := hE4.below hbx
  have hX4 := hX
  have hY4 := hY
  clear hb4 hbs hbx hX hY HC1
  go_wp2_with fail
  generalize (w4.alloc (.cells (btenc ep bs A4 N4 m4) 25)).alloc (.cells #[.int .i64 0, .int .i64 0] 48) = w5 at *
  refine (HC2.out _ _ _ hsx (by omega)).mono ?_
  rintro e w6 ⟨A6, N6, m6, rfl, hb6, hE6, hN6, hsm6⟩
  replace hX4 := hX4.below hb6
  replace hY4 := hY4.below hb6
  replace hE4 := hE4.below hb6
  replace hsx := hsx.below hb6
  replace hbd := hbd.trans (hb6.mono hbd.size)
  have hX := (Blk.new w6 (btenc ep bs A6 N6 m6) 25).alloc (.cells #[.int .i64 0, .int .i64 0] 48)
  have hY := Blk.new (w6.alloc (.cells (btenc ep bs A6 N6 m6) 25)) #[.int .i64 0, .int .i64 0] 48
  rw [World.size_alloc] at hY
  have hbx := below_two w6 (.cells (btenc ep bs A6 N6 m6) 25) (.cells #[.int .i64 0, .int .i64 0] 48)
  replace hX4 := hX4.below hbx
  replace hY4 := hY4.below hbx
  replace hE4 := hE4.below hbx
  replace hE6 := hE6.below hbx
  replace hsx := hsx.below hbx
  replace hbd := hbd.trans (hbx.mono hbd.size)
  clear hb6 hbx HC2
  obtain ⟨v0, v1⟩ := hY.c2
  obtain ⟨y0, y1⟩ := hY4.c2
  obtain ⟨x0, x1, x2⟩ := hX4.c3
  obtain ⟨u0, u1, u2⟩ := (HX.out.below hbd).c3
  have hS1 := rsame25_any _ _ ep bs ep bs A4 A N4 m4 n m L L _ hE4 (HZ.out.below hbd) (by omega) (by omega) hsm4 HSM.out
  rw [decide_eq_true rfl] at hS1
  unfold BPost at hS1
  go_wp2_with fail
  generalize (w6.alloc (.cells (btenc ep bs A6 N6 m6) 25)).alloc (.cells #[.int .i64 0, .int .i64 0] 48) = w7 at *
  refine hS1.mono ?_
  rintro e w8 ⟨rfl, hb8⟩
  replace hX := hX.below hb8
  replace hE6 := hE6.below hb8
  replace hsx := hsx.below hb8
  replace hbd := hbd.trans (hb8.mono hbd.size)
  clear x0 x1 x2 y0 y1 u0 u1 u2 v0 v1 hS1 hb8 hX4 hY4 hE4 hY
  obtain ⟨x0, x1, x2⟩ := hX.c3
  obtain ⟨u0, u1, u2⟩ := (HX.out.below hbd).c3
  have hS1 := rsame25_any _ _ ep bs ep bs A6 A N6 m6 n m L L _ hE6 (HZ.out.below hbd) (by omega) (by omega) hsm6 HSM.out
  rw [decide_eq_true rfl] at hS1
  unfold BPost at hS1
  go_wp2_with fail
  refine hS1.mono ?_
  rintro e w9 ⟨rfl, hb9⟩
  replace hsx := hsx.below hb9
  replace hbd := hbd.trans (hb9.mono hbd.size)
  clear x0 x1 x2 u0 u1 u2 hS1 hb9 hX hE6 hsm4 hsm6
  by_cases hn0 : 0 < n'
  · have e2 : (0 : Int) < (n' : Int) := by omega
    have HC := Lib.hid (HC3.out hn0)
    have hown0 := own_of_row (B := w9.heap.size) (z := []) (Blk.new w9 #[] 5) (Nat.le_refl _) (by simp)
    have hsA := hsx.below (below_one w9 (.cells #[] 5))
    have hyA := Lib.hid (HY.out.below hbd)
    clear HC3 hn0
    go_wp2_with (first
      | (at_builtin; (refine list_append_gr rfl (.tmp 73) (.tmp 74) rfl w9.heap.size (.slice (some ⟨w9.heap.size, 0, none⟩) 0 0) [] rfl hown0 _ _ _ _ rfl hsA (by simp) (by simp; omega) (by simp) ?_; intro v6 wa ho6 hg6 hgr6; have hb6 := Own.belowOf (below_one w9 (.cells #[] 5)) (by simp) hown0 hg6; rw [List.nil_append] at ho6; obtain ⟨A8, c8, hv6⟩ := ho6.slice; rw [← HL.out] at hv6; subst hv6; have hy8 := hyA.out.below hb6; clear hg6 hgr6 hown0 hsA))
      | (at_builtin; go_must (refine list_append_gr rfl (.tmp 75) (.tmp 76) rfl w9.heap.size (.slice A8 l c8) Z rfl (by exact ho6) _ _ _ _ rfl hy8 HNY.out (by rw [← HL.out]; omega) hb6.size ?_; intro v9 wb ho9 hg9 hgr9; have hb9 := Own.belowOf hb6 hb6.size ho6 hg9; have hcap := ho9.slice; obtain ⟨A9, c9, hv9⟩ := hcap; rw [HAL.out] at hv9; subst hv9; have hcap9 := ho9.cap; have hbs9 := ho9.bs.2; clear hg9 hgr9)))
    replace hbd := hbd.trans (hb9.mono hbd.size)
    replace hsx := hsx.below hb9
    clear hb9 hb6 ho6 ho9 hy8 hyA
    have hD := HC.out _ _ _ hbs9 hcap9
    rw [Int.toNat_natCast] at hD
    unfold BdPost at hD
    unfold bt0 at hD
    dsimp only at hD
    refine hD.mono ?_
    rintro e wc ⟨Ac, Nc, mc, rfl, hbc, hEc, _, _⟩
    have hX := (Blk.new wc (btenc 0 0 Ac Nc mc) 25).alloc (.cells #[.int .i64 9, .int .i64 (l : Int)] 48)
    have hY := Blk.new (wc.alloc (.cells (btenc 0 0 Ac Nc mc) 25)) #[.int .i64 9, .int .i64 (l : Int)] 48
    rw [World.size_alloc] at hY
    have hbx := below_two wc (.cells (btenc 0 0 Ac Nc mc) 25) (.cells #[.int .i64 9, .int .i64 (l : Int)] 48)
    replace hsx := (hsx.below hbc).below hbx
    replace hbd := hbd.trans (hbc.mono hbd.size)
    replace hbd := hbd.trans (hbx.mono hbd.size)
    obtain ⟨y0, y1⟩ := hY.c2
    have e0 : ((l : Int) == (l : Int)) = true := by simp
    clear hX hY hbx hbc hEc hbs9 hcap9 hD HC
    go_upto_region 12 with (fail)
    go_upto_region 14 with (fail)
    clear y0 y1 e0
    generalize (wc.alloc (.cells (btenc 0 0 Ac Nc mc) 25)).alloc (.cells #[.int .i64 9, .int .i64 (l : Int)] 48) = wd at *
    go_upto_region 15 with (fail)
    rw [← HM.out]
    have hbt := hsx.take (k := j) (by omega)
    have j0 : (0 : Int) ≤ j := by omega
    have j1 : (j : Int) ≤ l := by omega
    go_wp2_with fail
    refine (HC4.out _ _ _ hbt (by omega)).mono ?_
    unfold BdPost
    dsimp only
    rintro e wz ⟨Az, Nz, mz, rfl, hbz, hEz, _, _⟩
    obtain rfl : Nz = 0 := hEz.1.symm
    have hX := (Blk.new wz (btenc 0 0 Az 0 mz) 25).alloc (.cells #[.int .i64 1, .int .i64 (j : Int)] 48)
    have hY := Blk.new (wz.alloc (.cells (btenc 0 0 Az 0 mz) 25)) #[.int .i64 1, .int .i64 (j : Int)] 48
    rw [World.size_alloc] at hY
    have hbx := below_two wz (.cells (btenc 0 0 Az 0 mz) 25) (.cells #[.int .i64 1, .int .i64 (j : Int)] 48)
    replace hbd := hbd.trans (hbz.mono hbd.size)
    replace hbd := hbd.trans (hbx.mono hbd.size)
    obtain ⟨x0, x1, x2⟩ := hX.c3
    obtain ⟨y0, y1⟩ := hY.c2
    have e0 : ((j : Int) == (j : Int)) = true := by simp
    clear hX hY hbx hbz hEz hbt hsx j0 j1
    go_wp2_with fail
    refine (live25_any _).mono ?_
    rintro e wl ⟨rfl, hbl⟩
    replace hbd := hbd.trans (hbl.mono hbd.size)
    go_wp2
    go_ret
    exact ⟨rfl, HbE.out.trans (hbd.mono HbE.out.size)⟩
  · have e2 : ¬ (0 : Int) < (n' : Int) := by omega
    clear HC3 hn0
    go_upto_region 14 with (fail)
    go_upto_region 15 with (fail)
    rw [← HM.out]
    have hbt := hsx.take (k := j) (by omega)
    have j0 : (0 : Int) ≤ j := by omega
    have j1 : (j : Int) ≤ l := by omega
    go_wp2_with fail
    refine (HC4.out _ _ _ hbt (by omega)).mono ?_
    unfold BdPost
    dsimp only
    rintro e wz ⟨Az, Nz, mz, rfl, hbz, hEz, _, _⟩
    obtain rfl : Nz = 0 := hEz.1.symm
    have hX := (Blk.new wz (btenc 0 0 Az 0 mz) 25).alloc (.cells #[.int .i64 1, .int .i64 (j : Int)] 48)
    have hY := Blk.new (wz.alloc (.cells (btenc 0 0 Az 0 mz) 25)) #[.int .i64 1, .int .i64 (j : Int)] 48
    rw [World.size_alloc] at hY
    have hbx := below_two wz (.cells (btenc 0 0 Az 0 mz) 25) (.cells #[.int .i64 1, .int .i64 (j : Int)] 48)
    replace hbd := hbd.trans (hbz.mono hbd.size)
    replace hbd := hbd.trans (hbx.mono hbd.size)
    obtain ⟨x0, x1, x2⟩ := hX.c3
    obtain ⟨y0, y1⟩ := hY.c2
    have e0 : ((j : Int) == (j : Int)) = true := by simp
    clear hX hY hbx hbz hEz hbt hsx j0 j1
    go_wp2_with fail
    refine (live25_any _).mono ?_
    rintro e wl ⟨rfl, hbl⟩
    replace hbd := hbd.trans (hbl.mono hbd.size)
    go_wp2
    go_ret
    exact ⟨rfl, HbE.out.trans (hbd.mono HbE.out.size)⟩
set_option maxRecDepth 100000 in
theorem lifted (os : Os) (started : os.Started) (H : Type) (enc : TypeId × Value → H) :
    ReturnsInHanded {} Tryz.checked os 5 .any (Rows.batchBackSpec.pre6 enc Tryz.prog Tryz.f5 Rows.batchBackRow.domain false) (Rows.batchBackSpec.post enc Tryz.prog Tryz.f5 false true false false) := by
  refine returnsInHanded_of_change (C := Tryz.checked) own started (by kernel_rfl) Tryz.func5
    (ChangeSpec.witness6 (enc := enc) (C := Tryz.checked) false ⟨#[], #[.agg #[.int .u64 0, .int .u64 0, .slice none 0 0], .slice none 0 0, .int .i64 0], []⟩ 8 (by kernel_rfl) (by kernel_rfl) (by kernel_rfl) (by kernel_rfl)) ?_
  intro W base args ds gs before hval0 hW hcnd _
  have hval : ∀ (j : Nat) t v, Tryz.f5.params[j]? = some t → args[j]? = some v → Value.okWide Tryz.prog W .any base t v := hval0
  have hW' := hW
  obtain ⟨p, q, hA0, hV, rfl, hfz, hnd⟩ := hW
  have hA : DataW.TrodAll enc Tryz.prog W 0 (fun _ => true) true Tryz.f5.params.toList args.toList ds p := hA0
  rw [Tryz.params5] at hA hval
  obtain ⟨v0, vs0, d0, ds0, p0, q0, hargs, rfl, rfl, h0, r0⟩ := trodAll_cons hA
  obtain ⟨v1, vs1, d1, ds1, p1, q1, rfl, rfl, rfl, h1, r1⟩ := trodAll_cons r0
  obtain ⟨v2, vs2, d2, ds2, p2, q2, rfl, rfl, rfl, h2, r2⟩ := trodAll_cons r1
  obtain ⟨rfl, rfl, rfl⟩ := trodAll_nil r2
  obtain rfl : args = #[v0, v1, v2] := by cases args; simp_all
  obtain ⟨rfl, rfl⟩ := trodVars_none hV
  have lt0 : ∀ x ∈ p0, x.block < W.heap.size := by obtain ⟨m, hm⟩ := h0; exact DataW.trod_lt m _ _ _ hm
  have lt1 : ∀ x ∈ p1, x.block < W.heap.size := by obtain ⟨m, hm⟩ := h1; exact DataW.trod_lt m _ _ _ hm
  have lt2 : ∀ x ∈ p2, x.block < W.heap.size := by obtain ⟨m, hm⟩ := h2; exact DataW.trod_lt m _ _ _ hm
  clear hA0 hval0
  refine (walk enc W base v0 d0 p0 (hval 0 25 v0 rfl rfl) h0 v1 d1 p1 (hval 1 28 v1 rfl rfl) h1 v2 d2 p2 (hval 2 3 v2 rfl rfl) h2).mono fun e W' ⟨he, bel⟩ => ?_
  subst he
  exact ⟨_, rfl, _, _, _, [], _, [], hW', trodAll_mk1 (shut_bool Tryz.underlying4 _), (trodAll_cons_mk (Below.trod laidOut (by kernel_rfl) (of_decide_eq_true (by kernel_rfl)) h0 bel lt0) (trodAll_cons_mk (Below.trod laidOut (by kernel_rfl) (of_decide_eq_true (by kernel_rfl)) h1 bel lt1) (trodAll_cons_mk (Below.trod laidOut (by kernel_rfl) (of_decide_eq_true (by kernel_rfl)) h2 bel lt2) trodAll_mk0))), rfl, bel.frame _, fun h => by cases h⟩
theorem over : Rows.batchBackRow.holds Tryz.pinned (OpenSpec.ofChange Rows.batchBackSpec) :=
  OpenClaim.holds_of_wide 5 Tryz.f5 rfl rfl rfl rfl rfl rfl rfl ⟨rfl, rfl, rfl, rfl, rfl⟩ rfl rfl rfl rfl rfl (by kernel_rfl) Tryz.func5 (by kernel_rfl)
    (of_decide_eq_true (by kernel_rfl)) (by unfold Func.isWrapper; first | (rw [if_pos (by decide +kernel)]; kernel_rfl) | (rw [if_neg (by decide +kernel)]; exact ⟨rfl, rfl⟩))
    (fun os started H enc _ => lifted os started H enc)
theorem proved : Rows.BatchBackSaid := over
#print axioms proved
end Go.Proofs.YtlealkfkddhnnaaGreat.batchBack
