/- As the seat's text, without what nothing here names. -/
import Derived.Test.YtlealkfkddhnnaaGreatRows
import Derived.Test.YtlealkfkddhnnaaGreatBtcUv
import Derived.Test.YtlealkfkddhnnaaGreatBtcLv
import Derived.Test.YtlealkfkddhnnaaGreatBtcRv
import Derived.Test.YtlealkfkddhnnaaGreatK1v
import Derived.Test.YtlealkfkddhnnaaGreatSeqHv
import Derived.Deep.CutRange
import Derived.ProofKit
import Derived.OpenShut
import Derived.ShutString
import Derived.ChangeOld
namespace Go.Proofs.YtlealkfkddhnnaaGreat.batchReads
open Go.ChangeShapes Go.WideShapes Go.ChangeAt Go.RowKit
open Go.ChangeMaps (open_string shut_string)
set_option linter.unusedVariables false
theorem own : ownKnob Tryz.prog.godebug = none := by kernel_rfl
theorem laidOut : laidOutB Tryz.prog = true := by kernel_rfl
open Cur Mem
set_option maxRecDepth 100000
theorem dec_of {K : List Int → Int → Rs (List Int)} {ow : Int → Int → List Int → Bool} {n : Nat} {z : List Int} {v : Bt} {p c q c' q' : Int} (h : St bt0 n (brd K z 0) 0 0 0 v p c q) (he : if c = 0 ∧ p < n then c' = 9 ∧ q' = p else c' = c ∧ q' = q) :
    (c' = 0 → bdec K ow n z = (v, ow (bhd z 0).2.1 p (jn v.2.2), c', q') ∧ c = 0) ∧ (c' ≠ 0 → bdec K ow n z = (bt0, false, c', q')) := by
  unfold bdec
  obtain ⟨_, _, ⟨h0, _⟩ | ⟨_, h1, hv, hp, hc, hq⟩ | ⟨_, h1, hv, hc, hq⟩⟩ := h
  · exact absurd rfl h0
  · subst hc hq
    by_cases hr : p < n
    · rw [if_pos ⟨rfl, hr⟩] at he
      obtain ⟨rfl, rfl⟩ := he
      refine ⟨fun e => absurd e (by decide), fun _ => ?_⟩
      rw [if_pos h1, if_pos (by rw [← hp]; exact hr), ← hp]
    · rw [if_neg (fun h => hr h.2)] at he
      obtain ⟨rfl, rfl⟩ := he
      refine ⟨fun _ => ⟨?_, rfl⟩, fun e => absurd rfl e⟩
      rw [if_pos h1, if_neg (by rw [← hp]; exact hr), ← hv, ← hp]
  · have hcn : c ≠ 0 := by rw [hc]; exact h1
    rw [if_neg (fun h => hcn h.1)] at he
    obtain ⟨rfl, rfl⟩ := he
    refine ⟨fun e => absurd e hcn, fun _ => ?_⟩
    rw [if_neg h1, ← hc, ← hq]
theorem end_fix (A : Option Addr) (n m : Nat) (p c q : Int) : ∃ c' q', (if c = 0 ∧ p < n then c' = 9 ∧ q' = p else c' = c ∧ q' = q) ∧ ∀ v, (v = cv (.slice A n m) p c q ∨ v = cv (.slice A n m) p c' q') → ∀ w, Calls Tryz.prog 29 #[v] w fun e w' => e = .returned (cv (.slice A n m) p c' q') ∧ Below w.heap.size w w' := by
  by_cases h : c = 0 ∧ p < n
  · refine ⟨9, p, by rw [if_pos h]; exact ⟨rfl, rfl⟩, fun v hv w => ?_⟩
    rcases hv with rfl | rfl
    · refine (rend_any A n m p c q w).mono ?_
      rintro e w' ⟨c', q', rfl, hb, hs⟩
      rw [if_pos h] at hs
      obtain ⟨rfl, rfl⟩ := hs
      exact ⟨rfl, hb⟩
    · refine (rend_any A n m p 9 p w).mono ?_
      rintro e w' ⟨c', q', rfl, hb, hs⟩
      rw [if_neg (fun h => absurd h.1 (by decide))] at hs
      obtain ⟨rfl, rfl⟩ := hs
      exact ⟨rfl, hb⟩
  · refine ⟨c, q, by rw [if_neg h]; exact ⟨rfl, rfl⟩, fun v hv w => ?_⟩
    obtain rfl : v = cv (.slice A n m) p c q := hv.elim id id
    refine (rend_any A n m p c q w).mono ?_
    rintro e w' ⟨c', q', rfl, hb, hs⟩
    rw [if_neg h] at hs
    obtain ⟨rfl, rfl⟩ := hs
    exact ⟨rfl, hb⟩
def EndQ (w0 : World) (x y : Nat) (s : Value) (p c q p2 c2 q2 : Int) (w' : World) : Prop :=
  Blk w' x (cvs s p c q) 50 ∧ Blk w' y (cvs s p2 c2 q2) 50 ∧ Ks (fun k => k = x ∨ k = y) w0 w'
theorem EndQ.step {w0 : World} {x y : Nat} {s : Value} {p c q p2 c2 q2 : Int} {w1 w' w'' : World} (h : EndQ w0 x y s p c q p2 c2 q2 w') (hb : Below w1.heap.size w1 w'') (e1 : w1.os = w'.os := by rfl) (e2 : w1.tape = w'.tape := by rfl) (e3 : w1.output = w'.output := by rfl) (e4 : w1.heap = w'.heap := by rfl) : EndQ w0 x y s p c q p2 c2 q2 w'' := by
  have hb' : Below w'.heap.size w' w'' := ⟨hb.os.trans e1, hb.tape.trans e2, hb.output.trans e3, by rw [← e4]; exact hb.size, fun k hk => by rw [← e4] at hk ⊢; exact hb.block k hk⟩
  exact ⟨h.1.below hb', h.2.1.below hb', h.2.2.trans (Ks.of_below hb')⟩
theorem EndQ.sz {w0 : World} {x y : Nat} {s : Value} {p c q p2 c2 q2 : Int} {w' : World} (h : EndQ w0 x y s p c q p2 c2 q2 w') : x < w'.heap.size ∧ y < w'.heap.size := ⟨h.1.lt, h.2.1.lt⟩
theorem EndQ.all {w0 : World} {x y : Nat} {s : Value} {p c q p2 c2 q2 : Int} {w' : World} (h : EndQ w0 x y s p c q p2 c2 q2 w') :
    (w'.cell? ⟨x, 0, none⟩ = some s ∧ w'.cell? ⟨x, 1, none⟩ = some (.int .i64 p) ∧ w'.cell? ⟨x, 2, none⟩ = some (.int .i64 c) ∧ w'.cell? ⟨x, 3, none⟩ = some (.int .i64 q)) ∧
    (w'.cell? ⟨y, 0, none⟩ = some s ∧ w'.cell? ⟨y, 1, none⟩ = some (.int .i64 p2) ∧ w'.cell? ⟨y, 2, none⟩ = some (.int .i64 c2) ∧ w'.cell? ⟨y, 3, none⟩ = some (.int .i64 q2)) ∧
    (w'.frozen? ⟨x, 0, none⟩ = false ∧ w'.frozen? ⟨x, 1, none⟩ = false ∧ w'.frozen? ⟨x, 2, none⟩ = false ∧ w'.frozen? ⟨x, 3, none⟩ = false) ∧
    (w'.frozen? ⟨y, 0, none⟩ = false ∧ w'.frozen? ⟨y, 1, none⟩ = false ∧ w'.frozen? ⟨y, 2, none⟩ = false ∧ w'.frozen? ⟨y, 3, none⟩ = false) := ⟨h.1.c4, h.2.1.c4, h.1.f4, h.2.1.f4⟩
theorem eight_set {w : World} {a b : Nat} {v0 v1 v2 v3 u0 u1 u2 u3 : Value} {t t' : Nat} (hA : Blk w a #[v0, v1, v2, v3] t) (hB : Blk w b #[u0, u1, u2, u3] t') (hne : a ≠ b) (x0 x1 x2 x3 y0 y1 y2 y3 : Value) :
    ∀ W, W = (((((((w.setCell ⟨a, 0, none⟩ x0).setCell ⟨a, 1, none⟩ x1).setCell ⟨a, 2, none⟩ x2).setCell ⟨a, 3, none⟩ x3).setCell ⟨b, 0, none⟩ y0).setCell ⟨b, 1, none⟩ y1).setCell ⟨b, 2, none⟩ y2).setCell ⟨b, 3, none⟩ y3 →
      Blk W a #[x0, x1, x2, x3] t ∧ Blk W b #[y0, y1, y2, y3] t' ∧ Ks (fun k => k = a ∨ k = b) w W := by
  rintro W rfl
  obtain ⟨h1, k1⟩ := set4 hA x0 x1 x2 x3
  obtain ⟨h2, k2⟩ := set4 (blk_kp hB k1 (Ne.symm hne)) y0 y1 y2 y3
  exact ⟨blk_kp h1 k2 hne, h2, (Ks.of_kp k1 (.inl rfl)).trans (Ks.of_kp k2 (.inr rfl))⟩
set_option maxHeartbeats 8000000 in
theorem walk {H : Type} (enc : TypeId × Value → H) (w : World) (base : Nat) (v0 : Value) (d0 : DataW H) (p0 : List MemPlace) (g0 : Value.okWide Tryz.prog w .any base 28 v0) (h0 : DataW.Trod enc Tryz.prog w 0 (fun _ => true) true 28 v0 d0 p0) :
    Calls Tryz.prog 4 #[v0] w fun e w' => e = .returned (.bool true) ∧ Below w.heap.size w w' := by
  obtain ⟨A, n, m, z, rfl, hnm, hz, hby, hA⟩ := open_bytes g0 h0
  clear g0 h0
  by_cases h300 : 300 < n
  · have hbd := Below.refl w.heap.size w
    clear hz hby hA
    go_enter Tryz.func4, Tryz.ntmps4
    go_wp2_with fail
    refine (live25_any _).mono ?_
    rintro e wl ⟨rfl, hbl⟩
    replace hbd := hbd.trans (hbl.mono hbd.size)
    go_wp2
    go_ret
    exact ⟨rfl, hbd⟩
  have hn : ¬ (300 : Int) < (n : Int) := by omega
  have HG := great_any A n m z w hz hby (by omega)
  unfold GrPost at HG
  have HBY := Lib.hid hby
  have HZ := Lib.hid hz
  have HNIL := Lib.hid hA
  clear h300 hz hby hA
  go_enter Tryz.func4, Tryz.ntmps4
  go_wp2_with fail
  refine HG.mono ?_
  rintro e w1 ⟨gb, rfl, hbd, hng⟩
  clear HG
  cases gb
  case true =>
    clear hng
    go_wp2_with fail
    refine (live25_any _).mono ?_
    rintro e wl ⟨rfl, hbl⟩
    replace hbd := hbd.trans (hbl.mono hbd.size)
    go_wp2
    go_ret
    exact ⟨rfl, hbd⟩
  have hng := hng rfl
  have HF : Hid (∀ p, Few z 1048576 p) := Lib.hid (fun p => nogr_few hng HBY.out _ _)
  have HKS : Hid (∀ p, (KS z p).1.length ≤ 500) := Lib.hid (fun p => nogr_KS hng HBY.out _)
  have HKL : Hid (∀ p, (KL z p).1.length ≤ 500) := Lib.hid (fun p => nogr_KL hng HBY.out _)
  clear hng
  go_wp2_with fail
  refine (new_any A n m _ hnm).mono ?_
  rintro e w2 ⟨rfl, hb2, hsz2, hr⟩
  go_wp2_with fail
  refine (new_any A n m _ hnm).mono ?_
  rintro e w3 ⟨rfl, hb3, hsz3, hs⟩
  replace hr := hr.below hb3
  have hw1 := Below.size hbd
  replace hbd := hbd.trans (hb2.mono hbd.size)
  replace hbd := hbd.trans (hb3.mono hbd.size)
  obtain ⟨rb, hrb⟩ : ∃ rb, rb = w1.heap.size := ⟨_, rfl⟩
  obtain ⟨sb, hsb⟩ : ∃ sb, sb = w2.heap.size := ⟨_, rfl⟩
  rw [← hrb] at hr ⊢
  rw [← hsb] at hs ⊢
  have hrs : rb < sb := by omega
  have hrw : w.heap.size ≤ rb := by omega
  clear hb2 hb3 hsz2 hsz3 hrb hsb hw1
  have hR := btread_any rb A n n z 0 0 0 w3 hr (HZ.out.below hbd) (Int.le_refl _) (by omega) (Nat.le_refl _) (by omega) HBY.out (fun _ => HF.out _) (fun _ => rfl) (fun _ => HKS.out _)
  unfold BqPost at hR
  have hl3 := hs.lt
  go_wp2_with fail
  with_reducible refine hR.mono ?_
  rintro e w4 ⟨E, b0, A4, N4, m4, L, p1, c1, q1, rfl, hk4, hr4, hE4, hN4, hsm4, hst4⟩
  replace hs := hs.kp hk4 (by omega)
  replace hbd := Kp.below hbd (Nat.le_refl _) hk4 hrw
  have hl4 := hk4.size
  have hbx := below_one w4 (.cells (btenc E b0 A4 N4 m4) 25)
  have hX5 := Blk.new w4 (btenc E b0 A4 N4 m4) 25
  replace hr := hr4.below hbx
  replace hs := hs.below hbx
  replace hE4 := hE4.mono (Q := fun k => w3.heap.size ≤ k ∧ k < w4.heap.size) (fun b h1 h2 => ⟨h1, h2⟩)
  replace hE4 := hE4.below hbx
  replace hbd := hbd.trans (hbx.mono hbd.size)
  have HST4 := Lib.hid hst4
  have HSM4 := Lib.hid hsm4
  clear hR hr4 hk4 hbx hst4 hsm4
  go_upto_region 5 with (fail)
  have hsz5 : (w4.alloc (.cells (btenc E b0 A4 N4 m4) 25)).heap.size = w4.heap.size + 1 := by simp
  generalize w4.alloc (.cells (btenc E b0 A4 N4 m4) 25) = w5 at *
  have hR := breadloose_any sb A n n z 0 0 0 w5 hs (HZ.out.below hbd) (Int.le_refl _) (by omega) (Nat.le_refl _) (by omega) HBY.out (fun _ => HF.out _) (fun _ => rfl) (fun _ => HKL.out _)
  unfold BrPost at hR
  go_wp2_with fail
  with_reducible refine hR.mono ?_
  rintro e w6 ⟨F, d0, A6, N6, m6, M, f6, p2, c2, q2, rfl, hk6, hs6, hE6, hN6, hsm6, hst6, hf6a, hf6b⟩
  replace hr := hr.kp hk6 (by omega)
  replace hX5 := blk_kp hX5 hk6 (by omega)
  replace hE4 := hE4.keep (w' := w6) (fun g hg hlt => hk6.block g hlt (by have h2 : w3.heap.size ≤ g := hg.1; omega))
  replace hbd := Kp.below hbd (Nat.le_refl _) hk6 (by omega)
  have hl6 := hk6.size
  have hbx := below_one w6 (.cells (btenc F d0 A6 N6 m6) 25)
  have hX6 := Blk.new w6 (btenc F d0 A6 N6 m6) 25
  replace hs := hs6.below hbx
  replace hr := hr.below hbx
  replace hX5 := hX5.below hbx
  replace hE4 := hE4.below hbx
  replace hE6 := hE6.below hbx
  replace hbd := hbd.trans (hbx.mono hbd.size)
  have HST6 := Lib.hid hst6
  have HSM6 := Lib.hid hsm6
  have HF6 := Lib.hid (And.intro hf6a hf6b)
  clear hR hs6 hk6 hbx hst6 hsm6 hf6a hf6b
  go_upto_region 6 with (fail)
  have hsz7 : (w6.alloc (.cells (btenc F d0 A6 N6 m6) 25)).heap.size = w6.heap.size + 1 := by simp
  generalize w6.alloc (.cells (btenc F d0 A6 N6 m6) 25) = w7 at *
  have hR := rread25_any true A n m z 0 0 0 w7 (HZ.out.below hbd) HNIL.out (Int.le_refl _) (by omega) hnm (by omega) HBY.out (fun _ => HF.out _) (fun _ => rfl) (fun _ => HKS.out _)
  unfold RbPost at hR
  go_wp2_with fail
  with_reducible refine hR.mono ?_
  rintro e w8 ⟨E', b0', A8, N8, m8, L', f8, p3, c3, q3, rfl, hb8, hE8, hN8, hsm8, hst8, _, _⟩
  replace hst8 : St bt0 n (brd KS z 0) 0 0 0 (E', b0', L') p3 c3 q3 := hst8
  obtain ⟨ev, ec, eq, _⟩ := HST4.out.det hst8
  obtain ⟨e1, ev⟩ := Prod.mk.inj ev
  obtain ⟨e2, e3⟩ := Prod.mk.inj ev
  subst e1 e2 e3 ec eq
  clear ev
  replace hE8 := hE8.mono (Q := fun k => w7.heap.size ≤ k ∧ k < w8.heap.size) (fun b h1 h2 => ⟨h1, h2⟩)
  have hl8 := hb8.size
  replace hr := hr.below hb8
  replace hs := hs.below hb8
  replace hX5 := hX5.below hb8
  replace hX6 := hX6.below hb8
  replace hE4 := hE4.below hb8
  replace hE6 := hE6.below hb8
  replace hbd := hbd.trans (hb8.mono hbd.size)
  have hX := (Blk.new w8 (cvs (.slice A n m) p3 c1 q1) 50).alloc (.cells (btenc E b0 A8 N8 m8) 25)
  have hY := Blk.new (w8.alloc (.cells (cvs (.slice A n m) p3 c1 q1) 50)) (btenc E b0 A8 N8 m8) 25
  rw [World.size_alloc] at hY
  have hbx := below_two w8 (.cells (cvs (.slice A n m) p3 c1 q1) 50) (.cells (btenc E b0 A8 N8 m8) 25)
  replace hr := hr.below hbx
  replace hs := hs.below hbx
  replace hX5 := hX5.below hbx
  replace hX6 := hX6.below hbx
  replace hE4 := hE4.below hbx
  replace hE6 := hE6.below hbx
  replace hE8 := hE8.below hbx
  replace hbd := hbd.trans (hbx.mono hbd.size)
  have hC8 := hX
  have hX9 := hY
  have HST8 := Lib.hid hst8
  have HSM8 := Lib.hid hsm8
  clear hR hb8 hbx hX hY hst8 hsm8 HST4
  go_upto_region 7 with (fail)
  have hsz9 : ((w8.alloc (.cells (cvs (.slice A n m) p3 c1 q1) 50)).alloc (.cells (btenc E b0 A8 N8 m8) 25)).heap.size = w8.heap.size + 2 := by simp
  generalize (w8.alloc (.cells (cvs (.slice A n m) p3 c1 q1) 50)).alloc (.cells (btenc E b0 A8 N8 m8) 25) = w9 at *
  have hR := rread25_any false A n m z 0 0 0 w9 (HZ.out.below hbd) HNIL.out (Int.le_refl _) (by omega) hnm (by omega) HBY.out (fun _ => HF.out _) (fun _ => rfl) (fun _ => HKL.out _)
  unfold RbPost at hR
  go_wp2_with fail
  with_reducible refine hR.mono ?_
  rintro e w10 ⟨F', d0', A10, N10, m10, M', f10, p4, c4, q4, rfl, hb10, hE10, hN10, hsm10, hst10, hf10a, hf10b⟩
  replace hst10 : St bt0 n (brd KL z 0) 0 0 0 (F', d0', M') p4 c4 q4 := hst10
  obtain ⟨ev, ec, eq, ep⟩ := HST6.out.det hst10
  obtain ⟨e1, ev⟩ := Prod.mk.inj ev
  obtain ⟨e2, e3⟩ := Prod.mk.inj ev
  subst e1 e2 e3 ec eq
  clear ev
  have hff : f10 = f6 := by
    by_cases hc : c2 = 0
    · rw [(hf10b hc).2, (HF6.out.2 hc).2, ep hc]
      rfl
    · rw [hf10a hc, HF6.out.1 hc]
  subst hff
  replace hE10 := hE10.mono (Q := fun k => w9.heap.size ≤ k ∧ k < w10.heap.size) (fun b h1 h2 => ⟨h1, h2⟩)
  have hl10 := hb10.size
  replace hr := hr.below hb10
  replace hs := hs.below hb10
  replace hX5 := hX5.below hb10
  replace hX6 := hX6.below hb10
  replace hE4 := hE4.below hb10
  replace hE6 := hE6.below hb10
  replace hE8 := hE8.below hb10
  replace hC8 := hC8.below hb10
  replace hX9 := hX9.below hb10
  replace hbd := hbd.trans (hb10.mono hbd.size)
  have hX := (Blk.new w10 (cvs (.slice A n m) p4 c2 q2) 50).alloc (.cells (btenc F d0 A10 N10 m10) 25)
  have hY := Blk.new (w10.alloc (.cells (cvs (.slice A n m) p4 c2 q2) 50)) (btenc F d0 A10 N10 m10) 25
  rw [World.size_alloc] at hY
  have hbx := below_two w10 (.cells (cvs (.slice A n m) p4 c2 q2) 50) (.cells (btenc F d0 A10 N10 m10) 25)
  replace hr := hr.below hbx
  replace hs := hs.below hbx
  replace hX5 := hX5.below hbx
  replace hX6 := hX6.below hbx
  replace hE4 := hE4.below hbx
  replace hE6 := hE6.below hbx
  replace hE8 := hE8.below hbx
  replace hE10 := hE10.below hbx
  replace hC8 := hC8.below hbx
  replace hX9 := hX9.below hbx
  replace hbd := hbd.trans (hbx.mono hbd.size)
  have hC11 := hX
  have hX12 := hY
  have HFB : Hid ((c2 ≠ 0 → f10 = false) ∧ (c2 = 0 → f10 = owL z (bhd z 0).2.1 p4 (jn M))) := Lib.hid ⟨hf10a, fun hc => (hf10b hc).2⟩
  have HST10 := Lib.hid hst10
  have HSM10 := Lib.hid hsm10
  clear hR hb10 hbx hX hY hst10 hsm10 HST6 HF6 hf10a hf10b ep
  have hsz11 : ((w10.alloc (.cells (cvs (.slice A n m) p4 c2 q2) 50)).alloc (.cells (btenc F d0 A10 N10 m10) 25)).heap.size = w10.heap.size + 2 := by simp
  go_upto_region 8 with (fail)
  generalize (w10.alloc (.cells (cvs (.slice A n m) p4 c2 q2) 50)).alloc (.cells (btenc F d0 A10 N10 m10) 25) = w11 at *
  have HS1 := Lib.hid (fun w' (h : HkS w11 w') => rsame25_any _ _ E b0 E b0 A4 A8 N4 m4 N8 m8 L L w' (hE4.below h) (hE8.below h) (by omega) (by omega) HSM4.out HSM8.out)
  have HS2 := Lib.hid (fun w' (h : HkS w11 w') => rsame25_any _ _ F d0 F d0 A6 A10 N6 m6 N10 m10 M M w' (hE6.below h) (hE10.below h) (by omega) (by omega) HSM6.out HSM10.out)
  have HF1 := Lib.hid (fun w' (h : HkS w11 w') => fault_any _ _ _ _ _ _ (hr.below h))
  have HF2 := Lib.hid (fun w' (h : HkS w11 w') => fault_any _ _ _ _ _ _ (hs.below h))
  rw [decide_eq_true rfl] at HS1 HS2
  unfold BPost at HS1 HS2
  have L1 : ∀ w', HkS w11 w' → (w'.cell? ⟨w4.heap.size, 0, none⟩ = some (.int .u64 E) ∧ w'.cell? ⟨w4.heap.size, 1, none⟩ = some (.int .u64 b0)) ∧ w'.cell? ⟨w4.heap.size, 2, none⟩ = some (.slice A4 N4 m4) := fun w' h => ⟨⟨(hX5.below h).c3.1, (hX5.below h).c3.2.1⟩, (hX5.below h).c3.2.2⟩
  have L2 : ∀ w', HkS w11 w' → (w'.cell? ⟨w6.heap.size, 0, none⟩ = some (.int .u64 F) ∧ w'.cell? ⟨w6.heap.size, 1, none⟩ = some (.int .u64 d0)) ∧ w'.cell? ⟨w6.heap.size, 2, none⟩ = some (.slice A6 N6 m6) := fun w' h => ⟨⟨(hX6.below h).c3.1, (hX6.below h).c3.2.1⟩, (hX6.below h).c3.2.2⟩
  have L3 : ∀ w', HkS w11 w' → (w'.cell? ⟨w8.heap.size + 1, 0, none⟩ = some (.int .u64 E) ∧ w'.cell? ⟨w8.heap.size + 1, 1, none⟩ = some (.int .u64 b0)) ∧ w'.cell? ⟨w8.heap.size + 1, 2, none⟩ = some (.slice A8 N8 m8) := fun w' h => ⟨⟨(hX9.below h).c3.1, (hX9.below h).c3.2.1⟩, (hX9.below h).c3.2.2⟩
  have L4 : ∀ w', HkS w11 w' → (w'.cell? ⟨w10.heap.size + 1, 0, none⟩ = some (.int .u64 F) ∧ w'.cell? ⟨w10.heap.size + 1, 1, none⟩ = some (.int .u64 d0)) ∧ w'.cell? ⟨w10.heap.size + 1, 2, none⟩ = some (.slice A10 N10 m10) := fun w' h => ⟨⟨(hX12.below h).c3.1, (hX12.below h).c3.2.1⟩, (hX12.below h).c3.2.2⟩
  have L5 : ∀ w', HkS w11 w' → w'.cell? ⟨w8.heap.size, 2, none⟩ = some (.int .i64 c1) ∧ w'.cell? ⟨w8.heap.size, 3, none⟩ = some (.int .i64 q1) := fun w' h => ⟨(hC8.below h).c4.2.2.1, (hC8.below h).c4.2.2.2⟩
  have L6 : ∀ w', HkS w11 w' → w'.cell? ⟨w10.heap.size, 2, none⟩ = some (.int .i64 c2) ∧ w'.cell? ⟨w10.heap.size, 3, none⟩ = some (.int .i64 q2) := fun w' h => ⟨(hC11.below h).c4.2.2.1, (hC11.below h).c4.2.2.2⟩
  have hS : HkS w11 w11.drew := below_one' _
  refine Seq.wp_region_seq (HkS w11) (by kernel_rfl) (by kernel_rfl) hS ?_
  generalize w11.drew = wd at *
  have e0 : (c1 == c1) = true := by simp
  have e1 : (q1 == q1) = true := by simp
  have e2 : (c2 == c2) = true := by simp
  have e3 : (q2 == q2) = true := by simp
  have e4 : (f10 == f10) = true := by simp
  repeat (first | (refine Seq.Seq.skip (by rfl) ?_; (try simp only [Act.put, List.setIfInBounds_toArray, List.set_cons_zero, List.set_cons_succ])) | (refine Seq.Seq.det ?_ (by rfl) (fun w hS => ?_) ?_; rotate_left; ((try dsimp only at hS); go_simp; (try rw [if_pos (by omega)]); with_reducible rfl); (try simp only [Act.put, List.setIfInBounds_toArray, List.set_cons_zero, List.set_cons_succ])))
  refine Seq.Seq.make (by rfl) (by rfl) (fun K Q' hK => ?_)
  go_simp
  go_at_call 18
  refine (HS1.out _ hS).mono ?_
  rintro e v1 ⟨rfl, hc1⟩
  replace hS := Below.trans hS (hc1.mono (Below.size hS))
  clear hc1
  refine hK.out _ _ (hS) ?_
  clear hK K
  try simp only [Act.put, List.setIfInBounds_toArray, List.set_cons_zero, List.set_cons_succ]
  repeat (first | (refine Seq.Seq.skip (by rfl) ?_; (try simp only [Act.put, List.setIfInBounds_toArray, List.set_cons_zero, List.set_cons_succ])) | (refine Seq.Seq.det ?_ (by rfl) (fun w hS => ?_) ?_; rotate_left; ((try dsimp only at hS); go_simp; (try rw [if_pos (by omega)]); with_reducible rfl); (try simp only [Act.put, List.setIfInBounds_toArray, List.set_cons_zero, List.set_cons_succ])))
  refine Seq.Seq.make (by rfl) (by rfl) (fun K Q' hK => ?_)
  go_simp
  go_at_call 26
  refine (HF1.out _ hS).mono ?_
  rintro e v1 ⟨rfl, hc1⟩
  replace hS := Below.trans hS (hc1.mono (Below.size hS))
  clear hc1
  refine hK.out _ _ (hS) ?_
  clear hK K
  try simp only [Act.put, List.setIfInBounds_toArray, List.set_cons_zero, List.set_cons_succ]
  repeat (first | (refine Seq.Seq.skip (by rfl) ?_; (try simp only [Act.put, List.setIfInBounds_toArray, List.set_cons_zero, List.set_cons_succ])) | (refine Seq.Seq.det ?_ (by rfl) (fun w hS => ?_) ?_; rotate_left; ((try dsimp only at hS); go_simp; (try rw [if_pos (by omega)]); with_reducible rfl); (try simp only [Act.put, List.setIfInBounds_toArray, List.set_cons_zero, List.set_cons_succ])))
  refine Seq.Seq.make (by rfl) (by rfl) (fun K Q' hK => ?_)
  go_simp
  go_at_call 18
  refine (HS2.out _ hS).mono ?_
  rintro e v1 ⟨rfl, hc1⟩
  replace hS := Below.trans hS (hc1.mono (Below.size hS))
  clear hc1
  refine hK.out _ _ (hS) ?_
  clear hK K
  try simp only [Act.put, List.setIfInBounds_toArray, List.set_cons_zero, List.set_cons_succ]
  repeat (first | (refine Seq.Seq.skip (by rfl) ?_; (try simp only [Act.put, List.setIfInBounds_toArray, List.set_cons_zero, List.set_cons_succ])) | (refine Seq.Seq.det ?_ (by rfl) (fun w hS => ?_) ?_; rotate_left; ((try dsimp only at hS); go_simp; (try rw [if_pos (by omega)]); with_reducible rfl); (try simp only [Act.put, List.setIfInBounds_toArray, List.set_cons_zero, List.set_cons_succ])))
  refine Seq.Seq.make (by rfl) (by rfl) (fun K Q' hK => ?_)
  go_simp
  go_at_call 26
  refine (HF2.out _ hS).mono ?_
  rintro e v1 ⟨rfl, hc1⟩
  replace hS := Below.trans hS (hc1.mono (Below.size hS))
  clear hc1
  refine hK.out _ _ (hS) ?_
  clear hK K
  try simp only [Act.put, List.setIfInBounds_toArray, List.set_cons_zero, List.set_cons_succ]
  repeat (first | (refine Seq.Seq.skip (by rfl) ?_; (try simp only [Act.put, List.setIfInBounds_toArray, List.set_cons_zero, List.set_cons_succ])) | (refine Seq.Seq.det ?_ (by rfl) (fun w hS => ?_) ?_; rotate_left; ((try dsimp only at hS); go_simp; (try rw [if_pos (by omega)]); with_reducible rfl); (try simp only [Act.put, List.setIfInBounds_toArray, List.set_cons_zero, List.set_cons_succ])))
  refine Seq.Seq.nil ?_
  have hb9 : Below w11.heap.size w11 v1 := hS
  replace hbd := hbd.trans (hb9.mono hbd.size)
  replace hE8 := hE8.below hb9
  replace hE10 := hE10.below hb9
  replace hC8 := hC8.below hb9
  replace hC11 := hC11.below hb9
  replace hX9 := hX9.below hb9
  replace hX12 := hX12.below hb9
  have hl11 := hb9.size
  clear hS hb9 L1 L2 L3 L4 L5 L6 e0 e1 e2 e3 e4 HS1 HS2 HF1 HF2 hr hs hX5 hX6 hE4 hE6 HSM4 HSM6
  have hR := bdecode_any A n m z v1 (HZ.out.below hbd) hnm (by omega) HBY.out (fun _ => HF.out _) (fun _ => HKS.out _)
  obtain ⟨c1e, q1e, hen1, hEN1⟩ := end_fix A n m p3 c1 q1
  obtain ⟨c2e, q2e, hen2, hEN2⟩ := end_fix A n m p4 c2 q2
  have hd1 := dec_of (ow := owS) HST8.out hen1
  have hd2 := dec_of (ow := owL z) HST10.out hen2
  have hR2 := fun w' (h : Below w.heap.size w w') => bdecodeloose_any A n m z w' (HZ.out.below h) hnm (by omega) HBY.out (fun _ => HF.out _) (fun _ => HKL.out _)
  obtain ⟨⟨⟨Ed, bd, Ld⟩, fd, cd, qd⟩, hdd⟩ : ∃ d, d = bdec KS owS n z := ⟨_, rfl⟩
  rw [← hdd] at hR hd1
  have hcd : c1e = cd ∧ q1e = qd := by
    by_cases h : c1e = 0
    · have h2 := congrArg (fun d : Dc => (d.2.2.1, d.2.2.2)) (hd1.1 h).1
      have h3 := Prod.mk.inj (show (cd, qd) = (c1e, q1e) from h2)
      exact ⟨h3.1.symm, h3.2.symm⟩
    · have h2 := congrArg (fun d : Dc => (d.2.2.1, d.2.2.2)) (hd1.2 h)
      have h3 := Prod.mk.inj (show (cd, qd) = (c1e, q1e) from h2)
      exact ⟨h3.1.symm, h3.2.symm⟩
  have HV1 : Hid ((c1e = 0 → ((Ed, bd, Ld) : Bt) = (E, b0, L)) ∧ (c1e ≠ 0 → ((Ed, bd, Ld) : Bt) = bt0)) := Lib.hid ⟨fun h => congrArg (fun d : Dc => d.1) (hd1.1 h).1, fun h => congrArg (fun d : Dc => d.1) (hd1.2 h)⟩
  obtain ⟨rfl, rfl⟩ := hcd
  clear hd1 hdd
  obtain ⟨⟨⟨Fd, dd, Md⟩, fl, cd, qd⟩, hdd⟩ : ∃ d, d = bdec KL (owL z) n z := ⟨_, rfl⟩
  rw [← hdd] at hR2 hd2
  have hcd : c2e = cd ∧ q2e = qd := by
    by_cases h : c2e = 0
    · have h2 := congrArg (fun d : Dc => (d.2.2.1, d.2.2.2)) (hd2.1 h).1
      have h3 := Prod.mk.inj (show (cd, qd) = (c2e, q2e) from h2)
      exact ⟨h3.1.symm, h3.2.symm⟩
    · have h2 := congrArg (fun d : Dc => (d.2.2.1, d.2.2.2)) (hd2.2 h)
      have h3 := Prod.mk.inj (show (cd, qd) = (c2e, q2e) from h2)
      exact ⟨h3.1.symm, h3.2.symm⟩
  have HV2 : Hid ((c2e = 0 → ((Fd, dd, Md) : Bt) = (F, d0, M) ∧ fl = f10) ∧ (c2e ≠ 0 → ((Fd, dd, Md) : Bt) = bt0 ∧ fl = false)) := Lib.hid ⟨fun h => ⟨congrArg (fun d : Dc => d.1) (hd2.1 h).1, by
    have h2 : fl = owL z (bhd z 0).2.1 p4 (jn M) := congrArg (fun d : Dc => d.2.1) (hd2.1 h).1
    rw [h2, HFB.out.2 (hd2.1 h).2]⟩, fun h => ⟨congrArg (fun d : Dc => d.1) (hd2.2 h), congrArg (fun d : Dc => d.2.1) (hd2.2 h)⟩⟩
  obtain ⟨rfl, rfl⟩ := hcd
  have HR2 := Lib.hid hR2
  have HE1 := Lib.hid hEN1
  have HE2 := Lib.hid hEN2
  clear hd2 hdd hR2 hEN1 hEN2 hen1 hen2 HST8 HST10 HFB HF HKS HKL
  unfold BdPost at hR
  unfold BzPost at HR2
  dsimp only at hR HR2
  go_wp2_with fail
  refine hR.mono ?_
  rintro e w13 ⟨A13, N13, m13, rfl, hb13, hE13, hN13, hsm13⟩
  have hl13 := hb13.size
  replace hE8 := hE8.below hb13
  replace hE10 := hE10.below hb13
  replace hC8 := hC8.below hb13
  replace hC11 := hC11.below hb13
  replace hX9 := hX9.below hb13
  replace hX12 := hX12.below hb13
  replace hbd := hbd.trans (hb13.mono hbd.size)
  have hX := (Blk.new w13 (btenc Ed bd A13 N13 m13) 25).alloc (.cells #[.int .i64 c1e, .int .i64 q1e] 48)
  have hY := Blk.new (w13.alloc (.cells (btenc Ed bd A13 N13 m13) 25)) #[.int .i64 c1e, .int .i64 q1e] 48
  rw [World.size_alloc] at hY
  have hbx := below_two w13 (.cells (btenc Ed bd A13 N13 m13) 25) (.cells #[.int .i64 c1e, .int .i64 q1e] 48)
  replace hE8 := hE8.below hbx
  replace hE10 := hE10.below hbx
  replace hE13 := hE13.below hbx
  replace hC8 := hC8.below hbx
  replace hC11 := hC11.below hbx
  replace hX9 := hX9.below hbx
  replace hX12 := hX12.below hbx
  replace hbd := hbd.trans (hbx.mono hbd.size)
  have hX14 := hX
  have hY15 := hY
  have hsz14 : ((w13.alloc (.cells (btenc Ed bd A13 N13 m13) 25)).alloc (.cells #[.int .i64 c1e, .int .i64 q1e] 48)).heap.size = w13.heap.size + 2 := by simp
  clear hR hb13 hbx hX hY
  go_upto_region 11 with (fail)
  generalize (w13.alloc (.cells (btenc Ed bd A13 N13 m13) 25)).alloc (.cells #[.int .i64 c1e, .int .i64 q1e] 48) = w14 at *
  go_wp2_with fail
  refine (HR2.out _ hbd).mono ?_
  rintro e w15 ⟨A15, N15, m15, rfl, hb15, hE15, hN15, hsm15⟩
  have hl15 := hb15.size
  replace hE8 := hE8.below hb15
  replace hE10 := hE10.below hb15
  replace hE13 := hE13.below hb15
  replace hC8 := hC8.below hb15
  replace hC11 := hC11.below hb15
  replace hX9 := hX9.below hb15
  replace hX12 := hX12.below hb15
  replace hX14 := hX14.below hb15
  replace hY15 := hY15.below hb15
  replace hbd := hbd.trans (hb15.mono hbd.size)
  have hX := (Blk.new w15 (btenc Fd dd A15 N15 m15) 25).alloc (.cells #[.int .i64 c2e, .int .i64 q2e] 48)
  have hY := Blk.new (w15.alloc (.cells (btenc Fd dd A15 N15 m15) 25)) #[.int .i64 c2e, .int .i64 q2e] 48
  rw [World.size_alloc] at hY
  have hbx := below_two w15 (.cells (btenc Fd dd A15 N15 m15) 25) (.cells #[.int .i64 c2e, .int .i64 q2e] 48)
  replace hE8 := hE8.below hbx
  replace hE10 := hE10.below hbx
  replace hE13 := hE13.below hbx
  replace hE15 := hE15.below hbx
  replace hC8 := hC8.below hbx
  replace hC11 := hC11.below hbx
  replace hX9 := hX9.below hbx
  replace hX12 := hX12.below hbx
  replace hX14 := hX14.below hbx
  replace hY15 := hY15.below hbx
  replace hbd := hbd.trans (hbx.mono hbd.size)
  have hX16 := hX
  have hY18 := hY
  have hsz16 : ((w15.alloc (.cells (btenc Fd dd A15 N15 m15) 25)).alloc (.cells #[.int .i64 c2e, .int .i64 q2e] 48)).heap.size = w15.heap.size + 2 := by simp
  clear HR2 hb15 hbx hX hY
  go_upto_region 12 with (fail)
  generalize (w15.alloc (.cells (btenc Fd dd A15 N15 m15) 25)).alloc (.cells #[.int .i64 c2e, .int .i64 q2e] 48) = w16 at *
  have hne : w8.heap.size ≠ w10.heap.size := by omega
  go_cut [13] from 92 to 96 (fun v13 wx => v13 = .bool f10 ∧ Hid (Blk wx w8.heap.size (cvs (.slice A n m) p3 c1e q1e) 50 ∧ Blk wx w10.heap.size (cvs (.slice A n m) p4 c2e q2e) 50 ∧ Ks (fun k => k = w8.heap.size ∨ k = w10.heap.size) w16 wx))
  case first =>
    have hS4 : EndQ w16 w8.heap.size w10.heap.size (.slice A n m) p3 c1 q1 p4 c2 q2 w16 := ⟨hC8, hC11, Ks.refl _ _⟩
    have HA1 := Lib.hid (HE1.out _ (.inl rfl))
    have HA2 := Lib.hid (HE2.out _ (.inl rfl))
    obtain ⟨⟨a0, a1, a2, a3⟩, ⟨b0, b1, b2, b3⟩, ⟨f0, f1, f2, f3⟩, ⟨g0, g1, g2, g3⟩⟩ := hS4.all
    clear hE8 hE10 hE13 hE15 hX9 hX12 hX14 hY15 hX16 hY18 hbd HV1 HV2 hC8 hC11 HE1 HE2 HBY HZ HNIL
    go_region_with (go_at_call 29; go_must (first
      | ((with_reducible refine (HA1.out _).mono ?_); rintro e we ⟨rfl, hbe⟩; have hS5 := hS4.step hbe; have hz5 := hS5.sz; obtain ⟨⟨a0, a1, a2, a3⟩, ⟨b0, b1, b2, b3⟩, ⟨f0, f1, f2, f3⟩, ⟨g0, g1, g2, g3⟩⟩ := hS5.all; clear hS4 hbe; have hS4 := hS5; clear hS5)
      | ((with_reducible refine (HA2.out _).mono ?_); rintro e we ⟨rfl, hbe⟩; have hS5 := hS4.step hbe; have hz5 := hS5.sz; obtain ⟨⟨a0, a1, a2, a3⟩, ⟨b0, b1, b2, b3⟩, ⟨f0, f1, f2, f3⟩, ⟨g0, g1, g2, g3⟩⟩ := hS5.all; clear hS4 hbe; have hS4 := hS5; clear hS5)))
    all_goals (go_wp2_with fail; go_meet)
    all_goals (refine ⟨rfl, Lib.hid ?_⟩; obtain ⟨h1, h2, h3⟩ := eight_set hS4.1 hS4.2.1 hne (.slice A n m) (.int .i64 p3) (.int .i64 c1e) (.int .i64 q1e) (.slice A n m) (.int .i64 p4) (.int .i64 c2e) (.int .i64 q2e) _ rfl; have h4 := hS4.2.2.trans h3; exact ⟨h1, h2, ⟨h4.os, h4.tape, h4.output, h4.size, h4.block⟩⟩)
  case rest =>
  obtain ⟨rfl, hcut⟩ := hcut
  obtain ⟨hC8, hC11, hk⟩ := hcut.out
  have hne1 : ∀ g : Nat, (g < w8.heap.size ∨ (w8.heap.size < g ∧ g < w10.heap.size) ∨ w10.heap.size < g) → ¬ (g = w8.heap.size ∨ g = w10.heap.size) := fun g h => by omega
  replace hX9 := hX9.ks hk (hne1 _ (by omega))
  replace hX12 := hX12.ks hk (hne1 _ (by omega))
  replace hX14 := hX14.ks hk (hne1 _ (by omega))
  replace hY15 := hY15.ks hk (hne1 _ (by omega))
  replace hX16 := hX16.ks hk (hne1 _ (by omega))
  replace hY18 := hY18.ks hk (hne1 _ (by omega))
  replace hE8 := hE8.keep (w' := wc) (fun g hg hlt => hk.block g hlt (hne1 _ (by have h2 : w7.heap.size ≤ g ∧ g < w8.heap.size := hg; omega)))
  replace hE10 := hE10.keep (w' := wc) (fun g hg hlt => hk.block g hlt (hne1 _ (by have h2 : w9.heap.size ≤ g ∧ g < w10.heap.size := hg; omega)))
  replace hE13 := hE13.keep (w' := wc) (fun g hg hlt => hk.block g hlt (hne1 _ (by have h2 : v1.heap.size ≤ g := hg; omega)))
  replace hE15 := hE15.keep (w' := wc) (fun g hg hlt => hk.block g hlt (hne1 _ (by have h2 : w14.heap.size ≤ g := hg; omega)))
  replace hE8 := hE8.mono (Q := fun g => g < w10.heap.size + 1) (fun g hg _ => by have h2 : w7.heap.size ≤ g ∧ g < w8.heap.size := hg; show g < w10.heap.size + 1; omega)
  replace hbd := Ks.below hbd (Nat.le_refl _) hk (fun g hg => by omega)
  clear hcut hk hne1 HE1 HE2
  obtain ⟨y0, y1⟩ := hY15.c2
  obtain ⟨v0, v1'⟩ := hY18.c2
  obtain ⟨_, _, s2, s3⟩ := hC8.c4
  obtain ⟨_, _, r2, r3⟩ := hC11.c4
  have e0 : (c1e == c1e) = true := by simp
  have e1 : (q1e == q1e) = true := by simp
  have e2 : (c2e == c2e) = true := by simp
  have e3 : (q2e == q2e) = true := by simp
  go_upto_region 15 with (fail)
  clear e0 e1 e2 e3 y0 y1 v0 v1' r2 r3
  by_cases hc1 : c1e = 0
  · obtain ⟨k1, ev⟩ := Prod.mk.inj (HV1.out.1 hc1)
    obtain ⟨k2, k3⟩ := Prod.mk.inj ev
    subst k1 k2 k3
    clear ev HV1
    have c1b : (c1e != 0) = false := by simpa using hc1
    go_upto_region 17 with (fail)
    clear c1b hc1 s2 s3 hC8
    obtain ⟨wq, hwq⟩ : ∃ wq, wq = wc := ⟨_, rfl⟩
    subst hwq
    by_cases hc2 : c2e = 0
    · obtain ⟨ev, hfl⟩ := HV2.out.1 hc2
      obtain ⟨k1, ev⟩ := Prod.mk.inj ev
      obtain ⟨k2, k3⟩ := Prod.mk.inj ev
      subst k1 k2 k3 hfl
      clear ev HV2
      obtain ⟨_, _, s2, s3⟩ := hC11.c4
      have c2b : (c2e != 0) = false := by simpa using hc2
      go_upto_region 19 with (fail)
      clear s2 s3 c2b hc2 hC11
      obtain ⟨x0, x1, x2⟩ := hX14.c3
      obtain ⟨y0, y1, y2⟩ := hX9.c3
      go_wp2_with fail
      refine (rsame25_any _ _ _ _ _ _ A13 A8 N13 m13 N8 m8 _ _ _ hE13 (hE8) (by omega) (by omega) hsm13 (HSM8.out)).mono ?_
      unfold BPost
      rintro e wf ⟨rfl, hbf⟩
      rw [decide_eq_true rfl]
      replace hbd := hbd.trans (hbf.mono hbd.size)
      clear x0 x1 x2 y0 y1 y2
      obtain ⟨x0, x1, x2⟩ := (hX16.below hbf).c3
      obtain ⟨y0, y1, y2⟩ := (hX12.below hbf).c3
      have e4 : ∀ b : Bool, (b == b) = true := fun b => by simp
      go_wp2_with fail
      refine (rsame25_any _ _ _ _ _ _ A15 A10 N15 m15 N10 m10 _ _ _ (hE15.below hbf) (hE10.below hbf) (by omega) (by omega) hsm15 (HSM10.out)).mono ?_
      unfold BPost
      rintro e wg ⟨rfl, hbg⟩
      rw [decide_eq_true rfl]
      replace hbd := hbd.trans (hbg.mono hbd.size)
      clear x0 x1 x2 y0 y1 y2 hbf hbg hX9 hX12 hX14 hX16 hE13 hE15
      go_wp2_with fail
      refine (live25_any _).mono ?_
      rintro e wl ⟨rfl, hbl⟩
      replace hbd := hbd.trans (hbl.mono hbd.size)
      go_wp2
      go_ret
      exact ⟨rfl, hbd⟩
    · obtain ⟨ev, hfl⟩ := HV2.out.2 hc2
      unfold bt0 at ev
      obtain ⟨k1, ev⟩ := Prod.mk.inj ev
      obtain ⟨k2, k3⟩ := Prod.mk.inj ev
      subst k1 k2 k3 hfl
      clear ev HV2
      obtain ⟨_, _, s2, s3⟩ := hC11.c4
      obtain ⟨t0, t1, t2⟩ := hX12.c3
      obtain ⟨f0, f1, f2⟩ := blk_f3 hX12
      have c2b : (c2e != 0) = true := by simpa using hc2
      go_upto_region 19 with (fail)
      obtain ⟨hX12', hkd⟩ := set3 hX12 (.int .u64 0) (.int .u64 0) (.slice none 0 0)
      replace hX9 := blk_kp hX9 hkd (by omega)
      replace hX14 := blk_kp hX14 hkd (by omega)
      replace hX16 := blk_kp hX16 hkd (by omega)
      replace hE13 := hE13.keep (fun g hg hlt => hkd.block g hlt (by have h2 : v1.heap.size ≤ g := hg; omega))
      replace hE15 := hE15.keep (fun g hg hlt => hkd.block g hlt (by have h2 : w14.heap.size ≤ g := hg; omega))
      have hEE := (hE8).keep (fun g hg hlt => hkd.block g hlt (by have h2 : g < w10.heap.size + 1 := hg; omega))
      have hBD := Lib.hid (Kp.below hbd (Nat.le_refl _) hkd (by omega))
      clear hkd s2 s3 c2b hc2 hC11 t0 t1 t2 f0 f1 f2 hX12 hbd
      generalize ((wq.setCell ⟨w10.heap.size + 1, 0, none⟩ (.int .u64 0)).setCell ⟨w10.heap.size + 1, 1, none⟩ (.int .u64 0)).setCell ⟨w10.heap.size + 1, 2, none⟩ (.slice none 0 0) = wz at *
      have hbd := hBD.out
      have hX12 := hX12'
      clear hX12' hBD
      obtain ⟨x0, x1, x2⟩ := hX14.c3
      obtain ⟨y0, y1, y2⟩ := hX9.c3
      go_wp2_with fail
      refine (rsame25_any _ _ _ _ _ _ A13 A8 N13 m13 N8 m8 _ _ _ hE13 (hEE) (by omega) (by omega) hsm13 (HSM8.out)).mono ?_
      unfold BPost
      rintro e wf ⟨rfl, hbf⟩
      rw [decide_eq_true rfl]
      replace hbd := hbd.trans (hbf.mono hbd.size)
      clear x0 x1 x2 y0 y1 y2
      obtain ⟨x0, x1, x2⟩ := (hX16.below hbf).c3
      obtain ⟨y0, y1, y2⟩ := (hX12.below hbf).c3
      have e4 : ∀ b : Bool, (b == b) = true := fun b => by simp
      go_wp2_with fail
      refine (rsame25_any _ _ _ _ _ _ A15 none N15 m15 0 0 _ _ _ (hE15.below hbf) (ens_nil _ (fun _ => True)) (by omega) (by omega) hsm15 (esm_nil)).mono ?_
      unfold BPost
      rintro e wg ⟨rfl, hbg⟩
      rw [decide_eq_true rfl]
      replace hbd := hbd.trans (hbg.mono hbd.size)
      clear x0 x1 x2 y0 y1 y2 hbf hbg hX9 hX12 hX14 hX16 hE13 hE15
      go_wp2_with fail
      refine (live25_any _).mono ?_
      rintro e wl ⟨rfl, hbl⟩
      replace hbd := hbd.trans (hbl.mono hbd.size)
      go_wp2
      go_ret
      exact ⟨rfl, hbd⟩
  · have ev := HV1.out.2 hc1
    unfold bt0 at ev
    obtain ⟨k1, ev⟩ := Prod.mk.inj ev
    obtain ⟨k2, k3⟩ := Prod.mk.inj ev
    subst k1 k2 k3
    clear ev HV1
    have c1b : (c1e != 0) = true := by simpa using hc1
    obtain ⟨t0, t1, t2⟩ := hX9.c3
    obtain ⟨f0, f1, f2⟩ := blk_f3 hX9
    go_upto_region 17 with (fail)
    obtain ⟨hX9', hkd⟩ := set3 hX9 (.int .u64 0) (.int .u64 0) (.slice none 0 0)
    replace hX12 := blk_kp hX12 hkd (by omega)
    replace hX14 := blk_kp hX14 hkd (by omega)
    replace hX16 := blk_kp hX16 hkd (by omega)
    replace hC11 := blk_kp hC11 hkd (by omega)
    replace hE10 := hE10.keep (fun g hg hlt => hkd.block g hlt (by have h2 : w9.heap.size ≤ g ∧ g < w10.heap.size := hg; omega))
    replace hE13 := hE13.keep (fun g hg hlt => hkd.block g hlt (by have h2 : v1.heap.size ≤ g := hg; omega))
    replace hE15 := hE15.keep (fun g hg hlt => hkd.block g hlt (by have h2 : w14.heap.size ≤ g := hg; omega))
    have hBD := Lib.hid (Kp.below hbd (Nat.le_refl _) hkd (by omega))
    clear hkd s2 s3 c1b hc1 hC8 t0 t1 t2 f0 f1 f2 hX9 hbd hE8
    generalize ((wc.setCell ⟨w8.heap.size + 1, 0, none⟩ (.int .u64 0)).setCell ⟨w8.heap.size + 1, 1, none⟩ (.int .u64 0)).setCell ⟨w8.heap.size + 1, 2, none⟩ (.slice none 0 0) = wq at *
    have hbd := hBD.out
    have hX9 := hX9'
    clear hX9' hBD
    by_cases hc2 : c2e = 0
    · obtain ⟨ev, hfl⟩ := HV2.out.1 hc2
      obtain ⟨k1, ev⟩ := Prod.mk.inj ev
      obtain ⟨k2, k3⟩ := Prod.mk.inj ev
      subst k1 k2 k3 hfl
      clear ev HV2
      obtain ⟨_, _, s2, s3⟩ := hC11.c4
      have c2b : (c2e != 0) = false := by simpa using hc2
      go_upto_region 19 with (fail)
      clear s2 s3 c2b hc2 hC11
      obtain ⟨x0, x1, x2⟩ := hX14.c3
      obtain ⟨y0, y1, y2⟩ := hX9.c3
      go_wp2_with fail
      refine (rsame25_any _ _ _ _ _ _ A13 none N13 m13 0 0 _ _ _ hE13 (ens_nil wq (fun g => g < w10.heap.size + 1)) (by omega) (by omega) hsm13 (esm_nil)).mono ?_
      unfold BPost
      rintro e wf ⟨rfl, hbf⟩
      rw [decide_eq_true rfl]
      replace hbd := hbd.trans (hbf.mono hbd.size)
      clear x0 x1 x2 y0 y1 y2
      obtain ⟨x0, x1, x2⟩ := (hX16.below hbf).c3
      obtain ⟨y0, y1, y2⟩ := (hX12.below hbf).c3
      have e4 : ∀ b : Bool, (b == b) = true := fun b => by simp
      go_wp2_with fail
      refine (rsame25_any _ _ _ _ _ _ A15 A10 N15 m15 N10 m10 _ _ _ (hE15.below hbf) (hE10.below hbf) (by omega) (by omega) hsm15 (HSM10.out)).mono ?_
      unfold BPost
      rintro e wg ⟨rfl, hbg⟩
      rw [decide_eq_true rfl]
      replace hbd := hbd.trans (hbg.mono hbd.size)
      clear x0 x1 x2 y0 y1 y2 hbf hbg hX9 hX12 hX14 hX16 hE13 hE15
      go_wp2_with fail
      refine (live25_any _).mono ?_
      rintro e wl ⟨rfl, hbl⟩
      replace hbd := hbd.trans (hbl.mono hbd.size)
      go_wp2
      go_ret
      exact ⟨rfl, hbd⟩
    · obtain ⟨ev, hfl⟩ := HV2.out.2 hc2
      unfold bt0 at ev
      obtain ⟨k1, ev⟩ := Prod.mk.inj ev
      obtain ⟨k2, k3⟩ := Prod.mk.inj ev
      subst k1 k2 k3 hfl
      clear ev HV2
      obtain ⟨_, _, s2, s3⟩ := hC11.c4
      obtain ⟨t0, t1, t2⟩ := hX12.c3
      obtain ⟨f0, f1, f2⟩ := blk_f3 hX12
      have c2b : (c2e != 0) = true := by simpa using hc2
      go_upto_region 19 with (fail)
      obtain ⟨hX12', hkd⟩ := set3 hX12 (.int .u64 0) (.int .u64 0) (.slice none 0 0)
      replace hX9 := blk_kp hX9 hkd (by omega)
      replace hX14 := blk_kp hX14 hkd (by omega)
      replace hX16 := blk_kp hX16 hkd (by omega)
      replace hE13 := hE13.keep (fun g hg hlt => hkd.block g hlt (by have h2 : v1.heap.size ≤ g := hg; omega))
      replace hE15 := hE15.keep (fun g hg hlt => hkd.block g hlt (by have h2 : w14.heap.size ≤ g := hg; omega))
      have hEE := (ens_nil wq (fun g => g < w10.heap.size + 1)).keep (fun g hg hlt => hkd.block g hlt (by have h2 : g < w10.heap.size + 1 := hg; omega))
      have hBD := Lib.hid (Kp.below hbd (Nat.le_refl _) hkd (by omega))
      clear hkd s2 s3 c2b hc2 hC11 t0 t1 t2 f0 f1 f2 hX12 hbd
      generalize ((wq.setCell ⟨w10.heap.size + 1, 0, none⟩ (.int .u64 0)).setCell ⟨w10.heap.size + 1, 1, none⟩ (.int .u64 0)).setCell ⟨w10.heap.size + 1, 2, none⟩ (.slice none 0 0) = wz at *
      have hbd := hBD.out
      have hX12 := hX12'
      clear hX12' hBD
      obtain ⟨x0, x1, x2⟩ := hX14.c3
      obtain ⟨y0, y1, y2⟩ := hX9.c3
      go_wp2_with fail
      refine (rsame25_any _ _ _ _ _ _ A13 none N13 m13 0 0 _ _ _ hE13 (hEE) (by omega) (by omega) hsm13 (esm_nil)).mono ?_
      unfold BPost
      rintro e wf ⟨rfl, hbf⟩
      rw [decide_eq_true rfl]
      replace hbd := hbd.trans (hbf.mono hbd.size)
      clear x0 x1 x2 y0 y1 y2
      obtain ⟨x0, x1, x2⟩ := (hX16.below hbf).c3
      obtain ⟨y0, y1, y2⟩ := (hX12.below hbf).c3
      have e4 : ∀ b : Bool, (b == b) = true := fun b => by simp
      go_wp2_with fail
      refine (rsame25_any _ _ _ _ _ _ A15 none N15 m15 0 0 _ _ _ (hE15.below hbf) (ens_nil _ (fun _ => True)) (by omega) (by omega) hsm15 (esm_nil)).mono ?_
      unfold BPost
      rintro e wg ⟨rfl, hbg⟩
      rw [decide_eq_true rfl]
      replace hbd := hbd.trans (hbg.mono hbd.size)
      clear x0 x1 x2 y0 y1 y2 hbf hbg hX9 hX12 hX14 hX16 hE13 hE15
      go_wp2_with fail
      refine (live25_any _).mono ?_
      rintro e wl ⟨rfl, hbl⟩
      replace hbd := hbd.trans (hbl.mono hbd.size)
      go_wp2
      go_ret
      exact ⟨rfl, hbd⟩
set_option maxRecDepth 100000 in
theorem lifted (os : Os) (started : os.Started) (H : Type) (enc : TypeId × Value → H) :
    ReturnsInHanded {} Tryz.checked os 4 .any (Rows.batchReadsSpec.pre6 enc Tryz.prog Tryz.f4 Rows.batchReadsRow.domain false) (Rows.batchReadsSpec.post enc Tryz.prog Tryz.f4 false true false false) := by
  refine returnsInHanded_of_change (C := Tryz.checked) own started (by kernel_rfl) Tryz.func4
    (ChangeSpec.witness6 (enc := enc) (C := Tryz.checked) false ⟨#[], #[.slice none 0 0], []⟩ 8 (by kernel_rfl) (by kernel_rfl) (by kernel_rfl) (by kernel_rfl)) ?_
  intro W base args ds gs before hval0 hW hcnd _
  have hval : ∀ (j : Nat) t v, Tryz.f4.params[j]? = some t → args[j]? = some v → Value.okWide Tryz.prog W .any base t v := hval0
  have hW' := hW
  obtain ⟨p, q, hA0, hV, rfl, hfz, hnd⟩ := hW
  have hA : DataW.TrodAll enc Tryz.prog W 0 (fun _ => true) true Tryz.f4.params.toList args.toList ds p := hA0
  rw [Tryz.params4] at hA hval
  obtain ⟨v0, vs0, d0, ds0, p0, q0, hargs, rfl, rfl, h0, r0⟩ := trodAll_cons hA
  obtain ⟨rfl, rfl, rfl⟩ := trodAll_nil r0
  obtain rfl : args = #[v0] := by cases args; simp_all
  obtain ⟨rfl, rfl⟩ := trodVars_none hV
  have lt0 : ∀ x ∈ p0, x.block < W.heap.size := by obtain ⟨m, hm⟩ := h0; exact DataW.trod_lt m _ _ _ hm
  clear hA0 hval0
  refine (walk enc W base v0 d0 p0 (hval 0 28 v0 rfl rfl) h0).mono fun e W' ⟨he, bel⟩ => ?_
  subst he
  exact ⟨_, rfl, _, _, _, [], _, [], hW', trodAll_mk1 (shut_bool Tryz.underlying4 _), (trodAll_cons_mk (Below.trod laidOut (by kernel_rfl) (of_decide_eq_true (by kernel_rfl)) h0 bel lt0) trodAll_mk0), rfl, bel.frame _, fun h => by cases h⟩
theorem over : Rows.batchReadsRow.holds Tryz.pinned (OpenSpec.ofChange Rows.batchReadsSpec) :=
  OpenClaim.holds_of_wide 4 Tryz.f4 rfl rfl rfl rfl rfl rfl rfl ⟨rfl, rfl, rfl, rfl, rfl⟩ rfl rfl rfl rfl rfl (by kernel_rfl) Tryz.func4 (by kernel_rfl)
    (of_decide_eq_true (by kernel_rfl)) (by unfold Func.isWrapper; first | (rw [if_pos (by decide +kernel)]; kernel_rfl) | (rw [if_neg (by decide +kernel)]; exact ⟨rfl, rfl⟩))
    (fun os started H enc _ => lifted os started H enc)
theorem proved : Rows.BatchReadsSaid := over
#print axioms proved
end Go.Proofs.YtlealkfkddhnnaaGreat.batchReads
