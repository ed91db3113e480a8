/- SealReads: called with any bytes, the law returns true; no condition. -/
import Derived.Test.YtdljkpmjamegjaaRows
import Derived.Test.YtdljkpmjamegjaaSelG
import Derived.Test.YtdljkpmjamegjaaK1
import Derived.ProofKit
import Derived.OpenShut
import Derived.ShutString
import Derived.ChangeOld
namespace Go.Proofs.Ytdljkpmjamegjaa.sealReads
open Go.ChangeShapes Go.WideShapes Go.ChangeAt Go.RowKit
open Go.ChangeMaps (open_string shut_string)
set_option linter.unusedVariables false

theorem own : ownKnob Try.prog.godebug = none := by kernel_rfl
theorem laidOut : laidOutB Try.prog = true := by kernel_rfl
open Cur Mem

set_option maxRecDepth 100000

abbrev sc (a b c : Int) : Array Value := #[.int .u64 a, .int .u64 b, .int .u64 c]
abbrev fc (c q : Int) : Array Value := #[.int .i64 c, .int .i64 q]
/-- What the loads of the law need. -/
def S2 (x y cb : Nat) (s : Value) (s0 s1 s2 p c q : Int) (w' : World) : Prop :=
  Blk w' x (sc s0 s1 s2) 24 ∧ Blk w' y (sc s0 s1 s2) 24 ∧ Blk w' cb (cvs s p c q) 45
theorem S2.below {x y cb : Nat} {s : Value} {s0 s1 s2 p c q : Int} {w' w'' : World} (h : S2 x y cb s s0 s1 s2 p c q w') (hb : Below w'.heap.size w' w'') : S2 x y cb s s0 s1 s2 p c q w'' :=
  ⟨h.1.below hb, h.2.1.below hb, h.2.2.below hb⟩


set_option maxHeartbeats 8000000 in
theorem walk {H : Type} (enc : TypeId × Value → H) (w : World) (base : Nat) (v0 : Value) (d0 : DataW H) (p0 : List MemPlace) (g0 : Value.okWide Try.prog w .any base 25 v0) (h0 : DataW.Trod enc Try.prog w 0 (fun _ => true) true 25 v0 d0 p0) :
    Calls Try.prog 4 #[v0] w fun e w' => e = .returned (.bool true) ∧ Below w.heap.size w w' := by
  obtain ⟨a, n, m, z, rfl, hnm, hz, hby, hnil⟩ := open_bytes g0 h0
  clear g0 h0
  by_cases hn : 300 < (n : Int)
  · go_enter Try.func4, Try.ntmps4
    go_wp2_with fail
    with_reducible refine (live18_any _).mono ?_
    rintro e w1 ⟨rfl, hb⟩
    go_wp2
    go_ret
    exact ⟨rfl, hb⟩
  have HBY := Lib.hid hby
  have HZ := Lib.hid hz
  have HON := Lib.hid (sr_once (p := 0) hby (Int.le_refl _) (by omega))
  have hget := sget_any a n m z w hz hnm (by omega) hby
  have hdec := fun w' hb => sdecode_any a n m z w' (hz.below hb) hnm (by omega) hby
  have href := fun w' hb => rread18_any a n m z 0 0 0 w' (hz.below hb) (Int.le_refl _) (by omega) hnm (by omega) hby
  -- what is read
  obtain ⟨g, hg⟩ : ∃ g, g = sr z 0 := ⟨_, rfl⟩
  unfold SRRdPost at href
  unfold SGetPost at hget
  rw [← hg] at hget hdec href HON
  obtain ⟨s0, s1, s2, p, c, q, hv1, hv2, hgs, hz0, hpn⟩ : ∃ s0 s1 s2 p c q : Int, sgv g = .tuple #[.agg (sc s0 s1 s2), .int .i64 (if c = 0 then p else 0), .agg (fc c q)] ∧
      sdv g n = (if c = 0 ∧ p < n then .tuple #[sagg (0, 0, 0), .agg #[.int .i64 9, .int .i64 p]] else .tuple #[.agg (sc s0 s1 s2), .agg (fc c q)]) ∧
      (∀ v p' c' q', St (0, 0, 0) n g 0 0 0 v p' c' q' → v = (s0, s1, s2) ∧ c' = c ∧ q' = q ∧ (c = 0 → p' = p)) ∧ (c ≠ 0 → s0 = 0 ∧ s1 = 0 ∧ s2 = 0) ∧
      (c = 0 → 0 ≤ p ∧ p ≤ n ∧ q = 0 ∧ sbd (s0, s1, s2) ∧ sby (s0, s1, s2) = z.take p.toNat) := by
    by_cases hc : g.2.2.1 = 0
    · obtain ⟨u1, u2, u3, u4, u5⟩ := HON.out hc
      refine ⟨g.1.1, g.1.2.1, g.1.2.2, g.2.1, 0, 0, ?_, ?_, ?_, fun h => absurd rfl h, fun _ => ⟨u4, by rw [hz.1] at u5; exact u5, rfl, u2, ?_⟩⟩
      · unfold sgv; simp only [hc, if_true]
      · unfold sdv; simp only [hc, if_true, true_and]
      · intro v p' c' q' h
        obtain ⟨_, _, ⟨h0, _⟩ | ⟨_, h1, h2, h3, h4, h5⟩ | ⟨_, h1, _⟩⟩ := h
        · exact absurd rfl h0
        · exact ⟨h2, h4, h5, fun _ => h3⟩
        · exact absurd hc h1
      · have : sby g.1 = _ := u1
        rw [show sby (g.1.1, g.1.2.1, g.1.2.2) = sby g.1 from rfl, this]
        unfold piece; simp
    · refine ⟨0, 0, 0, 0, g.2.2.1, g.2.2.2, ?_, ?_, ?_, fun _ => ⟨rfl, rfl, rfl⟩, fun h => absurd h hc⟩
      · unfold sgv; simp only [hc, if_false]
      · unfold sdv; simp only [hc, if_false, false_and]
      · intro v p' c' q' h
        obtain ⟨_, _, ⟨h0, _⟩ | ⟨_, h1, _⟩ | ⟨_, h1, h2, h3, h4⟩⟩ := h
        · exact absurd rfl h0
        · exact absurd h1 hc
        · exact ⟨h2, h3, h4, fun h => absurd h hc⟩
  obtain ⟨N, hN⟩ : ∃ N : Int, N = (if c = 0 then p else 0) := ⟨_, rfl⟩
  rw [← hN] at hv1
  have HN := Lib.hid hN
  clear hN
  rw [hv1] at hget
  rw [hv2] at hdec
  have HGS := Lib.hid hgs
  have HDEC := Lib.hid hdec
  have HREF := Lib.hid href
  have HZ0 := Lib.hid hz0
  have HPN := Lib.hid hpn
  have hsrd := fun rb w' (hr : IsRd w' rb (.slice a n n) 0 0 0) hb => sread_any rb a n n z 0 0 0 w' hr (hz.below hb) (Int.le_refl _) (by omega) (by omega) hby
  unfold SRdPost at hsrd
  rw [← hg] at hsrd
  have HSRD := Lib.hid hsrd
  clear hv1 hv2 hgs hdec href hz0 hpn hsrd hz hby HON hg
  go_enter Try.func4, Try.ntmps4
  go_wp2_with fail
  refine hget.mono ?_
  rintro e w1 ⟨rfl, hb1⟩
  have h3 := (Blk.new w1 (sc s0 s1 s2) 24).alloc (.cells (fc c q) 37)
  have h5 := Blk.new (w1.alloc (.cells (sc s0 s1 s2) 24)) (fc c q) 37
  rw [show (w1.alloc (.cells (sc s0 s1 s2) 24)).heap.size = w1.heap.size + 1 by simp] at h5
  have hbd := hb1.trans ((below_two w1 (.cells (sc s0 s1 s2) 24) (.cells (fc c q) 37)).mono hb1.size)
  clear hget hb1
  go_wp2_with fail
  generalize (w1.alloc (.cells (sc s0 s1 s2) 24)).alloc (.cells (fc c q) 37) = w2 at *
  generalize w1.heap.size = b3 at *
  -- Decode
  have hd := HDEC.out w2 hbd
  obtain ⟨t0, t1, t2, tc, tq, ht⟩ : ∃ t0 t1 t2 tc tq : Int, (if c = 0 ∧ p < n then Value.tuple #[sagg (0, 0, 0), .agg #[.int .i64 9, .int .i64 p]] else Value.tuple #[.agg (sc s0 s1 s2), .agg (fc c q)]) = Value.tuple #[.agg (sc t0 t1 t2), .agg (fc tc tq)] ∧
      ((c = 0 ∧ p < n ∧ t0 = 0 ∧ t1 = 0 ∧ t2 = 0 ∧ tc = 9 ∧ tq = p) ∨ (¬ (c = 0 ∧ p < n) ∧ t0 = s0 ∧ t1 = s1 ∧ t2 = s2 ∧ tc = c ∧ tq = q)) := by
    by_cases h : c = 0 ∧ p < n
    · exact ⟨0, 0, 0, 9, p, by rw [if_pos h], .inl ⟨h.1, h.2, rfl, rfl, rfl, rfl, rfl⟩⟩
    · exact ⟨s0, s1, s2, c, q, by rw [if_neg h], .inr ⟨h, rfl, rfl, rfl, rfl, rfl⟩⟩
  obtain ⟨ht, htw⟩ := ht
  rw [ht] at hd
  have HTW := Lib.hid htw
  clear ht htw HDEC
  refine hd.mono ?_
  rintro e w3 ⟨rfl, hb3⟩
  have h6 := (Blk.new w3 (sc t0 t1 t2) 24).alloc (.cells (fc tc tq) 37)
  have h7 := Blk.new (w3.alloc (.cells (sc t0 t1 t2) 24)) (fc tc tq) 37
  rw [show (w3.alloc (.cells (sc t0 t1 t2) 24)).heap.size = w3.heap.size + 1 by simp] at h7
  have hbx := hb3.trans ((below_two w3 (.cells (sc t0 t1 t2) 24) (.cells (fc tc tq) 37)).mono hb3.size)
  replace hbd := hbd.trans (hbx.mono hbd.size)
  replace h3 := h3.below hbx
  replace h5 := h5.below hbx
  clear hd hb3 hbx
  go_wp2_with fail
  generalize (w3.alloc (.cells (sc t0 t1 t2) 24)).alloc (.cells (fc tc tq) 37) = w4 at *
  generalize w3.heap.size = b6 at *
  -- the document's reader
  refine (HREF.out w4 hbd).mono ?_
  rintro e w5 ⟨v, p2, c2, q2, rfl, hb5, hst⟩
  obtain ⟨rfl, rfl, rfl, hp⟩ := HGS.out _ _ _ _ hst
  have HP := Lib.hid hp
  have h8 := (Blk.new w5 (cvs (.slice a n m) p2 c2 q2) 45).alloc (.cells (sc s0 s1 s2) 24)
  have h9 := Blk.new (w5.alloc (.cells (cvs (.slice a n m) p2 c2 q2) 45)) (sc s0 s1 s2) 24
  rw [show (w5.alloc (.cells (cvs (.slice a n m) p2 c2 q2) 45)).heap.size = w5.heap.size + 1 by simp] at h9
  have hbx := hb5.trans ((below_two w5 (.cells (cvs (.slice a n m) p2 c2 q2) 45) (.cells (sc s0 s1 s2) 24)).mono hb5.size)
  replace hbd := hbd.trans (hbx.mono hbd.size)
  replace h3 := h3.below hbx
  replace h5 := h5.below hbx
  replace h6 := h6.below hbx
  replace h7 := h7.below hbx
  clear hst hp hb5 hbx HREF
  go_wp2_with fail
  generalize (w5.alloc (.cells (cvs (.slice a n m) p2 c2 q2) 45)).alloc (.cells (sc s0 s1 s2) 24) = w6 at *
  generalize w5.heap.size = b8 at *
  refine (new_some _ _ _ _ hnm).mono ?_
  rintro e w7 ⟨rb, rfl, hrb, hb7, hr⟩
  have hrw : w.heap.size ≤ rb := Nat.le_trans hbd.size hrb
  replace hbd := hbd.trans (hb7.mono hbd.size)
  have n1 := Nat.lt_of_lt_of_le h3.lt hrb
  have n2 := Nat.lt_of_lt_of_le h5.lt hrb
  have n3 := Nat.lt_of_lt_of_le h6.lt hrb
  have n4 := Nat.lt_of_lt_of_le h7.lt hrb
  have n5 := Nat.lt_of_lt_of_le h8.lt hrb
  have n6 := Nat.lt_of_lt_of_le h9.lt hrb
  replace h3 := h3.below hb7
  replace h5 := h5.below hb7
  replace h6 := h6.below hb7
  replace h7 := h7.below hb7
  replace h8 := h8.below hb7
  replace h9 := h9.below hb7
  clear hb7
  go_wp2_with fail
  refine (HSRD.out rb w7 hr hbd).mono ?_
  rintro e w8 ⟨v, p3, c3, q3, rfl, hk, hr8, hst⟩
  obtain ⟨rfl, rfl, rfl, hp⟩ := HGS.out _ _ _ _ hst
  replace hbd := Kp.below hbd (Nat.le_refl _) hk hrw
  replace h3 := blk_kp h3 hk (by omega)
  replace h5 := blk_kp h5 hk (by omega)
  replace h6 := blk_kp h6 hk (by omega)
  replace h7 := blk_kp h7 hk (by omega)
  replace h8 := blk_kp h8 hk (by omega)
  replace h9 := blk_kp h9 hk (by omega)
  have h11 := Blk.new w8 (sc s0 s1 s2) 24
  have hbx := below_one w8 (.cells (sc s0 s1 s2) 24)
  replace hbd := hbd.trans (hbx.mono hbd.size)
  replace h3 := h3.below hbx
  replace h5 := h5.below hbx
  replace h6 := h6.below hbx
  replace h7 := h7.below hbx
  replace h8 := h8.below hbx
  replace h9 := h9.below hbx
  replace hr8 := hr8.below hbx
  clear hst hp hr hk hbx HSRD HGS
  go_wp2_with fail
  generalize w8.alloc (.cells (sc s0 s1 s2) 24) = w9 at *
  generalize w8.heap.size = b11 at *
  have L1 : ∀ w', S2 b11 (b8 + 1) b8 (.slice a n m) s0 s1 s2 p2 c3 q3 w' → (w'.cell? ⟨b11, 0, none⟩ = some (.int .u64 s0) ∧ w'.cell? ⟨b11, 1, none⟩ = some (.int .u64 s1) ∧ w'.cell? ⟨b11, 2, none⟩ = some (.int .u64 s2)) ∧
      (w'.cell? ⟨b8 + 1, 0, none⟩ = some (.int .u64 s0) ∧ w'.cell? ⟨b8 + 1, 1, none⟩ = some (.int .u64 s1) ∧ w'.cell? ⟨b8 + 1, 2, none⟩ = some (.int .u64 s2)) ∧ (w'.cell? ⟨b8, 2, none⟩ = some (.int .i64 c3) ∧ w'.cell? ⟨b8, 3, none⟩ = some (.int .i64 q3)) := fun w' h => ⟨h.1.c3, h.2.1.c3, h.2.2.c4.2.2⟩
  have hS : S2 b11 (b8 + 1) b8 (.slice a n m) s0 s1 s2 p2 c3 q3 w9.drew := ⟨h11, h9, h8⟩
  have hdr : ∀ w' : World, Below w'.heap.size w' w'.drew := below_one'
  replace h3 := h3.below (hdr _)
  replace h5 := h5.below (hdr _)
  replace h6 := h6.below (hdr _)
  replace h7 := h7.below (hdr _)
  replace hr8 := hr8.below (hdr _)
  replace hbd := hbd.trans ((below_one' _).mono hbd.size)
  clear h11 h9 h8 hdr
  refine Seq.wp_region_seq (S2 b11 (b8 + 1) b8 (.slice a n m) s0 s1 s2 p2 c3 q3) (by kernel_rfl) (by kernel_rfl) hS ?_
  repeat (first | (refine Seq.Seq.skip (by rfl) ?_; (try simp only [Act.put, List.setIfInBounds_toArray, List.set_cons_zero, List.set_cons_succ])) | (refine Seq.Seq.det ?_ (by rfl) (fun w hS => ?_) ?_; rotate_left; ((try dsimp only at hS); go_simp; (try rw [if_pos (by omega)]); with_reducible rfl); (try simp only [Act.put, List.setIfInBounds_toArray, List.set_cons_zero, List.set_cons_succ])))
  refine Seq.Seq.make (by rfl) (by rfl) (fun K Q' hK => ?_)
  go_simp
  go_at_call 21
  refine (fault_any _ _ _ _ _ _ (by exact hr8)).mono ?_
  rintro e w11 ⟨rfl, hb11⟩
  replace h3 := h3.below hb11
  replace h5 := h5.below hb11
  replace h6 := h6.below hb11
  replace h7 := h7.below hb11
  replace hS := hS.below hb11
  replace hbd := hbd.trans (hb11.mono hbd.size)
  refine hK.out _ _ (hS) ?_
  clear hK K
  try simp only [Act.put, List.setIfInBounds_toArray, List.set_cons_zero, List.set_cons_succ]
  clear hb11 hr8
  repeat (first | (refine Seq.Seq.skip (by rfl) ?_; (try simp only [Act.put, List.setIfInBounds_toArray, List.set_cons_zero, List.set_cons_succ])) | (refine Seq.Seq.det ?_ (by rfl) (fun w hS => ?_) ?_; rotate_left; ((try dsimp only at hS); go_simp; (try rw [if_pos (by omega)]); with_reducible rfl); (try simp only [Act.put, List.setIfInBounds_toArray, List.set_cons_zero, List.set_cons_succ])))
  refine Seq.Seq.nil ?_
  clear L1
  obtain ⟨_, h9, h8⟩ := hS
  obtain ⟨x0, x1, x2⟩ := h3.c3
  obtain ⟨y0, y1⟩ := h5.c2
  obtain ⟨z0, z1, z2⟩ := h9.c3
  obtain ⟨u0, u1, u2, u3⟩ := h8.c4
  by_cases hc : c3 = 0
  · have hp := HP.out hc
    have hN := HN.out
    rw [if_pos hc, ← hp] at hN
    obtain ⟨k0, k1, hq, hsb, hby2⟩ := HPN.out hc
    rw [← hp] at k0 k1 hby2
    have HPJ := Lib.hid hp
    clear hp
    subst hc hN hq
    obtain ⟨j, rfl⟩ : ∃ j : Nat, N = j := ⟨N.toNat, by omega⟩
    rw [Int.toNat_natCast] at hby2
    have hjn : j ≤ n := by omega
    have hjm : (j : Int) ≤ m := by omega
    have HZT := Lib.hid (HZ.out.take (k := j) hjn)
    rw [← hby2] at HZT
    clear hby2
    go_wp2
    clear x0 x1 x2 y0 y1 z0 z1 z2 u0 u1 u2 u3
    have L2 : ∀ w', S2 b3 (b8 + 1) b8 (.slice a n m) s0 s1 s2 j 0 0 w' → (w'.cell? ⟨b3, 0, none⟩ = some (.int .u64 s0) ∧ w'.cell? ⟨b3, 1, none⟩ = some (.int .u64 s1) ∧ w'.cell? ⟨b3, 2, none⟩ = some (.int .u64 s2)) ∧
        w'.cell? ⟨b8, 2, none⟩ = some (.int .i64 0) := fun w' h => ⟨h.1.c3, h.2.2.c4.2.2.1⟩
    have hS : S2 b3 (b8 + 1) b8 (.slice a n m) s0 s1 s2 j 0 0 w11.drew := ⟨h3, h9, h8⟩
    have hdr : ∀ w' : World, Below w'.heap.size w' w'.drew := below_one'
    replace h6 := h6.below (hdr _)
    replace h7 := h7.below (hdr _)
    replace hbd := hbd.trans ((below_one' _).mono hbd.size)
    clear h3 h5 h9 h8 hdr
    refine Seq.wp_region_seq (S2 b3 (b8 + 1) b8 (.slice a n m) s0 s1 s2 j 0 0) (by kernel_rfl) (by kernel_rfl) hS ?_
    repeat (first | (refine Seq.Seq.skip (by rfl) ?_; (try simp only [Act.put, List.setIfInBounds_toArray, List.set_cons_zero, List.set_cons_succ])) | (refine Seq.Seq.det ?_ (by rfl) (fun w hS => ?_) ?_; rotate_left; ((try dsimp only at hS); go_simp; (try rw [if_pos (by omega)]); with_reducible rfl); (try simp only [Act.put, List.setIfInBounds_toArray, List.set_cons_zero, List.set_cons_succ])))
    refine Seq.Seq.make (by rfl) (by rfl) (fun K Q' hK => ?_)
    go_simp
    go_at_call 17
    refine (rbytes18_any (s0, s1, s2) hsb _).mono ?_
    rintro e w12 ⟨A12, m12, rfl, hb12, hbs12, _, _⟩
    replace h6 := h6.below hb12
    replace h7 := h7.below hb12
    replace hS := hS.below hb12
    replace hbd := hbd.trans (hb12.mono hbd.size)
    refine hK.out _ _ (hS) ?_
    clear hK K
    try simp only [Act.put, List.setIfInBounds_toArray, List.set_cons_zero, List.set_cons_succ]
    clear hb12
    repeat (first | (refine Seq.Seq.skip (by rfl) ?_; (try simp only [Act.put, List.setIfInBounds_toArray, List.set_cons_zero, List.set_cons_succ])) | (refine Seq.Seq.det ?_ (by rfl) (fun w hS => ?_) ?_; rotate_left; ((try dsimp only at hS); go_simp; (try rw [if_pos (by omega)]); with_reducible rfl); (try simp only [Act.put, List.setIfInBounds_toArray, List.set_cons_zero, List.set_cons_succ])))
    refine Seq.Seq.make (by rfl) (by rfl) (fun K Q' hK => ?_)
    go_simp
    go_at_call 12
    with_reducible refine (same_any _ _ _ _ _ _ (sby (s0, s1, s2)) _ hbs12 (HZT.out.below hbd)).mono ?_
    rintro e w' ⟨rfl, rfl⟩
    refine hK.out _ _ (hS) ?_
    clear hK K
    try simp only [Act.put, List.setIfInBounds_toArray, List.set_cons_zero, List.set_cons_succ]
    repeat (first | (refine Seq.Seq.skip (by rfl) ?_; (try simp only [Act.put, List.setIfInBounds_toArray, List.set_cons_zero, List.set_cons_succ])) | (refine Seq.Seq.det ?_ (by rfl) (fun w hS => ?_) ?_; rotate_left; ((try dsimp only at hS); go_simp; (try rw [if_pos (by omega)]); with_reducible rfl); (try simp only [Act.put, List.setIfInBounds_toArray, List.set_cons_zero, List.set_cons_succ])))
    refine Seq.Seq.nil ?_
    obtain ⟨_, h9, h8⟩ := hS
    obtain ⟨u0, u1, u2, u3⟩ := h8.c4
    clear L2 hbs12
    go_wp2_with fail
    with_reducible refine (rend_any _ _ _ _ _ _ _).mono ?_
    rintro e w13 ⟨c', q', rfl, hb13, hcq⟩
    clear h8 u0 u1 u2 u3
    rcases HTW.out with ⟨_, hlt, rfl, rfl, rfl, rfl, rfl⟩ | ⟨hno, rfl, rfl, rfl, rfl, rfl⟩
    · have hpj := HPJ.out
      rw [← hpj] at h7 hlt ⊢
      rw [if_pos ⟨by trivial, hlt⟩] at hcq
      obtain ⟨rfl, rfl⟩ := hcq
      clear hpj
      replace h6 := h6.below hb13
      replace h7 := h7.below hb13
      replace h9 := h9.below hb13
      replace hbd := hbd.trans (hb13.mono hbd.size)
      have hbx := below_one w13 (.cells (cvs (.slice a n m) j 9 j) 45)
      have h12 := Blk.new w13 (cvs (.slice a n m) j 9 j) 45
      replace h6 := h6.below hbx
      replace h7 := h7.below hbx
      replace h9 := h9.below hbx
      replace hbd := hbd.trans (hbx.mono hbd.size)
      obtain ⟨x0, x1, x2⟩ := h6.c3
      obtain ⟨y0, y1⟩ := h7.c2
      obtain ⟨z0, z1, z2⟩ := h9.c3
      obtain ⟨u0, u1, u2, u3⟩ := h12.c4
      clear hbx hb13 h6 h7 h9 h12
      go_wp2_with fail
      with_reducible refine (live18_any _).mono ?_
      rintro e w14 ⟨rfl, hb14⟩
      have HB := Lib.hid (hbd.trans (hb14.mono hbd.size))
      clear hbd hb14 x0 x1 x2 y0 y1 z0 z1 z2 u0 u1 u2 u3
      go_wp2
      go_ret
      exact ⟨rfl, HB.out⟩
    · have hpj := HPJ.out
      rw [if_neg (fun h => hno ⟨by trivial, by rw [← hpj]; exact h.2⟩)] at hcq
      obtain ⟨rfl, rfl⟩ := hcq
      clear hpj
      replace h6 := h6.below hb13
      replace h7 := h7.below hb13
      replace h9 := h9.below hb13
      replace hbd := hbd.trans (hb13.mono hbd.size)
      have hbx := below_one w13 (.cells (cvs (.slice a n m) j 0 0) 45)
      have h12 := Blk.new w13 (cvs (.slice a n m) j 0 0) 45
      replace h6 := h6.below hbx
      replace h7 := h7.below hbx
      replace h9 := h9.below hbx
      replace hbd := hbd.trans (hbx.mono hbd.size)
      obtain ⟨x0, x1, x2⟩ := h6.c3
      obtain ⟨y0, y1⟩ := h7.c2
      obtain ⟨z0, z1, z2⟩ := h9.c3
      obtain ⟨u0, u1, u2, u3⟩ := h12.c4
      clear hbx hb13 h6 h7 h9 h12
      go_wp2_with fail
      with_reducible refine (live18_any _).mono ?_
      rintro e w14 ⟨rfl, hb14⟩
      have HB := Lib.hid (hbd.trans (hb14.mono hbd.size))
      clear hbd hb14 x0 x1 x2 y0 y1 z0 z1 z2 u0 u1 u2 u3
      go_wp2
      go_ret
      exact ⟨rfl, HB.out⟩
  · have hcb : (c3 == 0) = false := by simpa using hc
    have hcb2 : (c3 != 0) = true := by simpa using hc
    have hN := HN.out
    rw [if_neg hc] at hN
    subst hN
    go_wp2
    clear x0 x1 x2 y0 y1 z0 z1 z2 u0 u1 u2 u3
    have L2 : ∀ w', S2 b3 (b8 + 1) b8 (.slice a n m) s0 s1 s2 p2 c3 q3 w' → w'.cell? ⟨b8, 2, none⟩ = some (.int .i64 c3) := fun w' h => h.2.2.c4.2.2.1
    have hS : S2 b3 (b8 + 1) b8 (.slice a n m) s0 s1 s2 p2 c3 q3 w11.drew := ⟨h3, h9, h8⟩
    have hdr : ∀ w' : World, Below w'.heap.size w' w'.drew := below_one'
    replace h6 := h6.below (hdr _)
    replace h7 := h7.below (hdr _)
    replace hbd := hbd.trans ((below_one' _).mono hbd.size)
    clear h3 h5 h9 h8 hdr
    refine Seq.wp_region_seq (S2 b3 (b8 + 1) b8 (.slice a n m) s0 s1 s2 p2 c3 q3) (by kernel_rfl) (by kernel_rfl) hS ?_
    repeat (first | (refine Seq.Seq.skip (by rfl) ?_; (try simp only [Act.put, List.setIfInBounds_toArray, List.set_cons_zero, List.set_cons_succ])) | (refine Seq.Seq.det ?_ (by rfl) (fun w hS => ?_) ?_; rotate_left; ((try dsimp only at hS); go_simp; (try rw [if_pos (by omega)]); with_reducible rfl); (try simp only [Act.put, List.setIfInBounds_toArray, List.set_cons_zero, List.set_cons_succ])))
    refine Seq.Seq.nil ?_
    obtain ⟨_, h9, h8⟩ := hS
    obtain ⟨u0, u1, u2, u3⟩ := h8.c4
    clear L2
    go_wp2_with fail
    with_reducible refine (rend_any _ _ _ _ _ _ _).mono ?_
    rintro e w13 ⟨c', q', rfl, hb13, hcq⟩
    clear h8 u0 u1 u2 u3
    rcases HTW.out with ⟨hc0, _⟩ | ⟨hno, rfl, rfl, rfl, rfl, rfl⟩
    · exact absurd hc0 hc
    · rw [if_neg (fun h => hc h.1)] at hcq
      obtain ⟨rfl, rfl⟩ := hcq
      obtain ⟨rfl, rfl, rfl⟩ := HZ0.out hc
      replace h6 := h6.below hb13
      replace h7 := h7.below hb13
      replace h9 := h9.below hb13
      replace hbd := hbd.trans (hb13.mono hbd.size)
      have hbx := below_one w13 (.cells (cvs (.slice a n m) p2 c' q') 45)
      have h12 := Blk.new w13 (cvs (.slice a n m) p2 c' q') 45
      replace h6 := h6.below hbx
      replace h7 := h7.below hbx
      replace h9 := h9.below hbx
      replace hbd := hbd.trans (hbx.mono hbd.size)
      obtain ⟨x0, x1, x2⟩ := h6.c3
      obtain ⟨y0, y1⟩ := h7.c2
      obtain ⟨z0, z1, z2⟩ := h9.c3
      obtain ⟨u0, u1, u2, u3⟩ := h12.c4
      clear hbx hb13 h6 h7 h9 h12
      go_wp2_with fail
      with_reducible refine (live18_any _).mono ?_
      rintro e w14 ⟨rfl, hb14⟩
      have HB := Lib.hid (hbd.trans (hb14.mono hbd.size))
      clear hbd hb14 x0 x1 x2 y0 y1 z0 z1 z2 u0 u1 u2 u3
      go_wp2
      go_ret
      exact ⟨rfl, HB.out⟩

set_option maxRecDepth 100000 in
theorem lifted (os : Os) (started : os.Started) (H : Type) (enc : TypeId × Value → H) :
    ReturnsInHanded {} Try.checked os 4 .any (Rows.sealReadsSpec.pre6 enc Try.prog Try.f4 Rows.sealReadsRow.domain false) (Rows.sealReadsSpec.post enc Try.prog Try.f4 false true false false) := by
  refine returnsInHanded_of_change (C := Try.checked) own started (by kernel_rfl) Try.func4
    (ChangeSpec.witness6 (enc := enc) (C := Try.checked) false ⟨#[], #[.slice none 0 0], []⟩ 8 (by kernel_rfl) (by kernel_rfl) (by kernel_rfl) (by kernel_rfl)) ?_
  intro W base args ds gs before hval0 hW hcnd _
  have hval : ∀ (j : Nat) t v, Try.f4.params[j]? = some t → args[j]? = some v → Value.okWide Try.prog W .any base t v := hval0
  have hW' := hW
  obtain ⟨p, q, hA0, hV, rfl, hfz, hnd⟩ := hW
  have hA : DataW.TrodAll enc Try.prog W 0 (fun _ => true) true Try.f4.params.toList args.toList ds p := hA0
  rw [Try.params4] at hA hval
  obtain ⟨v0, vs0, d0, ds0, p0, q0, hargs, rfl, rfl, h0, r0⟩ := trodAll_cons hA
  obtain ⟨rfl, rfl, rfl⟩ := trodAll_nil r0
  obtain rfl : args = #[v0] := by cases args; simp_all
  obtain ⟨rfl, rfl⟩ := trodVars_none hV
  have lt0 : ∀ x ∈ p0, x.block < W.heap.size := by obtain ⟨m, hm⟩ := h0; exact DataW.trod_lt m _ _ _ hm
  clear hA0 hval0
  refine (walk enc W base v0 d0 p0 (hval 0 25 v0 rfl rfl) h0).mono fun e W' ⟨he, bel⟩ => ?_
  subst he
  exact ⟨_, rfl, _, _, _, [], _, [], hW', trodAll_mk1 (shut_bool Try.underlying4 _), (trodAll_cons_mk (Below.trod laidOut (by kernel_rfl) (of_decide_eq_true (by kernel_rfl)) h0 bel lt0) trodAll_mk0), rfl, bel.frame _, fun h => by cases h⟩

theorem over : Rows.sealReadsRow.holds Try.pinned (OpenSpec.ofChange Rows.sealReadsSpec) :=
  OpenClaim.holds_of_wide 4 Try.f4 rfl rfl rfl rfl rfl rfl rfl ⟨rfl, rfl, rfl, rfl, rfl⟩ rfl rfl rfl rfl rfl (by kernel_rfl) Try.func4 (by kernel_rfl)
    (of_decide_eq_true (by kernel_rfl)) (by unfold Func.isWrapper; first | (rw [if_pos (by decide +kernel)]; kernel_rfl) | (rw [if_neg (by decide +kernel)]; exact ⟨rfl, rfl⟩))
    (fun os started H enc _ => lifted os started H enc)

/-- THE STATEMENT. -/
theorem proved : Rows.SealReadsSaid := over
#print axioms proved
end Go.Proofs.Ytdljkpmjamegjaa.sealReads
