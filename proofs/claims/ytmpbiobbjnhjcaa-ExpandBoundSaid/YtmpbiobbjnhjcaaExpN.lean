/- Written tokens expanded, by the document: head, Bytes. -/
import Derived.Test.YtmpbiobbjnhjcaaExpM
import Derived.Test.YtmpbiobbjnhjcaaTokG
namespace Go.Proofs.Ytmpbiobbjnhjcaa.Cur
open Go.RowKit Mem
set_option linter.unusedVariables false

/-- How many bytes a token makes, by its first number; 0: it is none. -/
def hv (x : Int) : Int := if (hdv x).2 ≤ 1048576 then (hdv x).2 else 0
theorem rhead_any (x : Int) (w : World) (x0 : 0 ≤ x) (x1 : x < 18446744073709551616) : Calls Try.prog 33 #[.int .u64 x] w fun e w' => e = .returned (.int .i64 (hv x)) ∧ w = w' := by
  have hm0 : 0 ≤ x % 2 ∧ x % 2 < 2 := by omega
  by_cases hcp : x % 2 = 1
  · have hce : (x % 2 == 0) = false := by simp; omega
    have hco : (x % 2 == 1) = true := by simpa using hcp
    have HV : hv x = if x / 2 + 4 ≤ 1048576 then x / 2 + 4 else 0 := by unfold hv hdv; rw [if_pos hcp]
    by_cases hb : x / 2 ≤ 1048572
    · rw [if_pos (by omega)] at HV
      have HV' := Lib.hid HV
      have e3 : IntKind.i64.wrap (x / 2) = x / 2 := IntWalk.i64_in _ (by omega)
      have e4 : IntKind.i64.wrap (x / 2 + 4) = x / 2 + 4 := IntWalk.i64_in _ (by omega)
      clear hcp HV hm0
      go_enter Try.func33, Try.ntmps33
      go_wp2
      go_ret
      exact ⟨by rw [HV'.out]; rfl, rfl⟩
    · rw [if_neg (by omega)] at HV
      have HV' := Lib.hid HV
      clear hcp HV hm0
      go_enter Try.func33, Try.ntmps33
      go_wp2
      go_ret
      exact ⟨by rw [HV'.out]; rfl, rfl⟩
  · have hce : (x % 2 == 0) = true := by simp; omega
    have hco : (x % 2 == 1) = false := by simpa using hcp
    have HV : hv x = if x / 2 + 1 ≤ 1048576 then x / 2 + 1 else 0 := by unfold hv hdv; rw [if_neg hcp]
    by_cases hb : x / 2 < 1048576
    · rw [if_pos (by omega)] at HV
      have HV' := Lib.hid HV
      have e3 : IntKind.i64.wrap (x / 2) = x / 2 := IntWalk.i64_in _ (by omega)
      have e4 : IntKind.i64.wrap (x / 2 + 1) = x / 2 + 1 := IntWalk.i64_in _ (by omega)
      clear hcp HV hm0
      go_enter Try.func33, Try.ntmps33
      go_wp2
      go_ret
      exact ⟨by rw [HV'.out]; rfl, rfl⟩
    · rw [if_neg (by omega)] at HV
      have HV' := Lib.hid HV
      clear hcp HV hm0
      go_enter Try.func33, Try.ntmps33
      go_wp2
      go_ret
      exact ⟨by rw [HV'.out]; rfl, rfl⟩

theorem ex_over {z : List Int} {bound : Int} {y : List Int} {p : Int} (h : (hd z p).2.2.1 = 0) (hb : bound < (y.length : Int) + (hd z p).1.2) : ex z bound y p = ([], 0, 11, p) := by
  obtain ⟨v1, v2, e1⟩ := hd_ok' h
  unfold ex
  rw [Rs.bind_of (v := (hd z p).1) (p' := (hd z p).2.1) (by rw [e1]), if_pos hb]
theorem tr_hd {z : List Int} {p : Int} (h : (hd z p).2.2.1 = 0) : tr z p = trb z (hd z p).1 (hd z p).2.1 := by
  obtain ⟨v1, v2, e1⟩ := hd_ok' h
  unfold tr
  rw [Rs.bind_of (v := (hd z p).1) (p' := (hd z p).2.1) (by rw [e1])]
theorem ex_trbad {z : List Int} {bound : Int} {y : List Int} {p : Int} (hn : ¬ ((hd z p).2.2.1 = 0 ∧ bound < (y.length : Int) + (hd z p).1.2)) (h : (tr z p).2.2.1 ≠ 0) :
    (ex z bound y p).2.2.1 = (tr z p).2.2.1 ∧ (ex z bound y p).2.2.2 = (tr z p).2.2.2 := by
  by_cases hh : (hd z p).2.2.1 = 0
  · have hb : ¬ bound < (y.length : Int) + (hd z p).1.2 := fun e => hn ⟨hh, e⟩
    obtain ⟨v1, v2, e1⟩ := hd_ok' hh
    rw [tr_hd hh] at h ⊢
    unfold ex
    rw [Rs.bind_of (v := (hd z p).1) (p' := (hd z p).2.1) (by rw [e1]), if_neg hb, Rs.bind_bad h]
    exact ⟨rfl, rfl⟩
  · unfold ex tr
    rw [Rs.bind_bad hh, Rs.bind_bad hh]
    exact ⟨rfl, rfl⟩
theorem ex_trok {z : List Int} {bound : Int} {y : List Int} {p : Int} (hn : ¬ ((hd z p).2.2.1 = 0 ∧ bound < (y.length : Int) + (hd z p).1.2)) (h : tr z p = ((tr z p).1, (tr z p).2.1, 0, 0)) :
    (vg z p).2.2.1 = 0 ∧ ex z bound y p = if (y.length : Int) < (tr z p).1.2.1 then ([], 0, 10, (vg z p).2.1) else (agn 0 id (y ++ (tr z p).1.1) (tr z p).1.2.1 (tr z p).1.2.2.toNat, (tr z p).2.1, 0, 0) := by
  obtain ⟨hh, _⟩ := Rs.bind_ok (show ((hd z p).bind tk0 (trb z)).2.2.1 = 0 by have : (tr z p).2.2.1 = 0 := by rw [h]
                                                                              exact this)
  have hb : ¬ bound < (y.length : Int) + (hd z p).1.2 := fun e => hn ⟨hh, e⟩
  obtain ⟨v1, v2, e1⟩ := hd_ok' hh
  have h2 := h
  rw [tr_hd hh] at h2
  refine ⟨v1, ?_⟩
  unfold ex
  rw [Rs.bind_of (v := (hd z p).1) (p' := (hd z p).2.1) (by rw [e1]), if_neg hb, Rs.bind_of h2, tr_hd hh, show (hd z p).2.1 = (vg z p).2.1 by rw [e1]]


def LB (n m : Nat) (a : Option Addr) (z : List Int) (bound : Int) (R : Int → List Int → Prop) (w : World) (gk : Nat) (v : Value) (wr : World) : Prop :=
  ∃ (k : Nat) (pk : Int) (y : List Int), Own wr (w.heap.size + 2) v y ∧ Blk wr (w.heap.size + 1) (cvs (.slice a n m) pk 0 0) 60 ∧ Blk wr w.heap.size #[.int .i64 0, .int .i64 0] 28 ∧ Below w.heap.size w wr ∧ 0 ≤ pk ∧ pk ≤ n ∧
    gk = (n - pk).toNat + 1 ∧ Hid (R pk y) ∧ Hid ((n : Int) - pk < k ∧ exg z bound = exs z bound k pk y)

theorem exv_at {z : List Int} {bound : Int} {k : Nat} {p : Int} {y : List Int} (e : exg z bound = exs z bound (k + 1) p y) (h : p < z.length) (hc : (ex z bound y p).2.2.1 ≠ 0) : exv z bound = ([], (ex z bound y p).2.2.1, (ex z bound y p).2.2.2) := by
  refine exv_bad ?_ hc
  rw [e, exs_step h, Rs.bind_bad hc]
  exact ⟨rfl, rfl⟩

theorem hv_bd (x : Int) : hv x ≤ 1048576 := by unfold hv; split <;> omega
theorem hd_hv {z : List Int} {p x p1 : Int} (h : vg z p = (x, p1, 0, 0)) (x0 : 0 ≤ x) : (0 < hv x → hd z p = (hdv x, p1, 0, 0) ∧ (hdv x).2 = hv x) ∧ (¬ 0 < hv x → (hd z p).2.2.1 ≠ 0) := by
  have e : hd z p = if 1048576 < (hdv x).2 then ((false, 0), 0, 2, p) else (hdv x, p1, 0, 0) := by unfold hd; rw [Rs.bind_of h]
  have hp : 0 < (hdv x).2 := by unfold hdv; split <;> (simp only; omega)
  unfold hv
  constructor
  · intro h1
    split at h1
    · rename_i h2; rw [if_pos h2, e, if_neg (by omega)]; exact ⟨rfl, rfl⟩
    · exact absurd h1 (by omega)
  · intro h1
    split at h1
    · exact absurd hp h1
    · rename_i h2; rw [e, if_pos (by omega)]; show ¬ (2 : Int) = 0; decide
theorem St.pl {α : Type} {d : α} {n : Nat} {g : Rs α} {p p' c' q' : Int} {u : α} (h : St d n g p 0 0 u p' c' q') (hc : g.2.2.1 = 0) : p' = g.2.1 := by
  obtain ⟨_, _, ⟨h0, _⟩ | ⟨_, _, _, h1, _⟩ | ⟨_, h1, _⟩⟩ := h
  · exact absurd rfl h0
  · exact h1
  · exact absurd hc h1

set_option maxRecDepth 100000 in
set_option maxHeartbeats 4000000 in
theorem rebytes_any (a : Option Addr) (n m : Nat) (z : List Int) (bound : Int) (R : Int → List Int → Prop) (w : World) (hz : Bs w a n z) (ha : a = none → m = 0) (hm : n ≤ m) (hn : n ≤ 100000) (hby : ∀ x ∈ z, 0 ≤ x ∧ x < 256)
    (hR0 : R 0 []) (hRs : ∀ p y, R p y → 0 ≤ p → p < n → (ex z bound y p).2.2.1 = 0 → R (ex z bound y p).2.1 (ex z bound y p).1) (hRl : ∀ p y, R p y → y.length ≤ 800000) :
    Calls Try.prog 14 #[.slice a n m, .int .i64 bound] w (XpPost (exv z bound) w) := by
  have HBY := Lib.hid hby
  have HA := Lib.hid ha
  have HRS := Lib.hid hRs
  have HRL := Lib.hid hRl
  have HR0 := Lib.hid hR0
  clear hby ha hRs hRl hR0
  have hzl := hz.1
  have hF := (Blk.new w #[.int .i64 0, .int .i64 0] 28).alloc (.cells (cvs (.slice a n m) 0 0 0) 60)
  have hC := Blk.new (w.alloc (.cells #[.int .i64 0, .int .i64 0] 28)) (cvs (.slice a n m) 0 0 0) 60
  rw [show (w.alloc (.cells #[.int .i64 0, .int .i64 0] 28)).heap.size = w.heap.size + 1 by simp] at hC
  have hbd := below_two w (.cells #[.int .i64 0, .int .i64 0] 28) (.cells (cvs (.slice a n m) 0 0 0) 60)
  go_enter Try.func14, Try.ntmps14
  go_wp2
  go_loopg [7] ((n : Nat) + 1) (fun gk v wr => LB n m a z bound R w gk v wr)
  case atStart => exact ⟨z.length + 1, 0, [], Own.nil _ _, hC, hF, hbd, by omega, by omega, by simp, HR0, Lib.hid ⟨by omega, rfl⟩⟩
  case round =>
    clear hC hF hbd HR0
    obtain ⟨k, pk, y, ho, hC, hF, hbd, k0, k1, hg, HR, H⟩ := hrel
    obtain ⟨Aw, cw, rfl, _, hnilw, _⟩ := ho.parts
    obtain ⟨c0, c1, c2, c3⟩ := hC.c4
    by_cases hkn : pk = n
    · have hng : ¬ pk < (n : Int) := by omega
      have HE := Lib.hid (exv_good H.out.2 (by omega))
      obtain ⟨f0, f1⟩ := hF.c2
      obtain ⟨g0, g1⟩ := hF.f2
      clear hkn
      go_wp2
      refine bodyPost_ret (v := .tuple #[.slice Aw y.length cw, .agg #[.int .i64 0, .int .i64 0]]) (by simp [results, Try.results14, go_sem, f0, f1]) rfl ⟨_, by rw [HE.out], ?_, ?_⟩
      · rw [HE.out]
        exact (Own.far (p := ⟨w.heap.size, 1, none⟩) (Own.far (p := ⟨w.heap.size, 0, none⟩) ho (by show w.heap.size < w.heap.size + 2; omega) _) (by show w.heap.size < w.heap.size + 2; omega) _).base (fun g hg => by have := Own.ge ho g hg; omega)
      · exact (hbd.setCell (Nat.le_refl _) _).setCell (Nat.le_refl _) _
    · have hgt : pk < (n : Int) := by omega
      have hlt : pk < z.length := by omega
      have HLT := Lib.hid hlt
      obtain ⟨k, rfl⟩ : ∃ k', k = k' + 1 := ⟨k - 1, by have := H.out.1; omega⟩
      have hyl := HRL.out _ _ HR.out
      clear hkn hlt
      go_wp2_with fail
      refine (rread_any _ _ _ _ _ _ _ _ (hz.below hbd) k0 k1 hm (by omega) HBY.out).mono ?_
      rintro e w1 ⟨x, p1, c1', q1, rfl, hb1, hs1⟩
      have hst := hs1.st hz.1 k0 k1 HBY.out
      obtain ⟨x0, x1⟩ := rd_lt hs1 hz.1 k0 k1 HBY.out
      obtain ⟨p10, p11⟩ := hst.place
      have HS := Lib.hid hst
      replace ho := ho.below hb1
      replace hF := hF.below hb1
      replace hC := hC.below hb1
      replace hbd := hbd.trans (hb1.mono hbd.size)
      clear hs1 hst hb1 c0 c1 c2 c3
      have hbD := below_one w1 (.cells (cvs (.slice a n m) p1 c1' q1) 60)
      have hD := Blk.new w1 (cvs (.slice a n m) p1 c1' q1) 60
      replace ho := ho.below hbD
      replace hF := hF.below hbD
      replace hC := hC.below hbD
      replace hbd := hbd.trans (hbD.mono hbd.size)
      obtain ⟨d0, d1, d2, d3⟩ := hD.c4
      obtain ⟨c0, c1, c2, c3⟩ := hC.c4
      clear hbD
      have hvb := hv_bd x
      obtain ⟨hh, hhx⟩ : ∃ hh, hh = hv x := ⟨_, rfl⟩
      rw [← hhx] at hvb
      have HHX := Lib.hid hhx
      clear hhx
      by_cases hc1 : c1' = 0
      · have hcb : (c1' == 0) = true := by simpa using hc1
        subst hc1
        obtain ⟨_, g0, gv, gp, gq⟩ := HS.out.good
        have hvg : vg z pk = (x, p1, 0, 0) := by rw [vg_shape g0, gv, gp]
        obtain ⟨q1', q2'⟩ := hd_hv hvg x0
        rw [← HHX.out] at q1' q2'
        clear g0 gv gp
        by_cases hpos : 0 < hh
        · obtain ⟨r1, r2⟩ := q1' hpos
          have e1 : IntKind.i64.wrap ((y.length : Int) + hh) = y.length + hh := IntWalk.i64_in _ (by omega)
          by_cases hov : bound < (y.length : Int) + hh
          · have HX : Hid (exv z bound = ([], 11, pk)) := Lib.hid (by
              have e := ex_over (z := z) (bound := bound) (y := y) (p := pk) (by rw [r1]) (by rw [r1, r2]; exact hov)
              have := exv_at H.out.2 HLT.out (by rw [e]; show ¬ (11 : Int) = 0; decide)
              rw [this, e])
            have hfq : fq 11 pk = pk := rfl
            clear r1 r2 q1' q2' hvg gq H HS
            go_wp2_with fail
            refine (rhead_any _ _ x0 x1).mono ?_
            rintro e w2 ⟨rfl, rfl⟩
            rw [← HHX.out]
            go_wp2_with fail
            refine (rhead_any _ _ x0 x1).mono ?_
            rintro e w2 ⟨rfl, rfl⟩
            rw [← HHX.out]
            go_wp2_with fail
            refine (rat_any _ _ _).mono ?_
            rintro e w9 ⟨rfl, hb9⟩
            rw [hfq]
            replace hF := hF.below hb9
            replace hbd := hbd.trans (hb9.mono hbd.size)
            clear hb9
            obtain ⟨f0, f1⟩ := hF.c2
            obtain ⟨g0, g1⟩ := hF.f2
            go_wp2
            refine bodyPost_ret (v := .tuple #[.slice none 0 0, .agg #[.int .i64 (11), .int .i64 (pk)]]) (by simp [results, Try.results14, go_sem, f0, f1]) rfl ⟨_, by rw [HX.out], by rw [HX.out]; exact Own.nil _ _, ?_⟩
            exact (hbd.setCell (Nat.le_refl _) _).setCell (Nat.le_refl _) _
          · have HN : Hid (¬ ((hd z pk).2.2.1 = 0 ∧ bound < (y.length : Int) + (hd z pk).1.2)) := Lib.hid (fun ⟨_, h⟩ => hov (by rw [r1, r2] at h; exact h))
            clear r1 r2 q1' q2' hvg gq
            go_wp2_with fail
            refine (rhead_any _ _ x0 x1).mono ?_
            rintro e w2 ⟨rfl, rfl⟩
            rw [← HHX.out]
            go_wp2_with fail
            refine (rhead_any _ _ x0 x1).mono ?_
            rintro e w2 ⟨rfl, rfl⟩
            rw [← HHX.out]
            go_wp2_with fail
            clear e1 hov hpos hcb
            refine (rtread_any _ _ _ _ _ _ _ _ (hz.below hbd) HA.out k0 k1 hm (by omega) HBY.out).mono ?_
            rintro e w3 ⟨v, t, p2, c2', q2, rfl, ho3, hb3, hs3⟩
            obtain ⟨p20, p21⟩ := hs3.place
            have HS3 := Lib.hid hs3
            obtain ⟨Au, mu, rfl, _, hnilu, _⟩ := ho3.parts
            replace ho := ho.below hb3
            replace hF := hF.below hb3
            replace hC := hC.below hb3
            replace hD := hD.below hb3
            replace hbd := hbd.trans (hb3.mono hbd.size)
            clear hs3 hb3 c0 c1 c2 c3 d0 d1 d2 d3
            have hDl := hD.lt
            go_upto_region 8 with (fail)
            have hb4 := below_two w3 (.cells (cvs (.slice a n m) p2 c2' q2) 60) (.cells #[.slice Au t.1.length mu, .int .i64 t.2.1, .int .i64 t.2.2] 34)
            have hE := (Blk.new w3 (cvs (.slice a n m) p2 c2' q2) 60).alloc (.cells #[.slice Au t.1.length mu, .int .i64 t.2.1, .int .i64 t.2.2] 34)
            have hX := Blk.new (w3.alloc (.cells (cvs (.slice a n m) p2 c2' q2) 60)) #[.slice Au t.1.length mu, .int .i64 t.2.1, .int .i64 t.2.2] 34
            rw [show (w3.alloc (.cells (cvs (.slice a n m) p2 c2' q2) 60)).heap.size = w3.heap.size + 1 by simp] at hX
            have hC3l := hC.lt
            replace ho := ho.below hb4
            replace ho3 := ho3.below hb4
            replace hF := hF.below hb4
            replace hC := hC.below hb4
            replace hD := hD.below hb4
            replace hbd := hbd.trans (hb4.mono hbd.size)
            generalize (w3.alloc (.cells (cvs (.slice a n m) p2 c2' q2) 60)).alloc (.cells #[.slice Au t.1.length mu, .int .i64 t.2.1, .int .i64 t.2.2] 34) = w4 at *
            clear hb4
            generalize w3.heap.size = X at *
            obtain ⟨e0', e1', e2', e3'⟩ := hE.c4
            by_cases hc2 : c2' = 0
            · have hcb2 : (c2' != 0) = false := by simpa using hc2
              subst hc2
              obtain ⟨_, g0, gv, gp, gq⟩ := HS3.out.good
              obtain ⟨t1, t2, t3, t4, t5, _⟩ := tr_once HBY.out k0 (by omega) g0
              obtain ⟨v1, hex⟩ := ex_trok HN.out t3
              have hp1 := St.pl HS.out v1
              rw [← gv, ← hp1, ← gp] at hex
              rw [← gv] at t4 t5
              rw [← gp] at t1
              subst gq
              have HEX := Lib.hid hex
              have HT4 := Lib.hid t4
              have HT1 := Lib.hid t1
              have hto := t5.2
              clear g0 gv gp t1 t2 t3 t4 t5 v1 hp1 hex HS3 HS
              obtain ⟨x0', x1', x2'⟩ := hX.c3
              obtain ⟨d0, d1, d2, d3⟩ := hD.c4
              by_cases hof : (y.length : Int) < t.2.1
              · have HX : Hid (exv z bound = ([], 10, p1)) := Lib.hid (by
                  have e := HEX.out
                  rw [if_pos hof] at e
                  have := exv_at H.out.2 HLT.out (by rw [e]; show ¬ (10 : Int) = 0; decide)
                  rw [this, e])
                have hfq : fq 10 p1 = p1 := rfl
                clear HEX HT4 H
                go_wp2_with fail
                refine (rat_any _ _ _).mono ?_
                rintro e w9 ⟨rfl, hb9⟩
                rw [hfq]
                replace hF := hF.below hb9
                replace hbd := hbd.trans (hb9.mono hbd.size)
                clear hb9
                obtain ⟨f0, f1⟩ := hF.c2
                obtain ⟨g0, g1⟩ := hF.f2
                go_wp2
                refine bodyPost_ret (v := .tuple #[.slice none 0 0, .agg #[.int .i64 (10), .int .i64 (p1)]]) (by simp [results, Try.results14, go_sem, f0, f1]) rfl ⟨_, by rw [HX.out], by rw [HX.out]; exact Own.nil _ _, ?_⟩
                exact (hbd.setCell (Nat.le_refl _) _).setCell (Nat.le_refl _) _
              · have hex := HEX.out
                rw [if_neg hof] at hex
                have hR2 := HRS.out _ _ HR.out k0 hgt (by rw [hex])
                rw [hex] at hR2
                have hyl2 := HRL.out _ _ hR2
                rw [agn_length, List.length_append] at hyl2
                obtain ⟨l0, l4⟩ : 0 ≤ t.2.2 ∧ (0 < t.2.2 → 1 ≤ t.2.1 ∧ t.1.length = 0) := by
                  have h4 := HT4.out
                  unfold tright trun tcpy at h4
                  rw [Bool.or_eq_true, decide_eq_true_eq, decide_eq_true_eq] at h4
                  rcases h4 with h4 | h4
                  · exact ⟨by omega, fun h => by omega⟩
                  · exact ⟨by omega, fun _ => ⟨by omega, by omega⟩⟩
                obtain ⟨ln, hln⟩ := Int.eq_ofNat_of_zero_le l0
                have hln2 : t.2.2.toNat = ln := by rw [hln]; rfl
                rw [hln2] at hR2 hyl2 hex
                have HR2 := Lib.hid hR2
                have HEX2 : Hid (exg z bound = exs z bound k p2 (agn 0 id (y ++ t.1) t.2.1 ln)) := Lib.hid (by rw [H.out.2, exs_step HLT.out, Rs.bind_of hex])
                have hw := rwith_any Aw y.length cw y Au t.1.length mu t.1 t.2.1 ln w4 ho.bs.2 hnilw ho3.bs.2 hnilu (by omega) (fun h => by rw [hln] at l4; have := l4 (by omega); omega)
                rw [← hln] at hw
                have HLN := Lib.hid hln
                have hCl := hC.lt
                clear HEX hex hR2 hln hln2 l0 l4 hyl2 HT4 d0 d1 d2 d3 hyl
                go_wp2_with fail
                refine hw.mono ?_
                rintro e w5 ⟨v2, rfl, ho5, hb5⟩
                replace ho5 := ho5.base (B' := w.heap.size + 2) (fun g hg => by have := Own.ge ho5 g hg; omega)
                replace hF := hF.below hb5
                replace hC := hC.below hb5
                replace hE := hE.below hb5
                replace hbd := hbd.trans (hb5.mono hbd.size)
                clear e0' e1' e2' e3'
                obtain ⟨c0, c1, c2, c3⟩ := hC.c4
                obtain ⟨f0, f1, f2, f3⟩ := hC.f4
                obtain ⟨e0', e1', e2', e3'⟩ := hE.c4
                obtain ⟨hC5, hk5⟩ := set4 hC (.slice a n m) (.int .i64 p2) (.int .i64 0) (.int .i64 0)
                have hF5 := blk_kp hF hk5 (by omega)
                have ho6 : Own _ _ _ (agn 0 id (y ++ t.1) t.2.1 ln) := own_kp ho5 hk5 (ho5.ne_blk hC (by decide))
                have hbd5 := Kp.below hbd (Nat.le_refl _) hk5 (by omega)
                clear hw hb5 ho ho3 hX hD ho5 x0' x1' x2' hF hbd hk5
                go_wp2
                go_roundg ((n - p2).toNat + 1)
                case measure => have := HT1.out; omega
                case rel => exact ⟨k, p2, _, ho6, hC5, hF5, hbd5, p20, p21, rfl, HR2.out, Lib.hid ⟨by have := H.out.1; have := HT1.out; omega, HEX2.out⟩⟩
            · have hcb2 : (c2' != 0) = true := by simpa using hc2
              obtain ⟨g1, g2, g3⟩ := HS3.out.flt hc2
              have HX : Hid (exv z bound = ([], c2', q2)) := Lib.hid (by
                obtain ⟨h1, h2⟩ := ex_trbad HN.out g1
                have := exv_at H.out.2 HLT.out (by rw [h1]; exact g1)
                rw [this, h1, h2, g2, g3])
              clear g1 g2 g3 HS3 HS hc2 H
              obtain ⟨f0, f1⟩ := hF.c2
              obtain ⟨g0, g1⟩ := hF.f2
              go_wp2
              go_region
              go_wp2
              refine bodyPost_ret (v := .tuple #[.slice none 0 0, .agg #[.int .i64 c2', .int .i64 q2]]) (by simp [results, Try.results14, go_sem, f0, f1]) rfl ⟨_, by rw [HX.out], by rw [HX.out]; exact Own.nil _ _, ?_⟩
              exact (hbd.drew.setCell (Nat.le_refl _) _).setCell (Nat.le_refl _) _
        · have HN : Hid (¬ ((hd z pk).2.2.1 = 0 ∧ bound < (y.length : Int) + (hd z pk).1.2)) := Lib.hid (fun ⟨h, _⟩ => q2' hpos h)
          clear q1' q2' hvg gq
          go_wp2_with fail
          refine (rhead_any _ _ x0 x1).mono ?_
          rintro e w2 ⟨rfl, rfl⟩
          rw [← HHX.out]
          go_wp2_with fail
          clear hpos hcb
          refine (rtread_any _ _ _ _ _ _ _ _ (hz.below hbd) HA.out k0 k1 hm (by omega) HBY.out).mono ?_
          rintro e w3 ⟨v, t, p2, c2', q2, rfl, ho3, hb3, hs3⟩
          obtain ⟨p20, p21⟩ := hs3.place
          have HS3 := Lib.hid hs3
          obtain ⟨Au, mu, rfl, _, hnilu, _⟩ := ho3.parts
          replace ho := ho.below hb3
          replace hF := hF.below hb3
          replace hC := hC.below hb3
          replace hD := hD.below hb3
          replace hbd := hbd.trans (hb3.mono hbd.size)
          clear hs3 hb3 c0 c1 c2 c3 d0 d1 d2 d3
          have hDl := hD.lt
          go_upto_region 8 with (fail)
          have hb4 := below_two w3 (.cells (cvs (.slice a n m) p2 c2' q2) 60) (.cells #[.slice Au t.1.length mu, .int .i64 t.2.1, .int .i64 t.2.2] 34)
          have hE := (Blk.new w3 (cvs (.slice a n m) p2 c2' q2) 60).alloc (.cells #[.slice Au t.1.length mu, .int .i64 t.2.1, .int .i64 t.2.2] 34)
          have hX := Blk.new (w3.alloc (.cells (cvs (.slice a n m) p2 c2' q2) 60)) #[.slice Au t.1.length mu, .int .i64 t.2.1, .int .i64 t.2.2] 34
          rw [show (w3.alloc (.cells (cvs (.slice a n m) p2 c2' q2) 60)).heap.size = w3.heap.size + 1 by simp] at hX
          have hC3l := hC.lt
          replace ho := ho.below hb4
          replace ho3 := ho3.below hb4
          replace hF := hF.below hb4
          replace hC := hC.below hb4
          replace hD := hD.below hb4
          replace hbd := hbd.trans (hb4.mono hbd.size)
          generalize (w3.alloc (.cells (cvs (.slice a n m) p2 c2' q2) 60)).alloc (.cells #[.slice Au t.1.length mu, .int .i64 t.2.1, .int .i64 t.2.2] 34) = w4 at *
          clear hb4
          generalize w3.heap.size = X at *
          obtain ⟨e0', e1', e2', e3'⟩ := hE.c4
          by_cases hc2 : c2' = 0
          · have hcb2 : (c2' != 0) = false := by simpa using hc2
            subst hc2
            obtain ⟨_, g0, gv, gp, gq⟩ := HS3.out.good
            obtain ⟨t1, t2, t3, t4, t5, _⟩ := tr_once HBY.out k0 (by omega) g0
            obtain ⟨v1, hex⟩ := ex_trok HN.out t3
            have hp1 := St.pl HS.out v1
            rw [← gv, ← hp1, ← gp] at hex
            rw [← gv] at t4 t5
            rw [← gp] at t1
            subst gq
            have HEX := Lib.hid hex
            have HT4 := Lib.hid t4
            have HT1 := Lib.hid t1
            have hto := t5.2
            clear g0 gv gp t1 t2 t3 t4 t5 v1 hp1 hex HS3 HS
            obtain ⟨x0', x1', x2'⟩ := hX.c3
            obtain ⟨d0, d1, d2, d3⟩ := hD.c4
            by_cases hof : (y.length : Int) < t.2.1
            · have HX : Hid (exv z bound = ([], 10, p1)) := Lib.hid (by
                have e := HEX.out
                rw [if_pos hof] at e
                have := exv_at H.out.2 HLT.out (by rw [e]; show ¬ (10 : Int) = 0; decide)
                rw [this, e])
              have hfq : fq 10 p1 = p1 := rfl
              clear HEX HT4 H
              go_wp2_with fail
              refine (rat_any _ _ _).mono ?_
              rintro e w9 ⟨rfl, hb9⟩
              rw [hfq]
              replace hF := hF.below hb9
              replace hbd := hbd.trans (hb9.mono hbd.size)
              clear hb9
              obtain ⟨f0, f1⟩ := hF.c2
              obtain ⟨g0, g1⟩ := hF.f2
              go_wp2
              refine bodyPost_ret (v := .tuple #[.slice none 0 0, .agg #[.int .i64 (10), .int .i64 (p1)]]) (by simp [results, Try.results14, go_sem, f0, f1]) rfl ⟨_, by rw [HX.out], by rw [HX.out]; exact Own.nil _ _, ?_⟩
              exact (hbd.setCell (Nat.le_refl _) _).setCell (Nat.le_refl _) _
            · have hex := HEX.out
              rw [if_neg hof] at hex
              have hR2 := HRS.out _ _ HR.out k0 hgt (by rw [hex])
              rw [hex] at hR2
              have hyl2 := HRL.out _ _ hR2
              rw [agn_length, List.length_append] at hyl2
              obtain ⟨l0, l4⟩ : 0 ≤ t.2.2 ∧ (0 < t.2.2 → 1 ≤ t.2.1 ∧ t.1.length = 0) := by
                have h4 := HT4.out
                unfold tright trun tcpy at h4
                rw [Bool.or_eq_true, decide_eq_true_eq, decide_eq_true_eq] at h4
                rcases h4 with h4 | h4
                · exact ⟨by omega, fun h => by omega⟩
                · exact ⟨by omega, fun _ => ⟨by omega, by omega⟩⟩
              obtain ⟨ln, hln⟩ := Int.eq_ofNat_of_zero_le l0
              have hln2 : t.2.2.toNat = ln := by rw [hln]; rfl
              rw [hln2] at hR2 hyl2 hex
              have HR2 := Lib.hid hR2
              have HEX2 : Hid (exg z bound = exs z bound k p2 (agn 0 id (y ++ t.1) t.2.1 ln)) := Lib.hid (by rw [H.out.2, exs_step HLT.out, Rs.bind_of hex])
              have hw := rwith_any Aw y.length cw y Au t.1.length mu t.1 t.2.1 ln w4 ho.bs.2 hnilw ho3.bs.2 hnilu (by omega) (fun h => by rw [hln] at l4; have := l4 (by omega); omega)
              rw [← hln] at hw
              have HLN := Lib.hid hln
              have hCl := hC.lt
              clear HEX hex hR2 hln hln2 l0 l4 hyl2 HT4 d0 d1 d2 d3 hyl
              go_wp2_with fail
              refine hw.mono ?_
              rintro e w5 ⟨v2, rfl, ho5, hb5⟩
              replace ho5 := ho5.base (B' := w.heap.size + 2) (fun g hg => by have := Own.ge ho5 g hg; omega)
              replace hF := hF.below hb5
              replace hC := hC.below hb5
              replace hE := hE.below hb5
              replace hbd := hbd.trans (hb5.mono hbd.size)
              clear e0' e1' e2' e3'
              obtain ⟨c0, c1, c2, c3⟩ := hC.c4
              obtain ⟨f0, f1, f2, f3⟩ := hC.f4
              obtain ⟨e0', e1', e2', e3'⟩ := hE.c4
              obtain ⟨hC5, hk5⟩ := set4 hC (.slice a n m) (.int .i64 p2) (.int .i64 0) (.int .i64 0)
              have hF5 := blk_kp hF hk5 (by omega)
              have ho6 : Own _ _ _ (agn 0 id (y ++ t.1) t.2.1 ln) := own_kp ho5 hk5 (ho5.ne_blk hC (by decide))
              have hbd5 := Kp.below hbd (Nat.le_refl _) hk5 (by omega)
              clear hw hb5 ho ho3 hX hD ho5 x0' x1' x2' hF hbd hk5
              go_wp2
              go_roundg ((n - p2).toNat + 1)
              case measure => have := HT1.out; omega
              case rel => exact ⟨k, p2, _, ho6, hC5, hF5, hbd5, p20, p21, rfl, HR2.out, Lib.hid ⟨by have := H.out.1; have := HT1.out; omega, HEX2.out⟩⟩
          · have hcb2 : (c2' != 0) = true := by simpa using hc2
            obtain ⟨g1, g2, g3⟩ := HS3.out.flt hc2
            have HX : Hid (exv z bound = ([], c2', q2)) := Lib.hid (by
              obtain ⟨h1, h2⟩ := ex_trbad HN.out g1
              have := exv_at H.out.2 HLT.out (by rw [h1]; exact g1)
              rw [this, h1, h2, g2, g3])
            clear g1 g2 g3 HS3 HS hc2 H
            obtain ⟨f0, f1⟩ := hF.c2
            obtain ⟨g0, g1⟩ := hF.f2
            go_wp2
            go_region
            go_wp2
            refine bodyPost_ret (v := .tuple #[.slice none 0 0, .agg #[.int .i64 c2', .int .i64 q2]]) (by simp [results, Try.results14, go_sem, f0, f1]) rfl ⟨_, by rw [HX.out], by rw [HX.out]; exact Own.nil _ _, ?_⟩
            exact (hbd.drew.setCell (Nat.le_refl _) _).setCell (Nat.le_refl _) _
      · have hcb : (c1' == 0) = false := by simpa using hc1
        have HN : Hid (¬ ((hd z pk).2.2.1 = 0 ∧ bound < (y.length : Int) + (hd z pk).1.2)) := Lib.hid (fun ⟨h, _⟩ => (HS.out.flt hc1).1 (hd_ok' h).1)
        clear hc1
        go_wp2_with fail
        clear hcb
        refine (rtread_any _ _ _ _ _ _ _ _ (hz.below hbd) HA.out k0 k1 hm (by omega) HBY.out).mono ?_
        rintro e w3 ⟨v, t, p2, c2', q2, rfl, ho3, hb3, hs3⟩
        obtain ⟨p20, p21⟩ := hs3.place
        have HS3 := Lib.hid hs3
        obtain ⟨Au, mu, rfl, _, hnilu, _⟩ := ho3.parts
        replace ho := ho.below hb3
        replace hF := hF.below hb3
        replace hC := hC.below hb3
        replace hD := hD.below hb3
        replace hbd := hbd.trans (hb3.mono hbd.size)
        clear hs3 hb3 c0 c1 c2 c3 d0 d1 d2 d3
        have hDl := hD.lt
        go_upto_region 8 with (fail)
        have hb4 := below_two w3 (.cells (cvs (.slice a n m) p2 c2' q2) 60) (.cells #[.slice Au t.1.length mu, .int .i64 t.2.1, .int .i64 t.2.2] 34)
        have hE := (Blk.new w3 (cvs (.slice a n m) p2 c2' q2) 60).alloc (.cells #[.slice Au t.1.length mu, .int .i64 t.2.1, .int .i64 t.2.2] 34)
        have hX := Blk.new (w3.alloc (.cells (cvs (.slice a n m) p2 c2' q2) 60)) #[.slice Au t.1.length mu, .int .i64 t.2.1, .int .i64 t.2.2] 34
        rw [show (w3.alloc (.cells (cvs (.slice a n m) p2 c2' q2) 60)).heap.size = w3.heap.size + 1 by simp] at hX
        have hC3l := hC.lt
        replace ho := ho.below hb4
        replace ho3 := ho3.below hb4
        replace hF := hF.below hb4
        replace hC := hC.below hb4
        replace hD := hD.below hb4
        replace hbd := hbd.trans (hb4.mono hbd.size)
        generalize (w3.alloc (.cells (cvs (.slice a n m) p2 c2' q2) 60)).alloc (.cells #[.slice Au t.1.length mu, .int .i64 t.2.1, .int .i64 t.2.2] 34) = w4 at *
        clear hb4
        generalize w3.heap.size = X at *
        obtain ⟨e0', e1', e2', e3'⟩ := hE.c4
        by_cases hc2 : c2' = 0
        · have hcb2 : (c2' != 0) = false := by simpa using hc2
          subst hc2
          obtain ⟨_, g0, gv, gp, gq⟩ := HS3.out.good
          obtain ⟨t1, t2, t3, t4, t5, _⟩ := tr_once HBY.out k0 (by omega) g0
          obtain ⟨v1, hex⟩ := ex_trok HN.out t3
          have hp1 := St.pl HS.out v1
          rw [← gv, ← hp1, ← gp] at hex
          rw [← gv] at t4 t5
          rw [← gp] at t1
          subst gq
          have HEX := Lib.hid hex
          have HT4 := Lib.hid t4
          have HT1 := Lib.hid t1
          have hto := t5.2
          clear g0 gv gp t1 t2 t3 t4 t5 v1 hp1 hex HS3 HS
          obtain ⟨x0', x1', x2'⟩ := hX.c3
          obtain ⟨d0, d1, d2, d3⟩ := hD.c4
          by_cases hof : (y.length : Int) < t.2.1
          · have HX : Hid (exv z bound = ([], 10, p1)) := Lib.hid (by
              have e := HEX.out
              rw [if_pos hof] at e
              have := exv_at H.out.2 HLT.out (by rw [e]; show ¬ (10 : Int) = 0; decide)
              rw [this, e])
            have hfq : fq 10 p1 = p1 := rfl
            clear HEX HT4 H
            go_wp2_with fail
            refine (rat_any _ _ _).mono ?_
            rintro e w9 ⟨rfl, hb9⟩
            rw [hfq]
            replace hF := hF.below hb9
            replace hbd := hbd.trans (hb9.mono hbd.size)
            clear hb9
            obtain ⟨f0, f1⟩ := hF.c2
            obtain ⟨g0, g1⟩ := hF.f2
            go_wp2
            refine bodyPost_ret (v := .tuple #[.slice none 0 0, .agg #[.int .i64 (10), .int .i64 (p1)]]) (by simp [results, Try.results14, go_sem, f0, f1]) rfl ⟨_, by rw [HX.out], by rw [HX.out]; exact Own.nil _ _, ?_⟩
            exact (hbd.setCell (Nat.le_refl _) _).setCell (Nat.le_refl _) _
          · have hex := HEX.out
            rw [if_neg hof] at hex
            have hR2 := HRS.out _ _ HR.out k0 hgt (by rw [hex])
            rw [hex] at hR2
            have hyl2 := HRL.out _ _ hR2
            rw [agn_length, List.length_append] at hyl2
            obtain ⟨l0, l4⟩ : 0 ≤ t.2.2 ∧ (0 < t.2.2 → 1 ≤ t.2.1 ∧ t.1.length = 0) := by
              have h4 := HT4.out
              unfold tright trun tcpy at h4
              rw [Bool.or_eq_true, decide_eq_true_eq, decide_eq_true_eq] at h4
              rcases h4 with h4 | h4
              · exact ⟨by omega, fun h => by omega⟩
              · exact ⟨by omega, fun _ => ⟨by omega, by omega⟩⟩
            obtain ⟨ln, hln⟩ := Int.eq_ofNat_of_zero_le l0
            have hln2 : t.2.2.toNat = ln := by rw [hln]; rfl
            rw [hln2] at hR2 hyl2 hex
            have HR2 := Lib.hid hR2
            have HEX2 : Hid (exg z bound = exs z bound k p2 (agn 0 id (y ++ t.1) t.2.1 ln)) := Lib.hid (by rw [H.out.2, exs_step HLT.out, Rs.bind_of hex])
            have hw := rwith_any Aw y.length cw y Au t.1.length mu t.1 t.2.1 ln w4 ho.bs.2 hnilw ho3.bs.2 hnilu (by omega) (fun h => by rw [hln] at l4; have := l4 (by omega); omega)
            rw [← hln] at hw
            have HLN := Lib.hid hln
            have hCl := hC.lt
            clear HEX hex hR2 hln hln2 l0 l4 hyl2 HT4 d0 d1 d2 d3 hyl
            go_wp2_with fail
            refine hw.mono ?_
            rintro e w5 ⟨v2, rfl, ho5, hb5⟩
            replace ho5 := ho5.base (B' := w.heap.size + 2) (fun g hg => by have := Own.ge ho5 g hg; omega)
            replace hF := hF.below hb5
            replace hC := hC.below hb5
            replace hE := hE.below hb5
            replace hbd := hbd.trans (hb5.mono hbd.size)
            clear e0' e1' e2' e3'
            obtain ⟨c0, c1, c2, c3⟩ := hC.c4
            obtain ⟨f0, f1, f2, f3⟩ := hC.f4
            obtain ⟨e0', e1', e2', e3'⟩ := hE.c4
            obtain ⟨hC5, hk5⟩ := set4 hC (.slice a n m) (.int .i64 p2) (.int .i64 0) (.int .i64 0)
            have hF5 := blk_kp hF hk5 (by omega)
            have ho6 : Own _ _ _ (agn 0 id (y ++ t.1) t.2.1 ln) := own_kp ho5 hk5 (ho5.ne_blk hC (by decide))
            have hbd5 := Kp.below hbd (Nat.le_refl _) hk5 (by omega)
            clear hw hb5 ho ho3 hX hD ho5 x0' x1' x2' hF hbd hk5
            go_wp2
            go_roundg ((n - p2).toNat + 1)
            case measure => have := HT1.out; omega
            case rel => exact ⟨k, p2, _, ho6, hC5, hF5, hbd5, p20, p21, rfl, HR2.out, Lib.hid ⟨by have := H.out.1; have := HT1.out; omega, HEX2.out⟩⟩
        · have hcb2 : (c2' != 0) = true := by simpa using hc2
          obtain ⟨g1, g2, g3⟩ := HS3.out.flt hc2
          have HX : Hid (exv z bound = ([], c2', q2)) := Lib.hid (by
            obtain ⟨h1, h2⟩ := ex_trbad HN.out g1
            have := exv_at H.out.2 HLT.out (by rw [h1]; exact g1)
            rw [this, h1, h2, g2, g3])
          clear g1 g2 g3 HS3 HS hc2 H
          obtain ⟨f0, f1⟩ := hF.c2
          obtain ⟨g0, g1⟩ := hF.f2
          go_wp2
          go_region
          go_wp2
          refine bodyPost_ret (v := .tuple #[.slice none 0 0, .agg #[.int .i64 c2', .int .i64 q2]]) (by simp [results, Try.results14, go_sem, f0, f1]) rfl ⟨_, by rw [HX.out], by rw [HX.out]; exact Own.nil _ _, ?_⟩
          exact (hbd.drew.setCell (Nat.le_refl _) _).setCell (Nat.le_refl _) _
end Go.Proofs.Ytmpbiobbjnhjcaa.Cur
