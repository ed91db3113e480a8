/- One written token expanded, by the program (extend). -/
import Derived.Test.YtmpbiobbjnhjcaaExpG
namespace Go.Proofs.Ytmpbiobbjnhjcaa.Cur
open Go.RowKit Mem
set_option linter.unusedVariables false

theorem Ks.of_belowB {S : Nat → Prop} {B : Nat} {w w' : World} (h : Below B w w') (hS : ∀ k, ¬ S k → k < B) : Ks S w w' := ⟨h.os, h.tape, h.output, h.size, fun k _ hb => h.block k (hS k hb)⟩
theorem IsRd.ks' {S : Nat → Prop} {w w' : World} {b : Nat} {s : Value} {p c q : Int} (h : IsRd w b s p c q) (k : Ks S w w') (hb : ¬ S b) : IsRd w' b s p c q := Blk.ks (cs := #[s, .int .i64 p, .int .i64 c, .int .i64 q]) h k hb



set_option maxRecDepth 100000 in
set_option maxHeartbeats 4000000 in
theorem extend_any (b B : Nat) (a : Option Addr) (n m : Nat) (z y : List Int) (p bound : Int) (v : Value) (w : World) (hr : IsRd w b (.slice a n m) p 0 0) (hz : Bs w a n z) (h0 : 0 ≤ p) (h1 : p ≤ n) (hm : n ≤ m) (hn : n ≤ 100000) (hby : ∀ x ∈ z, 0 ≤ x ∧ x < 256)
    (ho : Own w B v y) (hB : B ≤ w.heap.size) (hbB : b < B) (hy : y.length ≤ 800000) (hg : (ex z bound y p).2.2.1 = 0 → (ex z bound y p).1.length ≤ 800000) :
    Calls Try.prog 30 #[.pointer (some ⟨b, 0, none⟩), v, .int .i64 bound] w (XdPost b B (.slice a n m) n (ex z bound y p) w) := by
  have HBY := Lib.hid hby
  have HG := Lib.hid hg
  have HZL := Lib.hid hz.1
  have hks := Ks.refl (fun k => k = b ∨ B ≤ k) w
  obtain ⟨Av, cv, rfl⟩ := ho.slice
  clear hby hg
  go_enter Try.func30, Try.ntmps30
  go_wp2_with fail
  refine (at_any _ _ _ _ _ _ hr).mono ?_
  rintro e w0 ⟨rfl, rfl⟩
  go_wp2_with fail
  refine (thead_any _ _ _ _ _ _ _ _ _ hr hz h0 h1 (by omega) HBY.out).mono ?_
  rintro e w1 ⟨cp, k, p1, c1, q1, rfl, hk1, hr1, hs1⟩
  obtain ⟨p10, p11⟩ := hs1.place
  have HS1 := Lib.hid hs1
  have hB1 : B ≤ w1.heap.size := Nat.le_trans hB hk1.size
  replace ho : Own _ B _ y := own_kp ho hk1 (ho.ne_blk hr (by decide))
  replace hks := hks.trans (Ks.of_kp hk1 (.inl rfl))
  replace hz := hz.kp hr (by simp) hk1
  replace hr := hr1
  clear hr1 hk1 hs1 hB
  by_cases hc1 : c1 = 0
  · subst hc1
    obtain ⟨hsh, rfl⟩ := St.shape hd_q HS1.out
    obtain ⟨kr0, kr1⟩ := hd_rng HBY.out (by rw [hsh])
    rw [hsh] at kr0 kr1
    simp only at kr0 kr1
    have e1 : IntKind.i64.wrap ((y.length : Int) + k) = y.length + k := IntWalk.i64_in _ (by omega)
    have HX : Hid (ex z bound y p = if bound < (y.length : Int) + k then ([], 0, 11, p) else (trb z (cp, k) p1).bind [] fun t p2 => if (y.length : Int) < t.2.1 then ([], 0, 10, p1) else (agn 0 id (y ++ t.1) t.2.1 t.2.2.toNat, p2, 0, 0)) := Lib.hid (by unfold ex; rw [Rs.bind_of hsh])
    clear hsh HS1
    by_cases hov : bound < (y.length : Int) + k
    · have HX2 : Hid (ex z bound y p = ([], 0, 11, p)) := Lib.hid (by rw [HX.out, if_pos hov])
      go_wp2_with fail
      refine (fail_any _ _ _ _ _ _ _ _ hr).mono ?_
      rintro e w2 ⟨c2, q2, rfl, hk2, hr2, hf⟩
      obtain ⟨rfl, rfl⟩ : c2 = 11 ∧ q2 = p := by
        rcases hf with ⟨_, h2, h3⟩ | ⟨h2, _⟩
        · exact ⟨h2, h3⟩
        · exact absurd rfl h2
      have hB2 : B ≤ w2.heap.size := Nat.le_trans hB1 hk2.size
      replace ho : Own _ B _ y := own_kp ho hk2 (ho.ne_blk hr (by decide))
      replace hks := hks.trans (Ks.of_kp hk2 (.inl rfl))
      replace hz := hz.kp hr (by simp) hk2
      replace hr := hr2
      clear hr2 hk2 hf hov HX hB1
      have hBk := hB2
      cases cp
      · go_wp2_with fail
        refine (take_st _ _ _ _ _ _ _ _ _ _ hr hz p10 p11 hm (by omega)).mono ?_
        rintro e w3 ⟨vl, l, p3, c3, q3, rfl, hol, hk3, hr3, hs3⟩
        obtain ⟨p30, p31⟩ := hs3.place
        obtain ⟨rfl, rfl, rfl⟩ := hs3.stays (by decide : (11 : Int) ≠ 0)
        have hB3 : B ≤ w3.heap.size := Nat.le_trans hBk hk3.size
        replace ho : Own _ B _ y := own_kp ho hk3 (ho.ne_blk hr (by decide))
        replace hks := hks.trans (Ks.of_kp hk3 (.inl rfl))
        replace hz := hz.kp hr (by simp) hk3
        replace hr := hr3
        clear hr3 hk3 hs3
        have hge := own_ge ho
        obtain ⟨Al, ml, rfl, hbl, hnl, hlel⟩ := hol.parts
        have HLEN : Hid (y.length + ([] : List Int).length ≤ 1000000) := Lib.hid (by first | (simp; omega) | omega)
        go_wp2_with (at_builtin; go_must (refine list_append_gr rfl (.tmp 29) (.tmp 32) rfl B _ y rfl ho _ (([] : List Int)).length ml ([] : List Int) rfl hbl hnl HLEN.out hB3 ?_; intro v' w9 ho' hg' hgr; have hr9 : IsRd w9 b _ _ _ _ := hr.ks' (Ks.of_grown (S := fun k => B ≤ k) hg' hge) (by omega); have hks9 := hks.trans (Ks.of_grown (S := fun k => k = b ∨ B ≤ k) hg' (fun k e => .inr (hge k e))); clear hg' hgr hge ho hr hks hbl))
        go_ret
        exact ⟨_, _, _, _, _, rfl, ho', hks9, hr9, p30, p31, ExSt.bad HX2.out (by decide) _ _⟩
      · go_wp2_with fail
        refine (at_any _ _ _ _ _ _ hr).mono ?_
        rintro e w3 ⟨rfl, rfl⟩
        go_wp2_with fail
        refine (toffset_any _ _ _ _ _ _ _ _ _ hr hz p10 p11 (by omega) HBY.out).mono ?_
        rintro e w3 ⟨ofv, p3, c3, q3, rfl, hk3, hr3, hs3⟩
        obtain ⟨p30, p31⟩ := hs3.place
        obtain ⟨rfl, rfl, rfl⟩ := hs3.stays (by decide : (11 : Int) ≠ 0)
        have hB3 : B ≤ w3.heap.size := Nat.le_trans hBk hk3.size
        replace ho : Own _ B _ y := own_kp ho hk3 (ho.ne_blk hr (by decide))
        replace hks := hks.trans (Ks.of_kp hk3 (.inl rfl))
        replace hz := hz.kp hr (by simp) hk3
        replace hr := hr3
        clear hr3 hk3 hs3
        have hz0 : ¬ ((y.length : Int) < 0) := by omega
        have hcb : ((11 : Int) == (0 : Int)) = false := by first | rfl | (simpa using (by decide : (11 : Int) ≠ 0))
        go_wp2_with fail
        refine (good_any _ _ _ _ _ _ hr).mono ?_
        rintro e w4 ⟨rfl, hb4⟩
        rw [hcb]
        replace hr := hr.below hb4
        replace ho := ho.below hb4
        replace hks := hks.trans (Ks.of_below hb4)
        go_wp2
        go_ret
        exact ⟨_, _, _, _, _, rfl, ho, hks, hr, p30, p31, ExSt.bad HX2.out (by decide) _ _⟩
    · have HX2 := HX.out
      rw [if_neg hov] at HX2
      replace HX2 := Lib.hid HX2
      clear HX
      have hBk := hB1
      cases cp
      · go_wp2_with fail
        refine (take_st _ _ _ _ _ _ _ _ _ _ hr hz p10 p11 hm (by omega)).mono ?_
        rintro e w3 ⟨vl, l, p3, c3, q3, rfl, hol, hk3, hr3, hs3⟩
        obtain ⟨p30, p31⟩ := hs3.place
        have HS3 := Lib.hid hs3
        have hB3 : B ≤ w3.heap.size := Nat.le_trans hBk hk3.size
        replace ho : Own _ B _ y := own_kp ho hk3 (ho.ne_blk hr (by decide))
        replace hks := hks.trans (Ks.of_kp hk3 (.inl rfl))
        replace hz := hz.kp hr (by simp) hk3
        replace hr := hr3
        clear hr3 hk3 hs3
        by_cases hc3 : c3 = 0
        · subst hc3
          obtain ⟨hsh, rfl⟩ := St.shape (tk_q p10 (by have := HZL.out; omega)) HS3.out
          have hex : ex z bound y p = (y ++ l, p3, 0, 0) := by
            rw [HX2.out, trb_run, Rs.bind_of (v := (l, 0, 0)) (p' := p3) (by rw [Rs.bind_of hsh])]
            rw [if_neg (by show ¬ ((y.length : Int) < 0); omega)]
            rfl
          have hyl := HG.out (by rw [hex])
          rw [hex, List.length_append] at hyl
          have HEX := Lib.hid hex
          clear hsh hex HS3 HX2
          have hge := own_ge ho
          obtain ⟨Al, ml, rfl, hbl, hnl, hlel⟩ := hol.parts
          have HLEN : Hid (y.length + l.length ≤ 1000000) := Lib.hid (by first | (simp; omega) | omega)
          go_wp2_with (at_builtin; go_must (refine list_append_gr rfl (.tmp 29) (.tmp 32) rfl B _ y rfl ho _ (l).length ml l rfl hbl hnl HLEN.out hB3 ?_; intro v' w9 ho' hg' hgr; have hr9 : IsRd w9 b _ _ _ _ := hr.ks' (Ks.of_grown (S := fun k => B ≤ k) hg' hge) (by omega); have hks9 := hks.trans (Ks.of_grown (S := fun k => k = b ∨ B ≤ k) hg' (fun k e => .inr (hge k e))); clear hg' hgr hge ho hr hks hbl))
          go_ret
          exact ⟨_, _, _, _, _, rfl, ho', hks9, hr9, p30, p31, ExSt.good HEX.out⟩
        · obtain rfl : l = [] := HS3.out.nil hc3
          obtain ⟨g1, g2, g3⟩ := HS3.out.flt hc3
          have hex : ex z bound y p = ([], 0, c3, q3) := by
            rw [HX2.out, trb_run]
            have e : (tk z k p1).bind tk0 (fun y p2 => ((y, 0, 0), p2, 0, 0)) = (tk0, 0, c3, q3) := by rw [Rs.bind_bad g1, g2, g3]
            rw [e, Rs.bind_bad (by exact hc3)]
          have HEX := Lib.hid hex
          have HC3 := Lib.hid hc3
          clear hex g1 g2 g3 HS3 HX2 hc3
          have hge := own_ge ho
          obtain ⟨Al, ml, rfl, hbl, hnl, hlel⟩ := hol.parts
          have HLEN : Hid (y.length + ([] : List Int).length ≤ 1000000) := Lib.hid (by first | (simp; omega) | omega)
          go_wp2_with (at_builtin; go_must (refine list_append_gr rfl (.tmp 29) (.tmp 32) rfl B _ y rfl ho _ (([] : List Int)).length ml ([] : List Int) rfl hbl hnl HLEN.out hB3 ?_; intro v' w9 ho' hg' hgr; have hr9 : IsRd w9 b _ _ _ _ := hr.ks' (Ks.of_grown (S := fun k => B ≤ k) hg' hge) (by omega); have hks9 := hks.trans (Ks.of_grown (S := fun k => k = b ∨ B ≤ k) hg' (fun k e => .inr (hge k e))); clear hg' hgr hge ho hr hks hbl))
          go_ret
          exact ⟨_, _, _, _, _, rfl, ho', hks9, hr9, p30, p31, ExSt.bad HEX.out HC3.out _ _⟩
      · go_wp2_with fail
        refine (at_any _ _ _ _ _ _ hr).mono ?_
        rintro e w3 ⟨rfl, rfl⟩
        go_wp2_with fail
        refine (toffset_any _ _ _ _ _ _ _ _ _ hr hz p10 p11 (by omega) HBY.out).mono ?_
        rintro e w3 ⟨ofv, p3, c3, q3, rfl, hk3, hr3, hs3⟩
        obtain ⟨p30, p31⟩ := hs3.place
        have HS3 := Lib.hid hs3
        have hB3 : B ≤ w3.heap.size := Nat.le_trans hBk hk3.size
        replace ho : Own _ B _ y := own_kp ho hk3 (ho.ne_blk hr (by decide))
        replace hks := hks.trans (Ks.of_kp hk3 (.inl rfl))
        replace hz := hz.kp hr (by simp) hk3
        replace hr := hr3
        clear hr3 hk3 hs3
        by_cases hc3 : c3 = 0
        · subst hc3
          obtain ⟨hsh, rfl⟩ := St.shape ofs_q HS3.out
          have ho1 : 1 ≤ ofv := by
            obtain ⟨v1, v2, e3⟩ := ofs_ok (z := z) (p := p1) (by rw [hsh])
            rw [hsh] at e3
            have := vg_bd z p1 HBY.out
            have e4 : ofv = (vg z p1).1 + 1 := congrArg (fun x => x.1) e3
            omega
          have hex : ex z bound y p = if (y.length : Int) < ofv then ([], 0, 10, p1) else (agn 0 id (y ++ []) ofv k.toNat, p3, 0, 0) := by
            rw [HX2.out, trb_cpy, Rs.bind_of (v := ([], ofv, k)) (p' := p3) (by rw [Rs.bind_of hsh])]
          clear hsh HS3 HX2
          by_cases hof : (y.length : Int) < ofv
          · rw [if_pos hof] at hex
            have HEX := Lib.hid hex
            clear hex
            go_wp2_with fail
            refine (fail_any _ _ _ _ _ _ _ _ hr).mono ?_
            rintro e w4 ⟨c4, q4, rfl, hk4, hr4, hf⟩
            obtain ⟨rfl, rfl⟩ : c4 = 10 ∧ q4 = p1 := by
              rcases hf with ⟨_, h2, h3⟩ | ⟨h2, _⟩
              · exact ⟨h2, h3⟩
              · exact absurd rfl h2
            replace ho : Own _ B _ y := own_kp ho hk4 (ho.ne_blk hr (by decide))
            replace hks := hks.trans (Ks.of_kp hk4 (.inl rfl))
            replace hz := hz.kp hr (by simp) hk4
            replace hr := hr4
            clear hr4 hk4 hf
            go_wp2_with fail
            refine (good_any _ _ _ _ _ _ hr).mono ?_
            rintro e w5 ⟨rfl, hb5⟩
            rw [show ((10 : Int) == 0) = false from rfl]
            replace hr := hr.below hb5
            replace ho := ho.below hb5
            replace hks := hks.trans (Ks.of_below hb5)
            go_wp2
            go_ret
            exact ⟨_, _, _, _, _, rfl, ho, hks, hr, p30, p31, ExSt.bad HEX.out (by decide) _ _⟩
          · rw [if_neg hof, List.append_nil] at hex
            have hyl := HG.out (by rw [hex])
            rw [hex, agn_length] at hyl
            obtain ⟨ln, rfl⟩ := Int.eq_ofNat_of_zero_le (show 0 ≤ k by omega)
            rw [Int.toNat_natCast] at hex hyl
            have HEX := Lib.hid hex
            clear hex
            go_wp2_with fail
            refine (good_any _ _ _ _ _ _ hr).mono ?_
            rintro e w5 ⟨rfl, hb5⟩
            rw [show ((0 : Int) == 0) = true from rfl]
            replace hr := hr.below hb5
            replace ho := ho.below hb5
            replace hks := hks.trans (Ks.of_below hb5)
            have hB5 : B ≤ w5.heap.size := Nat.le_trans hB3 hb5.size
            clear hb5
            go_wp2_with fail
            refine (again_byte B _ y ofv ln _ ho hB5 (by omega) (fun _ => by omega)).mono ?_
            rintro e w6 ⟨v6, rfl, ho6, hb6⟩
            have hr6 := hr.ks' (Ks.of_belowB (S := fun k => B ≤ k) hb6 (fun k h => by omega)) (by omega)
            replace hks := hks.trans (Ks.of_belowB (S := fun k => k = b ∨ B ≤ k) hb6 (fun k h => by have := Nat.lt_of_not_le (fun e => h (.inr e)); exact this))
            go_wp2
            go_ret
            exact ⟨_, _, _, _, _, rfl, ho6, hks, hr6, p30, p31, ExSt.good HEX.out⟩
        · obtain rfl : ofv = 0 := HS3.out.nil hc3
          obtain ⟨g1, g2, g3⟩ := HS3.out.flt hc3
          have hex : ex z bound y p = ([], 0, c3, q3) := by
            rw [HX2.out, trb_cpy]
            have e : (ofs z p1).bind tk0 (fun o p2 => (([], o, k), p2, 0, 0)) = (tk0, 0, c3, q3) := by rw [Rs.bind_bad g1, g2, g3]
            rw [e, Rs.bind_bad (by exact hc3)]
          have HEX := Lib.hid hex
          have HC3 := Lib.hid hc3
          have hz0 : ¬ ((y.length : Int) < 0) := by omega
          have hcb : (c3 == (0 : Int)) = false := by simpa using hc3
          clear hex g1 g2 g3 HS3 HX2 hc3
          go_wp2_with fail
          refine (good_any _ _ _ _ _ _ hr).mono ?_
          rintro e w4 ⟨rfl, hb4⟩
          rw [hcb]
          replace hr := hr.below hb4
          replace ho := ho.below hb4
          replace hks := hks.trans (Ks.of_below hb4)
          go_wp2
          go_ret
          exact ⟨_, _, _, _, _, rfl, ho, hks, hr, p30, p31, ExSt.bad HEX.out HC3.out _ _⟩
  · have HX2 : Hid ((ex z bound y p).2.2.1 = c1 ∧ (ex z bound y p).2.2.2 = q1) := Lib.hid (by
      obtain ⟨g1, g2, g3⟩ := HS1.out.flt hc1
      unfold ex
      rw [Rs.bind_bad g1]
      exact ⟨g2.symm, g3.symm⟩)
    have hex : ∀ v p', ExSt (ex z bound y p) v p' c1 q1 := fun v p' => .inr ⟨by rw [HX2.out.1]; exact hc1, HX2.out.1.symm, HX2.out.2.symm⟩
    obtain ⟨rfl, rfl⟩ := hd_cp HS1.out hc1
    have HEX := Lib.hid hex
    have HC1 := Lib.hid hc1
    have e1 : IntKind.i64.wrap ((y.length : Int) + 0) = y.length := IntWalk.i64_in _ (by omega)
    clear hex HX2 HS1 hc1
    by_cases hov : bound < (y.length : Int)
    · go_wp2_with fail
      refine (fail_any _ _ _ _ _ _ _ _ hr).mono ?_
      rintro e w2 ⟨c2, q2, rfl, hk2, hr2, hf⟩
      obtain ⟨rfl, rfl⟩ : c2 = c1 ∧ q2 = q1 := by
        rcases hf with ⟨h2, _⟩ | ⟨_, h2, h3⟩
        · exact absurd h2 HC1.out
        · exact ⟨h2, h3⟩
      have hBk : B ≤ w2.heap.size := Nat.le_trans hB1 hk2.size
      replace ho : Own _ B _ y := own_kp ho hk2 (ho.ne_blk hr (by decide))
      replace hks := hks.trans (Ks.of_kp hk2 (.inl rfl))
      replace hz := hz.kp hr (by simp) hk2
      replace hr := hr2
      clear hr2 hk2 hf hov hB1
      go_wp2_with fail
      refine (take_st _ _ _ _ _ _ _ _ _ _ hr hz p10 p11 hm (by omega)).mono ?_
      rintro e w3 ⟨vl, l, p3, c3, q3, rfl, hol, hk3, hr3, hs3⟩
      obtain ⟨p30, p31⟩ := hs3.place
      obtain ⟨rfl, rfl, rfl⟩ := hs3.stays HC1.out
      have hB3 : B ≤ w3.heap.size := Nat.le_trans hBk hk3.size
      replace ho : Own _ B _ y := own_kp ho hk3 (ho.ne_blk hr (by decide))
      replace hks := hks.trans (Ks.of_kp hk3 (.inl rfl))
      replace hz := hz.kp hr (by simp) hk3
      replace hr := hr3
      clear hr3 hk3 hs3
      have hge := own_ge ho
      obtain ⟨Al, ml, rfl, hbl, hnl, hlel⟩ := hol.parts
      have HLEN : Hid (y.length + ([] : List Int).length ≤ 1000000) := Lib.hid (by first | (simp; omega) | omega)
      go_wp2_with (at_builtin; go_must (refine list_append_gr rfl (.tmp 29) (.tmp 32) rfl B _ y rfl ho _ (([] : List Int)).length ml ([] : List Int) rfl hbl hnl HLEN.out hB3 ?_; intro v' w9 ho' hg' hgr; have hr9 : IsRd w9 b _ _ _ _ := hr.ks' (Ks.of_grown (S := fun k => B ≤ k) hg' hge) (by omega); have hks9 := hks.trans (Ks.of_grown (S := fun k => k = b ∨ B ≤ k) hg' (fun k e => .inr (hge k e))); clear hg' hgr hge ho hr hks hbl))
      go_ret
      exact ⟨_, _, _, _, _, rfl, ho', hks9, hr9, p30, p31, HEX.out _ _⟩
    · have hBk := hB1
      go_wp2_with fail
      refine (take_st _ _ _ _ _ _ _ _ _ _ hr hz p10 p11 hm (by omega)).mono ?_
      rintro e w3 ⟨vl, l, p3, c3, q3, rfl, hol, hk3, hr3, hs3⟩
      obtain ⟨p30, p31⟩ := hs3.place
      obtain ⟨rfl, rfl, rfl⟩ := hs3.stays HC1.out
      have hB3 : B ≤ w3.heap.size := Nat.le_trans hBk hk3.size
      replace ho : Own _ B _ y := own_kp ho hk3 (ho.ne_blk hr (by decide))
      replace hks := hks.trans (Ks.of_kp hk3 (.inl rfl))
      replace hz := hz.kp hr (by simp) hk3
      replace hr := hr3
      clear hr3 hk3 hs3
      have hge := own_ge ho
      obtain ⟨Al, ml, rfl, hbl, hnl, hlel⟩ := hol.parts
      have HLEN : Hid (y.length + ([] : List Int).length ≤ 1000000) := Lib.hid (by first | (simp; omega) | omega)
      go_wp2_with (at_builtin; go_must (refine list_append_gr rfl (.tmp 29) (.tmp 32) rfl B _ y rfl ho _ (([] : List Int)).length ml ([] : List Int) rfl hbl hnl HLEN.out hB3 ?_; intro v' w9 ho' hg' hgr; have hr9 : IsRd w9 b _ _ _ _ := hr.ks' (Ks.of_grown (S := fun k => B ≤ k) hg' hge) (by omega); have hks9 := hks.trans (Ks.of_grown (S := fun k => k = b ∨ B ≤ k) hg' (fun k e => .inr (hge k e))); clear hg' hgr hge ho hr hks hbl))
      go_ret
      exact ⟨_, _, _, _, _, rfl, ho', hks9, hr9, p30, p31, HEX.out _ _⟩
end Go.Proofs.Ytmpbiobbjnhjcaa.Cur
