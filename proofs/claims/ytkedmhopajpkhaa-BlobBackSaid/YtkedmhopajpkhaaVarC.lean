/- Reading a number: the plain mathematics; varint.Read. -/
import Derived.Test.YtkedmhopajpkhaaVarB
import Derived.Test.YtkedmhopajpkhaaCurE
import Derived.WalkMore
import Derived.ScopeJumps
import Derived.Laws.BitsAllLaws
import Derived.IntWalk
namespace Go.Proofs.Ytkedmhopajpkhaa.Cur
open Go.RowKit Mem
set_option linter.unusedVariables false

/-- A number at the front of bytes, from its byte i on: the number, how many bytes, the fault's code and place. -/
def vgo : List Int → Nat → Int → Int × Int × Int × Int
  | [], i, _ => (0, 0, 1, i)
  | b :: l, i, acc => if i = 9 ∧ 1 < b then (0, 0, 5, i) else if 0 < i ∧ b = 0 then (0, 0, 4, i) else if b < 128 then (acc + b * 128 ^ i, i + 1, 0, 0) else vgo l (i + 1) (acc + b % 128 * 128 ^ i)
def VgSt (n : Nat) (p q : Int) (g : Int × Int × Int × Int) (v p' c' q' : Int) : Prop :=
  (g.2.2.1 = 0 ∧ v = g.1 ∧ p' = p + g.2.1 ∧ c' = 0 ∧ q' = q) ∨
  (g.2.2.1 ≠ 0 ∧ v = 0 ∧ c' = g.2.2.1 ∧ q' = p + g.2.2.2 ∧ p' = if g.2.2.1 = 1 then (n : Int) else p + g.2.2.2 + 1)
/-- What Read does. -/
def RdSt (n : Nat) (z : List Int) (p c q v p' c' q' : Int) : Prop :=
  (c ≠ 0 ∧ v = 0 ∧ p' = p ∧ c' = c ∧ q' = q) ∨ (c = 0 ∧ VgSt n p q (vgo (z.drop p.toNat) 0 0) v p' c' q')
def RdPost (b : Nat) (s : Value) (n : Nat) (z : List Int) (p c q : Int) (w : World) (e : Ending) (w' : World) : Prop :=
  ∃ v p' c' q', e = .returned (.int .u64 v) ∧ Kp b w w' ∧ IsRd w' b s p' c' q' ∧ RdSt n z p c q v p' c' q'

theorem RdSt.det {n : Nat} {z : List Int} {p c q v p' c' q' v2 p2 c2 q2 : Int} (h : RdSt n z p c q v p' c' q') (k : RdSt n z p c q v2 p2 c2 q2) : v = v2 ∧ p' = p2 ∧ c' = c2 ∧ q' = q2 := by
  rcases h with ⟨a0, a1, a2, a3, a4⟩ | ⟨a0, ⟨a1, a2, a3, a4, a5⟩ | ⟨a1, a2, a3, a4, a5⟩⟩ <;>
  rcases k with ⟨b0, b1, b2, b3, b4⟩ | ⟨b0, ⟨b1, b2, b3, b4, b5⟩ | ⟨b1, b2, b3, b4, b5⟩⟩ <;>
  first | exact absurd a0 b0 | exact absurd b0 a0 | exact absurd a1 b1 | exact absurd b1 a1 | exact ⟨by omega, by omega, by omega, by omega⟩ | exact ⟨by omega, a5.trans b5.symm, by omega, by omega⟩

set_option maxHeartbeats 1000000 in
theorem vread_bad (b : Nat) (a : Option Addr) (n m : Nat) (z : List Int) (p c q : Int) (w : World) (h : IsRd w b (.slice a n m) p c q) (hz : Bs w a n z) (h0 : 0 ≤ p) (h1 : p ≤ n) (hn : n ≤ 1000000) (hc : c ≠ 0) :
    Calls Try.prog 40 #[.pointer (some ⟨b, 0, none⟩)] w (RdPost b (.slice a n m) n z p c q w) := by
  have hcb : (c == 0) = false := by simpa using hc
  have HC := Lib.hid hc
  clear hc
  go_enter Try.func40, Try.ntmps40
  go_wp2_with fail
  go_step3
  go_wp2_with fail
  go_step3
  go_wp2_with fail
  refine (byte_any _ _ _ _ _ _ _ _ _ h hz h0 h1 hn).mono ?_
  rintro e w1 ⟨ok, p', c', q', hk, hr, hs, rfl⟩
  rcases hs with ⟨_, rfl, rfl, rfl, rfl⟩ | ⟨h, _⟩ | ⟨h, _⟩ | ⟨h, _⟩
  rotate_left
  · exact absurd h HC.out
  · exact absurd h HC.out
  · exact absurd h HC.out
  rw [if_neg (by simp)]
  go_wp2_with fail
  refine (good_any _ _ _ _ _ _ hr).mono ?_
  rintro e w2 ⟨rfl, hb2⟩
  go_wp2
  rw [Exit.noGoto_ret]
  go_ret
  exact ⟨0, _, _, _, rfl, hk.trans (Kp.of_below hb2), hr.below hb2, .inl ⟨HC.out, rfl, rfl, rfl, rfl⟩⟩

/-- What holds when byte i comes next. -/
def RJc (b : Nat) (s : Value) (n : Nat) (z : List Int) (p q : Int) (w : World) (i : Nat) (X : Int) (w' : World) : Prop :=
  i ≤ 9 ∧ p + i ≤ n ∧ Kp b w w' ∧ IsRd w' b s (p + i) 0 q ∧ 0 ≤ X ∧ X < 128 ^ i ∧ vgo (z.drop p.toNat) 0 0 = vgo (z.drop (p.toNat + i)) i X
def RJ (b : Nat) (s : Value) (n : Nat) (z : List Int) (p q : Int) (w : World) (a' : Act) (w' : World) : Prop :=
  ∃ (i : Nat) (X : Int) (u4 u6 u7 u8 u9 u10 u11 u12 u13 u14 u15 u16 u17 u18 u19 u20 u21 u22 u23 u24 u25 u26 u27 u28 u29 u30 u31 u32 u33 u34 u35 u36 u37 u38 u39 u40 u41 u42 u43 u44 u45 u46 u47 u48 u49 : Value), a' = { tmps := #[.pointer (some ⟨b, 0, none⟩), undef, .int .u64 0, .int .u64 X, u4, .int .i64 i, u6, u7, u8, u9, u10, u11, u12, u13, u14, u15, u16, u17, u18, u19, u20, u21, u22, u23, u24, u25, u26, u27, u28, u29, u30, u31, u32, u33, u34, u35, u36, u37, u38, u39, u40, u41, u42, u43, u44, u45, u46, u47, u48, u49], defers := [] } ∧ RJc b s n z p q w i X w'

theorem drop_cons {z : List Int} {n k : Nat} (hz : z.length = n) (hk : k < n) : z.drop k = z.getD k 0 :: z.drop (k + 1) := by
  rw [List.drop_eq_getElem_cons (by omega), List.getD_eq_getElem?_getD, List.getElem?_eq_getElem (by omega)]
  rfl
theorem vgo_nil (i : Nat) (X : Int) : vgo [] i X = (0, 0, 1, (i : Int)) := rfl
theorem vgo_over {b X : Int} {l : List Int} {i : Nat} (h : i = 9) (hb : 1 < b) : vgo (b :: l) i X = (0, 0, 5, (i : Int)) := by unfold vgo; rw [if_pos ⟨h, hb⟩]
theorem vgo_zero {b X : Int} {l : List Int} {i : Nat} (h : 0 < i) (hb : b = 0) : vgo (b :: l) i X = (0, 0, 4, (i : Int)) := by unfold vgo; rw [if_neg (by omega), if_pos ⟨h, hb⟩]
theorem vgo_done {b X : Int} {l : List Int} {i : Nat} (h : ¬ (i = 9 ∧ 1 < b)) (h' : ¬ (0 < i ∧ b = 0)) (hb : b < 128) : vgo (b :: l) i X = (X + b * 128 ^ i, (i : Int) + 1, 0, 0) := by unfold vgo; rw [if_neg h, if_neg h', if_pos hb]
theorem vgo_more {b X : Int} {l : List Int} {i : Nat} (h : ¬ (i = 9 ∧ 1 < b)) (hb : 128 ≤ b) : vgo (b :: l) i X = vgo l (i + 1) (X + b % 128 * 128 ^ i) := by
  rw [show vgo (b :: l) i X = _ from by unfold vgo; rw [if_neg h, if_neg (by omega), if_neg (by omega)]]

/-- The number with seven digits more. -/
def orv (i : Nat) (X bb : Int) : Int := bits BinOp.or IntKind.u64 X (IntKind.u64.wrap (IntKind.u64.wrap (bits BinOp.andNot IntKind.u8 bb 128) * 2 ^ (7 * i)))
theorem andNot_128' : ∀ n : Fin 256, bits BinOp.andNot IntKind.u8 (n.val : Int) 128 = (n.val : Int) % 128 := by decide +kernel
theorem andNot_128 (b : Int) (h0 : 0 ≤ b) (h1 : b < 256) : bits BinOp.andNot IntKind.u8 b 128 = b % 128 := by
  have := andNot_128' ⟨b.toNat, by omega⟩
  simp only at this
  rw [Int.toNat_of_nonneg h0] at this
  exact this
theorem wrap_u64 (x : Int) (h0 : 0 ≤ x) (h1 : x < 18446744073709551616) : IntKind.u64.wrap x = x := by
  have e : IntKind.u64.wrap x = x % 18446744073709551616 := by unfold IntKind.wrap; rfl
  rw [e]; exact Int.emod_eq_of_lt h0 h1
theorem pow7' (i : Nat) : (2 : Int) ^ (7 * i) = 128 ^ i := by
  rw [Int.pow_mul]; rfl
theorem orv_eq (i : Nat) (X bb : Int) (hi : i ≤ 9) (X0 : 0 ≤ X) (X1 : X < 128 ^ i) (b0 : 0 ≤ bb) (b1 : bb < 256) (h9 : i = 9 → bb ≤ 1) :
    orv i X bb = X + bb % 128 * 128 ^ i ∧ 0 ≤ orv i X bb ∧ orv i X bb < 18446744073709551616 := by
  have hm : bb % 128 * 128 ^ i ≤ 9223372036854775808 * 1 ∧ 0 ≤ bb % 128 * 128 ^ i := by
    have hp := pow128_pos i
    refine ⟨?_, Int.mul_nonneg (by omega) (by omega)⟩
    by_cases h : i = 9
    · have := h9 h
      subst h
      have : bb % 128 ≤ 1 := by omega
      omega
    · have h8 := pow128_mono (show i ≤ 8 by omega)
      have h2 : bb % 128 * 128 ^ i ≤ 127 * 128 ^ 8 := Int.mul_le_mul (by omega) h8 (by omega) (by omega)
      have : (127 : Int) * 128 ^ 8 ≤ 9223372036854775808 * 1 := by decide
      omega
  have hX : X < 9223372036854775808 := Int.lt_of_lt_of_le X1 (Int.le_trans (pow128_mono hi) (by decide))
  have key : orv i X bb = X + bb % 128 * 128 ^ i := by
    unfold orv
    rw [andNot_128 bb b0 b1, wrap_u64 (bb % 128) (by omega) (by omega), pow7', wrap_u64 _ hm.2 (by omega)]
    obtain ⟨x, rfl⟩ := Int.eq_ofNat_of_zero_le X0
    obtain ⟨y, hy⟩ := Int.eq_ofNat_of_zero_le (show 0 ≤ bb % 128 by omega)
    have e : bb % 128 * 128 ^ i = ((2 ^ (7 * i) * y : Nat) : Int) := by rw [hy, Int.mul_comm]; push_cast; rw [pow7']
    rw [e] at hm ⊢
    rw [u64_or_nat _ _ (by omega) (by omega), Nat.or_comm, ← Nat.two_pow_add_eq_or_of_lt]
    · push_cast; omega
    · have : ((x : Nat) : Int) < ((2 ^ (7 * i) : Nat) : Int) := by push_cast; rw [pow7']; exact X1
      exact_mod_cast this
  rw [key]
  exact ⟨rfl, by omega, by omega⟩
theorem orv_lt (i : Nat) (X bb : Int) (X0 : 0 ≤ X) (X1 : X < 128 ^ i) : X + bb % 128 * 128 ^ i < 128 ^ (i + 1) := by
  rw [Int.pow_succ, Int.mul_comm (128 ^ i) 128]
  have hp := pow128_pos i
  have h : bb % 128 * 128 ^ i ≤ 127 * 128 ^ i := Int.mul_le_mul_of_nonneg_right (by omega) (by omega)
  generalize bb % 128 * 128 ^ i = Q at *
  generalize (128 : Int) ^ i = P at *
  omega

theorem rd_fault {n i : Nat} {z : List Int} {p q k x : Int} (h : vgo (z.drop p.toNat) 0 0 = (x, 0, k, (i : Int))) (hk : k ≠ 0) (hk1 : k ≠ 1) {q' : Int} (hq : q' = p + i) : RdSt n z p 0 q 0 (p + i + 1) k q' :=
  .inr ⟨rfl, .inr (by rw [h]; exact ⟨hk, rfl, rfl, hq, by rw [if_neg hk1]⟩)⟩
theorem rd_short {n i : Nat} {z : List Int} {p q x : Int} (h : vgo (z.drop p.toNat) 0 0 = (x, 0, 1, (i : Int))) (hn : p + i = n) : RdSt n z p 0 q 0 (p + i) 1 n :=
  .inr ⟨rfl, .inr (by rw [h]; exact ⟨by simp, rfl, rfl, hn.symm, by simp; exact hn⟩)⟩
theorem rd_done {n i : Nat} {z : List Int} {p q x : Int} (h : vgo (z.drop p.toNat) 0 0 = (x, (i : Int) + 1, 0, 0)) : RdSt n z p 0 q x (p + i + 1) 0 q :=
  .inr ⟨rfl, .inl (by rw [h]; exact ⟨rfl, rfl, by show _ = p + ((i : Int) + 1); omega, rfl, rfl⟩)⟩

theorem jumps_skip {P : Program} {c rest : Code} {a : Act} {w : World} {Q : Exit → Act → World → Prop} (l : Nat) (J : Act → World → Prop) (μ : Act → World → Nat) (hf : findLabel c l = some (Code.skip.seq rest))
    (first : (∀ a w, J a w → rest.wp P (Exit.jump l J Q) a w) → c.wp P (Exit.jump l J Q) a w)
    (pass : ∀ a w, J a w → rest.wp P (Exit.jump l (fun a' w' => J a' w' ∧ μ a' w' < μ a w) Q) a w) : (Code.scope c).wp P Q a w :=
  wp_scope_jumps l J μ hf (first fun a w hJ => Code.wp_mono (fun e a' w' hh => by cases e <;> first | exact hh | exact ⟨hh.1, hh.2.1⟩) (pass a w hJ)) fun a w hJ => wp_seq (wp_skip (pass a w hJ))


set_option maxRecDepth 100000 in
set_option maxHeartbeats 2000000 in
theorem vread_good (b : Nat) (a : Option Addr) (n m : Nat) (z : List Int) (p q : Int) (w : World) (h : IsRd w b (.slice a n m) p 0 q) (hz : Bs w a n z) (h0 : 0 ≤ p) (h1 : p ≤ n) (hn : n ≤ 1000000) (hby : ∀ x ∈ z, 0 ≤ x ∧ x < 256) :
    Calls Try.prog 40 #[.pointer (some ⟨b, 0, none⟩)] w (RdPost b (.slice a n m) n z p 0 q w) := by
  go_enter Try.func40, Try.ntmps40
  go_wp2_with fail
  refine jumps_skip 0 (RJ b (.slice a n m) n z p q w) (fun a' _ => 9 - (intOf (a'.tmps.getD 5 undef)).toNat) rfl ?_ ?_
  · intro key
    have KEY := Lib.hid key
    clear key
    go_wp2_with fail
    go_step3
    rename_i Kq hKq
    have hJ : RJ b (.slice a n m) n z p q w { tmps := #[.pointer (some ⟨b, 0, none⟩), undef, .int .u64 0, .int .u64 0, .int .u8 0, .int .i64 0, undef, undef, undef, undef, undef, undef, undef, undef, undef, undef, undef, undef, undef, undef, undef, undef, undef, undef, undef, undef, undef, undef, undef, undef, undef, undef, undef, undef, undef, undef, undef, undef, undef, undef, undef, undef, undef, undef, undef, undef, undef, undef, undef, undef], defers := [] } w :=
      ⟨0, 0, _, _, _, _, _, _, _, _, _, _, _, _, _, _, _, _, _, _, _, _, _, _, _, _, _, _, _, _, _, _, _, _, _, _, _, _, _, _, _, _, _, _, _, _, _, rfl, by omega, by simpa using h1, Kp.refl _ _, by simpa using h, Int.le_refl _, by decide, rfl⟩
    exact hKq _ _ (KEY.out _ _ hJ)
  · rintro a' w' ⟨i, X, u4, u6, u7, u8, u9, u10, u11, u12, u13, u14, u15, u16, u17, u18, u19, u20, u21, u22, u23, u24, u25, u26, u27, u28, u29, u30, u31, u32, u33, u34, u35, u36, u37, u38, u39, u40, u41, u42, u43, u44, u45, u46, u47, u48, u49, rfl, hi, hpi, hk, hr, X0, X1, hv⟩
    have hz1 := hz.kp h (by simp) hk
    have i0 : (0 : Int) ≤ i := by omega
    go_wp2_with fail
    refine (byte_any _ _ _ _ _ _ _ _ _ hr hz1 (by omega) hpi hn).mono ?_
    rintro e w1 ⟨ok, p', c', q', hk1, hr1, hs, rfl⟩
    by_cases hsh : p + i < n
    · obtain ⟨rfl, rfl, rfl, rfl⟩ := skip_yes hs (by omega) (by omega)
      have hzk := drop_cons hz.1 (k := p.toNat + i) (by omega)
      have hbb : 0 ≤ z.getD (p.toNat + i) 0 ∧ z.getD (p.toNat + i) 0 < 256 := by
        refine hby _ ?_
        have : p.toNat + i < z.length := by rw [hz.1]; omega
        rw [List.getD_eq_getElem?_getD, List.getElem?_eq_getElem this]
        exact List.getElem_mem _
      rw [hzk] at hv
      rw [if_pos rfl, show (p + i).toNat = p.toNat + i by omega]
      have HV := Lib.hid hv
      clear hv hzk hs hr hz1
      generalize z.getD (p.toNat + i) 0 = bb at *
      obtain ⟨b0, b1⟩ := hbb
      have hk2 := hk.trans hk1
      clear hk hk1
      have hor := orv_eq i X bb hi X0 X1 b0 b1
      have HOR := Lib.hid hor
      clear hor
      by_cases hi9 : i = 9
      · have hi9d : ((i : Int) == 9) = true := by simp; omega
        have hi0 : 0 < (i : Int) := by omega
        have H9 := Lib.hid hi9
        clear hi9
        by_cases ho : 1 < bb
        · have hbz : (bb == 0) = false := by simp; omega
          by_cases hge : 128 ≤ bb
          · go_wp2_with fail
            refine (at_any _ _ _ _ _ _ hr1).mono ?_
            rintro e w2 ⟨rfl, rfl⟩
            go_wp2_with fail
            refine (fail_yes _ _ _ _ _ _ _ hr1).mono ?_
            rintro e w2 ⟨rfl, hkf, hr2⟩
            go_wp2_with fail
            refine (good_any _ _ _ _ _ _ hr2).mono ?_
            rintro e w3 ⟨rfl, hbw3⟩
            go_wp2_with fail
            refine (good_any _ _ _ _ _ _ (hr2.below hbw3)).mono ?_
            rintro e w4 ⟨rfl, hbw4⟩
            go_wp2
            simp only [Exit.jump]
            go_ret
            exact ⟨_, _, _, _, rfl, ((hk2.trans hkf).trans (Kp.of_below hbw3)).trans (Kp.of_below hbw4), (hr2.below hbw3).below hbw4, rd_fault (HV.out.trans (vgo_over H9.out ho)) (by omega) (by omega) (by unfold fq; rw [if_neg (by omega)]; try omega)⟩
          · go_wp2_with fail
            refine (at_any _ _ _ _ _ _ hr1).mono ?_
            rintro e w2 ⟨rfl, rfl⟩
            go_wp2_with fail
            refine (fail_yes _ _ _ _ _ _ _ hr1).mono ?_
            rintro e w2 ⟨rfl, hkf, hr2⟩
            go_wp2_with fail
            refine (good_any _ _ _ _ _ _ hr2).mono ?_
            rintro e w3 ⟨rfl, hbw3⟩
            go_wp2
            simp only [Exit.jump]
            go_ret
            exact ⟨_, _, _, _, rfl, (hk2.trans hkf).trans (Kp.of_below hbw3), hr2.below hbw3, rd_fault (HV.out.trans (vgo_over H9.out ho)) (by omega) (by omega) (by unfold fq; rw [if_neg (by omega)]; try omega)⟩
        · have hge : ¬ 128 ≤ bb := by omega
          by_cases hb0 : bb = 0
          · subst hb0
            go_wp2_with fail
            refine (at_any _ _ _ _ _ _ hr1).mono ?_
            rintro e w2 ⟨rfl, rfl⟩
            go_wp2_with fail
            refine (fail_yes _ _ _ _ _ _ _ hr1).mono ?_
            rintro e w2 ⟨rfl, hkf, hr2⟩
            go_wp2_with fail
            refine (good_any _ _ _ _ _ _ hr2).mono ?_
            rintro e w3 ⟨rfl, hbw3⟩
            go_wp2
            simp only [Exit.jump]
            go_ret
            exact ⟨_, _, _, _, rfl, (hk2.trans hkf).trans (Kp.of_below hbw3), hr2.below hbw3, rd_fault (HV.out.trans (vgo_zero (by omega) rfl)) (by omega) (by omega) (by unfold fq; rw [if_neg (by omega)]; try omega)⟩
          · have hbz : (bb == 0) = false := by simpa using hb0
            have HB0 := Lib.hid hb0
            clear hb0
            go_wp2_with fail
            refine (good_any _ _ _ _ _ _ hr1).mono ?_
            rintro e w3 ⟨rfl, hbw3⟩
            go_wp2
            simp only [Exit.jump]
            go_ret
            exact ⟨orv i X _, _, _, _, rfl, hk2.trans (Kp.of_below hbw3), hr1.below hbw3, by rw [(HOR.out (fun h => by have := H9.out; omega)).1]; exact rd_done (HV.out.trans (vgo_done (by have := H9.out; omega) (fun h => HB0.out h.2) (by omega)) |>.trans (by rw [Int.emod_eq_of_lt (by omega) (by omega)]))⟩
      · have hi9d : ((i : Int) == 9) = false := by simp; omega
        have H9 := Lib.hid hi9
        clear hi9
        by_cases hge : 128 ≤ bb
        · go_wp2_with fail
          refine (good_any _ _ _ _ _ _ hr1).mono ?_
          rintro e w3 ⟨rfl, hbw3⟩
          go_wp2_with fail
          go_step3
          refine ⟨rfl, ⟨i + 1, _, _, _, _, _, _, _, _, _, _, _, _, _, _, _, _, _, _, _, _, _, _, _, _, _, _, _, _, _, _, _, _, _, _, _, _, _, _, _, _, _, _, _, _, _, _, rfl, by have := H9.out; omega, by omega, hk2.trans (Kp.of_below hbw3), by have := hr1.below hbw3; rw [show p + ((i + 1 : Nat) : Int) = p + i + 1 by omega]; exact this, (HOR.out (fun h => absurd h H9.out)).2.1, by show orv i X bb < _; rw [(HOR.out (fun h => absurd h H9.out)).1]; exact orv_lt i X bb X0 X1, by show _ = vgo _ _ (orv i X bb); rw [(HOR.out (fun h => absurd h H9.out)).1, HV.out, vgo_more (fun h => H9.out h.1) hge]; rfl⟩, ?_⟩
          have h9 := H9.out
          simp [intOf]
          omega
        · by_cases hb0 : bb = 0
          · subst hb0
            by_cases hi0 : 0 < (i : Int)
            · go_wp2_with fail
              refine (at_any _ _ _ _ _ _ hr1).mono ?_
              rintro e w2 ⟨rfl, rfl⟩
              go_wp2_with fail
              refine (fail_yes _ _ _ _ _ _ _ hr1).mono ?_
              rintro e w2 ⟨rfl, hkf, hr2⟩
              go_wp2_with fail
              refine (good_any _ _ _ _ _ _ hr2).mono ?_
              rintro e w3 ⟨rfl, hbw3⟩
              go_wp2
              simp only [Exit.jump]
              go_ret
              exact ⟨_, _, _, _, rfl, (hk2.trans hkf).trans (Kp.of_below hbw3), hr2.below hbw3, rd_fault (HV.out.trans (vgo_zero (by omega) rfl)) (by omega) (by omega) (by unfold fq; rw [if_neg (by omega)]; try omega)⟩
            · go_wp2_with fail
              refine (good_any _ _ _ _ _ _ hr1).mono ?_
              rintro e w3 ⟨rfl, hbw3⟩
              go_wp2
              simp only [Exit.jump]
              go_ret
              exact ⟨orv i X _, _, _, _, rfl, hk2.trans (Kp.of_below hbw3), hr1.below hbw3, by rw [(HOR.out (fun h => by have := H9.out; omega)).1]; exact rd_done (HV.out.trans (vgo_done (by have := H9.out; omega) (fun h => by omega) (by omega)) |>.trans (by rw [Int.emod_eq_of_lt (by omega) (by omega)]))⟩
          · have hbz : (bb == 0) = false := by simpa using hb0
            have HB0 := Lib.hid hb0
            clear hb0
            go_wp2_with fail
            refine (good_any _ _ _ _ _ _ hr1).mono ?_
            rintro e w3 ⟨rfl, hbw3⟩
            go_wp2
            simp only [Exit.jump]
            go_ret
            exact ⟨orv i X _, _, _, _, rfl, hk2.trans (Kp.of_below hbw3), hr1.below hbw3, by rw [(HOR.out (fun h => by have := H9.out; omega)).1]; exact rd_done (HV.out.trans (vgo_done (by have := H9.out; omega) (fun h => HB0.out h.2) (by omega)) |>.trans (by rw [Int.emod_eq_of_lt (by omega) (by omega)]))⟩
    · obtain ⟨rfl, rfl, rfl, rfl⟩ := skip_over hs (by omega) (by omega)
      have hpn : p + i = n := by omega
      have hdr : z.drop (p.toNat + i) = [] := List.drop_eq_nil_of_le (by have := hz.1; omega)
      rw [hdr, vgo_nil] at hv
      have HV := Lib.hid hv
      have HPN := Lib.hid hpn
      have hk2 := hk.trans hk1
      clear hv hdr hs hk hk1 hpn hz1 hr
      rw [if_neg (by simp)]
      by_cases hi0 : 0 < (i : Int)
      · by_cases hi9 : i = 9
        · have hi9d : ((i : Int) == 9) = true := by simp; omega
          clear hi9
          go_wp2_with fail
          refine (at_any _ _ _ _ _ _ hr1).mono ?_
          rintro e w2 ⟨rfl, rfl⟩
          go_wp2_with fail
          refine (fail_no _ _ _ _ _ _ _ _ hr1 rfl).mono ?_
          rintro e w2 ⟨rfl, hbf⟩
          go_wp2_with fail
          refine (good_any _ _ _ _ _ _ (hr1.below hbf)).mono ?_
          rintro e w3 ⟨rfl, hbw3⟩
          go_wp2
          simp only [Exit.jump]
          go_ret
          exact ⟨_, _, _, _, rfl, (hk2.trans (Kp.of_below hbf)).trans (Kp.of_below hbw3), (hr1.below hbf).below hbw3, rd_short HV.out HPN.out⟩
        · have hi9d : ((i : Int) == 9) = false := by simp; omega
          clear hi9
          go_wp2_with fail
          refine (at_any _ _ _ _ _ _ hr1).mono ?_
          rintro e w2 ⟨rfl, rfl⟩
          go_wp2_with fail
          refine (fail_no _ _ _ _ _ _ _ _ hr1 rfl).mono ?_
          rintro e w2 ⟨rfl, hbf⟩
          go_wp2_with fail
          refine (good_any _ _ _ _ _ _ (hr1.below hbf)).mono ?_
          rintro e w3 ⟨rfl, hbw3⟩
          go_wp2
          simp only [Exit.jump]
          go_ret
          exact ⟨_, _, _, _, rfl, (hk2.trans (Kp.of_below hbf)).trans (Kp.of_below hbw3), (hr1.below hbf).below hbw3, rd_short HV.out HPN.out⟩
      · have hi9d : ((i : Int) == 9) = false := by simp; omega
        go_wp2_with fail
        refine (good_any _ _ _ _ _ _ hr1).mono ?_
        rintro e w3 ⟨rfl, hbw3⟩
        go_wp2
        simp only [Exit.jump]
        go_ret
        exact ⟨_, _, _, _, rfl, hk2.trans (Kp.of_below hbw3), hr1.below hbw3, rd_short HV.out HPN.out⟩

theorem vread_any (b : Nat) (a : Option Addr) (n m : Nat) (z : List Int) (p c q : Int) (w : World) (h : IsRd w b (.slice a n m) p c q) (hz : Bs w a n z) (h0 : 0 ≤ p) (h1 : p ≤ n) (hn : n ≤ 1000000) (hby : ∀ x ∈ z, 0 ≤ x ∧ x < 256) :
    Calls Try.prog 40 #[.pointer (some ⟨b, 0, none⟩)] w (RdPost b (.slice a n m) n z p c q w) := by
  by_cases hc : c = 0
  · subst hc; exact vread_good b a n m z p q w h hz h0 h1 hn hby
  · exact vread_bad b a n m z p c q w h hz h0 h1 hn hc
end Go.Proofs.Ytkedmhopajpkhaa.Cur
