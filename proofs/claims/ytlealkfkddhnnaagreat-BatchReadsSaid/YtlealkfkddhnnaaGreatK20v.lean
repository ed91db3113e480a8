/- As the seat's text, without what nothing here names. -/
import Derived.Test.YtlealkfkddhnnaaGreatK5v
import Derived.IntWalk
namespace Go.Proofs.YtlealkfkddhnnaaGreat.Cur
open Go.RowKit Mem
set_option linter.unusedVariables false
def epk (x : Int) : Bool := decide (1 ≤ x ∧ x ≤ 4611686018427387903)
def psk (x : Int) : Bool := decide (x ≤ 4611686018427387903)
theorem epk_yes {x : Int} (h0 : 1 ≤ x) (h1 : x ≤ 4611686018427387903) : epk x = true := decide_eq_true ⟨h0, h1⟩
theorem epk_low {x : Int} (h0 : ¬ 1 ≤ x) : epk x = false := decide_eq_false fun h => h0 h.1
theorem epk_high {x : Int} (h0 : ¬ x ≤ 4611686018427387903) : epk x = false := decide_eq_false fun h => h0 h.2
theorem eright_any (x : Int) (w : World) : Calls Tryz.prog 39 #[.int .u64 x] w fun e w' => e = .returned (.bool (epk x)) ∧ w = w' := by
  by_cases h0 : 1 ≤ x
  · by_cases h1 : x ≤ 4611686018427387903
    · have hv := epk_yes h0 h1
      generalize epk x = v at hv
      go_enter Tryz.func39, Tryz.ntmps39
      go_wp2
      go_ret
      first | exact ⟨rfl, rfl⟩ | exact ⟨by rw [hv]; rfl, rfl⟩
    · have hv := epk_high h1
      generalize epk x = v at hv
      go_enter Tryz.func39, Tryz.ntmps39
      go_wp2
      go_ret
      first | exact ⟨rfl, rfl⟩ | exact ⟨by rw [hv]; rfl, rfl⟩
  · have hv := epk_low h0
    generalize epk x = v at hv
    go_enter Tryz.func39, Tryz.ntmps39
    go_wp2
    go_ret
    first | exact ⟨rfl, rfl⟩ | exact ⟨by rw [hv]; rfl, rfl⟩
theorem rright17_any (x : Int) (h : 0 ≤ x) (w : World) : Calls Tryz.prog 43 #[.int .u64 x] w fun e w' => e = .returned (.bool (epk x)) ∧ w = w' := by
  by_cases h0 : 0 < x
  · by_cases h1 : x ≤ 4611686018427387903
    · have hv := epk_yes h0 h1
      generalize epk x = v at hv
      go_enter Tryz.func43, Tryz.ntmps43
      go_wp2
      go_ret
      first | exact ⟨rfl, rfl⟩ | exact ⟨by rw [hv]; rfl, rfl⟩
    · have hv := epk_high h1
      generalize epk x = v at hv
      go_enter Tryz.func43, Tryz.ntmps43
      go_wp2
      go_ret
      first | exact ⟨rfl, rfl⟩ | exact ⟨by rw [hv]; rfl, rfl⟩
  · have hv := epk_low (x := x) (by omega)
    generalize epk x = v at hv
    go_enter Tryz.func43, Tryz.ntmps43
    go_wp2
    go_ret
    first | exact ⟨rfl, rfl⟩ | exact ⟨by rw [hv]; rfl, rfl⟩
theorem epos_any (x : Int) (w : World) : Calls Tryz.prog 66 #[.int .u64 x] w fun e w' => e = .returned (.bool (psk x)) ∧ w = w' := by
  have hv : psk x = decide (x < 4611686018427387904) := by unfold psk; congr 1; exact propext ⟨fun h => by omega, fun h => by omega⟩
  generalize psk x = v at hv
  go_enter Tryz.func66, Tryz.ntmps66
  go_wp2
  go_ret
  first | exact ⟨rfl, rfl⟩ | exact ⟨by rw [hv]; rfl, rfl⟩
theorem rpos17_any (x : Int) (w : World) : Calls Tryz.prog 73 #[.int .u64 x] w fun e w' => e = .returned (.bool (psk x)) ∧ w = w' := by
  have hv : psk x = decide (x ≤ 4611686018427387903) := rfl
  generalize psk x = v at hv
  go_enter Tryz.func73, Tryz.ntmps73
  go_wp2
  go_ret
  first | exact ⟨rfl, rfl⟩ | exact ⟨by rw [hv]; rfl, rfl⟩
end Go.Proofs.YtlealkfkddhnnaaGreat.Cur
namespace Go.Proofs.YtlealkfkddhnnaaGreat.Cur
open Go.RowKit Mem
set_option linter.unusedVariables false
end Go.Proofs.YtlealkfkddhnnaaGreat.Cur
namespace Go.Proofs.YtlealkfkddhnnaaGreat.Cur
open Go.RowKit Mem
set_option linter.unusedVariables false
def EPutPost (ok : Int → Bool) (B b : Nat) (r : Option Nat) (z : List Int) (M c x : Int) (w : World) (e : Ending) (w' : World) : Prop :=
  (ok x = true ∧ WPutPost B b r z (vz x) M c w e w') ∨ (ok x = false ∧ WFailPost B b r z M c 3 w e w')
theorem eput0_yes {w : World} {B b : Nat} {r : Option Nat} {z : List Int} {M c : Int} (x : Int) (h : Wr w B b r z M c) (h0 : 0 ≤ x) (h1 : x < 18446744073709551616) (hsz : z.length ≤ 900000) (hBw : B ≤ w.heap.size) :
    Calls Tryz.prog 65 #[.pointer (some ⟨b, 0, none⟩), .int .u64 x, .bool true] w (WPutPost B b r z (vz x) M c w) := by
  go_enter Tryz.func65, Tryz.ntmps65
  go_wp2_with fail
  refine (vput_any _ h h0 h1 hsz hBw).mono ?_
  rintro e w' ⟨r', rfl, hk, hg, hw⟩
  go_wp2
  go_end0
  exact ⟨r', rfl, hk, hg, hw⟩
theorem eput0_no {w : World} {B b : Nat} {r : Option Nat} {z : List Int} {M c : Int} (x : Int) (h : Wr w B b r z M c) :
    Calls Tryz.prog 65 #[.pointer (some ⟨b, 0, none⟩), .int .u64 x, .bool false] w (WFailPost B b r z M c 3 w) := by
  go_enter Tryz.func65, Tryz.ntmps65
  go_wp2_with fail
  refine (wfail_any 3 h).mono ?_
  rintro e w' ⟨rfl, hk, hw⟩
  have HW := Lib.hid hw
  clear hw
  go_wp2
  go_end0
  exact ⟨rfl, hk, HW.out⟩
theorem eput_any {w : World} {B b : Nat} {r : Option Nat} {z : List Int} {M c : Int} (x : Int) (h : Wr w B b r z M c) (h0 : 0 ≤ x) (h1 : x < 18446744073709551616) (hsz : z.length ≤ 900000) (hBw : B ≤ w.heap.size) :
    Calls Tryz.prog 32 #[.pointer (some ⟨b, 0, none⟩), .int .u64 x] w (EPutPost epk B b r z M c x w) := by
  generalize hk : epk x = k
  cases k
  · go_enter Tryz.func32, Tryz.ntmps32
    go_wp2_with fail
    refine (eright_any _ _).mono ?_
    rintro e w' ⟨rfl, rfl⟩
    rw [hk]
    go_wp2_with fail
    refine (eput0_no x h).mono ?_
    rintro e w' hp
    obtain ⟨rfl, hp1, hp2⟩ := hp
    have HP := Lib.hid hp2
    clear hp2
    go_wp2
    go_end0
    exact .inr ⟨hk, rfl, hp1, HP.out⟩
  · go_enter Tryz.func32, Tryz.ntmps32
    go_wp2_with fail
    refine (eright_any _ _).mono ?_
    rintro e w' ⟨rfl, rfl⟩
    rw [hk]
    go_wp2_with fail
    refine (eput0_yes x h h0 h1 hsz hBw).mono ?_
    rintro e w' ⟨r', rfl, hk', hg, hw⟩
    go_wp2
    go_end0
    exact .inl ⟨hk, r', rfl, hk', hg, hw⟩
theorem eputpos_any {w : World} {B b : Nat} {r : Option Nat} {z : List Int} {M c : Int} (x : Int) (h : Wr w B b r z M c) (h0 : 0 ≤ x) (h1 : x < 18446744073709551616) (hsz : z.length ≤ 900000) (hBw : B ≤ w.heap.size) :
    Calls Tryz.prog 33 #[.pointer (some ⟨b, 0, none⟩), .int .u64 x] w (EPutPost psk B b r z M c x w) := by
  generalize hk : psk x = k
  cases k
  · go_enter Tryz.func33, Tryz.ntmps33
    go_wp2_with fail
    refine (epos_any _ _).mono ?_
    rintro e w' ⟨rfl, rfl⟩
    rw [hk]
    go_wp2_with fail
    refine (eput0_no x h).mono ?_
    rintro e w' hp
    obtain ⟨rfl, hp1, hp2⟩ := hp
    have HP := Lib.hid hp2
    clear hp2
    go_wp2
    go_end0
    exact .inr ⟨hk, rfl, hp1, HP.out⟩
  · go_enter Tryz.func33, Tryz.ntmps33
    go_wp2_with fail
    refine (epos_any _ _).mono ?_
    rintro e w' ⟨rfl, rfl⟩
    rw [hk]
    go_wp2_with fail
    refine (eput0_yes x h h0 h1 hsz hBw).mono ?_
    rintro e w' ⟨r', rfl, hk', hg, hw⟩
    go_wp2
    go_end0
    exact .inl ⟨hk, r', rfl, hk', hg, hw⟩
def ve (ok : Int → Bool) (z : List Int) (p : Int) : Rs Int := if (vg z p).2.2.1 ≠ 0 then (0, 0, (vg z p).2.2.1, (vg z p).2.2.2) else if ok (vg z p).1 then vg z p else (0, 0, 3, p)
theorem ve_st {ok : Int → Bool} {n : Nat} {z : List Int} {p c q v0 p' c0 q0 v c' q' : Int} (h : St 0 n (vg z p) p c q v0 p' c0 q0)
    (hv : (ok v0 = false ∧ v = 0 ∧ FailSt c0 q0 3 p c' q') ∨ ((ok v0 = true ∨ c0 ≠ 0) ∧ v = v0 ∧ c' = c0 ∧ q' = q0)) : St 0 n (ve ok z p) p c q v p' c' q' := by
  obtain ⟨k0, k1, k⟩ := h
  refine ⟨k0, k1, ?_⟩
  rcases k with ⟨a0, rfl, rfl, rfl⟩ | ⟨a0, a1, rfl, rfl, rfl, rfl⟩ | ⟨a0, a1, rfl, rfl, rfl⟩
  · refine .inl ⟨a0, ?_⟩
    rcases hv with ⟨_, rfl, hf⟩ | ⟨_, rfl, rfl, rfl⟩
    · rcases hf with ⟨hf, _⟩ | ⟨_, rfl, rfl⟩
      · exact absurd hf a0
      · exact ⟨rfl, rfl, rfl⟩
    · exact ⟨rfl, rfl, rfl⟩
  · rcases hv with ⟨hm, rfl, hf⟩ | ⟨hm, rfl, rfl, rfl⟩
    · rcases hf with ⟨_, rfl, hq⟩ | ⟨hf, _⟩
      · refine .inr (.inr ⟨a0, ?_⟩)
        unfold ve
        rw [if_neg (by simp [a1]), if_neg (by simp [hm])]
        exact ⟨by show (3 : Int) ≠ 0; decide, rfl, rfl, hq⟩
      · exact absurd rfl hf
    · refine .inr (.inl ⟨a0, ?_⟩)
      unfold ve
      rw [if_neg (by simp [a1]), if_pos (hm.resolve_right (fun h => h rfl))]
      exact ⟨a1, rfl, rfl, rfl, rfl⟩
  · refine .inr (.inr ⟨a0, ?_⟩)
    unfold ve
    rw [if_pos a1]
    rcases hv with ⟨_, rfl, hf⟩ | ⟨_, rfl, rfl, rfl⟩
    · rcases hf with ⟨hf, _⟩ | ⟨_, rfl, rfl⟩
      · exact absurd hf a1
      · exact ⟨a1, rfl, rfl, rfl⟩
    · exact ⟨a1, rfl, rfl, rfl⟩
def EPost (ok : Int → Bool) (b : Nat) (s : Value) (n : Nat) (z : List Int) (p c q : Int) (w : World) (e : Ending) (w' : World) : Prop :=
  ∃ v p' c' q', e = .returned (.int .u64 v) ∧ Kp b w w' ∧ IsRd w' b s p' c' q' ∧ St 0 n (ve ok z p) p c q v p' c' q'
set_option maxHeartbeats 800000 in
theorem eread0_e (b : Nat) (a : Option Addr) (n m : Nat) (z : List Int) (p c q : Int) (w : World) (h : IsRd w b (.slice a n m) p c q) (hz : Bs w a n z) (h0 : 0 ≤ p) (h1 : p ≤ n) (hn : n ≤ 1000000) (hby : ∀ x ∈ z, 0 ≤ x ∧ x < 256) :
    Calls Tryz.prog 122 #[.pointer (some ⟨b, 0, none⟩), .func (.func 39) #[] #[]] w (EPost epk b (.slice a n m) n z p c q w) := by
  have HBY := Lib.hid hby
  clear hby
  go_enter Tryz.func122, Tryz.ntmps122
  go_wp2_with fail
  refine (at_any _ _ _ _ _ _ h).mono ?_
  rintro e w0 ⟨rfl, rfl⟩
  go_wp2_with fail
  refine (vread_any _ _ _ _ _ _ _ _ _ h hz h0 h1 hn HBY.out).mono ?_
  rintro e w1 ⟨v0, p', c0, q0, rfl, hk, hr, hs⟩
  have HS := Lib.hid (hs.st hz.1 h0 h1 HBY.out)
  clear hs
  go_wp2_with fail
  refine (eright_any _ _).mono ?_
  rintro e w2 ⟨rfl, rfl⟩
  generalize hv : epk v0 = k
  have HV := Lib.hid hv
  clear hv
  cases k
  · go_wp2_with fail
    refine (fail_any _ _ _ _ _ _ _ _ hr).mono ?_
    rintro e w2 ⟨c2, q2, rfl, hk2, hr2, hf⟩
    have HF := Lib.hid hf
    clear hf
    go_wp2
    go_ret
    exact ⟨0, _, _, _, rfl, hk.trans hk2, hr2, ve_st HS.out (.inl ⟨HV.out, rfl, HF.out⟩)⟩
  · go_wp2
    go_ret
    exact ⟨v0, _, _, _, rfl, hk, hr, ve_st HS.out (.inr ⟨.inl HV.out, rfl, rfl, rfl⟩)⟩
set_option maxHeartbeats 800000 in
theorem eread0_p (b : Nat) (a : Option Addr) (n m : Nat) (z : List Int) (p c q : Int) (w : World) (h : IsRd w b (.slice a n m) p c q) (hz : Bs w a n z) (h0 : 0 ≤ p) (h1 : p ≤ n) (hn : n ≤ 1000000) (hby : ∀ x ∈ z, 0 ≤ x ∧ x < 256) :
    Calls Tryz.prog 122 #[.pointer (some ⟨b, 0, none⟩), .func (.func 66) #[] #[]] w (EPost psk b (.slice a n m) n z p c q w) := by
  have HBY := Lib.hid hby
  clear hby
  go_enter Tryz.func122, Tryz.ntmps122
  go_wp2_with fail
  refine (at_any _ _ _ _ _ _ h).mono ?_
  rintro e w0 ⟨rfl, rfl⟩
  go_wp2_with fail
  refine (vread_any _ _ _ _ _ _ _ _ _ h hz h0 h1 hn HBY.out).mono ?_
  rintro e w1 ⟨v0, p', c0, q0, rfl, hk, hr, hs⟩
  have HS := Lib.hid (hs.st hz.1 h0 h1 HBY.out)
  clear hs
  go_wp2_with fail
  refine (epos_any _ _).mono ?_
  rintro e w2 ⟨rfl, rfl⟩
  generalize hv : psk v0 = k
  have HV := Lib.hid hv
  clear hv
  cases k
  · go_wp2_with fail
    refine (fail_any _ _ _ _ _ _ _ _ hr).mono ?_
    rintro e w2 ⟨c2, q2, rfl, hk2, hr2, hf⟩
    have HF := Lib.hid hf
    clear hf
    go_wp2
    go_ret
    exact ⟨0, _, _, _, rfl, hk.trans hk2, hr2, ve_st HS.out (.inl ⟨HV.out, rfl, HF.out⟩)⟩
  · go_wp2
    go_ret
    exact ⟨v0, _, _, _, rfl, hk, hr, ve_st HS.out (.inr ⟨.inl HV.out, rfl, rfl, rfl⟩)⟩
theorem eread_any (b : Nat) (a : Option Addr) (n m : Nat) (z : List Int) (p c q : Int) (w : World) (h : IsRd w b (.slice a n m) p c q) (hz : Bs w a n z) (h0 : 0 ≤ p) (h1 : p ≤ n) (hn : n ≤ 1000000) (hby : ∀ x ∈ z, 0 ≤ x ∧ x < 256) :
    Calls Tryz.prog 87 #[.pointer (some ⟨b, 0, none⟩)] w (EPost epk b (.slice a n m) n z p c q w) := by
  have HBY := Lib.hid hby
  clear hby
  go_enter Tryz.func87, Tryz.ntmps87
  go_wp2_with fail
  refine (eread0_e _ _ _ _ _ _ _ _ _ h hz h0 h1 hn HBY.out).mono ?_
  rintro e w1 ⟨v0, p', c0, q0, rfl, hk, hr, hs⟩
  have HS := Lib.hid hs
  clear hs
  go_wp2
  go_ret
  exact ⟨_, _, _, _, rfl, hk, hr, HS.out⟩
theorem ereadpos_any (b : Nat) (a : Option Addr) (n m : Nat) (z : List Int) (p c q : Int) (w : World) (h : IsRd w b (.slice a n m) p c q) (hz : Bs w a n z) (h0 : 0 ≤ p) (h1 : p ≤ n) (hn : n ≤ 1000000) (hby : ∀ x ∈ z, 0 ≤ x ∧ x < 256) :
    Calls Tryz.prog 88 #[.pointer (some ⟨b, 0, none⟩)] w (EPost psk b (.slice a n m) n z p c q w) := by
  have HBY := Lib.hid hby
  clear hby
  go_enter Tryz.func88, Tryz.ntmps88
  go_wp2_with fail
  refine (eread0_p _ _ _ _ _ _ _ _ _ h hz h0 h1 hn HBY.out).mono ?_
  rintro e w1 ⟨v0, p', c0, q0, rfl, hk, hr, hs⟩
  have HS := Lib.hid hs
  clear hs
  go_wp2
  go_ret
  exact ⟨_, _, _, _, rfl, hk, hr, HS.out⟩
def REPost (ok : Int → Bool) (s : Value) (n : Nat) (z : List Int) (p c q : Int) (w : World) (e : Ending) (w' : World) : Prop :=
  ∃ v p' c' q', e = .returned (.tuple #[cv s p' c' q', .int .u64 v]) ∧ Below w.heap.size w w' ∧ St 0 n (ve ok z p) p c q v p' c' q'
set_option maxRecDepth 100000 in
set_option maxHeartbeats 1000000 in
theorem rread17_e (a : Option Addr) (n m : Nat) (z : List Int) (p c q : Int) (w : World) (hz : Bs w a n z) (h0 : 0 ≤ p) (h1 : p ≤ n) (hm : n ≤ m) (hn : n ≤ 1000000) (hby : ∀ x ∈ z, 0 ≤ x ∧ x < 256) :
    Calls Tryz.prog 56 #[cv (.slice a n m) p c q, .int .i64 1] w (REPost epk (.slice a n m) n z p c q w) := by
  have HBY := Lib.hid hby
  clear hby
  go_enter Tryz.func56, Tryz.ntmps56
  go_wp2_with fail
  refine (rread_any _ _ _ _ _ _ _ _ (hz.below (below_two _ _ _)) h0 h1 hm hn HBY.out).mono ?_
  rintro e w1 ⟨v0, p', c0, q0, rfl, hb, hs⟩
  obtain ⟨hC, hR, hbd⟩ := two_new hb
  have hnn := hs.nonneg HBY.out
  have HS := Lib.hid (hs.st hz.1 h0 h1 HBY.out)
  have hR2 := hR.alloc (.cells #[.slice a n m, .int .i64 p', .int .i64 c0, .int .i64 q0] 50)
  have hC2 := hC.alloc (.cells #[.slice a n m, .int .i64 p', .int .i64 c0, .int .i64 q0] 50)
  have hbd2 := hbd.trans ((below_one w1 (.cells #[.slice a n m, .int .i64 p', .int .i64 c0, .int .i64 q0] 50)).mono hbd.size)
  clear hs hb
  by_cases hc : c0 = 0
  · subst hc
    obtain ⟨x0, x1, x2, x3⟩ := hC2.c4
    generalize hv : epk v0 = k
    have HV := Lib.hid hv
    cases k
    · go_wp2_with fail
      refine (rright17_any _ hnn _).mono ?_
      rintro e w2 ⟨rfl, rfl⟩
      rw [HV.out]
      go_wp2_with fail
      refine (rfail_any _ _ _ _ _ _ _ _ _).mono ?_
      rintro e w2 ⟨c2, q2, rfl, hb2, hf⟩
      have HF := Lib.hid hf
      have hR3 := hR2.below hb2
      have hbd3 := hbd2.trans (hb2.mono hbd2.size)
      clear hf hb2
      obtain ⟨r0, r1, r2, r3⟩ := hR3.c4
      obtain ⟨g0, g1, g2, g3⟩ := hR3.f4
      go_wp2
      refine bodyPost_ret (v := .tuple #[cv (.slice a n m) p' c2 q2, .int .u64 0]) (by simp [results, Tryz.results56, go_sem, r0, r1, r2, r3]) rfl ⟨0, _, _, _, rfl, ?_, ve_st HS.out (.inl ⟨HV.out, rfl, HF.out⟩)⟩
      iterate 4 (refine Below.setCell ?_ (by simp) _)
      exact hbd3
    · go_wp2_with fail
      refine (rright17_any _ hnn _).mono ?_
      rintro e w2 ⟨rfl, rfl⟩
      rw [HV.out]
      obtain ⟨r0, r1, r2, r3⟩ := hR2.c4
      obtain ⟨g0, g1, g2, g3⟩ := hR2.f4
      go_wp2
      refine bodyPost_ret (v := .tuple #[cv (.slice a n m) p' 0 q0, .int .u64 v0]) (by simp [results, Tryz.results56, go_sem, r0, r1, r2, r3]) rfl ⟨v0, _, _, _, rfl, ?_, ve_st HS.out (.inr ⟨.inl HV.out, rfl, rfl, rfl⟩)⟩
      iterate 4 (refine Below.setCell ?_ (by simp) _)
      exact hbd2
  · have hcb : (c0 != 0) = true := by simpa using hc
    have HC := Lib.hid hc
    have hv0 : v0 = 0 := HS.out.nil hc
    subst hv0
    clear hc
    obtain ⟨r0, r1, r2, r3⟩ := hR2.c4
    obtain ⟨g0, g1, g2, g3⟩ := hR2.f4
    go_wp2
    refine bodyPost_ret (v := .tuple #[cv (.slice a n m) p' c0 q0, .int .u64 0]) (by simp [results, Tryz.results56, go_sem, r0, r1, r2, r3]) rfl ⟨0, _, _, _, rfl, ?_, ve_st HS.out (.inr ⟨.inr HC.out, rfl, rfl, rfl⟩)⟩
    iterate 4 (refine Below.setCell ?_ (by simp) _)
    exact hbd2
set_option maxRecDepth 100000 in
set_option maxHeartbeats 1000000 in
theorem rread17_p (a : Option Addr) (n m : Nat) (z : List Int) (p c q : Int) (w : World) (hz : Bs w a n z) (h0 : 0 ≤ p) (h1 : p ≤ n) (hm : n ≤ m) (hn : n ≤ 1000000) (hby : ∀ x ∈ z, 0 ≤ x ∧ x < 256) :
    Calls Tryz.prog 56 #[cv (.slice a n m) p c q, .int .i64 2] w (REPost psk (.slice a n m) n z p c q w) := by
  have HBY := Lib.hid hby
  clear hby
  go_enter Tryz.func56, Tryz.ntmps56
  go_wp2_with fail
  refine (rread_any _ _ _ _ _ _ _ _ (hz.below (below_two _ _ _)) h0 h1 hm hn HBY.out).mono ?_
  rintro e w1 ⟨v0, p', c0, q0, rfl, hb, hs⟩
  obtain ⟨hC, hR, hbd⟩ := two_new hb
  have hnn := hs.nonneg HBY.out
  have HS := Lib.hid (hs.st hz.1 h0 h1 HBY.out)
  have hR2 := hR.alloc (.cells #[.slice a n m, .int .i64 p', .int .i64 c0, .int .i64 q0] 50)
  have hC2 := hC.alloc (.cells #[.slice a n m, .int .i64 p', .int .i64 c0, .int .i64 q0] 50)
  have hbd2 := hbd.trans ((below_one w1 (.cells #[.slice a n m, .int .i64 p', .int .i64 c0, .int .i64 q0] 50)).mono hbd.size)
  clear hs hb
  by_cases hc : c0 = 0
  · subst hc
    obtain ⟨x0, x1, x2, x3⟩ := hC2.c4
    generalize hv : psk v0 = k
    have HV := Lib.hid hv
    cases k
    · go_wp2_with fail
      refine (rpos17_any _ _).mono ?_
      rintro e w2 ⟨rfl, rfl⟩
      rw [HV.out]
      go_wp2_with fail
      refine (rfail_any _ _ _ _ _ _ _ _ _).mono ?_
      rintro e w2 ⟨c2, q2, rfl, hb2, hf⟩
      have HF := Lib.hid hf
      have hR3 := hR2.below hb2
      have hbd3 := hbd2.trans (hb2.mono hbd2.size)
      clear hf hb2
      obtain ⟨r0, r1, r2, r3⟩ := hR3.c4
      obtain ⟨g0, g1, g2, g3⟩ := hR3.f4
      go_wp2
      refine bodyPost_ret (v := .tuple #[cv (.slice a n m) p' c2 q2, .int .u64 0]) (by simp [results, Tryz.results56, go_sem, r0, r1, r2, r3]) rfl ⟨0, _, _, _, rfl, ?_, ve_st HS.out (.inl ⟨HV.out, rfl, HF.out⟩)⟩
      iterate 4 (refine Below.setCell ?_ (by simp) _)
      exact hbd3
    · go_wp2_with fail
      refine (rpos17_any _ _).mono ?_
      rintro e w2 ⟨rfl, rfl⟩
      rw [HV.out]
      obtain ⟨r0, r1, r2, r3⟩ := hR2.c4
      obtain ⟨g0, g1, g2, g3⟩ := hR2.f4
      go_wp2
      refine bodyPost_ret (v := .tuple #[cv (.slice a n m) p' 0 q0, .int .u64 v0]) (by simp [results, Tryz.results56, go_sem, r0, r1, r2, r3]) rfl ⟨v0, _, _, _, rfl, ?_, ve_st HS.out (.inr ⟨.inl HV.out, rfl, rfl, rfl⟩)⟩
      iterate 4 (refine Below.setCell ?_ (by simp) _)
      exact hbd2
  · have hcb : (c0 != 0) = true := by simpa using hc
    have HC := Lib.hid hc
    have hv0 : v0 = 0 := HS.out.nil hc
    subst hv0
    clear hc
    obtain ⟨r0, r1, r2, r3⟩ := hR2.c4
    obtain ⟨g0, g1, g2, g3⟩ := hR2.f4
    go_wp2
    refine bodyPost_ret (v := .tuple #[cv (.slice a n m) p' c0 q0, .int .u64 0]) (by simp [results, Tryz.results56, go_sem, r0, r1, r2, r3]) rfl ⟨0, _, _, _, rfl, ?_, ve_st HS.out (.inr ⟨.inr HC.out, rfl, rfl, rfl⟩)⟩
    iterate 4 (refine Below.setCell ?_ (by simp) _)
    exact hbd2
end Go.Proofs.YtlealkfkddhnnaaGreat.Cur
