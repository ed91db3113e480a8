/- SeekGoes: called with any bytes and any int, the law returns true; no condition. -/
import Derived.Test.YtgiemddiiognlaaRows
import Derived.Test.YtgiemddiiognlaaSekE
import Derived.ProofKit
import Derived.OpenShut
import Derived.ShutString
import Derived.ChangeOld
namespace Go.Proofs.Ytgiemddiiognlaa.seekGoes
open Go.ChangeShapes Go.WideShapes Go.ChangeAt Go.RowKit
open Go.ChangeMaps (open_string shut_string)
set_option linter.unusedVariables false

theorem own : ownKnob Try.prog.godebug = none := by kernel_rfl
theorem laidOut : laidOutB Try.prog = true := by kernel_rfl
open Cur Mem
attribute [local go_sem] Oper.semAt_some

theorem goes (z : List Int) (k : Nat) (hk : k + 1 < z.length) (hn : z.length ≤ 60000) : (bof z k (alls k) = 0 ∧ bnf z k (alls k) = 0) ∨ ∃ N : Int, bnf z k (alls k) = N ∧ 4 ≤ N ∧ N ≤ 60000 ∧ mv z ((k : Int) + 1) (bof z k (alls k)) = N - 1 ∧ (5 ≤ N → N - 1 ≤ bnf z ((k : Int) + 1) (alls ((k : Int) + 1))) := by
  rcases best_cases z k with ⟨h1, h2, _⟩ | ⟨p, hp, h1, h2, h3, _, _⟩
  · exact .inl ⟨h1, h2⟩
  · have hpm := alls_mem.1 hp
    rw [Int.toNat_natCast] at h2 h3
    have hpk : p ≤ k := by omega
    have hnx := mt_next (z := z) hpk (by omega)
    have hle := mt_le z k p
    have hp1 : p + 1 ∈ alls ((k : Int) + 1) := alls_mem.2 (by omega)
    have ek : ((k : Int) + 1).toNat = k + 1 := by omega
    refine .inr ⟨_, h2, by omega, by omega, ?_, fun h5 => ?_⟩
    · rw [h1]
      unfold mv
      rw [if_pos (by omega), ek, show ((k : Int) + 1 - (k - p)).toNat = p + 1 by omega, hnx]
      omega
    · rcases best_cases z ((k : Int) + 1) with ⟨_, _, h6⟩ | ⟨q, _, _, h7, _, h8, _⟩
      · have := h6 (p + 1) hp1
        rw [ek] at this
        omega
      · have := h8 (p + 1) hp1
        rw [ek] at this h7
        rw [hnx] at this
        rw [h7]
        generalize mt z (k + 1) q = X at *
        generalize mt z k p = Y at *
        clear h7 h8 hp1 hp hpm hnx h1 h2
        omega
theorem far (z : List Int) (a : Int) (h : a < 0 ∨ (z.length : Int) ≤ a) : bof z a (alls a) = 0 ∧ bnf z a (alls a) = 0 := by
  rcases best_cases z a with ⟨h1, h2, _⟩ | ⟨p, hp, _, _, h3, _, _⟩
  · exact ⟨h1, h2⟩
  · have := alls_mem.1 hp
    have := mt_le z a.toNat p
    omega


set_option maxRecDepth 100000 in
set_option maxHeartbeats 4000000 in
theorem walk {H : Type} (enc : TypeId × Value → H) (w : World) (base : Nat) (v0 : Value) (d0 : DataW H) (p0 : List MemPlace) (g0 : Value.okWide Try.prog w .any base 22 v0) (h0 : DataW.Trod enc Try.prog w 0 (fun _ => true) true 22 v0 d0 p0) (v1 : Value) (d1 : DataW H) (p1 : List MemPlace) (g1 : Value.okWide Try.prog w .any base 3 v1) (h1 : DataW.Trod enc Try.prog w 0 (fun _ => true) true 3 v1 d1 p1) :
    Calls Try.prog 5 #[v0, v1] w fun e w' => e = .returned (.bool true) ∧ Below w.heap.size w w' := by
  obtain ⟨A, n, m, z, rfl, hnm, hz, hby, _⟩ := open_bytes g0 h0
  obtain ⟨a, rfl, ha⟩ := open_i64 g1 h1
  clear g0 h0 g1 h1
  have hzl := hz.1
  by_cases h200 : 200 < n
  · clear hz hby
    go_enter Try.func5, Try.ntmps5
    go_wp2_with fail
    refine (live14_any _).mono ?_
    rintro e w15 ⟨rfl, hb15⟩
    go_wp2
    go_ret
    exact ⟨rfl, hb15⟩
  · by_cases h0 : a < 0
    · clear hz hby
      go_enter Try.func5, Try.ntmps5
      go_wp2_with fail
      refine (live14_any _).mono ?_
      rintro e w15 ⟨rfl, hb15⟩
      go_wp2
      go_ret
      exact ⟨rfl, hb15⟩
    · by_cases htop : a = 9223372036854775807
      · have hw : IntKind.i64.wrap (a + 1) = -9223372036854775808 := by rw [htop]; decide +kernel
        have hd1 : decide ((200 : Int) < n) = false := decide_eq_false (by omega)
        have hd2 : decide ((n : Int) ≤ -9223372036854775808) = false := decide_eq_false (by omega)
        have h1 := sbest_any (w := w) (m := m) a hz hby hnm (by omega) (by omega)
        have HZ := Lib.hid hz
        have HBY := Lib.hid hby
        have f1 := far z a (.inr (by omega))
        have f2 := far z (-9223372036854775808) (.inl (by omega))
        unfold BstPost at h1
        rw [f1.1, f1.2] at h1
        clear hz hby htop
        go_enter Try.func5, Try.ntmps5
        go_wp2_with fail
        refine h1.mono ?_
        rintro e w2 ⟨rfl, hb2⟩
        have h2 := sbest_any (w := w2) (m := m) (-9223372036854775808) (HZ.out.below hb2) HBY.out hnm (by omega) (by omega)
        unfold BstPost at h2
        rw [f2.1, f2.2] at h2
        clear h1
        go_wp2_with fail
        refine h2.mono ?_
        rintro e w3 ⟨rfl, hb3⟩
        have HB := Lib.hid (hb2.trans (hb3.mono hb2.size))
        clear h2 hb3
        go_wp2_with fail
        refine (live14_any _).mono ?_
        rintro e w15 ⟨rfl, hb15⟩
        have HB2 := Lib.hid (HB.out.trans (hb15.mono HB.out.size))
        clear hb15
        go_wp2
        go_ret
        exact ⟨rfl, HB2.out⟩
      · obtain ⟨k, rfl⟩ : ∃ k : Nat, a = k := ⟨a.toNat, by omega⟩
        by_cases hge : (n : Int) ≤ (k : Int) + 1
        · clear hz hby
          go_enter Try.func5, Try.ntmps5
          go_wp2_with fail
          refine (live14_any _).mono ?_
          rintro e w15 ⟨rfl, hb15⟩
          go_wp2
          go_ret
          exact ⟨rfl, hb15⟩
        · have h1 := sbest_any (w := w) (m := m) k hz hby hnm (by omega) (by omega)
          have HZ := Lib.hid hz
          have HBY := Lib.hid hby
          have hg := goes z k (by omega) (by omega)
          unfold BstPost at h1
          obtain ⟨off, hoff⟩ : ∃ off, bof z k (alls k) = off := ⟨_, rfl⟩
          obtain ⟨N, hN⟩ : ∃ N, bnf z k (alls k) = N := ⟨_, rfl⟩
          obtain ⟨off2, hoff2⟩ : ∃ off, bof z ((k : Int) + 1) (alls ((k : Int) + 1)) = off := ⟨_, rfl⟩
          obtain ⟨N2, hN2⟩ : ∃ N, bnf z ((k : Int) + 1) (alls ((k : Int) + 1)) = N := ⟨_, rfl⟩
          rw [hoff, hN] at h1 hg
          rw [hN2] at hg
          have HG := Lib.hid hg
          have HO2 := Lib.hid hoff2
          have HN2 := Lib.hid hN2
          have hd1 : decide ((200 : Int) < n) = false := decide_eq_false (by omega)
          have hd2 : decide ((k : Int) < 0) = false := decide_eq_false (by omega)
          have hd3 : decide ((n : Int) ≤ (k : Int) + 1) = false := decide_eq_false (by omega)
          have hk2 : k ≤ 200 := by omega
          have HZL := Lib.hid hzl
          have HH : Hid (n ≤ 60000) := Lib.hid (by omega)
          clear hz hby hg hoff hN hoff2 hN2 htop h0 hge hzl ha h200
          go_enter Try.func5, Try.ntmps5
          go_wp2_with fail
          refine h1.mono ?_
          rintro e w2 ⟨rfl, hb2⟩
          have h2 := sbest_any (w := w2) (m := m) ((k : Int) + 1) (HZ.out.below hb2) HBY.out hnm HH.out (by omega)
          unfold BstPost at h2
          rw [HO2.out, HN2.out] at h2
          clear h1
          go_wp2_with fail
          refine h2.mono ?_
          rintro e w3 ⟨rfl, hb3⟩
          have HB := Lib.hid (hb2.trans (hb3.mono hb2.size))
          clear h2 hb2 hb3
          rcases HG.out with ⟨rfl, rfl⟩ | ⟨N', rfl, hN4, hN6, hmv, h5⟩
          · go_wp2_with fail
            refine (live14_any _).mono ?_
            rintro e w15 ⟨rfl, hb15⟩
            have HB2 := Lib.hid (HB.out.trans (hb15.mono HB.out.size))
            clear hb15
            go_wp2
            go_ret
            exact ⟨rfl, HB2.out⟩
          · have hM := match_any (w := w3) (m := m) ((k : Int) + 1) off (HZ.out.below HB.out) HBY.out hnm (by have := HH.out; omega) (by omega)
            unfold MatchPost at hM
            rw [hmv] at hM
            have hb0 : (N == 0) = false := by simp <;> omega
            clear hmv HG
            go_wp2_with fail
            refine hM.mono ?_
            rintro e w4 ⟨rfl, q4, rfl⟩
            have HB3 := Lib.hid (below_drewN HB.out q4)
            clear hM HB
            by_cases hN5 : N < 5
            · clear h5
              go_wp2_with fail
              refine (live14_any _).mono ?_
              rintro e w15 ⟨rfl, hb15⟩
              have HB2 := Lib.hid (HB3.out.trans (hb15.mono HB3.out.size))
              clear hb15
              go_wp2
              go_ret
              exact ⟨rfl, HB2.out⟩
            · have h6 : N - 1 ≤ N2 := h5 (by omega)
              clear h5
              go_wp2_with fail
              refine (live14_any _).mono ?_
              rintro e w15 ⟨rfl, hb15⟩
              have HB2 := Lib.hid (HB3.out.trans (hb15.mono HB3.out.size))
              clear hb15
              go_wp2
              go_ret
              exact ⟨rfl, HB2.out⟩

set_option maxRecDepth 100000 in
theorem lifted (os : Os) (started : os.Started) (H : Type) (enc : TypeId × Value → H) :
    ReturnsInHanded {} Try.checked os 5 .any (Rows.seekGoesSpec.pre6 enc Try.prog Try.f5 Rows.seekGoesRow.domain false) (Rows.seekGoesSpec.post enc Try.prog Try.f5 false true false false) := by
  refine returnsInHanded_of_change (C := Try.checked) own started (by kernel_rfl) Try.func5
    (ChangeSpec.witness6 (enc := enc) (C := Try.checked) false ⟨#[], #[.slice none 0 0, .int .i64 0], []⟩ 8 (by kernel_rfl) (by kernel_rfl) (by kernel_rfl) (by kernel_rfl)) ?_
  intro W base args ds gs before hval0 hW hcnd _
  have hval : ∀ (j : Nat) t v, Try.f5.params[j]? = some t → args[j]? = some v → Value.okWide Try.prog W .any base t v := hval0
  have hW' := hW
  obtain ⟨p, q, hA0, hV, rfl, hfz, hnd⟩ := hW
  have hA : DataW.TrodAll enc Try.prog W 0 (fun _ => true) true Try.f5.params.toList args.toList ds p := hA0
  rw [Try.params5] at hA hval
  obtain ⟨v0, vs0, d0, ds0, p0, q0, hargs, rfl, rfl, h0, r0⟩ := trodAll_cons hA
  obtain ⟨v1, vs1, d1, ds1, p1, q1, rfl, rfl, rfl, h1, r1⟩ := trodAll_cons r0
  obtain ⟨rfl, rfl, rfl⟩ := trodAll_nil r1
  obtain rfl : args = #[v0, v1] := by cases args; simp_all
  obtain ⟨rfl, rfl⟩ := trodVars_none hV
  have lt0 : ∀ x ∈ p0, x.block < W.heap.size := by obtain ⟨m, hm⟩ := h0; exact DataW.trod_lt m _ _ _ hm
  have lt1 : ∀ x ∈ p1, x.block < W.heap.size := by obtain ⟨m, hm⟩ := h1; exact DataW.trod_lt m _ _ _ hm
  clear hA0 hval0
  refine (walk enc W base v0 d0 p0 (hval 0 22 v0 rfl rfl) h0 v1 d1 p1 (hval 1 3 v1 rfl rfl) h1).mono fun e W' ⟨he, bel⟩ => ?_
  subst he
  exact ⟨_, rfl, _, _, _, [], _, [], hW', trodAll_mk1 (shut_bool Try.underlying4 _), (trodAll_cons_mk (Below.trod laidOut (by kernel_rfl) (of_decide_eq_true (by kernel_rfl)) h0 bel lt0) (trodAll_cons_mk (Below.trod laidOut (by kernel_rfl) (of_decide_eq_true (by kernel_rfl)) h1 bel lt1) trodAll_mk0)), rfl, bel.frame _, fun h => by cases h⟩

theorem over : Rows.seekGoesRow.holds Try.pinned (OpenSpec.ofChange Rows.seekGoesSpec) :=
  OpenClaim.holds_of_wide 5 Try.f5 rfl rfl rfl rfl rfl rfl rfl ⟨rfl, rfl, rfl, rfl, rfl⟩ rfl rfl rfl rfl rfl (by kernel_rfl) Try.func5 (by kernel_rfl)
    (of_decide_eq_true (by kernel_rfl)) (by unfold Func.isWrapper; first | (rw [if_pos (by decide +kernel)]; kernel_rfl) | (rw [if_neg (by decide +kernel)]; exact ⟨rfl, rfl⟩))
    (fun os started H enc _ => lifted os started H enc)

/-- THE STATEMENT. -/
theorem proved : Rows.SeekGoesSaid := over
#print axioms proved
end Go.Proofs.Ytgiemddiiognlaa.seekGoes
