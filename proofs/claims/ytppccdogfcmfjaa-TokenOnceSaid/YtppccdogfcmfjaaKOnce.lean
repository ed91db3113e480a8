/- TokenOnce: called with any bytes, the law returns true; no condition. -/
import Derived.Test.YtppccdogfcmfjaaRows
import Derived.Test.YtppccdogfcmfjaaTokL
import Derived.Test.YtppccdogfcmfjaaTokI
import Derived.Test.YtppccdogfcmfjaaTokE
import Derived.Test.YtppccdogfcmfjaaTokC
import Derived.ProofKit
import Derived.OpenShut
import Derived.ShutString
import Derived.ChangeOld
namespace Go.Proofs.Ytppccdogfcmfjaa.tokenOnce
open Go.ChangeShapes Go.WideShapes Go.ChangeAt Go.RowKit
open Go.ChangeMaps (open_string shut_string)
set_option linter.unusedVariables false

theorem own : ownKnob Try.prog.godebug = none := by kernel_rfl
theorem laidOut : laidOutB Try.prog = true := by kernel_rfl
open Cur Mem


theorem tby_lit (t : Tk) (h : trun t.1.length t.2.1 t.2.2 = true ∨ t.1 = []) : t.1.length ≤ (tby t).length := by
  rcases h with h | h
  · unfold tby; rw [if_pos h, List.length_append]; omega
  · rw [h]; exact Nat.zero_le _
theorem lit_le {T : List Tk} (h : ∀ t ∈ T, tright t = true) : ∀ i, (T.getD i tk0).1.length ≤ (tcat T).length := by
  induction T with
  | nil => intro i; exact Nat.zero_le _
  | cons t T ih =>
    have e : tcat (t :: T) = tby t ++ tcat T := by simp [tcat]
    intro i
    rw [e, List.length_append]
    cases i with
    | zero =>
      have h1 := h t (by simp)
      have h2 : trun t.1.length t.2.1 t.2.2 = true ∨ t.1 = [] := by
        by_cases hr : trun t.1.length t.2.1 t.2.2 = true
        · exact .inl hr
        · refine .inr ?_
          unfold tright at h1
          have hc : tcpy t.1.length t.2.1 t.2.2 = true := by simpa [hr] using h1
          unfold tcpy at hc
          exact List.length_eq_zero_iff.1 (of_decide_eq_true hc).1
      have := tby_lit t h2
      show t.1.length ≤ _
      omega
    | succ i =>
      have := ih (fun x hx => h x (by simp [hx])) i
      show (T.getD i tk0).1.length ≤ _
      omega

set_option maxRecDepth 100000 in
set_option maxHeartbeats 4000000 in
theorem walk {H : Type} (enc : TypeId × Value → H) (w : World) (base : Nat) (v0 : Value) (d0 : DataW H) (p0 : List MemPlace) (g0 : Value.okWide Try.prog w .any base 26 v0) (h0 : DataW.Trod enc Try.prog w 0 (fun _ => true) true 26 v0 d0 p0) :
    Calls Try.prog 6 #[v0] w fun e w' => e = .returned (.bool true) ∧ Below w.heap.size w w' := by
  obtain ⟨a, n, m, z, rfl, hnm, hz, hby, hnil⟩ := open_bytes g0 h0
  clear g0 h0
  have hbd := Below.refl w.heap.size w
  by_cases hn : 500 < (n : Int)
  · go_enter Try.func6, Try.ntmps6
    go_wp2_with fail
    refine (live11_any _).mono ?_
    rintro e w15 ⟨rfl, hb15⟩
    go_wp2
    go_ret
    exact ⟨rfl, hbd.trans (hb15.mono hbd.size)⟩
  have HBY := Lib.hid hby
  have HZL := Lib.hid hz.1
  clear hby
  go_enter Try.func6, Try.ntmps6
  go_wp2_with fail
  refine (tget_any _ _ _ _ _ hz hnm (by omega) HBY.out).mono ?_
  rintro e w3 ⟨v, T, c, q, rfl, ho, hb3, hv⟩
  obtain ⟨Av, cv, rfl⟩ := ho.slice
  obtain ⟨_, _, _, hT⟩ := ho.tks
  have hX := Blk.new w3 #[.int .i64 c, .int .i64 q] 42
  have hbX := below_one w3 (.cells #[.int .i64 c, .int .i64 q] 42)
  replace hbd := hb3.trans (hbX.mono hb3.size)
  replace hT := hT.below hbX
  obtain ⟨x0, x1⟩ := hX.c2
  clear hb3 hbX ho hX
  by_cases hc : c = 0
  · subst hc
    obtain ⟨hall, hcat⟩ := tgv_once HBY.out hv
    have hTl := hT.1
    have hll := tcat_len T
    have hlit := lit_le (T := T) (fun t ht => (hall t ht).1)
    rw [hcat] at hll hlit
    have hzl := hz.1
    have HL : Hid (T.length ≤ 500) := Lib.hid (by omega)
    have HLIT : Hid (∀ i, (T.getD i tk0).1.length ≤ 500) := Lib.hid (fun i => by have := hlit i; omega)
    have HALL : Hid (∀ i, i < T.length → tright (T.getD i tk0) = true) := Lib.hid (fun i hi => by
      rw [List.getD_eq_getElem?_getD, List.getElem?_eq_getElem hi]; exact (hall _ (List.getElem_mem hi)).1)
    have HTA : Hid (tall T T.length = true) := Lib.hid (tall_all (fun t ht => (hall t ht).1) _ (Nat.le_refl _))
    have HTB : Hid (tbs T T.length = z) := Lib.hid (by rw [tbs_tcat, hcat])
    have HTZ : Hid ((tbs T T.length).length ≤ 500) := Lib.hid (by rw [tbs_tcat, hcat]; omega)
    clear hall hcat hTl hll hlit hzl hv
    generalize T.length = k0 at *
    go_wp2
    generalize w3.alloc (.cells #[.int .i64 0, .int .i64 q] 42) = w4 at *
    go_loopw [5] (fun i wr => ∃ k : Nat, k ≤ k0 ∧ i = .int .i64 k ∧ Below w4.heap.size w4 wr) (fun i _ => k0 - (intOf i).toNat)
    case atStart => exact ⟨0, by omega, rfl, Below.refl _ _⟩
    case round =>
      obtain ⟨k, hk, rfl, hb⟩ := hrel
      clear x0 x1
      have hk500 := HL.out
      by_cases hlt : k < k0
      · obtain ⟨b, o, Ar, Lr, Cr, rfl, ⟨c0, c1, c2, hbs⟩, hnil2, hle⟩ := (hT.below hb).2 k hlt
        have HR := HALL.out k hlt
        unfold tright at HR
        rw [hbs.1] at HR
        replace HR := Lib.hid HR
        clear hbs hnil2
        generalize (T.getD k tk0).2.1 = o' at *
        generalize (T.getD k tk0).2.2 = l' at *
        go_wp2_with fail
        refine (rtright_any _ _ _ _ _ _).mono ?_
        rintro e w1 ⟨rfl, hb1⟩
        rw [HR.out]
        have hbX := hb.trans (hb1.mono hb.size)
        clear hb1 hb c0 c1 c2
        go_wp2
        go_roundw
        case rel => exact ⟨k + 1, hlt, by go_num, hbX⟩
        case measure => simp [intOf]; omega
      · obtain rfl : k = k0 := by omega
        have hTr := hT.below hb
        replace hbd := hbd.trans (hb.mono hbd.size)
        go_wp2_with fail
        refine (tbytes_any _ _ _ _ _ hTr (by have := HL.out; omega) (by have := HTZ.out; omega) (fun i => by have := HLIT.out i; omega)).mono ?_
        rintro e w5 ⟨A2, n2, m2, rfl, hb5, hbs, _⟩
        have hkl := hT.1
        rw [hkl, HTA.out, if_pos rfl, HTB.out] at hbs
        rw [hkl, HTA.out, if_pos rfl]
        replace hbd := hbd.trans (hb5.mono hbd.size)
        clear hTr hT hb hb5 hkl
        have hz5 := hz.below hbd
        go_wp2_with fail
        refine (same_any _ _ _ _ _ _ z _ hbs hz5).mono ?_
        rintro e w8 ⟨rfl, rfl⟩
        go_wp2_with fail
        refine (live11_any _).mono ?_
        rintro e w15 ⟨rfl, hb15⟩
        go_wp2
        go_ret
        exact ⟨rfl, hbd.trans (hb15.mono hbd.size)⟩
  · obtain rfl := tgv_nil hv hc
    clear hT hv
    go_wp2_with fail
    refine (live11_any _).mono ?_
    rintro e w15 ⟨rfl, hb15⟩
    go_wp2
    go_ret
    exact ⟨rfl, hbd.trans (hb15.mono hbd.size)⟩

set_option maxRecDepth 100000 in
theorem lifted (os : Os) (started : os.Started) (H : Type) (enc : TypeId × Value → H) :
    ReturnsInHanded {} Try.checked os 6 .any (Rows.tokenOnceSpec.pre6 enc Try.prog Try.f6 Rows.tokenOnceRow.domain false) (Rows.tokenOnceSpec.post enc Try.prog Try.f6 false true false false) := by
  refine returnsInHanded_of_change (C := Try.checked) own started (by kernel_rfl) Try.func6
    (ChangeSpec.witness6 (enc := enc) (C := Try.checked) false ⟨#[], #[.slice none 0 0], []⟩ 8 (by kernel_rfl) (by kernel_rfl) (by kernel_rfl) (by kernel_rfl)) ?_
  intro W base args ds gs before hval0 hW hcnd _
  have hval : ∀ (j : Nat) t v, Try.f6.params[j]? = some t → args[j]? = some v → Value.okWide Try.prog W .any base t v := hval0
  have hW' := hW
  obtain ⟨p, q, hA0, hV, rfl, hfz, hnd⟩ := hW
  have hA : DataW.TrodAll enc Try.prog W 0 (fun _ => true) true Try.f6.params.toList args.toList ds p := hA0
  rw [Try.params6] at hA hval
  obtain ⟨v0, vs0, d0, ds0, p0, q0, hargs, rfl, rfl, h0, r0⟩ := trodAll_cons hA
  obtain ⟨rfl, rfl, rfl⟩ := trodAll_nil r0
  obtain rfl : args = #[v0] := by cases args; simp_all
  obtain ⟨rfl, rfl⟩ := trodVars_none hV
  have lt0 : ∀ x ∈ p0, x.block < W.heap.size := by obtain ⟨m, hm⟩ := h0; exact DataW.trod_lt m _ _ _ hm
  clear hA0 hval0
  refine (walk enc W base v0 d0 p0 (hval 0 26 v0 rfl rfl) h0).mono fun e W' ⟨he, bel⟩ => ?_
  subst he
  exact ⟨_, rfl, _, _, _, [], _, [], hW', trodAll_mk1 (shut_bool Try.underlying4 _), (trodAll_cons_mk (Below.trod laidOut (by kernel_rfl) (of_decide_eq_true (by kernel_rfl)) h0 bel lt0) trodAll_mk0), rfl, bel.frame _, fun h => by cases h⟩

theorem over : Rows.tokenOnceRow.holds Try.pinned (OpenSpec.ofChange Rows.tokenOnceSpec) :=
  OpenClaim.holds_of_wide 6 Try.f6 rfl rfl rfl rfl rfl rfl rfl ⟨rfl, rfl, rfl, rfl, rfl⟩ rfl rfl rfl rfl rfl (by kernel_rfl) Try.func6 (by kernel_rfl)
    (of_decide_eq_true (by kernel_rfl)) (by unfold Func.isWrapper; first | (rw [if_pos (by decide +kernel)]; kernel_rfl) | (rw [if_neg (by decide +kernel)]; exact ⟨rfl, rfl⟩))
    (fun os started H enc _ => lifted os started H enc)

/-- THE STATEMENT. -/
theorem proved : Rows.TokenOnceSaid := over
#print axioms proved
end Go.Proofs.Ytppccdogfcmfjaa.tokenOnce
