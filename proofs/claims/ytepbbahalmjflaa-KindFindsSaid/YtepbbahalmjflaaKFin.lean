/- KindFinds: called with any text, the law returns true; no condition. -/
import Derived.Test.YtepbbahalmjflaaRows
import Derived.Test.YtepbbahalmjflaaKndL
import Derived.Test.YtepbbahalmjflaaKndF
import Derived.ProofKit
import Derived.OpenShut
import Derived.ShutString
import Derived.ChangeOld
namespace Go.Proofs.Ytepbbahalmjflaa.kindFinds
open Go.ChangeShapes Go.WideShapes Go.ChangeAt Go.RowKit
open Go.ChangeMaps (open_string shut_string)
set_option linter.unusedVariables false

theorem own : ownKnob Try.prog.godebug = none := by kernel_rfl
theorem laidOut : laidOutB Try.prog = true := by kernel_rfl
open Cur Mem
set_option maxRecDepth 100000


/-- The kind of a word as the law looks for it: the last one. -/
def kfl (s : ByteArray) : Nat → Int
  | 0 => 0
  | n + 1 => if (kof ((n : Int) + 1)).1 = s then (n : Int) + 1 else kfl s n
theorem kof_words : ∀ i j : Fin 14, (kof ((i.val : Int) + 1)).1.toList = (kof ((j.val : Int) + 1)).1.toList → i = j := by decide +kernel
theorem kfl_no {s : ByteArray} : ∀ {n : Nat}, (∀ m, m < n → ¬ (kof ((m : Int) + 1)).1 = s) → kfl s n = 0
  | 0, _ => rfl
  | n + 1, h => by
    unfold kfl
    rw [if_neg (h n (by omega))]
    exact kfl_no fun m hm => h m (by omega)
theorem kfl_kfd (s : ByteArray) : ∀ n : Nat, n ≤ 14 → kfl s n = kfd s n ∧ (kfd s n = 0 → ∀ m, m < n → ¬ (kof ((m : Int) + 1)).1 = s) ∧ (kfd s n ≠ 0 → ∃ m, m < n ∧ (kof ((m : Int) + 1)).1 = s)
  | 0, _ => ⟨rfl, fun _ m hm => by omega, fun h => absurd rfl h⟩
  | n + 1, hn => by
    obtain ⟨i1, i2, i3⟩ := kfl_kfd s n (by omega)
    unfold kfl kfd
    by_cases h : (kof ((n : Int) + 1)).1 = s
    · have h0 : kfd s n = 0 := by
        by_cases h1 : kfd s n = 0
        · exact h1
        · obtain ⟨m, hm, e⟩ := i3 h1
          have := kof_words ⟨m, by omega⟩ ⟨n, by omega⟩ (by rw [e, h])
          simp only [Fin.mk.injEq] at this
          omega
      rw [if_pos h, h0, if_neg (fun h => h rfl), if_pos h]
      exact ⟨rfl, fun h => by omega, fun _ => ⟨n, by omega, h⟩⟩
    · rw [if_neg h, if_neg h, i1]
      by_cases h1 : kfd s n = 0
      · rw [h1, if_neg (fun h => h rfl)]
        refine ⟨rfl, fun _ m hm => ?_, fun h => absurd rfl h⟩
        by_cases e : m = n
        · subst e; exact h
        · exact i2 h1 m (by omega)
      · rw [if_pos h1]
        refine ⟨rfl, fun h => absurd h h1, fun _ => ?_⟩
        obtain ⟨m, hm, e⟩ := i3 h1
        exact ⟨m, by omega, e⟩
set_option maxHeartbeats 8000000 in
theorem walk {H : Type} (enc : TypeId × Value → H) (w : World) (base : Nat) (v0 : Value) (d0 : DataW H) (p0 : List MemPlace) (g0 : Value.okWide Try.prog w .any base 9 v0) (h0 : DataW.Trod enc Try.prog w 0 (fun _ => true) true 9 v0 d0 p0) :
    Calls Try.prog 4 #[v0] w fun e w' => e = .returned (.bool true) ∧ Below w.heap.size w w' := by
  obtain ⟨s, rfl, _, _, ws⟩ := Go.ChangeMaps.open_string Try.underlying9 g0 h0
  clear g0 h0 ws
  go_enter Try.func4, Try.ntmps4
  go_wp2_with fail
  refine (kfind_any s _).mono ?_
  rintro e w1 ⟨rfl, hb1⟩
  unfold kfp
  have HB1 := Lib.hid hb1
  clear hb1
  go_wp2_with fail
  refine (kall_any _).mono ?_
  rintro e w2 ⟨v, rfl, ho, hb⟩
  obtain ⟨g, cap, rfl, hg, hgl, hc⟩ := own_kcells ho (by decide) (ks14_len 14)
  have HC := Lib.hid (fun (wr : World) (h : Below w2.heap.size w2 wr) (k : Nat) (hk : k < 14) => (show wr.cell? ⟨g, k, none⟩ = some (.int .i64 ((k : Int) + 1)) from (cell_keep h hgl).trans (hc k hk _ (ks14_at 14 k hk))))
  have HB := Lib.hid (HB1.out.trans (hb.mono HB1.out.size))
  clear ho hc hb
  go_wp2
  go_loopw [5, 7] (fun x i wr => ∃ k : Nat, k ≤ 14 ∧ i = .int .i64 ((k : Int) + 1) ∧ x = .int .i64 (kfl s k) ∧ Below w2.heap.size w2 wr) (fun _ i _ => 20 - (intOf i).toNat)
  case atStart => exact ⟨0, by omega, rfl, rfl, Below.refl _ _⟩
  case round =>
    obtain ⟨k, hk, rfl, rfl, hb2⟩ := hrel
    have HB2 := Lib.hid hb2
    by_cases h14 : k = 14
    · subst h14
      obtain ⟨e, _, _⟩ := kfl_kfd s 14 (by omega)
      obtain ⟨q0, q1⟩ := kfd_bd s 14
      rw [e]
      clear e hb2
      generalize kfd s 14 = q at *
      have hbd := HB.out.trans (HB2.out.mono HB.out.size)
      by_cases hq : q = 0
      · subst hq
        clear q0 q1
        go_wp2_with fail
        refine (live27_any _).mono ?_
        rintro e w5 ⟨rfl, hb5⟩
        replace hbd := hbd.trans (hb5.mono hbd.size)
        clear hb5
        go_wp2
        go_ret
        exact ⟨rfl, hbd⟩
      · have hq2 : 0 < q := by omega
        go_wp2_with fail
        refine (live27_any _).mono ?_
        rintro e w5 ⟨rfl, hb5⟩
        replace hbd := hbd.trans (hb5.mono hbd.size)
        clear hb5
        go_wp2
        go_ret
        exact ⟨rfl, hbd⟩
    · have hlt : k < 14 := by omega
      have c0 := HC.out wr hb2 k hlt
      have hlt2 : (k : Int) + 1 < 15 := by omega
      have e1 : wrap64 ((k : Int) + 1 - 1) = (k : Int) := by unfold wrap64; omega
      have hst : kfl s (k + 1) = if (kof ((k : Int) + 1)).1 = s then (k : Int) + 1 else kfl s k := rfl
      by_cases hs : (kof ((k : Int) + 1)).1 = s
      · rw [if_pos hs] at hst
        have HS := Lib.hid hs
        have HST := Lib.hid hst
        clear hst hs hb2
        go_wp2_with fail
        refine (rkof_any ((k : Int) + 1) _).mono ?_
        rintro e w3 ⟨rfl, hb3⟩
        unfold kagg
        rw [HS.out]
        obtain ⟨F0, F1, F2⟩ := rkfield s (kof ((k : Int) + 1)).2.1 (kof ((k : Int) + 1)).2.2 w3
        go_wp2
        go_roundw
        case rel => exact ⟨k + 1, by omega, by rw [Int.natCast_add]; rfl, by rw [HST.out], HB2.out.trans (hb3.mono HB2.out.size)⟩
        case measure => simp [intOf]; omega
      · rw [if_neg hs] at hst
        have hs2 := kbyte_ne hs
        have HST := Lib.hid hst
        clear hst hs hb2
        go_wp2_with fail
        refine (rkof_any ((k : Int) + 1) _).mono ?_
        rintro e w3 ⟨rfl, hb3⟩
        unfold kagg
        obtain ⟨F0, F1, F2⟩ := rkfield (kof ((k : Int) + 1)).1 (kof ((k : Int) + 1)).2.1 (kof ((k : Int) + 1)).2.2 w3
        go_wp2
        go_roundw
        case rel => exact ⟨k + 1, by omega, by rw [Int.natCast_add]; rfl, by rw [HST.out], HB2.out.trans (hb3.mono HB2.out.size)⟩
        case measure => simp [intOf]; omega


set_option maxRecDepth 100000 in
theorem lifted (os : Os) (started : os.Started) (H : Type) (enc : TypeId × Value → H) :
    ReturnsInHanded {} Try.checked os 4 .any (Rows.kindFindsSpec.pre6 enc Try.prog Try.f4 Rows.kindFindsRow.domain false) (Rows.kindFindsSpec.post enc Try.prog Try.f4 false true false false) := by
  refine returnsInHanded_of_change (C := Try.checked) own started (by kernel_rfl) Try.func4
    (ChangeSpec.witness6 (enc := enc) (C := Try.checked) false ⟨#[], #[.string ⟨#[]⟩], []⟩ 8 (by kernel_rfl) (by kernel_rfl) (by kernel_rfl) (by kernel_rfl)) ?_
  intro W base args ds gs before hval0 hW hcnd _
  have hval : ∀ (j : Nat) t v, Try.f4.params[j]? = some t → args[j]? = some v → Value.okWide Try.prog W .any base t v := hval0
  have hW' := hW
  obtain ⟨p, q, hA0, hV, rfl, hfz, hnd⟩ := hW
  have hA : DataW.TrodAll enc Try.prog W 0 (fun _ => true) true Try.f4.params.toList args.toList ds p := hA0
  rw [Try.params4] at hA hval
  obtain ⟨v0, vs0, d0, ds0, p0, q0, hargs, rfl, rfl, h0, r0⟩ := trodAll_cons hA
  obtain ⟨rfl, rfl, rfl⟩ := trodAll_nil r0
  obtain rfl : args = #[v0] := by cases args; simp_all
  obtain ⟨rfl, rfl⟩ := trodVars_none hV
  have lt0 : ∀ x ∈ p0, x.block < W.heap.size := by obtain ⟨m, hm⟩ := h0; exact DataW.trod_lt m _ _ _ hm
  clear hA0 hval0
  refine (walk enc W base v0 d0 p0 (hval 0 9 v0 rfl rfl) h0).mono fun e W' ⟨he, bel⟩ => ?_
  subst he
  exact ⟨_, rfl, _, _, _, [], _, [], hW', trodAll_mk1 (shut_bool Try.underlying4 _), (trodAll_cons_mk (Below.trod laidOut (by kernel_rfl) (of_decide_eq_true (by kernel_rfl)) h0 bel lt0) trodAll_mk0), rfl, bel.frame _, fun h => by cases h⟩

theorem over : Rows.kindFindsRow.holds Try.pinned (OpenSpec.ofChange Rows.kindFindsSpec) :=
  OpenClaim.holds_of_wide 4 Try.f4 rfl rfl rfl rfl rfl rfl rfl ⟨rfl, rfl, rfl, rfl, rfl⟩ rfl rfl rfl rfl rfl (by kernel_rfl) Try.func4 (by kernel_rfl)
    (of_decide_eq_true (by kernel_rfl)) (by unfold Func.isWrapper; first | (rw [if_pos (by decide +kernel)]; kernel_rfl) | (rw [if_neg (by decide +kernel)]; exact ⟨rfl, rfl⟩))
    (fun os started H enc _ => lifted os started H enc)

/-- THE STATEMENT. -/
theorem proved : Rows.KindFindsSaid := over
#print axioms proved
end Go.Proofs.Ytepbbahalmjflaa.kindFinds
