/- PenFixed: called with any number and any int, the law returns true; no condition. -/
import Derived.Test.YtafbmickbgccfaaRows
import Derived.Test.YtafbmickbgccfaaPenL
import Derived.Test.YtafbmickbgccfaaOpenA
import Derived.IntWalk
import Derived.ProofKit
import Derived.OpenShut
import Derived.ShutString
import Derived.ChangeOld
namespace Go.Proofs.Ytafbmickbgccfaa.penFixed
open Go.ChangeShapes Go.WideShapes Go.ChangeAt Go.RowKit
open Go.ChangeMaps (open_string shut_string)
set_option linter.unusedVariables false

theorem own : ownKnob Try.prog.godebug = none := by kernel_rfl
theorem laidOut : laidOutB Try.prog = true := by kernel_rfl
open Cur Mem

/-- The number that the bytes from place j on make. -/
def hi (x : Int) (k j : Nat) : Int := x / 256 ^ j % 256 ^ (k - j)
theorem hi_end (x : Int) (k : Nat) : hi x k k = 0 := by simp [hi]
theorem emod_256 (y P : Int) (hP : 0 < P) : 256 * (y / 256 % P) + y % 256 = y % (256 * P) := by
  have h1 := Int.emod_add_mul_ediv y 256
  have h2 := Int.emod_add_mul_ediv (y / 256) P
  have h3 := Int.emod_nonneg (y / 256) (show P ≠ 0 by omega)
  have h4 := Int.emod_lt_of_pos (y / 256) hP
  have h5 : y = (256 * (y / 256 % P) + y % 256) + 256 * P * (y / 256 / P) := by
    rw [Int.mul_assoc]; omega
  generalize y / 256 % P = r at *
  generalize y / 256 / P = q at *
  have h6 : 0 ≤ 256 * r + y % 256 := by omega
  have h7 : 256 * r + y % 256 < 256 * P := by omega
  rw [h5, Int.add_mul_emod_self_left]
  rw [← h5]
  exact (Int.emod_eq_of_lt h6 h7).symm
theorem pow_7 : ∀ m : Fin 8, (256 : Int) ^ m.val ≤ 72057594037927936 := by decide
theorem hi_step (x : Int) (k j : Nat) (h : j < k) : 256 * hi x k (j + 1) + x / 256 ^ j % 256 = hi x k j := by
  unfold hi
  rw [← div_next]
  generalize x / 256 ^ j = y
  rw [show k - j = (k - (j + 1)) + 1 by omega, Int.pow_succ]
  have hP : (0 : Int) < 256 ^ (k - (j + 1)) := Int.pow_pos (by omega)
  generalize (256 : Int) ^ (k - (j + 1)) = P at *
  rw [Int.mul_comm P 256]
  exact emod_256 y P hP
theorem hi_bd (x : Int) (k j : Nat) (hk : k ≤ 8) (hj : 0 < j) : 0 ≤ hi x k j ∧ hi x k j < 72057594037927936 := by
  unfold hi
  have h1 : (0 : Int) < 256 ^ (k - j) := Int.pow_pos (by omega)
  refine ⟨Int.emod_nonneg _ (by omega), Int.lt_of_lt_of_le (Int.emod_lt_of_pos _ h1) ?_⟩
  exact pow_7 ⟨k - j, by omega⟩
theorem fix_cell {w : World} {g : Nat} {x : Int} {k : Nat} (h : Blk w g ((fixZ x k).map (Value.int .u8)).toArray 5) {j : Nat} (hj : j < k) : w.cell? ⟨g, j, none⟩ = some (.int .u8 (x / 256 ^ j % 256)) :=
  h.cell j (by simp [fixZ, hj])

set_option maxRecDepth 100000 in
set_option maxHeartbeats 1000000 in
theorem walk {H : Type} (enc : TypeId × Value → H) (w : World) (base : Nat) (v0 : Value) (d0 : DataW H) (p0 : List MemPlace) (g0 : Value.okWide Try.prog w .any base 32 v0) (h0 : DataW.Trod enc Try.prog w 0 (fun _ => true) true 32 v0 d0 p0) (v1 : Value) (d1 : DataW H) (p1 : List MemPlace) (g1 : Value.okWide Try.prog w .any base 3 v1) (h1 : DataW.Trod enc Try.prog w 0 (fun _ => true) true 3 v1 d1 p1) :
    Calls Try.prog 4 #[v0, v1] w fun e w' => e = .returned (.bool true) ∧ Below w.heap.size w w' := by
  obtain ⟨x, rfl, x0, x1⟩ := open_u64 g0 h0
  obtain ⟨n, rfl, n0, n1⟩ := open_i64 g1 h1
  clear g0 h0 g1 h1
  have hk := fixN_le n
  have h8 : ¬ n < 8 → fixN n = 8 := by unfold fixN; intro h; rw [if_neg (by omega), if_neg h]; rfl
  have H8 := Lib.hid h8
  clear h8
  go_enter Try.func4, Try.ntmps4
  go_wp2_with fail
  refine (pfixed_any _ _ _ x0 x1).mono ?_
  rintro e w1 ⟨g, rfl, hg, hb, hblk⟩
  have hz : Bs w1 (some ⟨g, 0, none⟩) (fixN n) (fixZ x (fixN n)) := by
    have := Bs.of_block hblk
    rw [fixZ_length] at this
    exact this
  have hcell : ∀ j : Nat, j < fixN n → w1.cell? ⟨g, j, none⟩ = some (.int .u8 (x / 256 ^ j % 256)) := fun j hj => fix_cell hblk hj
  have HCE := Lib.hid hcell
  clear hcell hblk hg
  generalize hkk : fixN n = k at *
  have HK := Lib.hid hkk
  clear hkk
  go_wp2_with fail
  go_loop [6, 7] (fun y i => ∃ j : Nat, j ≤ k ∧ i = .int .i64 ((j : Int) - 1) ∧ y = .int .u64 (hi x k j)) (fun _ i => (intOf i + 1).toNat)
  case atStart => exact ⟨k, Nat.le_refl _, rfl, by rw [hi_end]⟩
  case round =>
    obtain ⟨j, hj, rfl, rfl⟩ := hrel
    rcases j with _ | j
    · have hz0 : hi x k 0 = x ∨ n < 8 := by
        by_cases hn : n < 8
        · exact .inr hn
        · left; rw [H8.out (by omega)]; unfold hi; simp; omega
      have e1 : ((0 : Nat) : Int) - 1 = -1 := by omega
      rw [e1]
      clear e1
      have HZ0 := Lib.hid hz0
      clear hz0 HCE H8
      generalize hi x k 0 = Y at *
      go_wp2_with fail
      refine (rfixed_any _ _ _ x0 x1).mono ?_
      rintro e w2 ⟨A, m, rfl, hb2, hbs, _, _⟩
      have hb3 := hb.trans (hb2.mono hb.size)
      rw [HK.out] at hbs
      rw [HK.out]
      have hl := hbs.1
      go_wp2_with fail
      refine (same_any _ _ _ _ _ _ (fixZ x k) _ (hz.below hb2) hbs).mono ?_
      rintro e w3 ⟨rfl, rfl⟩
      clear hbs hz hl hb
      by_cases hn : n < 8
      · go_wp2_with fail
        refine (live3_any _).mono ?_
        rintro e w4 ⟨rfl, hb4⟩
        go_wp2
        go_ret
        exact ⟨rfl, hb3.trans (hb4.mono hb3.size)⟩
      · have hY : Y = x := by
          rcases HZ0.out with h | h
          · exact h
          · exact absurd h hn
        subst hY
        go_wp2_with fail
        refine (live3_any _).mono ?_
        rintro e w4 ⟨rfl, hb4⟩
        go_wp2
        go_ret
        exact ⟨rfl, hb3.trans (hb4.mono hb3.size)⟩
    · have hc := HCE.out j (by omega)
      have hst := hi_step x k j (by omega)
      obtain ⟨b0, b1⟩ := hi_bd x k (j + 1) hk (by omega)
      have c0 : 0 ≤ x / 256 ^ j % 256 := Int.emod_nonneg _ (by omega)
      have c1 : x / 256 ^ j % 256 < 256 := Int.emod_lt_of_pos _ (by omega)
      have HST := Lib.hid hst
      clear hst
      generalize hi x k (j + 1) = Y at *
      generalize x / 256 ^ j % 256 = Z at *
      have e1 : ((j + 1 : Nat) : Int) - 1 = j := by omega
      rw [e1]
      clear e1
      have j0 : (0 : Int) ≤ j := by omega
      have j1 : (j : Int) < k := by omega
      go_wp2
      go_round
      case rel => exact ⟨j, by omega, rfl, by rw [← HST.out]⟩
      case measure => simp [intOf]

set_option maxRecDepth 100000 in
theorem lifted (os : Os) (started : os.Started) (H : Type) (enc : TypeId × Value → H) :
    ReturnsInHanded {} Try.checked os 4 .any (Rows.penFixedSpec.pre6 enc Try.prog Try.f4 Rows.penFixedRow.domain false) (Rows.penFixedSpec.post enc Try.prog Try.f4 false true false false) := by
  refine returnsInHanded_of_change (C := Try.checked) own started (by kernel_rfl) Try.func4
    (ChangeSpec.witness6 (enc := enc) (C := Try.checked) false ⟨#[], #[.int .u64 0, .int .i64 0], []⟩ 8 (by kernel_rfl) (by kernel_rfl) (by kernel_rfl) (by kernel_rfl)) ?_
  intro W base args ds gs before hval0 hW hcnd _
  have hval : ∀ (j : Nat) t v, Try.f4.params[j]? = some t → args[j]? = some v → Value.okWide Try.prog W .any base t v := hval0
  have hW' := hW
  obtain ⟨p, q, hA0, hV, rfl, hfz, hnd⟩ := hW
  have hA : DataW.TrodAll enc Try.prog W 0 (fun _ => true) true Try.f4.params.toList args.toList ds p := hA0
  rw [Try.params4] at hA hval
  obtain ⟨v0, vs0, d0, ds0, p0, q0, hargs, rfl, rfl, h0, r0⟩ := trodAll_cons hA
  obtain ⟨v1, vs1, d1, ds1, p1, q1, rfl, rfl, rfl, h1, r1⟩ := trodAll_cons r0
  obtain ⟨rfl, rfl, rfl⟩ := trodAll_nil r1
  obtain rfl : args = #[v0, v1] := by cases args; simp_all
  obtain ⟨rfl, rfl⟩ := trodVars_none hV
  have lt0 : ∀ x ∈ p0, x.block < W.heap.size := by obtain ⟨m, hm⟩ := h0; exact DataW.trod_lt m _ _ _ hm
  have lt1 : ∀ x ∈ p1, x.block < W.heap.size := by obtain ⟨m, hm⟩ := h1; exact DataW.trod_lt m _ _ _ hm
  clear hA0 hval0
  refine (walk enc W base v0 d0 p0 (hval 0 32 v0 rfl rfl) h0 v1 d1 p1 (hval 1 3 v1 rfl rfl) h1).mono fun e W' ⟨he, bel⟩ => ?_
  subst he
  exact ⟨_, rfl, _, _, _, [], _, [], hW', trodAll_mk1 (shut_bool Try.underlying4 _), (trodAll_cons_mk (Below.trod laidOut (by kernel_rfl) (of_decide_eq_true (by kernel_rfl)) h0 bel lt0) (trodAll_cons_mk (Below.trod laidOut (by kernel_rfl) (of_decide_eq_true (by kernel_rfl)) h1 bel lt1) trodAll_mk0)), rfl, bel.frame _, fun h => by cases h⟩

theorem over : Rows.penFixedRow.holds Try.pinned (OpenSpec.ofChange Rows.penFixedSpec) :=
  OpenClaim.holds_of_wide 4 Try.f4 rfl rfl rfl rfl rfl rfl rfl ⟨rfl, rfl, rfl, rfl, rfl⟩ rfl rfl rfl rfl rfl (by kernel_rfl) Try.func4 (by kernel_rfl)
    (of_decide_eq_true (by kernel_rfl)) (by unfold Func.isWrapper; first | (rw [if_pos (by decide +kernel)]; kernel_rfl) | (rw [if_neg (by decide +kernel)]; exact ⟨rfl, rfl⟩))
    (fun os started H enc _ => lifted os started H enc)

/-- THE STATEMENT. -/
theorem proved : Rows.PenFixedSaid := over
#print axioms proved
end Go.Proofs.Ytafbmickbgccfaa.penFixed
