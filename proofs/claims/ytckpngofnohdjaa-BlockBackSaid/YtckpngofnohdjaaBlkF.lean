/- Blocks, plain facts: what is put is read; both ways. -/
import Derived.Test.YtckpngofnohdjaaBlkE
import Derived.Test.YtckpngofnohdjaaK17
namespace Go.Proofs.Ytckpngofnohdjaa.Cur
open Go.RowKit Mem
set_option linter.unusedVariables false
set_option maxRecDepth 100000

/-- The own block of a payload, read. -/
theorem bk_put {z rest : List Int} {most : Int} (hz : z.length ≤ 10000) (hby : ∀ x ∈ z, 0 ≤ x ∧ x < 256) (hm : (z.length : Int) ≤ min most 1048576) : bk (bkb z ++ rest) most 0 = (z, ((bkb z).length : Int), 0, 0) := by
  have hcl := cps_len (z := z) (by omega) hby
  have hex := exv_cps (b := (z.length : Int)) hz hby (Int.le_refl _)
  obtain ⟨n, hn⟩ : ∃ n : Int, n = z.length := ⟨_, rfl⟩
  obtain ⟨H, hH⟩ : ∃ H, H = vz n := ⟨_, rfl⟩
  obtain ⟨C, hC⟩ : ∃ C, C = cps z := ⟨_, rfl⟩
  have hl : H.length = vsz n := by rw [hH, vz_length]
  have n0 : 0 ≤ n := by omega
  have n1 : n ≤ 10000 := by omega
  rw [← hn] at hm hex
  rw [← hC] at hcl hex
  have e1 : ∀ w r, w = H ++ r → vm w (min most 1048576) 0 = (n, (H.length : Int), 0, 0) := fun w r hw => by
    have := vm_put (z := w) (pre := []) (rest := r) (x := n) (mo := min most 1048576) (by rw [hw, hH]; rfl) n0 (by omega) hm
    rw [List.length_nil, Nat.zero_add, ← hl] at this
    exact this
  by_cases hp : pk z = true
  · have hb : bkb z = H ++ (1 :: (vz (C.length : Int) ++ C)) := by unfold bkb; rw [if_pos hp, hH, hC, hn]
    rw [hb]
    obtain ⟨w, hw⟩ : ∃ w, w = H ++ (1 :: (vz (C.length : Int) ++ C)) ++ rest := ⟨_, rfl⟩
    rw [← hw]
    have e2 : tk w 1 (H.length : Int) = ([1], ((H.length + 1 : Nat) : Int), 0, 0) := tk_put (y := [1]) (pre := H) (rest := vz (C.length : Int) ++ C ++ rest) (by rw [hw]; simp only [List.append_assoc, List.cons_append, List.nil_append])
    have e3 := bl_put (z := w) (mo := 1048576) (pre := H ++ [1]) (y := C) (rest := rest) (by rw [hw]; simp only [List.append_assoc, List.cons_append, List.nil_append]) (by omega) (by omega)
    rw [List.length_append, List.length_singleton] at e3
    unfold bk
    rw [Rs.bind_of (e1 w _ (by rw [hw, List.append_assoc])), Rs.bind_of e2, if_neg (by decide)]
    unfold bc
    rw [if_neg (by decide), Rs.bind_of e3, hex]
    simp only
    rw [if_neg (by simp), if_neg (by rw [hn]; omega)]
    congr 2
    simp only [List.length_append, List.length_cons]
    omega
  · have hb : bkb z = H ++ (0 :: z) := by unfold bkb; rw [if_neg hp, hH, hn]
    rw [hb]
    obtain ⟨w, hw⟩ : ∃ w, w = H ++ (0 :: z) ++ rest := ⟨_, rfl⟩
    rw [← hw]
    have e2 : tk w 1 (H.length : Int) = ([0], ((H.length + 1 : Nat) : Int), 0, 0) := tk_put (y := [0]) (pre := H) (rest := z ++ rest) (by rw [hw]; simp only [List.append_assoc, List.cons_append, List.nil_append])
    have e3 := tk_put (z := w) (pre := H ++ [0]) (y := z) (rest := rest) (by rw [hw]; simp only [List.append_assoc, List.cons_append, List.nil_append])
    rw [List.length_append, List.length_singleton] at e3
    unfold bk
    rw [Rs.bind_of (e1 w _ (by rw [hw, List.append_assoc])), Rs.bind_of e2, if_neg (by decide)]
    unfold bc
    rw [if_pos (by decide), hn, e3]
    congr 2
    simp only [List.length_append, List.length_cons]
    omega
theorem bkb_front {z rest : List Int} : piece (bkb z ++ rest) 0 (bkb z).length = bkb z := by
  unfold piece
  rw [List.drop_zero, Nat.sub_zero, List.take_left]
/-- Read either way it is the own one. -/
theorem both_put {z rest : List Int} {most : Int} (hz : z.length ≤ 10000) (hby : ∀ x ∈ z, 0 ≤ x ∧ x < 256) (hm : (z.length : Int) ≤ min most 1048576) : bk (bkb z ++ rest) most 0 = (z, ((bkb z).length : Int), 0, 0) ∧ bks (bkb z ++ rest) most 0 = (z, ((bkb z).length : Int), 0, 0) ∧ ownf (bkb z ++ rest) (bk (bkb z ++ rest) most 0) = true := by
  have h := bk_put (rest := rest) hz hby hm
  refine ⟨h, ?_, ?_⟩
  · unfold bks
    rw [Rs.bind_of h, if_pos (by show piece _ 0 ((bkb z).length : Int).toNat = _; rw [Int.toNat_natCast, bkb_front])]
  · rw [h]
    unfold ownf gpl gvl
    rw [if_pos rfl, if_pos rfl, Int.toNat_natCast, bkb_front]
    simp
/-- The strict way is the loose one, but for what isn't the own one. -/
theorem bks_cases (z : List Int) (most : Int) : (ownf z (bk z most 0) = true ∧ (bk z most 0).2.2.1 = 0 ∧ bks z most 0 = ((bk z most 0).1, (bk z most 0).2.1, 0, 0) ∧ piece z 0 (bk z most 0).2.1.toNat = bkb (bk z most 0).1) ∨
    (ownf z (bk z most 0) = false ∧ (bk z most 0).2.2.1 = 0 ∧ bks z most 0 = ([], 0, 12, (bk z most 0).2.1)) ∨
    (ownf z (bk z most 0) = false ∧ (bk z most 0).2.2.1 ≠ 0 ∧ bks z most 0 = ([], 0, (bk z most 0).2.2.1, (bk z most 0).2.2.2)) := by
  unfold ownf gpl gvl bks Rs.bind
  by_cases hc : (bk z most 0).2.2.1 = 0
  · rw [if_pos hc, if_pos hc, if_neg (by simp [hc]), decide_eq_true hc]
    by_cases hp : piece z 0 (bk z most 0).2.1.toNat = bkb (bk z most 0).1
    · exact .inl ⟨by rw [decide_eq_true hp]; rfl, hc, if_pos hp, hp⟩
    · exact .inr (.inl ⟨by rw [decide_eq_false hp]; rfl, hc, if_neg hp⟩)
  · rw [if_neg hc, if_neg hc, if_pos hc, decide_eq_false hc]
    exact .inr (.inr ⟨rfl, hc, rfl⟩)
/-- Where a block that is read ends. -/
theorem bc_place {z : List Int} (hby : ∀ x ∈ z, 0 ≤ x ∧ x < 256) {n x p : Int} (h0 : 0 ≤ p) (h1 : p ≤ z.length) (h : (bc z n x p).2.2.1 = 0) : p ≤ (bc z n x p).2.1 ∧ (bc z n x p).2.1 ≤ z.length := by
  unfold bc at h ⊢
  split at h
  · rename_i hx
    rw [if_pos hx]
    obtain ⟨k1, k2, k3⟩ := tk_once h0 h1 h
    rw [k3]
    exact ⟨by show p ≤ p + n; omega, by show p + n ≤ _; omega⟩
  · rename_i hx
    rw [if_neg hx]
    obtain ⟨g1, g2⟩ := Rs.bind_ok h
    obtain ⟨_, _, l1, l2⟩ := bl_once hby h0 h1 g1
    rw [g2] at h ⊢
    split at h
    · rename_i hc; exact absurd h hc
    · rename_i hc
      rw [if_neg hc]
      split at h
      · exact absurd h (by show ¬ (3 : Int) = 0; decide)
      · rename_i hl
        rw [if_neg hl]
        exact ⟨l1, l2⟩
theorem bk_place {z : List Int} (hby : ∀ x ∈ z, 0 ≤ x ∧ x < 256) {most : Int} (h : (bk z most 0).2.2.1 = 0) : 0 ≤ (bk z most 0).2.1 ∧ (bk z most 0).2.1 ≤ z.length := by
  unfold bk at h ⊢
  obtain ⟨g1, g2⟩ := Rs.bind_ok h
  obtain ⟨v1, v2, v3⟩ := vm_ok g1
  obtain ⟨_, _, _, o4, o5⟩ := vg_once hby (Int.le_refl 0) (by omega) v1
  rw [g2] at h ⊢
  rw [v3] at h ⊢
  obtain ⟨g3, g4⟩ := Rs.bind_ok h
  obtain ⟨_, t2, t3⟩ := tk_once (by omega) o5 g3
  have t4 : (tk z 1 (vg z 0).2.1).2.1 = (vg z 0).2.1 + 1 := by rw [t3]
  rw [g4] at h ⊢
  rw [t4] at h ⊢
  split at h
  · exact absurd h (by show ¬ (7 : Int) = 0; decide)
  · rename_i hx
    rw [if_neg hx]
    have := bc_place hby (by omega) (by omega) h
    omega
theorem slice_hi {w : World} {A : Option Addr} {n : Nat} {z : List Int} (hz : Bs w A n z) (m k : Nat) (hk : k ≤ n) (hm : n ≤ m) :
    ∃ A' M, (∀ w', (Instr.slice 22 (.slice A n m) none (some (.int .i64 (k : Int))) none).run Try.prog w' = .ok (.slice A' k M) w') ∧ Bs w A' k (piece z 0 k) := by
  have hs : ∀ w', (sizeOf 5).run Try.prog w' = .ok 1 w' := fun w' => by kernel_rfl
  have he : Try.prog.elem 22 = 5 := by kernel_rfl
  refine ⟨if m = 0 then A else A.map (·.add (0 * 1)), m - 0, fun w' => ?_, ?_⟩
  · have := run_slice_h (P := Try.prog) (w := w') 22 A n m (by rw [he]; exact Try.underlying22) .i64 (k : Int) (by omega) (by omega)
    rw [this, he, hs]
    simp [Result.andThen, sliced]
  · exact hz.sub m 0 k (Nat.zero_le _) hk hm
end Go.Proofs.Ytckpngofnohdjaa.Cur
