/- Blobs, lists and fixed numbers: what is put is read, what is read is put so again: the plain mathematics. -/
import Derived.Test.YtkedmhopajpkhaaBlobC
import Derived.Test.YtkedmhopajpkhaaZigM
import Derived.Test.YtkedmhopajpkhaaPenC
namespace Go.Proofs.Ytkedmhopajpkhaa.Cur
open Go.RowKit Mem
set_option linter.unusedVariables false

theorem bl_put {z pre y rest : List Int} {mo : Int} (hz : z = pre ++ (vz y.length ++ y) ++ rest) (hl : (y.length : Int) ≤ mo) (h64 : (y.length : Int) < 18446744073709551616) : bl z mo pre.length = (y, ((pre.length + (vz y.length ++ y).length : Nat) : Int), 0, 0) := by
  unfold bl
  rw [Rs.bind_of (vm_put (rest := y ++ rest) (x := y.length) (pre := pre) (by rw [hz]; simp only [List.append_assoc]) (by omega) h64 hl)]
  have h := tk_put (z := z) (pre := pre ++ vz y.length) (y := y) (rest := rest) (by rw [hz]; simp only [List.append_assoc])
  rw [List.length_append, vz_length] at h
  rw [h, List.length_append, vz_length, Nat.add_assoc]
theorem bl_once {z : List Int} {mo p : Int} (hby : ∀ x ∈ z, 0 ≤ x ∧ x < 256) (h0 : 0 ≤ p) (h1 : p ≤ z.length) (h : (bl z mo p).2.2.1 = 0) :
    vz (bl z mo p).1.length ++ (bl z mo p).1 = piece z p.toNat (bl z mo p).2.1.toNat ∧ ((bl z mo p).1.length : Int) ≤ mo ∧ p ≤ (bl z mo p).2.1 ∧ (bl z mo p).2.1 ≤ z.length := by
  unfold bl at h ⊢
  obtain ⟨g0, e⟩ := Rs.bind_ok h
  rw [e] at h ⊢
  obtain ⟨v0, v1, v2⟩ := vm_ok g0
  rw [v2] at h ⊢
  obtain ⟨a1, a2, a3, a4, a5⟩ := vg_once hby h0 h1 v0
  obtain ⟨t1, t2, t3⟩ := tk_once (by omega) a5 h
  rw [t3]
  show vz (piece z (vg z p).2.1.toNat ((vg z p).2.1 + (vg z p).1).toNat).length ++ piece z (vg z p).2.1.toNat ((vg z p).2.1 + (vg z p).1).toNat = piece z p.toNat ((vg z p).2.1 + (vg z p).1).toNat ∧ ((piece z (vg z p).2.1.toNat ((vg z p).2.1 + (vg z p).1).toNat).length : Int) ≤ mo ∧ p ≤ (vg z p).2.1 + (vg z p).1 ∧ (vg z p).2.1 + (vg z p).1 ≤ z.length
  rw [length_piece (n := z.length) rfl (by omega), show (((vg z p).2.1 + (vg z p).1).toNat - (vg z p).2.1.toNat : Nat) = (vg z p).1.toNat by omega, show (((vg z p).1.toNat : Nat) : Int) = (vg z p).1 by omega, a1]
  exact ⟨piece_append (by omega) (by omega) (by omega), v1, by omega, by omega⟩

theorem lgo_once {z : List Int} (hby : ∀ x ∈ z, 0 ≤ x ∧ x < 256) : ∀ (N : Nat) (p : Int) (acc : List Int), 0 ≤ p → p ≤ z.length → (lgo z N p acc).2.2.1 = 0 →
    ∃ t, (lgo z N p acc).1 = acc ++ t ∧ t.length = N ∧ (t.map vz).flatten = piece z p.toNat (lgo z N p acc).2.1.toNat ∧ p ≤ (lgo z N p acc).2.1 ∧ (lgo z N p acc).2.1 ≤ z.length
  | 0, p, acc, h0, h1, h => ⟨[], by simp [lgo], rfl, by simp [lgo, piece], Int.le_refl _, h1⟩
  | N + 1, p, acc, h0, h1, h => by
    rw [lgo] at h ⊢
    obtain ⟨g0, e⟩ := Rs.bind_ok h
    rw [e] at h ⊢
    obtain ⟨a1, a2, a3, a4, a5⟩ := vg_once hby h0 h1 g0
    obtain ⟨t, b1, b2, b3, b4, b5⟩ := lgo_once hby N _ (acc ++ [(vg z p).1]) (by omega) a5 h
    refine ⟨(vg z p).1 :: t, by rw [b1, List.append_assoc]; rfl, by rw [List.length_cons, b2], ?_, by omega, b5⟩
    rw [List.map_cons, List.flatten_cons, b3, a1]
    exact piece_append (by omega) (by omega) (by omega)
theorem lgo_put {z : List Int} : ∀ (l pre acc rest : List Int), z = pre ++ (l.map vz).flatten ++ rest → (∀ x ∈ l, 0 ≤ x ∧ x < 18446744073709551616) → lgo z l.length pre.length acc = (acc ++ l, ((pre.length + (l.map vz).flatten.length : Nat) : Int), 0, 0)
  | [], pre, acc, rest, _, _ => by simp [lgo]
  | x :: l, pre, acc, rest, hz, hb => by
    obtain ⟨x0, x1⟩ := hb x (List.mem_cons_self ..)
    rw [List.map_cons, List.flatten_cons] at hz ⊢
    rw [List.length_cons, lgo, Rs.bind_of (vg_put (rest := (l.map vz).flatten ++ rest) (x := x) (pre := pre) (by rw [hz]; simp only [List.append_assoc]) x0 x1)]
    have := lgo_put (z := z) l (pre ++ vz x) (acc ++ [x]) rest (by rw [hz]; simp only [List.append_assoc]) (fun y hy => hb y (List.mem_cons_of_mem _ hy))
    rw [List.length_append, vz_length] at this
    rw [this, List.length_append, vz_length, Nat.add_assoc, List.append_assoc]
    rfl
theorem rl_put {z pre l rest : List Int} {mo : Int} (hz : z = pre ++ lz l ++ rest) (hl : (l.length : Int) ≤ mo) (h64 : (l.length : Int) < 18446744073709551616) (hb : ∀ x ∈ l, 0 ≤ x ∧ x < 18446744073709551616) : rl z mo pre.length = (l, ((pre.length + (lz l).length : Nat) : Int), 0, 0) := by
  have e : lz l = vz l.length ++ (l.map vz).flatten := rfl
  rw [e] at hz ⊢
  unfold rl
  rw [Rs.bind_of (vm_put (rest := (l.map vz).flatten ++ rest) (x := l.length) (pre := pre) (by rw [hz]; simp only [List.append_assoc]) (by omega) h64 hl), Int.toNat_natCast]
  have := lgo_put (z := z) l (pre ++ vz l.length) [] rest (by rw [hz]; simp only [List.append_assoc]) hb
  rw [List.length_append, vz_length] at this
  rw [this, List.length_append, vz_length, Nat.add_assoc]
  rfl
theorem rl_once {z : List Int} {mo p : Int} (hby : ∀ x ∈ z, 0 ≤ x ∧ x < 256) (h0 : 0 ≤ p) (h1 : p ≤ z.length) (h : (rl z mo p).2.2.1 = 0) :
    lz (rl z mo p).1 = piece z p.toNat (rl z mo p).2.1.toNat ∧ ((rl z mo p).1.length : Int) ≤ mo ∧ p ≤ (rl z mo p).2.1 ∧ (rl z mo p).2.1 ≤ z.length := by
  unfold rl at h ⊢
  obtain ⟨g0, e⟩ := Rs.bind_ok h
  rw [e] at h ⊢
  obtain ⟨v0, v1, v2⟩ := vm_ok g0
  rw [v2] at h ⊢
  obtain ⟨a1, a2, a3, a4, a5⟩ := vg_once hby h0 h1 v0
  obtain ⟨t, b1, b2, b3, b4, b5⟩ := lgo_once hby _ _ [] (by omega) a5 h
  rw [b1, List.nil_append]
  have hc : ((t.length : Nat) : Int) = (vg z p).1 := by rw [b2]; omega
  refine ⟨?_, by omega, by omega, b5⟩
  rw [show lz t = vz t.length ++ (t.map vz).flatten from rfl, hc, a1, b3]
  exact piece_append (by omega) (by omega) (by omega)

theorem lzk_len_ge (l : List Int) (k : Nat) : k + 1 ≤ (lzk l k).length := by
  induction k with
  | zero => rw [lzk, vz_length]; have := vsz_pos (l.length : Int); omega
  | succ k ih => rw [lzk, List.length_append, vz_length]; have := vsz_pos (l.getD k 0); omega
theorem rl_len {n : Nat} {z : List Int} {mo p c q : Int} {l : List Int} {p' c' q' : Int} (h : St [] n (rl z mo p) p c q l p' c' q') (hz : z.length = n) (hby : ∀ x ∈ z, 0 ≤ x ∧ x < 256) (h0 : 0 ≤ p) (h1 : p ≤ n) : l.length ≤ n := by
  obtain ⟨_, _, ⟨_, rfl, _⟩ | ⟨_, g0, rfl, _⟩ | ⟨_, _, rfl, _⟩⟩ := h
  · simp
  · obtain ⟨r1, _, r3, r4⟩ := rl_once hby h0 (by rw [hz]; exact h1) g0
    have h2 := lzk_len_ge (rl z mo p).1 (rl z mo p).1.length
    rw [← lz_eq, r1, length_piece (n := z.length) rfl (by omega)] at h2
    omega
  · simp
theorem lz_byte {l : List Int} (hl : (l.length : Int) < 18446744073709551616) (hb : ∀ x ∈ l, 0 ≤ x ∧ x < 18446744073709551616) : ∀ y ∈ lz l, 0 ≤ y ∧ y < 256 := by
  intro y hy
  have hy : y ∈ vz l.length ++ (l.map vz).flatten := hy
  rcases List.mem_append.1 hy with hy | hy
  · exact vz_byte _ (by omega) hl y hy
  · obtain ⟨t, ht, hy⟩ := List.mem_flatten.1 hy
    obtain ⟨x, hx, rfl⟩ := List.mem_map.1 ht
    obtain ⟨x0, x1⟩ := hb x hx
    exact vz_byte x x0 x1 y hy
theorem lev_fixZ (x : Int) (h0 : 0 ≤ x) : ∀ k, lev (fixZ x k) = x % 256 ^ k
  | 0 => by simp [fixZ, lev]
  | k + 1 => by
    rw [fixZ_succ, lev_snoc, lev_fixZ x h0 k, fixZ_length, Int.pow_succ]
    have hp := pow256_pos k
    generalize (256 : Int) ^ k = A at *
    have e1 : x / (A * 256) = x / A / 256 := by rw [Int.ediv_ediv_of_nonneg (by omega)]
    have e2 : x % A = x - A * (x / A) := by have := Int.mul_ediv_add_emod x A; omega
    have e3 : x % (A * 256) = x - A * 256 * (x / A / 256) := by have := Int.mul_ediv_add_emod x (A * 256); rw [e1] at this; omega
    have e4 : x / A % 256 = x / A - 256 * (x / A / 256) := by omega
    rw [e2, e3, e4]
    generalize x / A = u at *
    generalize u / 256 = v at *
    rw [Int.sub_mul, Int.mul_comm u A, Int.mul_assoc A 256 v, Int.mul_comm (256 * v) A]
    omega
theorem fixN_8 : fixN 8 = 8 := by decide
theorem fx_put {z pre rest : List Int} {x : Int} (k : Nat) (hz : z = pre ++ fixZ x k ++ rest) (x0 : 0 ≤ x) (x1 : x < 256 ^ k) : fx z k pre.length = (x, ((pre.length + k : Nat) : Int), 0, 0) := by
  have h := tk_put hz
  rw [fixZ_length] at h
  unfold fx Rs.map
  rw [h]
  show (lev (fixZ x k), _) = _
  rw [lev_fixZ x x0 k, Int.emod_eq_of_lt x0 x1]
end Go.Proofs.Ytkedmhopajpkhaa.Cur
