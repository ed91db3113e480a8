/- K6: Puts BlobA BlobB BlobC BlobM BlobD -/
import Derived.Test.YtgdcbfekekefiaaK5
import Derived.Deep.LoopGhost
import Derived.Test.YtgdcbfekekefiaaK3
import Derived.Deep.Cut
/- Rows put one behind the other into a writer: what is there, and which code. -/
/- Blobs (package blob): Put, Size; the document's Bytes. -/
/- Blobs and lists read: what is read, as a value; Read, ReadList. -/
/- Blobs and lists: a fixed number read; the document's readers. -/
/- Blobs, lists and fixed numbers: what is put is read, what is read is put so again: the plain mathematics. -/
/- Lists: the document's reader. -/
namespace Go.Proofs.Ytgdcbfekekefiaa.Cur
open Go.RowKit Mem
set_option linter.unusedVariables false

/-- What a writer has behind these rows, and its code. -/
def puts : List (List Int) → List Int → Int → Int → List Int × Int
  | [], z, _, c => (z, c)
  | y :: ys, z, M, c => puts ys (putZ z y M c) M (putC z y M c)
theorem puts_append (xs ys : List (List Int)) (z : List Int) (M c : Int) : puts (xs ++ ys) z M c = puts ys (puts xs z M c).1 M (puts xs z M c).2 := by
  induction xs generalizing z c with
  | nil => rfl
  | cons x xs ih => exact ih _ _
theorem puts_snoc (xs : List (List Int)) (y z : List Int) (M c : Int) : puts (xs ++ [y]) z M c = (putZ (puts xs z M c).1 y M (puts xs z M c).2, putC (puts xs z M c).1 y M (puts xs z M c).2) := by
  rw [puts_append]; rfl
theorem putZ_le (z y : List Int) (M c : Int) : (putZ z y M c).length ≤ z.length + y.length := by
  unfold putZ; split
  · rw [List.length_append]; exact Nat.le_refl _
  · omega
theorem puts_le (xs : List (List Int)) (z : List Int) (M c : Int) : (puts xs z M c).1.length ≤ z.length + xs.flatten.length := by
  induction xs generalizing z c with
  | nil => simp [puts]
  | cons x xs ih =>
    have h1 := ih (putZ z x M c) (putC z x M c)
    have h2 := putZ_le z x M c
    rw [List.flatten_cons, List.length_append]
    show (puts xs (putZ z x M c) M (putC z x M c)).1.length ≤ _
    omega
theorem putC_bad {z y : List Int} {M c : Int} (hc : c ≠ 0) : putZ z y M c = z ∧ putC z y M c = c := by
  unfold putZ putC fitsC
  rw [if_neg (fun h => hc h.1), if_neg (fun h => hc h.1)]
  exact ⟨rfl, rfl⟩
theorem puts_bad (xs : List (List Int)) {z : List Int} {M c : Int} (hc : c ≠ 0) : puts xs z M c = (z, c) := by
  induction xs with
  | nil => rfl
  | cons x xs ih =>
    obtain ⟨h1, h2⟩ := putC_bad (z := z) (y := x) (M := M) hc
    show puts xs (putZ z x M c) M (putC z x M c) = _
    rw [h1, h2, ih]
theorem puts_fits {xs : List (List Int)} {z : List Int} {M : Int} (h : (z.length : Int) + xs.flatten.length ≤ M) : puts xs z M 0 = (z ++ xs.flatten, 0) := by
  induction xs generalizing z with
  | nil => simp [puts]
  | cons x xs ih =>
    rw [List.flatten_cons, List.length_append] at h
    have h1 : putZ z x M 0 = z ++ x := by unfold putZ; rw [if_pos ⟨rfl, by omega⟩]
    have h2 : putC z x M 0 = 0 := by unfold putC fitsC; rw [if_neg (by omega)]
    show puts xs (putZ z x M 0) M (putC z x M 0) = _
    rw [h1, h2, ih (by rw [List.length_append]; omega), List.flatten_cons, List.append_assoc]
theorem puts_long {xs : List (List Int)} {z : List Int} {M : Int} (h0 : (z.length : Int) ≤ M) (h : M < (z.length : Int) + xs.flatten.length) : (puts xs z M 0).2 = 2 := by
  induction xs generalizing z with
  | nil => simp at h; omega
  | cons x xs ih =>
    rw [List.flatten_cons, List.length_append] at h
    show (puts xs (putZ z x M 0) M (putC z x M 0)).2 = 2
    by_cases hx : (z.length : Int) + x.length ≤ M
    · have h1 : putZ z x M 0 = z ++ x := by unfold putZ; rw [if_pos ⟨rfl, by omega⟩]
      have h2 : putC z x M 0 = 0 := by unfold putC fitsC; rw [if_neg (by omega)]
      rw [h1, h2]
      exact ih (by rw [List.length_append]; omega) (by rw [List.length_append]; omega)
    · have h2 : putC z x M 0 = 2 := by unfold putC fitsC; rw [if_pos ⟨rfl, by omega⟩]
      rw [h2, puts_bad _ (by decide)]
/-- A row that is none of the writer's stays so. -/
theorem off_gr {w : World} {b : Nat} {r r' : Option Nat} {n : Nat} {A : Option Addr} (hlt : 0 < n → ∀ a, A = some a → a.block < w.heap.size) (hoff : 0 < n → ∀ a, A = some a → ¬ WS b r a.block) (hg : Gr r r' w) : 0 < n → ∀ a, A = some a → ¬ WS b r' a.block := by
  intro h0 a ha
  have h1 := hlt h0 a ha
  have h2 := hoff h0 a ha
  rintro (e | e)
  · exact h2 (.inl e)
  · rcases hg with rfl | ⟨g, rfl, hg⟩
    · exact h2 (.inr e)
    · injection e with e; omega
end Go.Proofs.Ytgdcbfekekefiaa.Cur

namespace Go.Proofs.Ytgdcbfekekefiaa.Cur
open Go.RowKit Mem
set_option linter.unusedVariables false

/-- The rows by which a list is written; its bytes. -/
def litems (l : List Int) : List (List Int) := vz l.length :: l.map vz
def lz (l : List Int) : List Int := (litems l).flatten
def lzk (l : List Int) : Nat → List Int
  | 0 => vz l.length
  | k + 1 => lzk l k ++ vz (l.getD k 0)
theorem lzk_eq (l : List Int) : ∀ k, k ≤ l.length → lzk l k = vz l.length ++ ((l.take k).map vz).flatten
  | 0, _ => by simp [lzk]
  | k + 1, h => by
    rw [lzk, lzk_eq l k (by omega), List.take_succ_eq_append_getElem (by omega : k < l.length), List.map_append, List.flatten_append, List.append_assoc]
    congr 1
    simp [List.getD_eq_getElem?_getD, List.getElem?_eq_getElem (by omega : k < l.length)]
theorem lz_eq (l : List Int) : lz l = lzk l l.length := by
  rw [lzk_eq l _ (Nat.le_refl _), List.take_length]; rfl
theorem lzk_len (l : List Int) (k : Nat) : (lzk l k).length ≤ 10 * k + 10 := by
  induction k with
  | zero => rw [lzk, vz_length]; have := vsz_le (l.length : Int); omega
  | succ k ih => rw [lzk, List.length_append, vz_length]; have := vsz_le (l.getD k 0); omega
theorem litems_take (l : List Int) (k : Nat) (h : k < l.length) : vz l.length :: (l.take (k + 1)).map vz = (vz l.length :: (l.take k).map vz) ++ [vz (l.getD k 0)] := by
  rw [List.take_succ_eq_append_getElem h, List.map_append, List.cons_append]
  simp [List.getD_eq_getElem?_getD, List.getElem?_eq_getElem h]
theorem flatten_le (l : List Int) : ∀ k, k ≤ l.length → (vz l.length :: (l.take k).map vz).flatten.length ≤ 10 * k + 10 := by
  intro k hk
  have := lzk_len l k
  rw [lzk_eq l k hk] at this
  exact this

end Go.Proofs.Ytgdcbfekekefiaa.Cur

namespace Go.Proofs.Ytgdcbfekekefiaa.Cur
open Go.RowKit Mem
set_option linter.unusedVariables false

/-- A blob of at most mo bytes. -/
def bl (z : List Int) (mo p : Int) : Rs (List Int) := (vm z mo p).bind [] fun x p1 => tk z x p1
/-- So many numbers. -/
def lgo (z : List Int) : Nat → Int → List Int → Rs (List Int)
  | 0, p, acc => (acc, p, 0, 0)
  | k + 1, p, acc => (vg z p).bind [] fun x p1 => lgo z k p1 (acc ++ [x])
/-- A list of at most mo numbers. -/
def rl (z : List Int) (mo p : Int) : Rs (List Int) := (vm z mo p).bind [] fun x p1 => lgo z x.toNat p1 []
/-- The number whose bytes these are, the lowest first. -/
def lev : List Int → Int
  | [] => 0
  | b :: l => b + 256 * lev l
def fx (z : List Int) (k p : Int) : Rs Int := (tk z k p).map lev

def lenV : Value → Nat
  | .slice _ n _ => n
  | _ => 0
theorem vg_shape {z : List Int} {p : Int} (h : (vg z p).2.2.1 = 0) : vg z p = ((vg z p).1, (vg z p).2.1, 0, 0) := by
  have e : (vg z p).2.2.2 = 0 := by
    exact if_pos h
  exact Prod.ext rfl (Prod.ext rfl (Prod.ext h e))
theorem vm_shape {z : List Int} {mo p : Int} (h : (vm z mo p).2.2.1 = 0) : vm z mo p = ((vm z mo p).1, (vm z mo p).2.1, 0, 0) := by
  obtain ⟨h1, _, h3⟩ := vm_ok h
  rw [h3]
  exact vg_shape h1
end Go.Proofs.Ytgdcbfekekefiaa.Cur

namespace Go.Proofs.Ytgdcbfekekefiaa.Cur
open Go.RowKit Mem
set_option linter.unusedVariables false

theorem pow256_pos (s : Nat) : (0 : Int) < 256 ^ s := Int.pow_pos (by omega)
theorem lev_bd : ∀ (l : List Int), (∀ x ∈ l, 0 ≤ x ∧ x < 256) → 0 ≤ lev l ∧ lev l < 256 ^ l.length
  | [], _ => by simp [lev]
  | b :: l, h => by
    obtain ⟨h1, h2⟩ := lev_bd l fun x hx => h x (List.mem_cons_of_mem _ hx)
    obtain ⟨h3, h4⟩ := h b (List.mem_cons_self ..)
    rw [List.length_cons, Int.pow_succ]
    unfold lev
    omega
theorem lev_snoc (l : List Int) (b : Int) : lev (l ++ [b]) = lev l + b * 256 ^ l.length := by
  induction l with
  | nil => simp [lev]
  | cons x l ih =>
    rw [List.cons_append, lev, ih, lev, List.length_cons, Int.pow_succ, Int.mul_add, ← Int.add_assoc]
    congr 1
    rw [← Int.mul_assoc, Int.mul_comm 256 b, Int.mul_assoc, Int.mul_comm 256]
theorem lev_take_succ {l : List Int} {k : Nat} (h : k < l.length) : lev (l.take (k + 1)) = lev (l.take k) + l.getD k 0 * 256 ^ k := by
  rw [List.take_succ_eq_append_getElem h, lev_snoc, List.length_take, Nat.min_eq_left (by omega), List.getD_eq_getElem?_getD, List.getElem?_eq_getElem h]
  rfl
theorem lev_drop {l : List Int} {k : Nat} (h : k < l.length) : lev (l.drop k) = l.getD k 0 + 256 * lev (l.drop (k + 1)) := by
  rw [List.drop_eq_getElem_cons h, lev, List.getD_eq_getElem?_getD, List.getElem?_eq_getElem h]
  rfl
theorem lev_take_bd {l : List Int} {k : Nat} (hb : ∀ x ∈ l, 0 ≤ x ∧ x < 256) (h : k ≤ l.length) : 0 ≤ lev (l.take k) ∧ lev (l.take k) < 256 ^ k := by
  have := lev_bd (l.take k) fun x hx => hb x (List.mem_of_mem_take hx)
  rwa [List.length_take, Nat.min_eq_left h] at this
theorem pow256_mono {a b : Nat} (h : a ≤ b) : (256 : Int) ^ a ≤ 256 ^ b := by
  obtain ⟨c, rfl⟩ := Nat.exists_eq_add_of_le h
  rw [Int.pow_add]
  have h1 := pow256_pos a
  have h2 := pow256_pos c
  have : (256 : Int) ^ a * 1 ≤ 256 ^ a * 256 ^ c := Int.mul_le_mul_of_nonneg_left (by omega) (by omega)
  omega
theorem pow256_8 : (256 : Int) ^ 8 = 18446744073709551616 := by decide
theorem lev_lt {l : List Int} (hb : ∀ x ∈ l, 0 ≤ x ∧ x < 256) (h : l.length ≤ 8) : 0 ≤ lev l ∧ lev l < 18446744073709551616 := by
  have h1 := lev_bd l hb
  have h2 := pow256_mono h
  rw [pow256_8] at h2
  omega
theorem pow8' (i : Nat) : (2 : Int) ^ (8 * i) = 256 ^ i := by rw [Int.pow_mul]; rfl
def orf (k : Nat) (X b : Int) : Int := bits BinOp.or IntKind.u64 X (IntKind.u64.wrap (b * 2 ^ (8 * k)))
theorem orf_eq (k : Nat) (X b : Int) (hk : k ≤ 7) (X0 : 0 ≤ X) (X1 : X < 256 ^ k) (b0 : 0 ≤ b) (b1 : b < 256) : orf k X b = X + b * 256 ^ k := by
  have hm : b * 256 ^ k ≤ 255 * 256 ^ 7 ∧ 0 ≤ b * 256 ^ k := by
    have hp := pow256_pos k
    have h7 := pow256_mono hk
    exact ⟨Int.mul_le_mul (by omega) h7 (by omega) (by omega), Int.mul_nonneg (by omega) (by omega)⟩
  have h7 : (255 : Int) * 256 ^ 7 < 18446744073709551616 := by decide
  have hX : X < 18446744073709551616 := Int.lt_of_lt_of_le X1 (Int.le_trans (pow256_mono (show k ≤ 8 by omega)) (by decide))
  unfold orf
  rw [pow8', wrap_u64 _ hm.2 (by omega)]
  obtain ⟨x, rfl⟩ := Int.eq_ofNat_of_zero_le X0
  obtain ⟨y, rfl⟩ := Int.eq_ofNat_of_zero_le b0
  have e : (y : Int) * 256 ^ k = ((2 ^ (8 * k) * y : Nat) : Int) := by rw [Int.mul_comm]; push_cast; rw [pow8']
  rw [e] at hm ⊢
  rw [u64_or_nat _ _ (by omega) (by omega), Nat.or_comm, ← Nat.two_pow_add_eq_or_of_lt]
  · push_cast; omega
  · have : ((x : Nat) : Int) < ((2 ^ (8 * k) : Nat) : Int) := by push_cast; rw [pow8']; exact X1
    exact_mod_cast this

theorem tk_len {n : Nat} {z : List Int} {x p c q : Int} {l : List Int} {p' c' q' : Int} (h : St [] n (tk z x p) p c q l p' c' q') (hz : z.length = n) (h0 : 0 ≤ p) (h1 : p ≤ n) (hx : 0 ≤ x) : (l.length : Int) ≤ x ∧ ∀ b ∈ l, b ∈ z := by
  obtain ⟨_, _, ⟨_, rfl, _⟩ | ⟨_, g0, rfl, _⟩ | ⟨_, _, rfl, _⟩⟩ := h
  · simp [hx]
  · obtain ⟨t1, t2, t3⟩ := tk_once h0 (by rw [hz]; exact h1) g0
    rw [t3]
    refine ⟨?_, fun b hb => ?_⟩
    · show ((piece z p.toNat (p + x).toNat).length : Int) ≤ x
      rw [length_piece hz (by rw [hz] at t2; omega)]; omega
    · exact List.mem_of_mem_drop (List.mem_of_mem_take hb)
  · simp [hx]

/-- What the document's readers of bytes hand back. -/
def RBRPost (s : Value) (n : Nat) (g : Rs (List Int)) (p c q : Int) (w : World) (e : Ending) (w' : World) : Prop :=
  ∃ A k m l p' c' q', e = .returned (.tuple #[cv s p' c' q', .slice A k m]) ∧ Below w.heap.size w w' ∧ St [] n g p c q l p' c' q' ∧ Bs w' A k l ∧ k ≤ m
/-- What the document's readers of a fixed number hand back. -/
def RFxPost (s : Value) (n : Nat) (g : Rs Int) (p c q : Int) (w : World) (e : Ending) (w' : World) : Prop :=
  ∃ v p' c' q', e = .returned (.tuple #[cv s p' c' q', .int .u64 v]) ∧ Below w.heap.size w w' ∧ St 0 n g p c q v p' c' q'

end Go.Proofs.Ytgdcbfekekefiaa.Cur

namespace Go.Proofs.Ytgdcbfekekefiaa.Cur
open Go.RowKit Mem
set_option linter.unusedVariables false

theorem bl_put {z pre y rest : List Int} {mo : Int} (hz : z = pre ++ (vz y.length ++ y) ++ rest) (hl : (y.length : Int) ≤ mo) (h64 : (y.length : Int) < 18446744073709551616) : bl z mo pre.length = (y, ((pre.length + (vz y.length ++ y).length : Nat) : Int), 0, 0) := by
  unfold bl
  rw [Rs.bind_of (vm_put (rest := y ++ rest) (x := y.length) (pre := pre) (by rw [hz]; simp only [List.append_assoc]) (by omega) h64 hl)]
  have h := tk_put (z := z) (pre := pre ++ vz y.length) (y := y) (rest := rest) (by rw [hz]; simp only [List.append_assoc])
  rw [List.length_append, vz_length] at h
  rw [h, List.length_append, vz_length, Nat.add_assoc]
theorem bl_once {z : List Int} {mo p : Int} (hby : ∀ x ∈ z, 0 ≤ x ∧ x < 256) (h0 : 0 ≤ p) (h1 : p ≤ z.length) (h : (bl z mo p).2.2.1 = 0) :
    vz (bl z mo p).1.length ++ (bl z mo p).1 = piece z p.toNat (bl z mo p).2.1.toNat ∧ ((bl z mo p).1.length : Int) ≤ mo ∧ p ≤ (bl z mo p).2.1 ∧ (bl z mo p).2.1 ≤ z.length := by
  unfold bl at h ⊢
  obtain ⟨g0, e⟩ := Rs.bind_ok h
  rw [e] at h ⊢
  obtain ⟨v0, v1, v2⟩ := vm_ok g0
  rw [v2] at h ⊢
  obtain ⟨a1, a2, a3, a4, a5⟩ := vg_once hby h0 h1 v0
  obtain ⟨t1, t2, t3⟩ := tk_once (by omega) a5 h
  rw [t3]
  show vz (piece z (vg z p).2.1.toNat ((vg z p).2.1 + (vg z p).1).toNat).length ++ piece z (vg z p).2.1.toNat ((vg z p).2.1 + (vg z p).1).toNat = piece z p.toNat ((vg z p).2.1 + (vg z p).1).toNat ∧ ((piece z (vg z p).2.1.toNat ((vg z p).2.1 + (vg z p).1).toNat).length : Int) ≤ mo ∧ p ≤ (vg z p).2.1 + (vg z p).1 ∧ (vg z p).2.1 + (vg z p).1 ≤ z.length
  rw [length_piece (n := z.length) rfl (by omega), show (((vg z p).2.1 + (vg z p).1).toNat - (vg z p).2.1.toNat : Nat) = (vg z p).1.toNat by omega, show (((vg z p).1.toNat : Nat) : Int) = (vg z p).1 by omega, a1]
  exact ⟨piece_append (by omega) (by omega) (by omega), v1, by omega, by omega⟩

theorem lgo_once {z : List Int} (hby : ∀ x ∈ z, 0 ≤ x ∧ x < 256) : ∀ (N : Nat) (p : Int) (acc : List Int), 0 ≤ p → p ≤ z.length → (lgo z N p acc).2.2.1 = 0 →
    ∃ t, (lgo z N p acc).1 = acc ++ t ∧ t.length = N ∧ (t.map vz).flatten = piece z p.toNat (lgo z N p acc).2.1.toNat ∧ p ≤ (lgo z N p acc).2.1 ∧ (lgo z N p acc).2.1 ≤ z.length
  | 0, p, acc, h0, h1, h => ⟨[], by simp [lgo], rfl, by simp [lgo, piece], Int.le_refl _, h1⟩
  | N + 1, p, acc, h0, h1, h => by
    rw [lgo] at h ⊢
    obtain ⟨g0, e⟩ := Rs.bind_ok h
    rw [e] at h ⊢
    obtain ⟨a1, a2, a3, a4, a5⟩ := vg_once hby h0 h1 g0
    obtain ⟨t, b1, b2, b3, b4, b5⟩ := lgo_once hby N _ (acc ++ [(vg z p).1]) (by omega) a5 h
    refine ⟨(vg z p).1 :: t, by rw [b1, List.append_assoc]; rfl, by rw [List.length_cons, b2], ?_, by omega, b5⟩
    rw [List.map_cons, List.flatten_cons, b3, a1]
    exact piece_append (by omega) (by omega) (by omega)
theorem lgo_put {z : List Int} : ∀ (l pre acc rest : List Int), z = pre ++ (l.map vz).flatten ++ rest → (∀ x ∈ l, 0 ≤ x ∧ x < 18446744073709551616) → lgo z l.length pre.length acc = (acc ++ l, ((pre.length + (l.map vz).flatten.length : Nat) : Int), 0, 0)
  | [], pre, acc, rest, _, _ => by simp [lgo]
  | x :: l, pre, acc, rest, hz, hb => by
    obtain ⟨x0, x1⟩ := hb x (List.mem_cons_self ..)
    rw [List.map_cons, List.flatten_cons] at hz ⊢
    rw [List.length_cons, lgo, Rs.bind_of (vg_put (rest := (l.map vz).flatten ++ rest) (x := x) (pre := pre) (by rw [hz]; simp only [List.append_assoc]) x0 x1)]
    have := lgo_put (z := z) l (pre ++ vz x) (acc ++ [x]) rest (by rw [hz]; simp only [List.append_assoc]) (fun y hy => hb y (List.mem_cons_of_mem _ hy))
    rw [List.length_append, vz_length] at this
    rw [this, List.length_append, vz_length, Nat.add_assoc, List.append_assoc]
    rfl
theorem rl_put {z pre l rest : List Int} {mo : Int} (hz : z = pre ++ lz l ++ rest) (hl : (l.length : Int) ≤ mo) (h64 : (l.length : Int) < 18446744073709551616) (hb : ∀ x ∈ l, 0 ≤ x ∧ x < 18446744073709551616) : rl z mo pre.length = (l, ((pre.length + (lz l).length : Nat) : Int), 0, 0) := by
  have e : lz l = vz l.length ++ (l.map vz).flatten := rfl
  rw [e] at hz ⊢
  unfold rl
  rw [Rs.bind_of (vm_put (rest := (l.map vz).flatten ++ rest) (x := l.length) (pre := pre) (by rw [hz]; simp only [List.append_assoc]) (by omega) h64 hl), Int.toNat_natCast]
  have := lgo_put (z := z) l (pre ++ vz l.length) [] rest (by rw [hz]; simp only [List.append_assoc]) hb
  rw [List.length_append, vz_length] at this
  rw [this, List.length_append, vz_length, Nat.add_assoc]
  rfl
theorem rl_once {z : List Int} {mo p : Int} (hby : ∀ x ∈ z, 0 ≤ x ∧ x < 256) (h0 : 0 ≤ p) (h1 : p ≤ z.length) (h : (rl z mo p).2.2.1 = 0) :
    lz (rl z mo p).1 = piece z p.toNat (rl z mo p).2.1.toNat ∧ ((rl z mo p).1.length : Int) ≤ mo ∧ p ≤ (rl z mo p).2.1 ∧ (rl z mo p).2.1 ≤ z.length := by
  unfold rl at h ⊢
  obtain ⟨g0, e⟩ := Rs.bind_ok h
  rw [e] at h ⊢
  obtain ⟨v0, v1, v2⟩ := vm_ok g0
  rw [v2] at h ⊢
  obtain ⟨a1, a2, a3, a4, a5⟩ := vg_once hby h0 h1 v0
  obtain ⟨t, b1, b2, b3, b4, b5⟩ := lgo_once hby _ _ [] (by omega) a5 h
  rw [b1, List.nil_append]
  have hc : ((t.length : Nat) : Int) = (vg z p).1 := by rw [b2]; omega
  refine ⟨?_, by omega, by omega, b5⟩
  rw [show lz t = vz t.length ++ (t.map vz).flatten from rfl, hc, a1, b3]
  exact piece_append (by omega) (by omega) (by omega)

theorem lzk_len_ge (l : List Int) (k : Nat) : k + 1 ≤ (lzk l k).length := by
  induction k with
  | zero => rw [lzk, vz_length]; have := vsz_pos (l.length : Int); omega
  | succ k ih => rw [lzk, List.length_append, vz_length]; have := vsz_pos (l.getD k 0); omega
theorem rl_len {n : Nat} {z : List Int} {mo p c q : Int} {l : List Int} {p' c' q' : Int} (h : St [] n (rl z mo p) p c q l p' c' q') (hz : z.length = n) (hby : ∀ x ∈ z, 0 ≤ x ∧ x < 256) (h0 : 0 ≤ p) (h1 : p ≤ n) : l.length ≤ n := by
  obtain ⟨_, _, ⟨_, rfl, _⟩ | ⟨_, g0, rfl, _⟩ | ⟨_, _, rfl, _⟩⟩ := h
  · simp
  · obtain ⟨r1, _, r3, r4⟩ := rl_once hby h0 (by rw [hz]; exact h1) g0
    have h2 := lzk_len_ge (rl z mo p).1 (rl z mo p).1.length
    rw [← lz_eq, r1, length_piece (n := z.length) rfl (by omega)] at h2
    omega
  · simp
theorem lz_byte {l : List Int} (hl : (l.length : Int) < 18446744073709551616) (hb : ∀ x ∈ l, 0 ≤ x ∧ x < 18446744073709551616) : ∀ y ∈ lz l, 0 ≤ y ∧ y < 256 := by
  intro y hy
  have hy : y ∈ vz l.length ++ (l.map vz).flatten := hy
  rcases List.mem_append.1 hy with hy | hy
  · exact vz_byte _ (by omega) hl y hy
  · obtain ⟨t, ht, hy⟩ := List.mem_flatten.1 hy
    obtain ⟨x, hx, rfl⟩ := List.mem_map.1 ht
    obtain ⟨x0, x1⟩ := hb x hx
    exact vz_byte x x0 x1 y hy
theorem lev_fixZ (x : Int) (h0 : 0 ≤ x) : ∀ k, lev (fixZ x k) = x % 256 ^ k
  | 0 => by simp [fixZ, lev]
  | k + 1 => by
    rw [fixZ_succ, lev_snoc, lev_fixZ x h0 k, fixZ_length, Int.pow_succ]
    have hp := pow256_pos k
    generalize (256 : Int) ^ k = A at *
    have e1 : x / (A * 256) = x / A / 256 := by rw [Int.ediv_ediv_of_nonneg (by omega)]
    have e2 : x % A = x - A * (x / A) := by have := Int.mul_ediv_add_emod x A; omega
    have e3 : x % (A * 256) = x - A * 256 * (x / A / 256) := by have := Int.mul_ediv_add_emod x (A * 256); rw [e1] at this; omega
    have e4 : x / A % 256 = x / A - 256 * (x / A / 256) := by omega
    rw [e2, e3, e4]
    generalize x / A = u at *
    generalize u / 256 = v at *
    rw [Int.sub_mul, Int.mul_comm u A, Int.mul_assoc A 256 v, Int.mul_comm (256 * v) A]
    omega
theorem fixN_8 : fixN 8 = 8 := by decide
theorem fx_put {z pre rest : List Int} {x : Int} (k : Nat) (hz : z = pre ++ fixZ x k ++ rest) (x0 : 0 ≤ x) (x1 : x < 256 ^ k) : fx z k pre.length = (x, ((pre.length + k : Nat) : Int), 0, 0) := by
  have h := tk_put hz
  rw [fixZ_length] at h
  unfold fx Rs.map
  rw [h]
  show (lev (fixZ x k), _) = _
  rw [lev_fixZ x x0 k, Int.emod_eq_of_lt x0 x1]
end Go.Proofs.Ytgdcbfekekefiaa.Cur

namespace Go.Proofs.Ytgdcbfekekefiaa.Cur
open Go.RowKit Mem
set_option linter.unusedVariables false

theorem bs_new (w : World) (z : List Int) (t : Nat) : Bs (w.alloc (.cells (z.map (Value.int .u8)).toArray t)) (some ⟨w.heap.size, 0, none⟩) z.length z := Bs.of_block (heap_alloc_new _ _)
theorem us_new (w : World) (z : List Int) (t : Nat) : Us (w.alloc (.cells (uv z).toArray t)) (some ⟨w.heap.size, 0, none⟩) z.length z := ⟨rfl, rw_new w (uv z) t⟩
theorem puts_list {l z : List Int} {M : Int} (h : (z.length : Int) + (lz l).length ≤ M) : puts (litems l) z M 0 = (z ++ lz l, 0) := puts_fits h
theorem puts_blob {y z : List Int} {n : Nat} {M : Int} (h : (z.length : Int) + (vz n ++ y).length ≤ M) : puts [vz n, y] z M 0 = (z ++ (vz n ++ y), 0) := by
  have := puts_fits (xs := [vz n, y]) (z := z) (M := M) (by simpa using h)
  simpa using this
theorem lz_len {l : List Int} {n : Nat} (h : l.length = n) : (lz l).length ≤ 10 * n + 10 := by
  have := lzk_len l l.length
  rwa [← lz_eq, h] at this
def RRLPost (s : Value) (n : Nat) (g : Rs (List Int)) (p c q : Int) (w : World) (e : Ending) (w' : World) : Prop :=
  ∃ v l p' c' q', e = .returned (.tuple #[cv s p' c' q', v]) ∧ OwnU w' w.heap.size v l ∧ Below w.heap.size w w' ∧ St [] n g p c q l p' c' q' ∧ ∀ x ∈ l, 0 ≤ x ∧ x < 18446744073709551616


end Go.Proofs.Ytgdcbfekekefiaa.Cur
