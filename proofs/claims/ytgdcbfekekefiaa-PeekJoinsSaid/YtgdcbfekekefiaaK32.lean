/- K32: DltM DltA DltB DltC DltD DltE -/
import Derived.Test.YtgdcbfekekefiaaK6
import Derived.BigRegion
import Derived.Deep.Cut
/- Falling lists (package delta): the plain facts. -/
/- Falling lists (package delta): Falls, the program's and the document's; Steps and List, by make and store; the document's Steps. -/
/- Falling lists: Steps and List, by make and store; the document's Steps. -/
/- Falling lists: Put, Size; the document's bytes. -/
/- Falling lists read by the program: a number below another one; Read. -/
/- Falling lists: the document's reader. -/
namespace Go.Proofs.Ytgdcbfekekefiaa.Cur
open Go.RowKit Mem
set_option linter.unusedVariables false

/-- What stands ahead of number k: the number below which the list is, or the number before it. -/
def bel (b : Int) (l : List Int) (k : Nat) : Int := (b :: l).getD k 0
theorem bel_zero (b : Int) (l : List Int) : bel b l 0 = b := rfl
theorem bel_succ (b : Int) (l : List Int) (k : Nat) : bel b l (k + 1) = l.getD k 0 := rfl
theorem bel_bd {b : Int} {l : List Int} {k : Nat} (h0 : 0 ≤ b) (h1 : b < 18446744073709551616) (hb : ∀ x ∈ l, 0 ≤ x ∧ x < 18446744073709551616) (hk : k ≤ l.length) : 0 ≤ bel b l k ∧ bel b l k < 18446744073709551616 := by
  cases k with
  | zero => exact ⟨h0, h1⟩
  | succ k => exact hb _ (getD_mem (by omega))
/-- Does a list fall below a number? -/
def flb : Int → List Int → Bool
  | _, [] => true
  | b, x :: l => decide (x < b) && flb x l
theorem flb_iff : ∀ (l : List Int) (b : Int), flb b l = true ↔ ∀ k, k < l.length → l.getD k 0 < bel b l k
  | [], b => by simp [flb]
  | x :: l, b => by
    rw [flb, Bool.and_eq_true, flb_iff l x, decide_eq_true_eq]
    constructor
    · rintro ⟨h1, h2⟩ k hk
      cases k with
      | zero => exact h1
      | succ k => exact h2 k (by simpa using hk)
    · intro h
      exact ⟨h 0 (by simp), fun k hk => h (k + 1) (by simpa using hk)⟩
theorem flb_no {b : Int} {l : List Int} {k : Nat} (hk : k < l.length) (h : ¬ l.getD k 0 < bel b l k) : flb b l = false := by
  cases e : flb b l with
  | false => rfl
  | true => exact absurd ((flb_iff l b).1 e k hk) h
/-- A list's steps. -/
def dif : Int → List Int → List Int
  | _, [] => []
  | b, x :: l => (b - x - 1) :: dif x l
theorem dif_len : ∀ (l : List Int) (b : Int), (dif b l).length = l.length
  | [], _ => rfl
  | x :: l, b => by rw [dif, List.length_cons, dif_len l x, List.length_cons]
theorem dif_getD : ∀ (l : List Int) (b : Int) (k : Nat), k < l.length → (dif b l).getD k 0 = bel b l k - l.getD k 0 - 1
  | x :: l, b, 0, _ => rfl
  | x :: l, b, k + 1, h => dif_getD l x k (by simpa using h)
/-- The list of steps. -/
def unl : Int → List Int → List Int
  | _, [] => []
  | b, s :: l => (b - s - 1) :: unl (b - s - 1) l
theorem unl_len : ∀ (s : List Int) (b : Int), (unl b s).length = s.length
  | [], _ => rfl
  | x :: l, b => by rw [unl, List.length_cons, unl_len l _, List.length_cons]
theorem unl_getD : ∀ (s : List Int) (b : Int) (k : Nat), k < s.length → (unl b s).getD k 0 = bel b (unl b s) k - s.getD k 0 - 1
  | x :: l, b, 0, _ => rfl
  | x :: l, b, k + 1, h => unl_getD l _ k (by simpa using h)
/-- Do they lead nowhere below 0? -/
def uok : Int → List Int → Bool
  | _, [] => true
  | b, s :: l => decide (s < b) && uok (b - s - 1) l
theorem uok_iff : ∀ (s : List Int) (b : Int), uok b s = true ↔ ∀ k, k < s.length → s.getD k 0 < bel b (unl b s) k
  | [], b => by simp [uok]
  | x :: l, b => by
    rw [uok, Bool.and_eq_true, uok_iff l _, decide_eq_true_eq]
    constructor
    · rintro ⟨h1, h2⟩ k hk
      cases k with
      | zero => exact h1
      | succ k => exact h2 k (by simpa using hk)
    · intro h
      exact ⟨h 0 (by simp), fun k hk => h (k + 1) (by simpa using hk)⟩
theorem uok_no {b : Int} {s : List Int} {k : Nat} (hk : k < s.length) (h : ¬ s.getD k 0 < bel b (unl b s) k) : uok b s = false := by
  cases e : uok b s with
  | false => rfl
  | true => exact absurd ((uok_iff s b).1 e k hk) h
theorem unl_dif : ∀ (l : List Int) (b : Int), unl b (dif b l) = l
  | [], _ => rfl
  | x :: l, b => by rw [dif, unl, show b - (b - x - 1) - 1 = x by omega, unl_dif l x]
theorem dif_unl : ∀ (s : List Int) (b : Int), dif b (unl b s) = s
  | [], _ => rfl
  | x :: l, b => by rw [unl, dif, show b - (b - x - 1) - 1 = x by omega, dif_unl l _]
theorem flb_unl : ∀ (s : List Int) (b : Int), (∀ x ∈ s, 0 ≤ x) → flb b (unl b s) = true
  | [], _, _ => rfl
  | x :: l, b, h => by
    have := h x (List.mem_cons_self ..)
    rw [unl, flb, flb_unl l _ (fun y hy => h y (List.mem_cons_of_mem _ hy)), Bool.and_true, decide_eq_true_eq]
    omega
theorem uok_dif : ∀ (l : List Int) (b : Int), (∀ x ∈ l, 0 ≤ x) → uok b (dif b l) = true
  | [], _, _ => rfl
  | x :: l, b, h => by
    have := h x (List.mem_cons_self ..)
    rw [dif, uok, show b - (b - x - 1) - 1 = x by omega, uok_dif l x (fun y hy => h y (List.mem_cons_of_mem _ hy)), Bool.and_true, decide_eq_true_eq]
    omega
theorem dif_bd : ∀ (l : List Int) (b : Int), flb b l = true → b < 18446744073709551616 → (∀ x ∈ l, 0 ≤ x) → ∀ x ∈ dif b l, 0 ≤ x ∧ x < 18446744073709551616
  | [], _, _, _, _ => by simp [dif]
  | x :: l, b, h, hb, h0 => by
    rw [flb, Bool.and_eq_true, decide_eq_true_eq] at h
    have hx := h0 x (List.mem_cons_self ..)
    intro y hy
    rw [dif, List.mem_cons] at hy
    rcases hy with rfl | hy
    · omega
    · exact dif_bd l x h.2 (by omega) (fun y hy => h0 y (List.mem_cons_of_mem _ hy)) y hy
theorem unl_bd : ∀ (s : List Int) (b : Int), uok b s = true → b < 18446744073709551616 → (∀ x ∈ s, 0 ≤ x) → ∀ x ∈ unl b s, 0 ≤ x ∧ x < 18446744073709551616
  | [], _, _, _, _ => by simp [unl]
  | x :: l, b, h, hb, h0 => by
    rw [uok, Bool.and_eq_true, decide_eq_true_eq] at h
    have hx := h0 x (List.mem_cons_self ..)
    intro y hy
    rw [unl, List.mem_cons] at hy
    rcases hy with rfl | hy
    · omega
    · exact unl_bd l _ h.2 (by omega) (fun y hy => h0 y (List.mem_cons_of_mem _ hy)) y hy
/-! ### Moved on -/
theorem flb_mv (y : Int) : ∀ (l : List Int) (b : Int), flb (b + y) (l.map (· + y)) = flb b l
  | [], _ => rfl
  | x :: l, b => by
    rw [List.map_cons, flb, flb, flb_mv y l x]
    congr 1
    exact decide_eq_decide.2 (by omega)
theorem dif_mv (y : Int) : ∀ (l : List Int) (b : Int), dif (b + y) (l.map (· + y)) = dif b l
  | [], _ => rfl
  | x :: l, b => by rw [List.map_cons, dif, dif, dif_mv y l x, show b + y - (x + y) - 1 = b - x - 1 by omega]

/-! ### Read -/
/-- So many numbers, each by its step. -/
def dgo (z : List Int) : Nat → Int → Int → List Int → Rs (List Int)
  | 0, p, _, acc => (acc, p, 0, 0)
  | k + 1, p, b, acc => (vg z p).bind [] fun x p1 => if b ≤ x then ([], 0, 13, p) else dgo z k p1 (b - x - 1) (acc ++ [b - x - 1])
def dl (z : List Int) (mo b p : Int) : Rs (List Int) := (vm z mo p).bind [] fun x p1 => dgo z x.toNat p1 b []
theorem dgo_once {z : List Int} (hby : ∀ x ∈ z, 0 ≤ x ∧ x < 256) : ∀ (N : Nat) (p b : Int) (acc : List Int), 0 ≤ p → p ≤ z.length → (dgo z N p b acc).2.2.1 = 0 →
    ∃ s p', dgo z N p b acc = (acc ++ unl b s, p', 0, 0) ∧ s.length = N ∧ uok b s = true ∧ (∀ x ∈ s, 0 ≤ x ∧ x < 18446744073709551616) ∧ p ≤ p' ∧ p' ≤ z.length ∧ (s.map vz).flatten = piece z p.toNat p'.toNat
  | 0, p, b, acc, h0, h1, h => ⟨[], p, by simp [dgo, unl], rfl, rfl, by simp, Int.le_refl _, h1, by simp [piece]⟩
  | N + 1, p, b, acc, h0, h1, h => by
    rw [dgo] at h ⊢
    obtain ⟨g0, e⟩ := Rs.bind_ok h
    rw [e] at h ⊢
    obtain ⟨a1, a2, a3, a4, a5⟩ := vg_once hby h0 h1 g0
    by_cases hx : b ≤ (vg z p).1
    · rw [if_pos hx] at h; exact absurd h (by show ¬ (13 : Int) = 0; decide)
    · rw [if_neg hx] at h ⊢
      obtain ⟨s, p', b1, b2, b3, b4, b5, b6, b7⟩ := dgo_once hby N _ _ _ (by omega) a5 h
      refine ⟨(vg z p).1 :: s, p', by rw [b1, unl, List.append_assoc]; rfl, by rw [List.length_cons, b2], ?_, ?_, by omega, b6, ?_⟩
      · rw [uok, b3, Bool.and_true, decide_eq_true_eq]; omega
      · intro x hx
        rcases List.mem_cons.1 hx with rfl | hx
        · exact ⟨a2, a3⟩
        · exact b4 x hx
      · rw [List.map_cons, List.flatten_cons, b7, a1]
        exact piece_append (by omega) (by omega) (by omega)
theorem dgo_put {z : List Int} : ∀ (s pre acc rest : List Int) (b : Int), z = pre ++ (s.map vz).flatten ++ rest → uok b s = true → (∀ x ∈ s, 0 ≤ x ∧ x < 18446744073709551616) →
    dgo z s.length pre.length b acc = (acc ++ unl b s, ((pre.length + (s.map vz).flatten.length : Nat) : Int), 0, 0)
  | [], pre, acc, rest, b, hz, hu, hb => by simp [dgo, unl]
  | x :: s, pre, acc, rest, b, hz, hu, hb => by
    rw [uok, Bool.and_eq_true, decide_eq_true_eq] at hu
    obtain ⟨x0, x1⟩ := hb x (List.mem_cons_self ..)
    have g := vg_put (z := z) (pre := pre) (rest := (s.map vz).flatten ++ rest) (x := x) (by rw [hz]; simp) x0 x1
    rw [List.length_cons, dgo, Rs.bind_of g, if_neg (by omega)]
    have ih := dgo_put (z := z) s (pre ++ vz x) (acc ++ [b - x - 1]) rest (b - x - 1) (by rw [hz]; simp) hu.2 (fun y hy => hb y (List.mem_cons_of_mem _ hy))
    rw [List.length_append, vz_length] at ih
    rw [ih, unl, List.append_assoc, List.map_cons, List.flatten_cons, List.length_append, vz_length, Nat.add_assoc]
    rfl
theorem dl_put {z pre rest l : List Int} {mo b : Int} (hz : z = pre ++ lz (dif b l) ++ rest) (hl : (l.length : Int) ≤ mo) (h64 : (l.length : Int) < 18446744073709551616) (hb : ∀ x ∈ l, 0 ≤ x ∧ x < 18446744073709551616) (hf : flb b l = true) (hb1 : b < 18446744073709551616) :
    dl z mo b pre.length = (l, ((pre.length + (lz (dif b l)).length : Nat) : Int), 0, 0) := by
  have e : lz (dif b l) = vz ((dif b l).length) ++ ((dif b l).map vz).flatten := rfl
  rw [dif_len] at e
  have g := vm_put (z := z) (pre := pre) (rest := ((dif b l).map vz).flatten ++ rest) (x := (l.length : Int)) (mo := mo) (by rw [hz, e]; simp) (by omega) h64 hl
  unfold dl
  rw [Rs.bind_of g, Int.toNat_natCast]
  have h2 := dgo_put (z := z) (dif b l) (pre ++ vz l.length) [] rest b (by rw [hz, e]; simp) (uok_dif l b (fun x hx => (hb x hx).1)) (dif_bd l b hf hb1 (fun x hx => (hb x hx).1))
  rw [dif_len, List.length_append, vz_length, unl_dif, List.nil_append] at h2
  rw [h2, e, List.length_append, vz_length, Nat.add_assoc]
theorem dl_once {z : List Int} {mo b p : Int} (hby : ∀ x ∈ z, 0 ≤ x ∧ x < 256) (h0 : 0 ≤ p) (h1 : p ≤ z.length) (hb1 : b < 18446744073709551616) (h : (dl z mo b p).2.2.1 = 0) :
    ∃ l p', dl z mo b p = (l, p', 0, 0) ∧ (l.length : Int) ≤ mo ∧ flb b l = true ∧ (∀ x ∈ l, 0 ≤ x ∧ x < 18446744073709551616) ∧ p ≤ p' ∧ p' ≤ z.length ∧ lz (dif b l) = piece z p.toNat p'.toNat := by
  unfold dl at h ⊢
  obtain ⟨g0, e⟩ := Rs.bind_ok h
  rw [e] at h ⊢
  obtain ⟨v0, v1, v2⟩ := vm_ok g0
  rw [v2] at h ⊢
  obtain ⟨a1, a2, a3, a4, a5⟩ := vg_once hby h0 h1 v0
  obtain ⟨s, p', b1, b2, b3, b4, b5, b6, b7⟩ := dgo_once hby _ _ b [] (by omega) a5 h
  have e2 : lz (dif b (unl b s)) = vz s.length ++ (s.map vz).flatten := by rw [dif_unl]; rfl
  refine ⟨unl b s, p', by rw [b1]; rfl, by rw [unl_len, b2]; omega, flb_unl s b (fun x hx => (b4 x hx).1), unl_bd s b b3 hb1 (fun x hx => (b4 x hx).1), by omega, b6, ?_⟩
  rw [e2, b7, b2, show (((vg z p).1.toNat : Nat) : Int) = (vg z p).1 by omega, a1]
  exact piece_append (by omega) (by omega) (by omega)
end Go.Proofs.Ytgdcbfekekefiaa.Cur

namespace Go.Proofs.Ytgdcbfekekefiaa.Cur
open Go.RowKit Mem
set_option linter.unusedVariables false


/-- A row of numbers whose first k are those of a list, the others 0. -/
def rowz (L : List Int) (n k : Nat) : List Value := uv (L.take k) ++ List.replicate (n - k) (.int .u64 0)
theorem rowz_len {L : List Int} {n k : Nat} (hl : L.length = n) (hk : k ≤ n) : (rowz L n k).length = n := by
  unfold rowz; rw [List.length_append, List.length_map, List.length_take, List.length_replicate]; omega
theorem rowz_made (L : List Int) (n : Nat) : madeCells #[.int .u64 0] n = (rowz L n 0).toArray := by
  unfold madeCells rowz
  apply Array.ext
  · simp
  · intro i h1 h2
    simp [Nat.mod_one]
theorem rowz_at {L : List Int} {n k : Nat} (hl : L.length = n) (hk : k < n) : (rowz L n k).toArray[k]? = some (.int .u64 0) := by
  have e : (uv (L.take k)).length = k := by rw [List.length_map, List.length_take]; omega
  rw [List.getElem?_toArray]
  unfold rowz
  rw [List.getElem?_append_right (by omega), e, Nat.sub_self, List.getElem?_replicate]
  rw [if_pos (by omega)]
theorem rowz_set {L : List Int} {n k : Nat} (hl : L.length = n) (hk : k < n) : (rowz L n k).toArray.setIfInBounds k (.int .u64 (L.getD k 0)) = (rowz L n (k + 1)).toArray := by
  have e : (uv (L.take k)).length = k := by rw [List.length_map, List.length_take]; omega
  rw [List.setIfInBounds_toArray]
  congr 1
  unfold rowz
  rw [List.set_append_right _ _ (by omega), e, Nat.sub_self, show n - k = (n - (k + 1)) + 1 by omega, List.replicate_succ, List.set_cons_zero, List.take_succ_eq_append_getElem (by omega : k < L.length), uv, uv, List.map_append, List.append_assoc]
  congr 1
  simp [List.getD_eq_getElem?_getD, List.getElem?_eq_getElem (by omega : k < L.length)]
theorem rowz_end {L : List Int} {n : Nat} (hl : L.length = n) : rowz L n n = uv L := by
  unfold rowz; rw [Nat.sub_self, ← hl, List.take_length]; simp
theorem ownu_of_blk {w : World} {g B : Nat} {z : List Int} (h : Blk w g (uv z).toArray 22) (hB : B ≤ g) (hm : z.length ≤ 1000000) : OwnU w B (.slice (some ⟨g, 0, none⟩) z.length z.length) z :=
  ⟨by simp, .inr ⟨g, z.length, _, rfl, hB, h, Nat.le_refl _, by simp only [maxLen]; omega, by simp, by rw [Nat.mul_one]; exact List.take_of_length_le (by simp)⟩⟩

theorem Us.at2 {w : World} {g o n : Nat} {z : List Int} (h : Us w (some ⟨g, o, none⟩) n z) {k : Nat} (hk : k < n) : w.cell? ⟨g, o + k, none⟩ = some (.int .u64 (z.getD k 0)) := by
  obtain ⟨g', o', e, hc⟩ := h.at_ hk
  injection e with e
  injection e with e1 e2
  subst e1 e2
  exact hc

set_option maxHeartbeats 1000000 in
theorem dfalls_any (A : Option Addr) (n m : Nat) (b : Int) (z : List Int) (w : World) (hz : Us w A n z) (hn : n ≤ 1000000) (hby : ∀ x ∈ z, 0 ≤ x ∧ x < 18446744073709551616) (b0 : 0 ≤ b) (b1 : b < 18446744073709551616) :
    Calls Try.prog 95 #[.int .u64 b, .slice A n m] w (BPost (.bool (flb b z)) w) := by
  unfold BPost
  have HB := Lib.hid hby
  have HL := Lib.hid hz.1
  have HU := Lib.hid hz
  have HE := Lib.hid (And.intro b0 b1)
  clear hby hz b0 b1
  go_enter Try.func95, Try.ntmps95
  go_wp2
  go_loopw [0, 8] (fun v i wr => ∃ k : Nat, k ≤ n ∧ i = .int .i64 k ∧ v = .int .u64 (bel b z k) ∧ Hid (∀ j, j < k → z.getD j 0 < bel b z j) ∧ Below w.heap.size w wr) (fun _ i _ => n - (intOf i).toNat)
  case atStart => exact ⟨0, by omega, rfl, rfl, Lib.hid (by intro j hj; omega), Below.refl _ _⟩
  case round =>
    obtain ⟨k, hk, rfl, rfl, hj, hb⟩ := hrel
    by_cases hlt : k < n
    · have hx := HB.out _ (getD_mem (z := z) (k := k) (by rw [HL.out]; exact hlt))
      have hy := bel_bd (k := k) HE.out.1 HE.out.2 HB.out (by rw [HL.out]; omega)
      obtain ⟨g, o, rfl, hc⟩ := (HU.out.below hb).at_ hlt
      have HS := Lib.hid (show bel b z (k + 1) = z.getD k 0 from rfl)
      obtain ⟨x, hxe⟩ : ∃ x, x = z.getD k 0 := ⟨_, rfl⟩
      obtain ⟨y, hye⟩ : ∃ y, y = bel b z k := ⟨_, rfl⟩
      rw [← hxe] at hx hc HS
      rw [← hye] at hy ⊢
      have HX := Lib.hid hxe
      have HY := Lib.hid hye
      clear hxe hye
      have e3 : IntKind.i64.wrap ((k : Int) + 1) = ((k + 1 : Nat) : Int) := IntWalk.i64_in _ (by omega)
      by_cases hle : x < y
      · go_wp2
        go_roundw
        case rel => exact ⟨k + 1, hlt, by go_num, by rw [HS.out], Lib.hid (fun j hjk => by
          rcases Nat.lt_or_ge j k with h | h
          · exact hj.out j h
          · obtain rfl : j = k := by omega
            rw [← HX.out, ← HY.out]; exact hle), hb⟩
        case measure => simp [intOf]; omega
      · go_wp2
        go_ret
        exact ⟨by rw [flb_no (by rw [HL.out]; exact hlt) (by rw [← HX.out, ← HY.out]; omega)]; rfl, hb⟩
    · obtain rfl : k = n := by omega
      have HT : Hid (flb b z = true) := Lib.hid ((flb_iff z b).2 (fun j hj2 => hj.out j (by rw [← HL.out]; exact hj2)))
      go_wp2
      go_ret
      exact ⟨by rw [HT.out]; rfl, hb⟩

set_option maxHeartbeats 2000000 in
theorem rdfalls_any (A : Option Addr) (n m : Nat) (b : Int) (z : List Int) (w : World) (hz : Us w A n z) (hn : n ≤ 1000000) (hby : ∀ x ∈ z, 0 ≤ x ∧ x < 18446744073709551616) (b0 : 0 ≤ b) (b1 : b < 18446744073709551616) :
    Calls Try.prog 87 #[.int .u64 b, .slice A n m] w (BPost (.bool (flb b z)) w) := by
  unfold BPost
  have HB := Lib.hid hby
  have HL := Lib.hid hz.1
  have HU := Lib.hid hz
  clear hby hz
  go_enter Try.func87, Try.ntmps87
  go_wp2
  go_loopw [5] (fun i wr => ∃ k : Nat, k ≤ n ∧ i = .int .i64 k ∧ Hid (∀ j, j < k → z.getD j 0 < bel b z j) ∧ Below w.heap.size w wr) (fun i _ => n - (intOf i).toNat)
  case atStart => exact ⟨0, by omega, rfl, Lib.hid (by intro j hj; omega), Below.refl _ _⟩
  case round =>
    obtain ⟨k, hk, rfl, hj, hb⟩ := hrel
    by_cases hlt : k < n
    · have hx := HB.out _ (getD_mem (z := z) (k := k) (by rw [HL.out]; exact hlt))
      have hS : Below w.heap.size w wr.drew := hb.trans ⟨rfl, rfl, rfl, Nat.le_refl _, fun _ _ => rfl⟩
      cases k with
      | zero =>
        obtain ⟨g, o, rfl, _⟩ := (HU.out.below hb).at_ hlt
        have hc : ∀ w', Below w.heap.size w w' → w'.cell? ⟨g, o + 0, none⟩ = some (.int .u64 (z.getD 0 0)) := fun w' h => (HU.out.below h).at2 hlt
        simp only [Nat.add_zero] at hc
        obtain ⟨x, hxe⟩ : ∃ x, x = z.getD 0 0 := ⟨_, rfl⟩
        rw [← hxe] at hx
        simp only [← hxe] at hc
        have HX := Lib.hid hxe
        clear hxe
        rw [show ((0 : Nat) : Int) = 0 from rfl]
        by_cases hle : x < b
        · have d1 : decide (b ≤ x) = false := by simp; omega
          go_wp2
          refine Seq.wp_region_seq (fun w' => Below w.heap.size w w') (by kernel_rfl) (by kernel_rfl) hS ?_
          repeat (first | (refine Seq.Seq.skip (by rfl) ?_; (try simp only [Act.put, List.setIfInBounds_toArray, List.set_cons_zero, List.set_cons_succ])) | (refine Seq.Seq.det ?_ (by rfl) (fun w hS => ?_) ?_; rotate_left; ((try dsimp only at hS); go_simp; (try rw [if_pos (by omega)]); with_reducible rfl); (try simp only [Act.put, List.setIfInBounds_toArray, List.set_cons_zero, List.set_cons_succ])))
          refine Seq.Seq.nil ?_
          go_wp2
          go_roundw
          case rel => exact ⟨1, hlt, rfl, Lib.hid (fun j hjk => by
            obtain rfl : j = 0 := by omega
            rw [← HX.out]; exact hle), hS⟩
          case measure => simp [intOf]; omega
        · have d1 : decide (b ≤ x) = true := by simp; omega
          go_wp2
          refine Seq.wp_region_seq (fun w' => Below w.heap.size w w') (by kernel_rfl) (by kernel_rfl) hS ?_
          repeat (first | (refine Seq.Seq.skip (by rfl) ?_; (try simp only [Act.put, List.setIfInBounds_toArray, List.set_cons_zero, List.set_cons_succ])) | (refine Seq.Seq.det ?_ (by rfl) (fun w hS => ?_) ?_; rotate_left; ((try dsimp only at hS); go_simp; (try rw [if_pos (by omega)]); with_reducible rfl); (try simp only [Act.put, List.setIfInBounds_toArray, List.set_cons_zero, List.set_cons_succ])))
          refine Seq.Seq.nil ?_
          go_wp2
          go_ret
          exact ⟨by rw [flb_no (k := 0) (by rw [HL.out]; exact hlt) (by rw [← HX.out, bel_zero]; omega)]; rfl, hS⟩
      | succ k =>
        have hy := HB.out _ (getD_mem (z := z) (k := k) (by rw [HL.out]; omega))
        obtain ⟨g, o, rfl, _⟩ := (HU.out.below hb).at_ hlt
        have hc : ∀ w', Below w.heap.size w w' → w'.cell? ⟨g, o + (k + 1), none⟩ = some (.int .u64 (z.getD (k + 1) 0)) := fun w' h => (HU.out.below h).at2 hlt
        have hc' : ∀ w', Below w.heap.size w w' → w'.cell? ⟨g, o + k, none⟩ = some (.int .u64 (z.getD k 0)) := fun w' h => (HU.out.below h).at2 (show k < n by omega)
        obtain ⟨x, hxe⟩ : ∃ x, x = z.getD (k + 1) 0 := ⟨_, rfl⟩
        obtain ⟨y, hye⟩ : ∃ y, y = z.getD k 0 := ⟨_, rfl⟩
        rw [← hxe] at hx
        rw [← hye] at hy
        simp only [← hxe] at hc
        simp only [← hye] at hc'
        have HX := Lib.hid hxe
        have HY := Lib.hid (show y = bel b z (k + 1) from hye)
        clear hxe hye
        have e1 : ((k + 1 : Nat) : Int) = (k : Int) + 1 := by omega
        rw [e1]
        clear e1
        have e2 : (k : Int) + 1 < n := by omega
        have e3 : (0 : Int) ≤ k := by omega
        have e4 : IntKind.i64.wrap ((k : Int) + 1 - 1) = (k : Int) := by rw [show (k : Int) + 1 - 1 = k by omega]; exact IntWalk.i64_in _ (by omega)
        have e5 : (k : Int) < n := by omega
        have e6 : ((k : Int) + 1).toNat = k + 1 := by omega
        have e7 : ((k : Int) + 1 == 0) = false := by simp; omega
        have e9 : (0 : Int) ≤ (k : Int) + 1 := by omega
        have e10 : IntKind.i64.wrap (k : Int) = (k : Int) := IntWalk.i64_in _ (by omega)
        have e11 : (0 : Int) < (k : Int) + 1 := by omega
        by_cases hle : x < y
        · have d1 : decide (y ≤ x) = false := by simp; omega
          go_wp2
          refine Seq.wp_region_seq (fun w' => Below w.heap.size w w') (by kernel_rfl) (by kernel_rfl) hS ?_
          repeat (first | (refine Seq.Seq.skip (by rfl) ?_; (try simp only [Act.put, List.setIfInBounds_toArray, List.set_cons_zero, List.set_cons_succ])) | (refine Seq.Seq.det ?_ (by rfl) (fun w hS => ?_) ?_; rotate_left; ((try dsimp only at hS); go_simp; (try rw [if_pos (by omega)]); with_reducible rfl); (try simp only [Act.put, List.setIfInBounds_toArray, List.set_cons_zero, List.set_cons_succ])))
          refine Seq.Seq.nil ?_
          go_wp2
          go_roundw
          case rel => exact ⟨k + 1 + 1, hlt, by go_num, Lib.hid (fun j hjk => by
            rcases Nat.lt_or_ge j (k + 1) with h | h
            · exact hj.out j h
            · obtain rfl : j = k + 1 := by omega
              rw [← HX.out, ← HY.out]; exact hle), hS⟩
          case measure => simp [intOf]; omega
        · have d1 : decide (y ≤ x) = true := by simp; omega
          go_wp2
          refine Seq.wp_region_seq (fun w' => Below w.heap.size w w') (by kernel_rfl) (by kernel_rfl) hS ?_
          repeat (first | (refine Seq.Seq.skip (by rfl) ?_; (try simp only [Act.put, List.setIfInBounds_toArray, List.set_cons_zero, List.set_cons_succ])) | (refine Seq.Seq.det ?_ (by rfl) (fun w hS => ?_) ?_; rotate_left; ((try dsimp only at hS); go_simp; (try rw [if_pos (by omega)]); with_reducible rfl); (try simp only [Act.put, List.setIfInBounds_toArray, List.set_cons_zero, List.set_cons_succ])))
          refine Seq.Seq.nil ?_
          go_wp2
          go_ret
          exact ⟨by rw [flb_no (by rw [HL.out]; exact hlt) (by rw [← HX.out, ← HY.out]; omega)]; rfl, hS⟩
    · obtain rfl : k = n := by omega
      have HT : Hid (flb b z = true) := Lib.hid ((flb_iff z b).2 (fun j hj2 => hj.out j (by rw [← HL.out]; exact hj2)))
      go_wp2
      go_ret
      exact ⟨by rw [HT.out]; rfl, hb⟩
end Go.Proofs.Ytgdcbfekekefiaa.Cur

namespace Go.Proofs.Ytgdcbfekekefiaa.Cur
open Go.RowKit Mem
set_option linter.unusedVariables false

theorem make_u64 (L : List Int) (n : Nat) (hn : n ≤ 1000000) (w' : World) : (Instr.makeSlice 34 (.int .i64 (n : Int)) (.int .i64 (n : Int))).run Try.prog w' = .ok (.slice (some ⟨w'.heap.size, 0, none⟩) n n) (w'.alloc (.cells (rowz L n 0).toArray 22)) := by
  have hinfo : (Try.prog.info? 22).map (fun i => (i.zero, i.size, i.bytes)) = some (some (.int .u64 0), 1, 8) := by kernel_rfl
  obtain ⟨i, h1, hzz⟩ := Option.map_eq_some_iff.1 hinfo
  simp only [Prod.mk.injEq] at hzz
  obtain ⟨h2, h3, h4⟩ := hzz
  have hr := Go.run_make (P := Try.prog) w' 34 22 i _ Try.underlying34 h1 h2 .i64 .i64 n n (by omega) (Int.le_refl _) (by rw [h4]; omega) (by omega)
  simp only [Int.toNat_natCast, h3, Nat.mul_one] at hr
  rw [hr, ← rowz_made]
  rfl
/-- A row that the call made, and whether. -/
def RBPost (l : List Int) (ok : Bool) (w : World) (e : Ending) (w' : World) : Prop :=
  ∃ v, e = .returned (.tuple #[v, .bool ok]) ∧ OwnU w' w.heap.size v l ∧ Below w.heap.size w w'

/-- A list's steps, or none; the list of steps, or none. -/
def difo (b : Int) (l : List Int) : List Int := if flb b l = true then dif b l else []
def unlo (b : Int) (s : List Int) : List Int := if uok b s = true then unl b s else []
theorem difo_yes {b : Int} {l : List Int} (h : flb b l = true) : difo b l = dif b l := if_pos h
theorem difo_no {b : Int} {l : List Int} (h : flb b l = false) : difo b l = [] := if_neg (by simp [h])
theorem unlo_yes {b : Int} {s : List Int} (h : uok b s = true) : unlo b s = unl b s := if_pos h
theorem unlo_no {b : Int} {s : List Int} (h : uok b s = false) : unlo b s = [] := if_neg (by simp [h])

theorem bel_unl_bd {b : Int} {s : List Int} (h0 : 0 ≤ b) (h1 : b < 18446744073709551616) (hs : ∀ x ∈ s, 0 ≤ x) : ∀ (k : Nat), k ≤ s.length → (∀ j, j < k → s.getD j 0 < bel b (unl b s) j) → 0 ≤ bel b (unl b s) k ∧ bel b (unl b s) k < 18446744073709551616
  | 0, _, _ => ⟨h0, h1⟩
  | k + 1, hk, h => by
    have ih := bel_unl_bd h0 h1 hs k (by omega) (fun j hj => h j (by omega))
    have h2 := h k (by omega)
    have h3 := hs _ (getD_mem (z := s) (k := k) (by omega))
    rw [bel_succ, unl_getD s b k (by omega)]
    omega

end Go.Proofs.Ytgdcbfekekefiaa.Cur

namespace Go.Proofs.Ytgdcbfekekefiaa.Cur
open Go.RowKit Mem
set_option linter.unusedVariables false

theorem own_parted {w : World} {B B' e e' size size' n m : Nat} {v u : Value} {xs ys : List Value} (h : w.ownsRow B e size v n xs) (k : w.ownsRow B' e' size' u m ys) (he : e ≠ e') : ∀ g, v.ownBlock = some g → u.ownBlock ≠ some g := by
  intro g hg hu
  rcases h.2 with ⟨rfl, _⟩ | ⟨g1, cap, cur, rfl, _, hh, _⟩
  · simp [Value.ownBlock] at hg
  · rcases k.2 with ⟨rfl, _⟩ | ⟨g2, cap2, cur2, rfl, _, hh2, _⟩
    · simp [Value.ownBlock] at hu
    · obtain rfl : g1 = g := by simpa [Value.ownBlock] using hg
      obtain rfl : g2 = g1 := by simpa [Value.ownBlock] using hu
      rw [hh] at hh2
      injection hh2 with hh2
      injection hh2 with _ hh2
      exact he hh2
theorem own_addr {w : World} {B e size n m c : Nat} {A : Option Addr} {xs : List Value} (h : w.ownsRow B e size (.slice A m c) n xs) : ∀ a, A = some a → B ≤ a.block := by
  intro a ha
  subst ha
  rcases h.2 with ⟨e, _⟩ | ⟨g, cap, cur, e, hg, _⟩
  · injection e with e; cases e
  · injection e with e; injection e with e; subst e; exact hg

/-- In how many bytes a list is written, or 0. -/
def dsz (b : Int) (l : List Int) : Int := if flb b l = true then ((lz (dif b l)).length : Int) else 0
end Go.Proofs.Ytgdcbfekekefiaa.Cur

namespace Go.Proofs.Ytgdcbfekekefiaa.Cur
open Go.RowKit Mem
set_option linter.unusedVariables false

/-- The reader's side and the document's side of 'a number, then a test of it'. -/
theorem St.tst {α : Type} {d : α} {n : Nat} {g : Rs Int} {p c q v p1 c1 q1 : Int} {bad : Int → Prop} [DecidablePred bad] {C P : Int} {r : Int → α} (h : St 0 n g p c q v p1 c1 q1) (hC : C ≠ 0) {u : α} {c2 q2 : Int}
    (k : (bad v ∧ u = d ∧ FailSt c1 q1 C P c2 q2) ∨ (¬ bad v ∧ u = (if c1 = 0 then r v else d) ∧ c2 = c1 ∧ q2 = q1)) :
    St d n (g.bind d fun x p1 => if bad x then (d, 0, C, P) else (r x, p1, 0, 0)) p c q u p1 c2 q2 := by
  have hp := h.place
  refine h.bind ?_
  rcases k with ⟨hb, rfl, hf⟩ | ⟨hb, rfl, rfl, rfl⟩
  · rcases hf with ⟨rfl, rfl, rfl⟩ | ⟨hc, rfl, rfl⟩
    · unfold fq
      rw [if_neg hC]
      exact St.fault (x := u) (y := 0) (by rw [if_pos hb]) hC hp.1 hp.2
    · exact St.stay hp.1 hp.2 hc
  · by_cases hc : c2 = 0
    · subst hc
      rw [if_pos rfl]
      exact St.done (by rw [if_neg hb]) hp.1 hp.2
    · rw [if_neg hc]
      exact St.stay hp.1 hp.2 hc
theorem FailSt.nz {c q C P c2 q2 : Int} (h : FailSt c q C P c2 q2) (hC : C ≠ 0) : c2 ≠ 0 := by
  rcases h with ⟨_, rfl, _⟩ | ⟨h, rfl, _⟩
  · exact hC
  · exact h

/-- A number below b, by its step. -/
def db (z : List Int) (b p : Int) : Rs Int := (vg z p).bind 0 fun x p1 => if b ≤ x then (0, 0, 13, p) else (b - x - 1, p1, 0, 0)
theorem dgo_succ (z : List Int) (k : Nat) (p b : Int) (acc : List Int) : dgo z (k + 1) p b acc = (db z b p).bind [] fun y p1 => dgo z k p1 y (acc ++ [y]) := by
  rw [dgo]
  unfold db Rs.bind
  by_cases h : (vg z p).2.2.1 ≠ 0
  · rw [if_pos h, if_pos h, if_pos (by exact h)]
  · rw [if_neg h, if_neg h]
    dsimp only
    by_cases hx : b ≤ (vg z p).1
    · simp [hx]
    · simp [hx]
end Go.Proofs.Ytgdcbfekekefiaa.Cur

namespace Go.Proofs.Ytgdcbfekekefiaa.Cur
open Go.RowKit Mem
set_option linter.unusedVariables false

end Go.Proofs.Ytgdcbfekekefiaa.Cur
