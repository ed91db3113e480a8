/- K36: LnkJ LnkL LnkN LnkO -/
import Derived.Test.YtgdcbfekekefiaaK35
import Derived.Lib.AppendZerosOnto
import Derived.Test.YtgdcbfekekefiaaK34
/- Links: a place; Find, by the program and by the document. -/
/- Links: slices of a row; slices.Grow and slices.Concat at links. -/
/- Links: one more, or another one, by the program. -/
/- Links: one more, or another one, by the document. -/
namespace Go.Proofs.Ytgdcbfekekefiaa.Cur
open Go.RowKit Mem
set_option linter.unusedVariables false
set_option maxRecDepth 100000


/-- Where the first one is that is so, or the length. -/
def pcx (g : Lk → Bool) : List Lk → Nat
  | [] => 0
  | s :: L => if g s then 0 else pcx g L + 1
theorem pcx_yes {g : Lk → Bool} : ∀ {L : List Lk} {k : Nat}, k < L.length → g (L.getD k lk0) = true → (∀ j, j < k → g (L.getD j lk0) = false) → pcx g L = k
  | [], _, h, _, _ => absurd h (by simp)
  | s :: L, 0, _, h, _ => by unfold pcx; rw [if_pos (by simpa using h)]
  | s :: L, k + 1, hk, h, hj => by
    have ih := pcx_yes (L := L) (k := k) (by simpa using hk) (by simpa using h) (fun j h2 => by have := hj (j + 1) (by omega); simpa using this)
    have h0 := hj 0 (by omega)
    unfold pcx
    rw [if_neg (by simpa using h0), ih]
theorem pcx_no {g : Lk → Bool} : ∀ {L : List Lk}, (∀ j, j < L.length → g (L.getD j lk0) = false) → pcx g L = L.length
  | [], _ => rfl
  | s :: L, h => by
    have ih := pcx_no (L := L) (fun j hj => by have := h (j + 1) (by simpa using hj); simpa using this)
    have h0 := h 0 (by simp)
    unfold pcx
    rw [if_neg (by simpa using h0), ih, List.length_cons]
theorem pcx_le (g : Lk → Bool) : ∀ L : List Lk, pcx g L ≤ L.length
  | [] => Nat.le_refl _
  | s :: L => by
    have := pcx_le g L
    unfold pcx
    rw [List.length_cons]
    split <;> omega
def isof (x : Int) (s : Lk) : Bool := decide (s.1 = x)
def isbe (x : Int) (s : Lk) : Bool := decide (x < s.1)
theorem fnl_pcx : ∀ (L : List Lk) (x : Int), fnl L x = if pcx (isof x) L < L.length then ((pcx (isof x) L : Nat) : Int) else -1
  | [], _ => rfl
  | s :: L, x => by
    have ih := fnl_pcx L x
    have e : pcx (isof x) (s :: L) = if isof x s = true then 0 else pcx (isof x) L + 1 := rfl
    have e2 : isof x s = decide (s.1 = x) := rfl
    rw [List.length_cons]
    unfold fnl
    by_cases h : s.1 = x
    · rw [if_pos (by rw [e2]; exact decide_eq_true h)] at e
      rw [if_pos h, e, if_pos (by omega)]; rfl
    · rw [if_neg (by rw [e2, decide_eq_false h]; decide)] at e
      rw [if_neg h, e, ih]
      by_cases h2 : pcx (isof x) L < L.length
      · rw [if_pos h2, if_neg (by omega), if_pos (by omega)]; push_cast; rfl
      · rw [if_neg h2, if_pos (by omega), if_neg (by omega)]
theorem gtl_pcx : ∀ (L : List Lk) (x : Int), gtl L x = pcx (isbe x) L
  | [], _ => rfl
  | s :: L, x => by
    have ih := gtl_pcx L x
    have e : pcx (isbe x) (s :: L) = if isbe x s = true then 0 else pcx (isbe x) L + 1 := rfl
    have e2 : isbe x s = decide (x < s.1) := rfl
    rw [e, e2]
    unfold gtl
    rw [ih]
    by_cases h : x < s.1
    · rw [if_pos h, if_pos (by simpa using h)]
    · rw [if_neg h, if_neg (by simpa using h)]

def ClPost (f : Nat) (x : Int) (w : World) (e : Ending) (w' : World) : Prop :=
  e = .returned (.func (.func f) #[] #[.pointer (some ⟨w.heap.size, 0, none⟩)]) ∧ Blk w' w.heap.size #[.int .u64 x] 22 ∧ Below w.heap.size w w'
theorem Blk.c1 {w : World} {b : Nat} {v : Value} {t : Nat} (h : Blk w b #[v] t) : w.cell? ⟨b, 0, none⟩ = some v := h.cell 0 rfl
/-- The link that is found, or none. -/
def fnd (L : List Lk) (x : Int) : Lk := if 0 ≤ fnl L x then L.getD (fnl L x).toNat lk0 else lk0
def LFdPost (L : List Lk) (x : Int) (w : World) (e : Ending) (w' : World) : Prop :=
  ∃ y z A m, fnd L x = (y, z) ∧ e = .returned (.tuple #[lkagg y A z.length m, .bool (decide (0 ≤ fnl L x))]) ∧ Below w.heap.size w w' ∧ LkE.R w' (fun k => w.heap.size ≤ k) [.int .u64 y, .slice A z.length m] (y, z)
theorem LkE.none (w : World) (P : Nat → Prop) : LkE.R w P [.int .u64 0, .slice none 0 0] lk0 := LkE.mk (x := 0) (z := []) (by omega) rfl (Nat.le_refl _) (fun _ => rfl) (Sq.nil _ _ _ _)
set_option maxHeartbeats 1000000 in
theorem rfind_any (P : Nat → Prop) (A : Option Addr) (n m : Nat) (L : List Lk) (x : Int) (w : World) (hz : Lks w P A n L) (hn : n ≤ 1000000) :
    Calls Try.prog 45 #[.slice A n m, .int .u64 x] w (BPost (.int .i64 (fnl L x)) w) := by
  unfold BPost
  have HL := Lib.hid hz.1
  have HC := Lib.hid (fun h => hz.cells h)
  have HYES := Lib.hid (fnl_yes L x)
  have HNO := Lib.hid (fnl_no L x)
  generalize fnl L x = r at *
  clear hz
  go_enter Try.func45, Try.ntmps45
  go_wp2
  go_loopw [5] (fun i wr => ∃ k : Nat, k ≤ n ∧ i = .int .i64 k ∧ Hid (∀ j, j < k → (L.getD j lk0).1 ≠ x) ∧ Below w.heap.size w wr) (fun i _ => n - (intOf i).toNat)
  case atStart => exact ⟨0, by omega, rfl, Lib.hid (by intro j hj; omega), Below.refl _ _⟩
  case round =>
    obtain ⟨k, hk, rfl, hj, hb⟩ := hrel
    by_cases hlt : k < n
    · obtain ⟨g, o, rfl, _, hg, hc⟩ := HC.out (by omega)
      obtain ⟨y, z, a, l, mm, he, yb, _, _, _, _, _, _, _, hcell⟩ := hc k hlt
      obtain ⟨c0, c1⟩ := hcell wr hb
      have HEQ := Lib.hid he
      have e2 : (k : Int) < n := by omega
      have e3 : IntKind.i64.wrap ((k : Int) + 1) = ((k + 1 : Nat) : Int) := IntWalk.i64_in _ (by omega)
      clear hc hcell he
      by_cases hxy : y = x
      · have hb2 : (y == x) = true := by simpa using hxy
        have HR := Lib.hid (HYES.out k (by rw [HL.out]; exact hlt) (by rw [HEQ.out]; exact hxy) hj.out)
        clear hxy
        go_wp2
        go_ret
        exact ⟨by rw [HR.out]; rfl, hb⟩
      · have hb2 : (y == x) = false := by simpa using hxy
        have HJ : Hid (∀ j, j < k + 1 → (L.getD j lk0).1 ≠ x) := Lib.hid (fun j hjk => by
          rcases Nat.lt_or_ge j k with h | h
          · exact hj.out j h
          · obtain rfl : j = k := by omega
            rw [HEQ.out]; exact hxy)
        clear hxy
        go_wp2
        go_roundw
        case rel => exact ⟨k + 1, by omega, by go_num, HJ, hb⟩
        case measure => simp [intOf]; omega
    · obtain rfl : k = n := by omega
      have HR := Lib.hid (HNO.out (fun j hj2 => hj.out j (by rw [HL.out] at hj2; exact hj2)))
      go_wp2
      go_ret
      exact ⟨by rw [HR.out]; rfl, hb⟩
end Go.Proofs.Ytgdcbfekekefiaa.Cur

namespace Go.Proofs.Ytgdcbfekekefiaa.Cur
open Go.RowKit Mem
set_option linter.unusedVariables false
set_option maxRecDepth 100000


theorem Ch.dropc {α : Type} {E : El α} {w : World} {P : Nat → Prop} : ∀ {cs : List (List Value)} {xs : List α}, Ch E w P cs xs → ∀ k, Ch E w P (cs.drop k) (xs.drop k)
  | [], [], _, k => by rw [List.drop_nil, List.drop_nil]; trivial
  | c :: cs, x :: xs, h, 0 => h
  | c :: cs, x :: xs, h, k + 1 => Ch.dropc h.2 k
  | [], _ :: _, h, _ => h.elim
  | _ :: _, [], h, _ => h.elim
theorem Ch.appc {α : Type} {E : El α} {w : World} {P : Nat → Prop} : ∀ {cs : List (List Value)} {xs : List α}, Ch E w P cs xs → ∀ {ds : List (List Value)} {ys : List α}, Ch E w P ds ys → Ch E w P (cs ++ ds) (xs ++ ys)
  | [], [], _, _, _, h => h
  | c :: cs, x :: xs, h, _, _, h2 => ⟨h.1, Ch.appc h.2 h2⟩
  | [], _ :: _, h, _, _, _ => h.elim
  | _ :: _, [], h, _, _, _ => h.elim
/-- All but the first k of them. -/
theorem Sq.dropq {α : Type} {E : El α} {w : World} {P : Nat → Prop} {g o : Nat} {xs : List α} (h : Sq E w P (some ⟨g, o, none⟩) xs) (k : Nat) (hk : k ≤ xs.length) : Sq E w P (some ⟨g, o + k * E.k, none⟩) (xs.drop k) := by
  obtain ⟨cs, h1, h2⟩ := h
  refine ⟨cs.drop k, h1.dropc k, fun hn => ?_⟩
  have e : cs.flatten = (cs.take k).flatten ++ (cs.drop k).flatten := by rw [← List.flatten_append, List.take_append_drop]
  have hl : (cs.take k).flatten.length = k * E.k := by rw [(h1.take k).flat, List.length_take]; congr 1; omega
  obtain ⟨g', o', ea, hP, hc⟩ := h2 (by rw [e, List.length_append]; omega)
  injection ea with ea
  injection ea with e1 e2
  subst e1 e2
  refine ⟨g, o + k * E.k, rfl, hP, fun i v hi => ?_⟩
  have := hc (k * E.k + i) v (by rw [e, List.getElem?_append_right (by omega), hl, Nat.add_sub_cancel_left]; exact hi)
  rwa [← Nat.add_assoc] at this
theorem Lks.takel {w : World} {P : Nat → Prop} {A : Option Addr} {n : Nat} {L : List Lk} (h : Lks w P A n L) {k : Nat} (hk : k ≤ n) : Lks w P A k (L.take k) := ⟨by rw [List.length_take, h.1]; omega, h.2.take k⟩
theorem slice_lkh {w : World} {P : Nat → Prop} {A : Option Addr} {n : Nat} {L : List Lk} (m k : Nat) (hk : k ≤ n) (hm : n ≤ m) : ∀ w', (Instr.slice 28 (.slice A n m) none (some (.int .i64 (k : Int))) none).run Try.prog w' = .ok (.slice A k m) w' := fun w' => by
  have := run_slice_h (P := Try.prog) (w := w') 28 A n m Try.underlying28 .i64 (k : Int) (by omega) (by omega)
  have hs : ∀ w', (sizeOf 57).run Try.prog w' = .ok 2 w' := fun w' => by kernel_rfl
  have he : Try.prog.elem 28 = 57 := by kernel_rfl
  rw [this, Int.toNat_natCast, he, hs]
  have e0 : ∀ a : Addr, a.add 0 = a := fun a => by unfold Addr.add; simp
  simp [Result.andThen, sliced, e0]
theorem slice_lkl {w : World} {P : Nat → Prop} {A : Option Addr} {n : Nat} {L : List Lk} (hz : Lks w P A n L) (m l : Nat) (h1 : l ≤ n) (hm : n ≤ m) (hA : A = none → m = 0) :
    ∃ A' M, (∀ w', (Instr.slice 28 (.slice A n m) (some (.int .i64 (l : Int))) none none).run Try.prog w' = .ok (.slice A' (n - l) M) w') ∧ Lks w P A' (n - l) (L.drop l) ∧ n - l ≤ M ∧ (A' = none → M = 0) := by
  have hs : ∀ w', (sizeOf 57).run Try.prog w' = .ok 2 w' := fun w' => by kernel_rfl
  have he : Try.prog.elem 28 = 57 := by kernel_rfl
  refine ⟨if m = l then A else A.map (·.add (l * 2)), m - l, fun w' => ?_, ⟨by rw [List.length_drop, hz.1], ?_⟩, by omega, fun h => ?_⟩
  · have := run_slice_l (P := Try.prog) (w := w') 28 A n m (by rw [he]; exact Try.underlying28) .i64 (l : Int) (by omega) (by omega)
    rw [this, he, hs]
    simp [Result.andThen, sliced]
    try omega
  · by_cases hl : l = n
    · rw [List.drop_of_length_le (by rw [hz.1]; omega)]
      exact Sq.nil _ _ _ _
    · obtain ⟨g, o, rfl, _⟩ := hz.cells (by omega)
      rw [if_neg (by omega)]
      have := hz.2.dropq l (by rw [hz.1]; omega)
      have e : (⟨g, o, none⟩ : Addr).add (l * 2) = ⟨g, o + l * 2, none⟩ := by unfold Addr.add; simp; try omega
      show Sq LkE w P (some ((⟨g, o, none⟩ : Addr).add (l * 2))) _
      rw [e]
      exact this
  · split at h
    · rw [hA h]; omega
    · have : A = none := by simpa using h
      rw [hA this]; omega

/-- Links in a row of the call's own, whose backs are read elsewhere, in elder blocks. -/
def OwnO (w : World) (B : Nat) (v : Value) (L : List Lk) : Prop := OwnQ LkE 57 w B (fun k => k < B) v L
theorem OwnO.below {w w' : World} {B : Nat} {v : Value} {L : List Lk} (h : OwnO w B v L) (hb : Below w.heap.size w w') : OwnO w' B v L := OwnQ.below h hb
theorem OwnO.ge {w : World} {B : Nat} {v : Value} {L : List Lk} (h : OwnO w B v L) : ∀ g, v.ownBlock = some g → B ≤ g := by
  obtain ⟨cs, h1, h2, h3⟩ := h
  exact own_ge h2
theorem OwnO.app {w w' : World} {B m : Nat} {v v' : Value} {L M : List Lk} {cs ds : List (List Value)} (h1 : Ch LkE w (fun k => k < B) cs L) (h2 : w.ownsRow B 57 2 v L.length cs.flatten) (hB : B ≤ w.heap.size) (hd : Ch LkE w (fun k => k < B) ds M)
    (hm : M.length = m) (ho : w'.ownsRow B 57 2 v' (L.length + m) (cs.flatten ++ ds.flatten)) (hg : w.grownBy w' v.ownBlock) : OwnO w' B v' (L ++ M) := by
  have hk : ∀ b, b < B → b < w.heap.size → w'.heap[b]? = w.heap[b]? := fun b hb hlt => hg.block b hlt fun e => by have := own_ge h2 b e.symm; omega
  refine ⟨cs ++ ds, (h1.appc hd).keep hk, ?_, fun g hgb hh => by have := own_ge ho g hgb; have h9 : g < B := hh; omega⟩
  rw [List.flatten_append, List.length_append, hm]
  exact ho

theorem OwnO.nilbase {w : World} {B B' : Nat} {v : Value} (h : OwnO w B v []) (hB : B' ≤ B) : OwnO w B' v [] := by
  obtain ⟨cs, h1, h2, h3⟩ := h
  have hcs : cs = [] := by
    cases cs with
    | nil => rfl
    | cons c cs => exact h1.elim
  subst hcs
  refine ⟨[], trivial, ⟨h2.1, h2.2.imp id fun ⟨g, cap, cur, e, hg, r⟩ => ⟨g, cap, cur, e, Nat.le_trans hB hg, r⟩⟩, fun g hg hh => ?_⟩
  have := own_ge h2 g hg
  have h9 : g < B' := hh
  omega
/-- Rows of links at an address. -/
def Lns (w : World) (P : Nat → Prop) (A : Option Addr) (n : Nat) (S : List (List Lk)) : Prop := S.length = n ∧ Sq (SlE LkE) w P A S
theorem Lns.cells {w : World} {P : Nat → Prop} {A : Option Addr} {n : Nat} {S : List (List Lk)} (h : Lns w P A n S) (hn : n ≠ 0) :
    ∃ g o, A = some ⟨g, o, none⟩ ∧ P g ∧ g < w.heap.size ∧ ∀ k, k < n → ∃ a l m, (S.getD k []).length = l ∧ l ≤ m ∧ (a = none → m = 0) ∧ Lks w P a l (S.getD k []) ∧
      ∀ w', Below w.heap.size w w' → w'.cell? ⟨g, o + k, none⟩ = some (.slice a l m) := by
  obtain ⟨rfl, h⟩ := h
  obtain ⟨g, o, c, e, hP, hg, _⟩ := h.at_ (i := 0) (by decide) (List.getElem?_eq_getElem (Nat.pos_of_ne_zero hn))
  refine ⟨g, o, e, hP, hg, fun k hk => ?_⟩
  obtain ⟨g', o', c', e', hP', hg', ⟨a, m, hc, h1, h2, h3⟩, hcell⟩ := h.at_ (i := k) (by decide) (List.getElem?_eq_getElem hk)
  rw [e] at e'
  injection e' with e'
  injection e' with e1 e2
  subst e1 e2
  have hS : S.getD k [] = S[k] := by rw [List.getD_eq_getElem?_getD, List.getElem?_eq_getElem hk]; rfl
  rw [hS]
  refine ⟨a, _, m, rfl, h1, h2, ⟨rfl, h3⟩, fun w' hb => ?_⟩
  have := hcell 0 _ (by rw [hc]; rfl)
  have e : o + k * (SlE LkE).k + 0 = o + k := by show o + k * 1 + 0 = o + k; omega
  rw [e] at this
  rw [← this]
  exact hb.cell (lt_of_cell this)
theorem ftkl {α : Type} (S : List (List α)) {k : Nat} (h : k < S.length) : (S.take (k + 1)).flatten = (S.take k).flatten ++ S.getD k [] := by
  rw [List.take_add_one, List.getElem?_eq_getElem h, List.getD_eq_getElem?_getD, List.getElem?_eq_getElem h, List.flatten_append]
  simp
theorem ftkl_le {α : Type} (S : List (List α)) (k : Nat) : (S.take k).flatten.length ≤ S.flatten.length := by
  have h : S.flatten = (S.take k).flatten ++ (S.drop k).flatten := by rw [← List.flatten_append, List.take_append_drop]
  rw [h, List.length_append]; omega
def LCaPost (L : List Lk) (w : World) (e : Ending) (w' : World) : Prop := ∃ A n m, e = .returned (.slice A n m) ∧ Below w.heap.size w w' ∧ Lks w' (fun _ => True) A n L ∧ (A = none → m = 0)
end Go.Proofs.Ytgdcbfekekefiaa.Cur

namespace Go.Proofs.Ytgdcbfekekefiaa.Cur
open Go.RowKit Mem
set_option linter.unusedVariables false
set_option maxRecDepth 100000


theorem wth_of {L : List Lk} {s : Lk} {k : Nat} (hk : k < L.length) (hf : fnl L s.1 = k) : wth L s = [L.take k, [s], L.drop (k + 1)].flatten := by
  unfold wth
  rw [if_pos (by omega), hf, Int.toNat_natCast, List.set_eq_take_append_cons_drop, if_pos hk]
  simp
theorem wth_be {L : List Lk} {s : Lk} (hf : fnl L s.1 = -1) : wth L s = [L.take (pcx (isbe s.1) L), [s], L.drop (pcx (isbe s.1) L)].flatten := by
  unfold wth
  rw [if_neg (by omega), gtl_pcx]
  simp
theorem wth_len (L : List Lk) (s : Lk) : (wth L s).length ≤ L.length + 1 ∧ 1 ≤ (wth L s).length := by
  unfold wth
  split
  · rename_i h
    rw [List.length_set]
    refine ⟨by omega, ?_⟩
    cases L with
    | nil => have : fnl [] s.1 = -1 := rfl; omega
    | cons a l => rw [List.length_cons]; omega
  · have := gtl_le L s.1
    rw [List.length_append, List.length_cons, List.length_take, List.length_drop]
    omega
theorem wth_blen {M : Nat} {L : List Lk} {s : Lk} (h : blen M L) (hs : s.2.length ≤ M) : blen M (wth L s) := fun t ht => by
  unfold wth at ht
  split at ht
  · rcases List.mem_or_eq_of_mem_set ht with h1 | rfl
    · exact h t h1
    · exact hs
  · rcases List.mem_append.1 ht with h1 | h1
    · exact h t (List.mem_of_mem_take h1)
    · rcases List.mem_cons.1 h1 with rfl | h1
      · exact hs
      · exact h t (List.mem_of_mem_drop h1)
theorem lns_three {w : World} {P : Nat → Prop} {b n1 m1 n2 m2 n3 m3 t : Nat} {A1 A2 A3 : Option Addr} {L1 L2 L3 : List Lk} (hB : Blk w b #[.slice A1 n1 m1, .slice A2 n2 m2, .slice A3 n3 m3] t) (hP : P b)
    (h1 : Lks w P A1 n1 L1) (k1 : n1 ≤ m1) (e1 : A1 = none → m1 = 0) (h2 : Lks w P A2 n2 L2) (k2 : n2 ≤ m2) (e2 : A2 = none → m2 = 0) (h3 : Lks w P A3 n3 L3) (k3 : n3 ≤ m3) (e3 : A3 = none → m3 = 0) : Lns w P (some ⟨b, 0, none⟩) 3 [L1, L2, L3] := by
  obtain ⟨rfl, h1⟩ := h1
  obtain ⟨rfl, h2⟩ := h2
  obtain ⟨rfl, h3⟩ := h3
  refine ⟨rfl, [[.slice A1 L1.length m1], [.slice A2 L2.length m2], [.slice A3 L3.length m3]], ⟨⟨A1, m1, rfl, k1, e1, h1⟩, ⟨A2, m2, rfl, k2, e2, h2⟩, ⟨A3, m3, rfl, k3, e3, h3⟩, trivial⟩, fun _ => ⟨b, 0, rfl, hP, fun i v hi => ?_⟩⟩
  rw [Nat.zero_add]
  exact hB.cell i (by simpa using hi)
theorem lks_one {w : World} {b : Nat} {x : Int} {A : Option Addr} {n m : Nat} {z : List Int} {t : Nat} (hB : Blk w b (lkc x A n m) t) (hR : LkE.R w (fun _ => True) [.int .u64 x, .slice A n m] (x, z)) : Lks w (fun _ => True) (some ⟨b, 0, none⟩) 1 [(x, z)] :=
  lks_of_cells rfl trivial fun i hi => by
    obtain rfl : i = 0 := by omega
    exact ⟨_, _, ⟨hB.cell 0 rfl, hB.cell 1 rfl⟩, hR⟩

end Go.Proofs.Ytgdcbfekekefiaa.Cur

namespace Go.Proofs.Ytgdcbfekekefiaa.Cur
open Go.RowKit Mem
set_option linter.unusedVariables false
set_option maxRecDepth 100000


/-- A link is appended. -/
theorem OwnO.push {W w : World} {v : Value} {L : List Lk} (h : OwnO w W.heap.size v L) (hb : Below W.heap.size W w) {c1 c2 : Value} {s : Lk} (hs : LkE.R w (fun b => b < W.heap.size) [c1, c2] s) :
    ∃ xs, (w.alloc (.cells #[c1, c2] 57)).ownsRow W.heap.size 57 2 v L.length xs ∧ W.heap.size ≤ (w.alloc (.cells #[c1, c2] 57)).heap.size ∧ Rw (w.alloc (.cells #[c1, c2] 57)) (some ⟨w.heap.size, 0, none⟩) [c1, c2] ∧
      ∀ v' w', w'.ownsRow W.heap.size 57 2 v' (L.length + 1) (xs ++ [c1, c2]) → (w.alloc (.cells #[c1, c2] 57)).grownBy w' v.ownBlock → OwnO w' W.heap.size v' (L ++ [s]) ∧ Below W.heap.size W w' := by
  have hA := below_one w (.cells #[c1, c2] 57)
  obtain ⟨cs, g1, g2, g3⟩ := h.below hA
  have hB : W.heap.size ≤ (w.alloc (.cells #[c1, c2] 57)).heap.size := by have := hb.size; simp; omega
  refine ⟨cs.flatten, g2, hB, rw_new w [c1, c2] 57, fun v' w' ho hg => ⟨?_, ?_⟩⟩
  · exact OwnO.app (M := [s]) (ds := [[c1, c2]]) g1 g2 hB ⟨LkE.keep hs (fun b hb9 hl => hA.block b hl), trivial⟩ rfl (by simpa using ho) hg
  · exact (hb.trans (hA.mono hb.size)).grown hg hB (fun k e => own_ge g2 k e)

/-- Is it there already? -/
def dbq (f : Int) (g k : Nat) : Bool := decide ((f < 0 ∧ g < k) ∨ (0 ≤ f ∧ f < (k : Int)))
theorem dbq_yes {f : Int} {g k : Nat} (h : (f < 0 ∧ g < k) ∨ (0 ≤ f ∧ f < (k : Int))) : dbq f g k = true := decide_eq_true h
theorem dbq_no {f : Int} {g k : Nat} (h : ¬ ((f < 0 ∧ g < k) ∨ (0 ≤ f ∧ f < (k : Int)))) : dbq f g k = false := decide_eq_false h
/-- How far the document has come: so many links are there behind k of them. -/
def wcn (f : Int) (g k : Nat) : Nat := if f < 0 ∧ g < k then k + 1 else k
theorem wth_at {L : List Lk} {s : Lk} {k : Nat} (hk : k < L.length) :
    (0 ≤ fnl L s.1 → (wth L s).length = L.length ∧ (wth L s).getD k lk0 = if fnl L s.1 = k then s else L.getD k lk0) ∧
    (fnl L s.1 < 0 → (wth L s).length = L.length + 1 ∧ (k < gtl L s.1 → (wth L s).getD k lk0 = L.getD k lk0) ∧ (gtl L s.1 ≤ k → (wth L s).getD (k + 1) lk0 = L.getD k lk0)) := by
  constructor
  · intro h
    unfold wth
    rw [if_pos h]
    refine ⟨List.length_set, ?_⟩
    rw [List.getD_eq_getElem?_getD, List.getElem?_set]
    by_cases hf : fnl L s.1 = k
    · rw [if_pos (by omega), if_pos hf, if_pos (by omega)]; rfl
    · rw [if_neg (by omega), if_neg hf, ← List.getD_eq_getElem?_getD]
  · intro h
    have hg := gtl_le L s.1
    unfold wth
    rw [if_neg (by omega)]
    refine ⟨by rw [List.length_append, List.length_cons, List.length_take, List.length_drop]; omega, fun h1 => ?_, fun h1 => ?_⟩
    · rw [List.getD_eq_getElem?_getD, List.getElem?_append_left (by rw [List.length_take]; omega), List.getElem?_take_of_lt h1, ← List.getD_eq_getElem?_getD]
    · rw [List.getD_eq_getElem?_getD, List.getElem?_append_right (by rw [List.length_take]; omega), List.length_take, show k + 1 - min (gtl L s.1) L.length = (k - gtl L s.1) + 1 by omega, List.getElem?_cons_succ, List.getElem?_drop, show gtl L s.1 + (k - gtl L s.1) = k by omega, ← List.getD_eq_getElem?_getD]
theorem wth_mid {L : List Lk} {s : Lk} (h : fnl L s.1 < 0) : (wth L s).getD (gtl L s.1) lk0 = s := by
  have hg := gtl_le L s.1
  unfold wth
  rw [if_neg (by omega), List.getD_eq_getElem?_getD, List.getElem?_append_right (by rw [List.length_take]; omega), List.length_take, show gtl L s.1 - min (gtl L s.1) L.length = 0 by omega]
  rfl
theorem tk_one {L : List Lk} {k : Nat} (hk : k < L.length) : L.take (k + 1) = L.take k ++ [L.getD k lk0] := by
  rw [List.take_add_one, List.getElem?_eq_getElem hk, List.getD_eq_getElem?_getD, List.getElem?_eq_getElem hk]; rfl
theorem gtl_spec (L : List Lk) (x : Int) : (∀ j, j < gtl L x → ¬ x < (L.getD j lk0).1) ∧ (gtl L x < L.length → x < (L.getD (gtl L x) lk0).1) := by
  induction L with
  | nil => exact ⟨fun j hj => by simp [gtl] at hj, fun h => by simp at h⟩
  | cons s L ih =>
    unfold gtl
    by_cases h : x < s.1
    · rw [if_pos h]; exact ⟨fun j hj => by omega, fun _ => by simpa using h⟩
    · rw [if_neg h]
      refine ⟨fun j hj => ?_, fun hl => ?_⟩
      · rcases j with _ | j
        · simpa using h
        · simpa using ih.1 j (by omega)
      · simpa using ih.2 (by simpa using hl)
theorem fnl_bd (L : List Lk) (x : Int) : fnl L x < L.length := by
  rw [fnl_pcx]
  split
  · omega
  · omega

set_option maxHeartbeats 8000000 in
theorem rwith_any (P : Nat → Prop) (A : Option Addr) (n m : Nat) (L : List Lk) (x : Int) (B : Option Addr) (nb cb : Nat) (z : List Int) (w : World) (hz : Lks w P A n L) (hn : n ≤ 900) (hx : 0 ≤ x ∧ x < 18446744073709551616) (hu : Us w B nb z) (hzb : ∀ y ∈ z, 0 ≤ y ∧ y < 18446744073709551616) (hnb : nb ≤ cb) (hbn : B = none → cb = 0) :
    Calls Try.prog 46 #[.slice A n m, lkagg x B nb cb] w (LCaPost (wth L (x, z)) w) := by
  have HL := Lib.hid hz.1
  have hX := Blk.new w (lkc x B nb cb) 57
  have hbX := below_one w (.cells (lkc x B nb cb) 57)
  have hfc := rfind_any P A n m L x _ (hz.below hbX) (by omega)
  unfold BPost at hfc
  have hs0 : (w.alloc (.cells (lkc x B nb cb) 57)).heap.size = w.heap.size + 1 := by simp
  obtain ⟨x0, x1⟩ := hX.c2
  generalize hw0 : w.alloc (.cells (lkc x B nb cb) 57) = w0 at *
  have HW0 := Lib.hid hw0
  clear hw0
  have HEL := Lib.hid (LkE.mk (w := w0) (P := fun b => b < w0.heap.size) hx hu.1 hnb hbn ((hu.below hbX).sq hzb (fun h0 ad ha => (hu.below hbX).2.lt (by rw [List.length_map, hu.1]; exact h0) ad ha)))
  have HZ : Hid (Lks w0 (fun b => b < w0.heap.size) A n L) := Lib.hid ((hz.below hbX).mono (fun b _ h => h))
  have HAT := Lib.hid (fun k (hk : k < L.length) => wth_at (s := (x, z)) hk)
  have HMID := Lib.hid (fun h => wth_mid (L := L) (s := (x, z)) h)
  have HG1 := Lib.hid (gtl_spec L x)
  have HG2 := Lib.hid (gtl_le L x)
  have HTK := Lib.hid (fun k hk => tk_one (L := wth L (x, z)) (k := k) hk)
  have HFB := Lib.hid (fnl_bd L x)
  have HWL := Lib.hid (wth_len L (x, z))
  have HEND := Lib.hid (fun k (h : (wth L (x, z)).length ≤ k) => List.take_of_length_le h)
  have HWN : Hid (L.length = 0 → (wth L (x, z)).length = 1) := Lib.hid (fun h => by have := wth_len L (x, z); omega)
  have HBX := Lib.hid hbX
  dsimp only at HAT HMID
  generalize wth L (x, z) = W at *
  generalize hf : fnl L x = f at *
  generalize gtl L x = gt at *
  have HX := Lib.hid hX
  clear hz hu hzb hX hf
  go_enter Try.func46, Try.ntmps46
  go_wp2_with fail
  rw [HW0.out]
  with_reducible refine hfc.mono ?_
  rintro e w1 ⟨rfl, hb1⟩
  have H0 : Hid (dbq f gt 0 = false ∧ OwnO w1 w0.heap.size (.slice none 0 0) (W.take (wcn f gt 0)) ∧ Below w0.heap.size w0 w1) := Lib.hid ⟨dbq_no (by omega), by
    rw [show wcn f gt 0 = 0 from if_neg (by omega), List.take_zero]
    exact OwnQ.nil _ _ _ _ _, hb1⟩
  clear hfc hb1 x0 x1 hbX HW0
  go_wp2
  go_loopw [5, 7, 8] (fun v d i wr => ∃ (k : Nat) (db : Bool), k ≤ n ∧ i = .int .i64 k ∧ d = .bool db ∧ Hid (dbq f gt k = db ∧ OwnO wr w0.heap.size v (W.take (wcn f gt k)) ∧ Below w0.heap.size w0 wr)) (fun _ _ i _ => n - (intOf i).toNat)
  case atStart => exact ⟨0, false, by omega, rfl, rfl, H0⟩
  case round =>
    clear H0
    obtain ⟨k, db, hk, rfl, rfl, HR⟩ := hrel
    obtain ⟨hdb, ho, hb⟩ := HR.out
    have hdb0 := Lib.hid hdb
    clear HR
    obtain ⟨Y, hY⟩ : ∃ Y, Y = W.take (wcn f gt k) := ⟨_, rfl⟩
    rw [← hY] at ho
    have HY := Lib.hid hY
    have HY1 : Hid (Y.length + 1 ≤ 1000000) := Lib.hid (by have := HWL.out.1; rw [HL.out] at this; rw [hY, List.length_take]; omega)
    clear hY
    have hdb2 : db = true ↔ ((f < 0 ∧ gt < k) ∨ (0 ≤ f ∧ f < (k : Int))) := by rw [← hdb]; exact decide_eq_true_iff
    have hbD := hb.trans ((below_one' wr).mono hb.size)
    by_cases hlt : k < n
    · obtain ⟨g, o, rfl, _, hg, hc⟩ := HZ.out.cells (by omega)
      obtain ⟨y, zz, a, l, mm, he, yb, hl, hlm, han, hus, hzzb, _, hsq, hcell⟩ := hc k hlt
      have hkL : k < L.length := by rw [HL.out]; exact hlt
      have HEY := Lib.hid (LkE.mk (w := w0) yb hl hlm han hsq)
      obtain ⟨t1, t2⟩ := HAT.out k hkL
      have hg1 := HG1.out
      have HEQ := Lib.hid he
      rw [he] at t1 t2
      have HCELL := Lib.hid hcell
      have HY2 : Hid ((Y ++ [(x, z)]).length + 1 ≤ 1000000) := Lib.hid (by have := HWL.out.1; rw [HL.out] at this; rw [HY.out, List.length_append, List.length_take]; simp; omega)
      have L1 : ∀ w', LkS w0 w' → w'.cell? ⟨g, o + k * 2, none⟩ = some (.int .u64 y) ∧ w'.cell? ⟨g, o + k * 2 + 1, none⟩ = some (.slice a l mm) := fun w' h => hcell w' h
      have L2 : ∀ w', LkS w0 w' → w'.cell? ⟨w.heap.size, 0, none⟩ = some (.int .u64 x) ∧ w'.cell? ⟨w.heap.size, 1, none⟩ = some (.slice B nb cb) := fun w' h => (HX.out.below h).c2
      have hS : LkS w0 wr.drew := hbD
      have hoD := ho.below (below_one' wr)
      have e2 : (k : Int) < n := by omega
      have e3 : IntKind.i64.wrap ((k : Int) + 1) = ((k + 1 : Nat) : Int) := IntWalk.i64_in _ (by omega)
      have HSY := fun w' (h : Below w0.heap.size w0 w') => LkE.keep HEY.out (fun b _ hl => h.block b hl)
      have HSX := fun w' (h : Below w0.heap.size w0 w') => LkE.keep HEL.out (fun b _ hl => h.block b hl)
      replace ho := hoD
      replace hb := hbD
      clear hc hcell he hl hlm han hus hzzb hsq hoD hbD hdb
      by_cases hf : f < 0
      · have df : decide (f < 0) = true := decide_eq_true hf
        have hfk : ((k : Int) == f) = false := by simp; omega
        obtain ⟨u1, u2, u3⟩ := t2 hf
        cases db
        · have hkg : k ≤ gt := by
            rcases Nat.lt_or_ge gt k with h | h
            · have := hdb2.2 (.inl ⟨hf, h⟩); cases this
            · exact h
          have hc1 : wcn f gt k = k := if_neg (by omega)
          by_cases hkg2 : k = gt
          · have hxy : x < y := by
              have h9 := hg1.2 (by rw [← hkg2]; exact hkL)
              rw [← hkg2, HEQ.out] at h9
              dsimp only at h9
              exact h9
            have dxy : decide (x < y) = true := decide_eq_true hxy
            have hm := HMID.out hf
            rw [← hkg2] at hm
            have HC : Hid (W.take (wcn f gt (k + 1)) = (Y ++ [(x, z)]) ++ [(y, zz)]) := Lib.hid (by
              rw [show wcn f gt (k + 1) = k + 1 + 1 from if_pos ⟨hf, by omega⟩, HTK.out (k + 1) (by omega), HTK.out k (by omega), u3 (by omega), hm, HY.out, hc1])
            have HDN : Hid (dbq f gt (k + 1) = true) := Lib.hid (dbq_yes (.inl ⟨hf, by omega⟩))
            clear hxy hdb2 t1 t2 u1 u2 u3 hc1 hf hg1 hm hkg2
            go_wp2
            refine Seq.wp_region_seq (LkS w0) (by kernel_rfl) (by kernel_rfl) hS ?_
            generalize wr.drew = wd at *
            repeat (first | (refine Seq.Seq.skip (by rfl) ?_; (try simp only [Act.put, List.setIfInBounds_toArray, List.set_cons_zero, List.set_cons_succ])) | (refine Seq.Seq.det ?_ (by rfl) (fun w hS => ?_) ?_; rotate_left; ((try dsimp only at hS); go_simp; (try rw [if_pos (by omega)]); with_reducible rfl); (try simp only [Act.put, List.setIfInBounds_toArray, List.set_cons_zero, List.set_cons_succ])))
            refine Seq.Seq.nil ?_
            have c0 := (L1 wd hS).1
            have c1 := (L1 wd hS).2
            have b0 := (L2 wd hS).1
            have b1 := (L2 wd hS).2
            clear L1 L2 hS
            obtain ⟨xs1, a2, a3, a4, a5⟩ := ho.push hb (HSX _ hb)
            clear ho
            go_wp2_with (at_builtin; go_must (first | (refine list_append_rw kindLK rfl (.tmp 35) (.tmp 37) rfl w0.heap.size _ _ xs1 rfl a2 _ 1 _ [.int .u64 x, .slice B nb cb] rfl rfl a4 (by simp) (by simp [Value.oneCell']) HY1.out (by omega) a3 ?_; intro v9 w9 ho9 hg9 hgr9; have HN := Lib.hid (a5 v9 w9 ho9 hg9); clear ho9 hg9 hgr9 a2 a3 a4 a5; obtain ⟨xs2, a2, a3, a4, a5⟩ := HN.out.1.push HN.out.2 (HSY _ HN.out.2); have c0 := (HCELL.out w9 HN.out.2).1; have c1 := (HCELL.out w9 HN.out.2).2) | (refine list_append_rw kindLK rfl (.tmp 46) (.tmp 51) rfl w0.heap.size _ _ xs2 rfl a2 _ 1 _ [.int .u64 y, .slice a l mm] rfl rfl a4 (by simp) (by simp [Value.oneCell']) HY2.out (by omega) a3 ?_; intro v9 w9 ho9 hg9 hgr9; have HN2 := Lib.hid (a5 v9 w9 ho9 hg9); clear ho9 hg9 hgr9 a2 a3 a4 a5)))
            go_roundw
            case rel => exact ⟨k + 1, true, by omega, by go_num, rfl, Lib.hid ⟨HDN.out, by rw [HC.out]; exact HN2.out.1, HN2.out.2⟩⟩
            case measure => simp [intOf]; omega
          · have hxy : ¬ x < y := by
              have h9 := hg1.1 k (by omega)
              rw [HEQ.out] at h9
              dsimp only at h9
              omega
            have dxy : decide (x < y) = false := decide_eq_false hxy
            have HC : Hid (W.take (wcn f gt (k + 1)) = Y ++ [(y, zz)]) := Lib.hid (by
              rw [show wcn f gt (k + 1) = k + 1 from if_neg (by omega), HTK.out k (by omega), u2 (by omega), HY.out, hc1])
            have HDN : Hid (dbq f gt (k + 1) = false) := Lib.hid (dbq_no (by omega))
            clear hxy hdb2 t1 t2 u1 u2 u3 hc1 hf hg1
            go_wp2
            refine Seq.wp_region_seq (LkS w0) (by kernel_rfl) (by kernel_rfl) hS ?_
            generalize wr.drew = wd at *
            repeat (first | (refine Seq.Seq.skip (by rfl) ?_; (try simp only [Act.put, List.setIfInBounds_toArray, List.set_cons_zero, List.set_cons_succ])) | (refine Seq.Seq.det ?_ (by rfl) (fun w hS => ?_) ?_; rotate_left; ((try dsimp only at hS); go_simp; (try rw [if_pos (by omega)]); with_reducible rfl); (try simp only [Act.put, List.setIfInBounds_toArray, List.set_cons_zero, List.set_cons_succ])))
            refine Seq.Seq.nil ?_
            have c0 := (L1 wd hS).1
            have c1 := (L1 wd hS).2
            have b0 := (L2 wd hS).1
            have b1 := (L2 wd hS).2
            clear L1 L2 hS
            obtain ⟨xs1, a2, a3, a4, a5⟩ := ho.push hb (HSY _ hb)
            clear ho hb
            go_wp2_with (at_builtin; go_must (refine list_append_rw kindLK rfl (.tmp 46) (.tmp 51) rfl w0.heap.size _ _ xs1 rfl a2 _ 1 _ [.int .u64 y, .slice a l mm] rfl rfl a4 (by simp) (by simp [Value.oneCell']) HY1.out (by omega) a3 ?_; intro v9 w9 ho9 hg9 hgr9; have HN := Lib.hid (a5 v9 w9 ho9 hg9); clear ho9 hg9 hgr9 a2 a3 a4 a5))
            go_roundw
            case rel => exact ⟨k + 1, false, by omega, by go_num, rfl, Lib.hid ⟨HDN.out, by rw [HC.out]; exact HN.out.1, HN.out.2⟩⟩
            case measure => simp [intOf]; omega
        · have hkg : gt < k := by
            rcases hdb2.1 rfl with h | h
            · exact h.2
            · omega
          have HC : Hid (W.take (wcn f gt (k + 1)) = Y ++ [(y, zz)]) := Lib.hid (by
            rw [show wcn f gt (k + 1) = k + 1 + 1 from if_pos ⟨hf, by omega⟩, HTK.out (k + 1) (by omega), u3 (by omega), HY.out, show wcn f gt k = k + 1 from if_pos ⟨hf, hkg⟩])
          have HDN : Hid (dbq f gt (k + 1) = true) := Lib.hid (dbq_yes (.inl ⟨hf, by omega⟩))
          clear hdb2 t1 t2 u1 u2 u3 hf hg1
          go_wp2
          refine Seq.wp_region_seq (LkS w0) (by kernel_rfl) (by kernel_rfl) hS ?_
          generalize wr.drew = wd at *
          repeat (first | (refine Seq.Seq.skip (by rfl) ?_; (try simp only [Act.put, List.setIfInBounds_toArray, List.set_cons_zero, List.set_cons_succ])) | (refine Seq.Seq.det ?_ (by rfl) (fun w hS => ?_) ?_; rotate_left; ((try dsimp only at hS); go_simp; (try rw [if_pos (by omega)]); with_reducible rfl); (try simp only [Act.put, List.setIfInBounds_toArray, List.set_cons_zero, List.set_cons_succ])))
          refine Seq.Seq.nil ?_
          have c0 := (L1 wd hS).1
          have c1 := (L1 wd hS).2
          have b0 := (L2 wd hS).1
          have b1 := (L2 wd hS).2
          clear L1 L2 hS
          obtain ⟨xs1, a2, a3, a4, a5⟩ := ho.push hb (HSY _ hb)
          clear ho hb
          go_wp2_with (at_builtin; go_must (refine list_append_rw kindLK rfl (.tmp 46) (.tmp 51) rfl w0.heap.size _ _ xs1 rfl a2 _ 1 _ [.int .u64 y, .slice a l mm] rfl rfl a4 (by simp) (by simp [Value.oneCell']) HY1.out (by omega) a3 ?_; intro v9 w9 ho9 hg9 hgr9; have HN := Lib.hid (a5 v9 w9 ho9 hg9); clear ho9 hg9 hgr9 a2 a3 a4 a5))
          go_roundw
          case rel => exact ⟨k + 1, true, by omega, by go_num, rfl, Lib.hid ⟨HDN.out, by rw [HC.out]; exact HN.out.1, HN.out.2⟩⟩
          case measure => simp [intOf]; omega
      · have df : decide (f < 0) = false := decide_eq_false hf
        obtain ⟨u1, u2⟩ := t1 (by omega)
        have hc1 : wcn f gt k = k := if_neg (by omega)
        have hc2 : wcn f gt (k + 1) = k + 1 := if_neg (by omega)
        by_cases hfk : f = k
        · have hfb : ((k : Int) == f) = true := by simp; omega
          rw [if_pos hfk] at u2
          have HC : Hid (W.take (wcn f gt (k + 1)) = Y ++ [(x, z)]) := Lib.hid (by
            rw [hc2, HTK.out k (by omega), u2, HY.out, hc1])
          have HDN : Hid (dbq f gt (k + 1) = true) := Lib.hid (dbq_yes (.inr ⟨by omega, by omega⟩))
          clear hdb2 t1 t2 u1 u2 hf hg1 hc1 hc2 hfk
          go_wp2
          refine Seq.wp_region_seq (LkS w0) (by kernel_rfl) (by kernel_rfl) hS ?_
          generalize wr.drew = wd at *
          repeat (first | (refine Seq.Seq.skip (by rfl) ?_; (try simp only [Act.put, List.setIfInBounds_toArray, List.set_cons_zero, List.set_cons_succ])) | (refine Seq.Seq.det ?_ (by rfl) (fun w hS => ?_) ?_; rotate_left; ((try dsimp only at hS); go_simp; (try rw [if_pos (by omega)]); with_reducible rfl); (try simp only [Act.put, List.setIfInBounds_toArray, List.set_cons_zero, List.set_cons_succ])))
          refine Seq.Seq.nil ?_
          have c0 := (L1 wd hS).1
          have c1 := (L1 wd hS).2
          have b0 := (L2 wd hS).1
          have b1 := (L2 wd hS).2
          clear L1 L2 hS
          obtain ⟨xs1, a2, a3, a4, a5⟩ := ho.push hb (HSX _ hb)
          clear ho hb
          go_wp2_with (at_builtin; go_must (refine list_append_rw kindLK rfl (.tmp 42) (.tmp 44) rfl w0.heap.size _ _ xs1 rfl a2 _ 1 _ [.int .u64 x, .slice B nb cb] rfl rfl a4 (by simp) (by simp [Value.oneCell']) HY1.out (by omega) a3 ?_; intro v9 w9 ho9 hg9 hgr9; have HN := Lib.hid (a5 v9 w9 ho9 hg9); clear ho9 hg9 hgr9 a2 a3 a4 a5))
          go_roundw
          case rel => exact ⟨k + 1, true, by omega, by go_num, rfl, Lib.hid ⟨HDN.out, by rw [HC.out]; exact HN.out.1, HN.out.2⟩⟩
          case measure => simp [intOf]; omega
        · have hfb : ((k : Int) == f) = false := by simp; omega
          rw [if_neg hfk] at u2
          have HC : Hid (W.take (wcn f gt (k + 1)) = Y ++ [(y, zz)]) := Lib.hid (by
            rw [hc2, HTK.out k (by omega), u2, HY.out, hc1])
          have HDN : Hid (dbq f gt (k + 1) = db) := Lib.hid (by
            rw [← hdb0.out]
            unfold dbq
            exact decide_eq_decide.2 (by omega))
          clear hdb2 t1 t2 u1 u2 hf hg1 hc1 hc2 hfk
          go_wp2
          refine Seq.wp_region_seq (LkS w0) (by kernel_rfl) (by kernel_rfl) hS ?_
          generalize wr.drew = wd at *
          repeat (first | (refine Seq.Seq.skip (by rfl) ?_; (try simp only [Act.put, List.setIfInBounds_toArray, List.set_cons_zero, List.set_cons_succ])) | (refine Seq.Seq.det ?_ (by rfl) (fun w hS => ?_) ?_; rotate_left; ((try dsimp only at hS); go_simp; (try rw [if_pos (by omega)]); with_reducible rfl); (try simp only [Act.put, List.setIfInBounds_toArray, List.set_cons_zero, List.set_cons_succ])))
          refine Seq.Seq.nil ?_
          have c0 := (L1 wd hS).1
          have c1 := (L1 wd hS).2
          have b0 := (L2 wd hS).1
          have b1 := (L2 wd hS).2
          clear L1 L2 hS
          obtain ⟨xs1, a2, a3, a4, a5⟩ := ho.push hb (HSY _ hb)
          clear ho hb
          go_wp2_with (at_builtin; go_must (refine list_append_rw kindLK rfl (.tmp 46) (.tmp 51) rfl w0.heap.size _ _ xs1 rfl a2 _ 1 _ [.int .u64 y, .slice a l mm] rfl rfl a4 (by simp) (by simp [Value.oneCell']) HY1.out (by omega) a3 ?_; intro v9 w9 ho9 hg9 hgr9; have HN := Lib.hid (a5 v9 w9 ho9 hg9); clear ho9 hg9 hgr9 a2 a3 a4 a5))
          go_roundw
          case rel => exact ⟨k + 1, db, by omega, by go_num, rfl, Lib.hid ⟨HDN.out, by rw [HC.out]; exact HN.out.1, HN.out.2⟩⟩
          case measure => simp [intOf]; omega
    · obtain rfl : k = n := by omega
      by_cases hdd : db = true
      · subst hdd
        have HC : Hid (Y = W) := Lib.hid (by
          rw [HY.out]
          refine HEND.out _ ?_
          rcases hdb2.1 rfl with h | h
          · rw [show wcn f gt k = k + 1 from if_pos h]
            have := HWL.out.1
            rw [HL.out] at this
            exact this
          · rw [show wcn f gt k = k from if_neg (by omega)]
            by_cases h0 : k = 0
            · omega
            · have := ((HAT.out 0 (by rw [HL.out]; omega)).1 (by omega)).1
              rw [this, HL.out]; exact Nat.le_refl _)
        obtain ⟨A9, c9, hv9, z1, z2, z3⟩ := OwnQ.slice ho
        have HZ3 : Hid (Lks wr (fun _ => True) A9 Y.length W) := Lib.hid ⟨by rw [HC.out], by rw [← HC.out]; exact z3.mono (fun _ _ _ => trivial)⟩
        have HZ2 := Lib.hid z2
        have HBE := Lib.hid (HBX.out.trans (hb.mono HBX.out.size))
        clear ho hb z1 z2 z3 hbD hdb2 hdb
        subst hv9
        go_wp2
        go_ret
        exact ⟨_, _, _, rfl, HBE.out, HZ3.out, HZ2.out⟩
      · have hdf : db = false := by simpa using hdd
        subst hdf
        have hfe : f < 0 ∧ gt = k := by
          have h9 := hdb2.2
          have h8 := HFB.out
          have h7 := HG2.out
          rw [HL.out] at h8 h7
          by_cases hf : f < 0
          · refine ⟨hf, ?_⟩
            rcases Nat.lt_or_ge gt k with h | h
            · have := h9 (.inl ⟨hf, h⟩); cases this
            · omega
          · have := h9 (.inr ⟨by omega, by omega⟩); cases this
        obtain ⟨b0, b1⟩ := (HX.out.below hb).c2
        have HC : Hid (Y ++ [(x, z)] = W) := Lib.hid (by
          have hm := HMID.out hfe.1
          rw [hfe.2] at hm
          have hwl : W.length = k + 1 := by
            by_cases h0 : k = 0
            · rw [HWN.out (by rw [HL.out, h0]), h0]
            · have := ((HAT.out 0 (by rw [HL.out]; omega)).2 hfe.1).1
              rw [this, HL.out]
          rw [HY.out, show wcn f gt k = k from if_neg (by omega)]
          have h5 := HTK.out k (by omega)
          rw [hm] at h5
          rw [← h5]
          exact HEND.out _ (by omega))
        obtain ⟨xs1, a2, a3, a4, a5⟩ := ho.push hb (LkE.keep HEL.out (fun b _ hl => hb.block b hl))
        clear ho hfe hdb2 hdb hdd hbD
        go_wp2_with (at_builtin; go_must (refine list_append_rw kindLK rfl (.tmp 55) (.tmp 57) rfl w0.heap.size _ _ xs1 rfl a2 _ 1 _ [.int .u64 x, .slice B nb cb] rfl rfl a4 (by simp) (by simp [Value.oneCell']) HY1.out (by omega) a3 ?_; intro v9 w9 ho9 hg9 hgr9; have HN := Lib.hid (a5 v9 w9 ho9 hg9); clear ho9 hg9 hgr9 a2 a3 a4 a5 hb; obtain ⟨N9, hN9⟩ : ∃ N9, N9 = (Y ++ [(x, z)]).length := ⟨_, rfl⟩; obtain ⟨A9, c9, hv9, z1, z2, z3⟩ := OwnQ.slice HN.out.1; rw [← hN9] at hv9; have HZ3 : Hid (Lks w9 (fun _ => True) A9 N9 W) := Lib.hid ⟨by rw [← HC.out, hN9], by rw [← HC.out]; exact z3.mono (fun _ _ _ => trivial)⟩; have HZ2 := Lib.hid z2; have HBE := Lib.hid (HBX.out.trans (HN.out.2.mono HBX.out.size)); clear z1 z2 z3 hN9; subst hv9))
        go_ret
        exact ⟨_, _, _, rfl, HBE.out, HZ3.out, HZ2.out⟩
end Go.Proofs.Ytgdcbfekekefiaa.Cur
