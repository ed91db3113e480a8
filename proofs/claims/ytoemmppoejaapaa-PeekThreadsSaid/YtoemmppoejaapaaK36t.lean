/- As the seat's text, without what nothing here names. -/
import Derived.Test.YtoemmppoejaapaaK35t
import Derived.Lib.AppendZerosOnto
import Derived.Test.YtoemmppoejaapaaK34t
namespace Go.Proofs.Ytoemmppoejaapaa.Cur
open Go.RowKit Mem
set_option linter.unusedVariables false
set_option maxRecDepth 100000
def pcx (g : Lk → Bool) : List Lk → Nat
  | [] => 0
  | s :: L => if g s then 0 else pcx g L + 1
def isof (x : Int) (s : Lk) : Bool := decide (s.1 = x)
theorem fnl_pcx : ∀ (L : List Lk) (x : Int), fnl L x = if pcx (isof x) L < L.length then ((pcx (isof x) L : Nat) : Int) else -1
  | [], _ => rfl
  | s :: L, x => by
    have ih := fnl_pcx L x
    have e : pcx (isof x) (s :: L) = if isof x s = true then 0 else pcx (isof x) L + 1 := rfl
    have e2 : isof x s = decide (s.1 = x) := rfl
    rw [List.length_cons]
    unfold fnl
    by_cases h : s.1 = x
    · rw [if_pos (by rw [e2]; exact decide_eq_true h)] at e
      rw [if_pos h, e, if_pos (by omega)]; rfl
    · rw [if_neg (by rw [e2, decide_eq_false h]; decide)] at e
      rw [if_neg h, e, ih]
      by_cases h2 : pcx (isof x) L < L.length
      · rw [if_pos h2, if_neg (by omega), if_pos (by omega)]; push_cast; rfl
      · rw [if_neg h2, if_pos (by omega), if_neg (by omega)]
theorem Blk.c1 {w : World} {b : Nat} {v : Value} {t : Nat} (h : Blk w b #[v] t) : w.cell? ⟨b, 0, none⟩ = some v := h.cell 0 rfl
theorem LkE.none (w : World) (P : Nat → Prop) : LkE.R w P [.int .u64 0, .slice none 0 0] lk0 := LkE.mk (x := 0) (z := []) (by omega) rfl (Nat.le_refl _) (fun _ => rfl) (Sq.nil _ _ _ _)
set_option maxHeartbeats 1000000 in
theorem rfind_any (P : Nat → Prop) (A : Option Addr) (n m : Nat) (L : List Lk) (x : Int) (w : World) (hz : Lks w P A n L) (hn : n ≤ 1000000) :
    Calls Try.prog 39 #[.slice A n m, .int .u64 x] w (BPost (.int .i64 (fnl L x)) w) := by
  unfold BPost
  have HL := Lib.hid hz.1
  have HC := Lib.hid (fun h => hz.cells h)
  have HYES := Lib.hid (fnl_yes L x)
  have HNO := Lib.hid (fnl_no L x)
  generalize fnl L x = r at *
  clear hz
  go_enter Try.func39, Try.ntmps39
  go_wp2
  go_loopw [5] (fun i wr => ∃ k : Nat, k ≤ n ∧ i = .int .i64 k ∧ Hid (∀ j, j < k → (L.getD j lk0).1 ≠ x) ∧ Below w.heap.size w wr) (fun i _ => n - (intOf i).toNat)
  case atStart => exact ⟨0, by omega, rfl, Lib.hid (by intro j hj; omega), Below.refl _ _⟩
  case round =>
    obtain ⟨k, hk, rfl, hj, hb⟩ := hrel
    by_cases hlt : k < n
    · obtain ⟨g, o, rfl, _, hg, hc⟩ := HC.out (by omega)
      obtain ⟨y, z, a, l, mm, he, yb, _, _, _, _, _, _, _, hcell⟩ := hc k hlt
      obtain ⟨c0, c1⟩ := hcell wr hb
      have HEQ := Lib.hid he
      have e2 : (k : Int) < n := by omega
      have e3 : IntKind.i64.wrap ((k : Int) + 1) = ((k + 1 : Nat) : Int) := IntWalk.i64_in _ (by omega)
      clear hc hcell he
      by_cases hxy : y = x
      · have hb2 : (y == x) = true := by simpa using hxy
        have HR := Lib.hid (HYES.out k (by rw [HL.out]; exact hlt) (by rw [HEQ.out]; exact hxy) hj.out)
        clear hxy
        go_wp2
        go_ret
        exact ⟨by rw [HR.out]; rfl, hb⟩
      · have hb2 : (y == x) = false := by simpa using hxy
        have HJ : Hid (∀ j, j < k + 1 → (L.getD j lk0).1 ≠ x) := Lib.hid (fun j hjk => by
          rcases Nat.lt_or_ge j k with h | h
          · exact hj.out j h
          · obtain rfl : j = k := by omega
            rw [HEQ.out]; exact hxy)
        clear hxy
        go_wp2
        go_roundw
        case rel => exact ⟨k + 1, by omega, by go_num, HJ, hb⟩
        case measure => simp [intOf]; omega
    · obtain rfl : k = n := by omega
      have HR := Lib.hid (HNO.out (fun j hj2 => hj.out j (by rw [HL.out] at hj2; exact hj2)))
      go_wp2
      go_ret
      exact ⟨by rw [HR.out]; rfl, hb⟩
end Go.Proofs.Ytoemmppoejaapaa.Cur
namespace Go.Proofs.Ytoemmppoejaapaa.Cur
open Go.RowKit Mem
set_option linter.unusedVariables false
set_option maxRecDepth 100000
theorem Ch.appc {α : Type} {E : El α} {w : World} {P : Nat → Prop} : ∀ {cs : List (List Value)} {xs : List α}, Ch E w P cs xs → ∀ {ds : List (List Value)} {ys : List α}, Ch E w P ds ys → Ch E w P (cs ++ ds) (xs ++ ys)
  | [], [], _, _, _, h => h
  | c :: cs, x :: xs, h, _, _, h2 => ⟨h.1, Ch.appc h.2 h2⟩
  | [], _ :: _, h, _, _, _ => h.elim
  | _ :: _, [], h, _, _, _ => h.elim
def OwnO (w : World) (B : Nat) (v : Value) (L : List Lk) : Prop := OwnQ LkE 51 w B (fun k => k < B) v L
theorem OwnO.below {w w' : World} {B : Nat} {v : Value} {L : List Lk} (h : OwnO w B v L) (hb : Below w.heap.size w w') : OwnO w' B v L := OwnQ.below h hb
theorem OwnO.ge {w : World} {B : Nat} {v : Value} {L : List Lk} (h : OwnO w B v L) : ∀ g, v.ownBlock = some g → B ≤ g := by
  obtain ⟨cs, h1, h2, h3⟩ := h
  exact own_ge h2
theorem OwnO.app {w w' : World} {B m : Nat} {v v' : Value} {L M : List Lk} {cs ds : List (List Value)} (h1 : Ch LkE w (fun k => k < B) cs L) (h2 : w.ownsRow B 51 2 v L.length cs.flatten) (hB : B ≤ w.heap.size) (hd : Ch LkE w (fun k => k < B) ds M)
    (hm : M.length = m) (ho : w'.ownsRow B 51 2 v' (L.length + m) (cs.flatten ++ ds.flatten)) (hg : w.grownBy w' v.ownBlock) : OwnO w' B v' (L ++ M) := by
  have hk : ∀ b, b < B → b < w.heap.size → w'.heap[b]? = w.heap[b]? := fun b hb hlt => hg.block b hlt fun e => by have := own_ge h2 b e.symm; omega
  refine ⟨cs ++ ds, (h1.appc hd).keep hk, ?_, fun g hgb hh => by have := own_ge ho g hgb; have h9 : g < B := hh; omega⟩
  rw [List.flatten_append, List.length_append, hm]
  exact ho
def Lns (w : World) (P : Nat → Prop) (A : Option Addr) (n : Nat) (S : List (List Lk)) : Prop := S.length = n ∧ Sq (SlE LkE) w P A S
theorem Lns.cells {w : World} {P : Nat → Prop} {A : Option Addr} {n : Nat} {S : List (List Lk)} (h : Lns w P A n S) (hn : n ≠ 0) :
    ∃ g o, A = some ⟨g, o, none⟩ ∧ P g ∧ g < w.heap.size ∧ ∀ k, k < n → ∃ a l m, (S.getD k []).length = l ∧ l ≤ m ∧ (a = none → m = 0) ∧ Lks w P a l (S.getD k []) ∧
      ∀ w', Below w.heap.size w w' → w'.cell? ⟨g, o + k, none⟩ = some (.slice a l m) := by
  obtain ⟨rfl, h⟩ := h
  obtain ⟨g, o, c, e, hP, hg, _⟩ := h.at_ (i := 0) (by decide) (List.getElem?_eq_getElem (Nat.pos_of_ne_zero hn))
  refine ⟨g, o, e, hP, hg, fun k hk => ?_⟩
  obtain ⟨g', o', c', e', hP', hg', ⟨a, m, hc, h1, h2, h3⟩, hcell⟩ := h.at_ (i := k) (by decide) (List.getElem?_eq_getElem hk)
  rw [e] at e'
  injection e' with e'
  injection e' with e1 e2
  subst e1 e2
  have hS : S.getD k [] = S[k] := by rw [List.getD_eq_getElem?_getD, List.getElem?_eq_getElem hk]; rfl
  rw [hS]
  refine ⟨a, _, m, rfl, h1, h2, ⟨rfl, h3⟩, fun w' hb => ?_⟩
  have := hcell 0 _ (by rw [hc]; rfl)
  have e : o + k * (SlE LkE).k + 0 = o + k := by show o + k * 1 + 0 = o + k; omega
  rw [e] at this
  rw [← this]
  exact hb.cell (lt_of_cell this)
end Go.Proofs.Ytoemmppoejaapaa.Cur
namespace Go.Proofs.Ytoemmppoejaapaa.Cur
open Go.RowKit Mem
set_option linter.unusedVariables false
set_option maxRecDepth 100000
theorem wth_len (L : List Lk) (s : Lk) : (wth L s).length ≤ L.length + 1 ∧ 1 ≤ (wth L s).length := by
  unfold wth
  split
  · rename_i h
    rw [List.length_set]
    refine ⟨by omega, ?_⟩
    cases L with
    | nil => have : fnl [] s.1 = -1 := rfl; omega
    | cons a l => rw [List.length_cons]; omega
  · have := gtl_le L s.1
    rw [List.length_append, List.length_cons, List.length_take, List.length_drop]
    omega
theorem wth_blen {M : Nat} {L : List Lk} {s : Lk} (h : blen M L) (hs : s.2.length ≤ M) : blen M (wth L s) := fun t ht => by
  unfold wth at ht
  split at ht
  · rcases List.mem_or_eq_of_mem_set ht with h1 | rfl
    · exact h t h1
    · exact hs
  · rcases List.mem_append.1 ht with h1 | h1
    · exact h t (List.mem_of_mem_take h1)
    · rcases List.mem_cons.1 h1 with rfl | h1
      · exact hs
      · exact h t (List.mem_of_mem_drop h1)
end Go.Proofs.Ytoemmppoejaapaa.Cur
namespace Go.Proofs.Ytoemmppoejaapaa.Cur
open Go.RowKit Mem
set_option linter.unusedVariables false
set_option maxRecDepth 100000
theorem OwnO.push {W w : World} {v : Value} {L : List Lk} (h : OwnO w W.heap.size v L) (hb : Below W.heap.size W w) {c1 c2 : Value} {s : Lk} (hs : LkE.R w (fun b => b < W.heap.size) [c1, c2] s) :
    ∃ xs, (w.alloc (.cells #[c1, c2] 51)).ownsRow W.heap.size 51 2 v L.length xs ∧ W.heap.size ≤ (w.alloc (.cells #[c1, c2] 51)).heap.size ∧ Rw (w.alloc (.cells #[c1, c2] 51)) (some ⟨w.heap.size, 0, none⟩) [c1, c2] ∧
      ∀ v' w', w'.ownsRow W.heap.size 51 2 v' (L.length + 1) (xs ++ [c1, c2]) → (w.alloc (.cells #[c1, c2] 51)).grownBy w' v.ownBlock → OwnO w' W.heap.size v' (L ++ [s]) ∧ Below W.heap.size W w' := by
  have hA := below_one w (.cells #[c1, c2] 51)
  obtain ⟨cs, g1, g2, g3⟩ := h.below hA
  have hB : W.heap.size ≤ (w.alloc (.cells #[c1, c2] 51)).heap.size := by have := hb.size; simp; omega
  refine ⟨cs.flatten, g2, hB, rw_new w [c1, c2] 51, fun v' w' ho hg => ⟨?_, ?_⟩⟩
  · exact OwnO.app (M := [s]) (ds := [[c1, c2]]) g1 g2 hB ⟨LkE.keep hs (fun b hb9 hl => hA.block b hl), trivial⟩ rfl (by simpa using ho) hg
  · exact (hb.trans (hA.mono hb.size)).grown hg hB (fun k e => own_ge g2 k e)
def dbq (f : Int) (g k : Nat) : Bool := decide ((f < 0 ∧ g < k) ∨ (0 ≤ f ∧ f < (k : Int)))
theorem dbq_yes {f : Int} {g k : Nat} (h : (f < 0 ∧ g < k) ∨ (0 ≤ f ∧ f < (k : Int))) : dbq f g k = true := decide_eq_true h
theorem dbq_no {f : Int} {g k : Nat} (h : ¬ ((f < 0 ∧ g < k) ∨ (0 ≤ f ∧ f < (k : Int)))) : dbq f g k = false := decide_eq_false h
def wcn (f : Int) (g k : Nat) : Nat := if f < 0 ∧ g < k then k + 1 else k
theorem wth_at {L : List Lk} {s : Lk} {k : Nat} (hk : k < L.length) :
    (0 ≤ fnl L s.1 → (wth L s).length = L.length ∧ (wth L s).getD k lk0 = if fnl L s.1 = k then s else L.getD k lk0) ∧
    (fnl L s.1 < 0 → (wth L s).length = L.length + 1 ∧ (k < gtl L s.1 → (wth L s).getD k lk0 = L.getD k lk0) ∧ (gtl L s.1 ≤ k → (wth L s).getD (k + 1) lk0 = L.getD k lk0)) := by
  constructor
  · intro h
    unfold wth
    rw [if_pos h]
    refine ⟨List.length_set, ?_⟩
    rw [List.getD_eq_getElem?_getD, List.getElem?_set]
    by_cases hf : fnl L s.1 = k
    · rw [if_pos (by omega), if_pos hf, if_pos (by omega)]; rfl
    · rw [if_neg (by omega), if_neg hf, ← List.getD_eq_getElem?_getD]
  · intro h
    have hg := gtl_le L s.1
    unfold wth
    rw [if_neg (by omega)]
    refine ⟨by rw [List.length_append, List.length_cons, List.length_take, List.length_drop]; omega, fun h1 => ?_, fun h1 => ?_⟩
    · rw [List.getD_eq_getElem?_getD, List.getElem?_append_left (by rw [List.length_take]; omega), List.getElem?_take_of_lt h1, ← List.getD_eq_getElem?_getD]
    · rw [List.getD_eq_getElem?_getD, List.getElem?_append_right (by rw [List.length_take]; omega), List.length_take, show k + 1 - min (gtl L s.1) L.length = (k - gtl L s.1) + 1 by omega, List.getElem?_cons_succ, List.getElem?_drop, show gtl L s.1 + (k - gtl L s.1) = k by omega, ← List.getD_eq_getElem?_getD]
theorem wth_mid {L : List Lk} {s : Lk} (h : fnl L s.1 < 0) : (wth L s).getD (gtl L s.1) lk0 = s := by
  have hg := gtl_le L s.1
  unfold wth
  rw [if_neg (by omega), List.getD_eq_getElem?_getD, List.getElem?_append_right (by rw [List.length_take]; omega), List.length_take, show gtl L s.1 - min (gtl L s.1) L.length = 0 by omega]
  rfl
theorem tk_one {L : List Lk} {k : Nat} (hk : k < L.length) : L.take (k + 1) = L.take k ++ [L.getD k lk0] := by
  rw [List.take_add_one, List.getElem?_eq_getElem hk, List.getD_eq_getElem?_getD, List.getElem?_eq_getElem hk]; rfl
theorem gtl_spec (L : List Lk) (x : Int) : (∀ j, j < gtl L x → ¬ x < (L.getD j lk0).1) ∧ (gtl L x < L.length → x < (L.getD (gtl L x) lk0).1) := by
  induction L with
  | nil => exact ⟨fun j hj => by simp [gtl] at hj, fun h => by simp at h⟩
  | cons s L ih =>
    unfold gtl
    by_cases h : x < s.1
    · rw [if_pos h]; exact ⟨fun j hj => by omega, fun _ => by simpa using h⟩
    · rw [if_neg h]
      refine ⟨fun j hj => ?_, fun hl => ?_⟩
      · rcases j with _ | j
        · simpa using h
        · simpa using ih.1 j (by omega)
      · simpa using ih.2 (by simpa using hl)
theorem fnl_bd (L : List Lk) (x : Int) : fnl L x < L.length := by
  rw [fnl_pcx]
  split
  · omega
  · omega
end Go.Proofs.Ytoemmppoejaapaa.Cur
