/- As the seat's text, without what nothing here names. -/
import Derived.Test.YtgdcbfekekefiaaK35j
import Derived.Lib.AppendZerosOnto
import Derived.Test.YtgdcbfekekefiaaK34j
namespace Go.Proofs.Ytgdcbfekekefiaa.Cur
open Go.RowKit Mem
set_option linter.unusedVariables false
set_option maxRecDepth 100000
theorem Blk.c1 {w : World} {b : Nat} {v : Value} {t : Nat} (h : Blk w b #[v] t) : w.cell? ⟨b, 0, none⟩ = some v := h.cell 0 rfl
theorem LkE.none (w : World) (P : Nat → Prop) : LkE.R w P [.int .u64 0, .slice none 0 0] lk0 := LkE.mk (x := 0) (z := []) (by omega) rfl (Nat.le_refl _) (fun _ => rfl) (Sq.nil _ _ _ _)
end Go.Proofs.Ytgdcbfekekefiaa.Cur
namespace Go.Proofs.Ytgdcbfekekefiaa.Cur
open Go.RowKit Mem
set_option linter.unusedVariables false
set_option maxRecDepth 100000
theorem Ch.dropc {α : Type} {E : El α} {w : World} {P : Nat → Prop} : ∀ {cs : List (List Value)} {xs : List α}, Ch E w P cs xs → ∀ k, Ch E w P (cs.drop k) (xs.drop k)
  | [], [], _, k => by rw [List.drop_nil, List.drop_nil]; trivial
  | c :: cs, x :: xs, h, 0 => h
  | c :: cs, x :: xs, h, k + 1 => Ch.dropc h.2 k
  | [], _ :: _, h, _ => h.elim
  | _ :: _, [], h, _ => h.elim
theorem Ch.appc {α : Type} {E : El α} {w : World} {P : Nat → Prop} : ∀ {cs : List (List Value)} {xs : List α}, Ch E w P cs xs → ∀ {ds : List (List Value)} {ys : List α}, Ch E w P ds ys → Ch E w P (cs ++ ds) (xs ++ ys)
  | [], [], _, _, _, h => h
  | c :: cs, x :: xs, h, _, _, h2 => ⟨h.1, Ch.appc h.2 h2⟩
  | [], _ :: _, h, _, _, _ => h.elim
  | _ :: _, [], h, _, _, _ => h.elim
theorem Sq.dropq {α : Type} {E : El α} {w : World} {P : Nat → Prop} {g o : Nat} {xs : List α} (h : Sq E w P (some ⟨g, o, none⟩) xs) (k : Nat) (hk : k ≤ xs.length) : Sq E w P (some ⟨g, o + k * E.k, none⟩) (xs.drop k) := by
  obtain ⟨cs, h1, h2⟩ := h
  refine ⟨cs.drop k, h1.dropc k, fun hn => ?_⟩
  have e : cs.flatten = (cs.take k).flatten ++ (cs.drop k).flatten := by rw [← List.flatten_append, List.take_append_drop]
  have hl : (cs.take k).flatten.length = k * E.k := by rw [(h1.take k).flat, List.length_take]; congr 1; omega
  obtain ⟨g', o', ea, hP, hc⟩ := h2 (by rw [e, List.length_append]; omega)
  injection ea with ea
  injection ea with e1 e2
  subst e1 e2
  refine ⟨g, o + k * E.k, rfl, hP, fun i v hi => ?_⟩
  have := hc (k * E.k + i) v (by rw [e, List.getElem?_append_right (by omega), hl, Nat.add_sub_cancel_left]; exact hi)
  rwa [← Nat.add_assoc] at this
def OwnO (w : World) (B : Nat) (v : Value) (L : List Lk) : Prop := OwnQ LkE 57 w B (fun k => k < B) v L
theorem OwnO.below {w w' : World} {B : Nat} {v : Value} {L : List Lk} (h : OwnO w B v L) (hb : Below w.heap.size w w') : OwnO w' B v L := OwnQ.below h hb
theorem OwnO.ge {w : World} {B : Nat} {v : Value} {L : List Lk} (h : OwnO w B v L) : ∀ g, v.ownBlock = some g → B ≤ g := by
  obtain ⟨cs, h1, h2, h3⟩ := h
  exact own_ge h2
theorem OwnO.app {w w' : World} {B m : Nat} {v v' : Value} {L M : List Lk} {cs ds : List (List Value)} (h1 : Ch LkE w (fun k => k < B) cs L) (h2 : w.ownsRow B 57 2 v L.length cs.flatten) (hB : B ≤ w.heap.size) (hd : Ch LkE w (fun k => k < B) ds M)
    (hm : M.length = m) (ho : w'.ownsRow B 57 2 v' (L.length + m) (cs.flatten ++ ds.flatten)) (hg : w.grownBy w' v.ownBlock) : OwnO w' B v' (L ++ M) := by
  have hk : ∀ b, b < B → b < w.heap.size → w'.heap[b]? = w.heap[b]? := fun b hb hlt => hg.block b hlt fun e => by have := own_ge h2 b e.symm; omega
  refine ⟨cs ++ ds, (h1.appc hd).keep hk, ?_, fun g hgb hh => by have := own_ge ho g hgb; have h9 : g < B := hh; omega⟩
  rw [List.flatten_append, List.length_append, hm]
  exact ho
theorem OwnO.nilbase {w : World} {B B' : Nat} {v : Value} (h : OwnO w B v []) (hB : B' ≤ B) : OwnO w B' v [] := by
  obtain ⟨cs, h1, h2, h3⟩ := h
  have hcs : cs = [] := by
    cases cs with
    | nil => rfl
    | cons c cs => exact h1.elim
  subst hcs
  refine ⟨[], trivial, ⟨h2.1, h2.2.imp id fun ⟨g, cap, cur, e, hg, r⟩ => ⟨g, cap, cur, e, Nat.le_trans hB hg, r⟩⟩, fun g hg hh => ?_⟩
  have := own_ge h2 g hg
  have h9 : g < B' := hh
  omega
def Lns (w : World) (P : Nat → Prop) (A : Option Addr) (n : Nat) (S : List (List Lk)) : Prop := S.length = n ∧ Sq (SlE LkE) w P A S
theorem Lns.cells {w : World} {P : Nat → Prop} {A : Option Addr} {n : Nat} {S : List (List Lk)} (h : Lns w P A n S) (hn : n ≠ 0) :
    ∃ g o, A = some ⟨g, o, none⟩ ∧ P g ∧ g < w.heap.size ∧ ∀ k, k < n → ∃ a l m, (S.getD k []).length = l ∧ l ≤ m ∧ (a = none → m = 0) ∧ Lks w P a l (S.getD k []) ∧
      ∀ w', Below w.heap.size w w' → w'.cell? ⟨g, o + k, none⟩ = some (.slice a l m) := by
  obtain ⟨rfl, h⟩ := h
  obtain ⟨g, o, c, e, hP, hg, _⟩ := h.at_ (i := 0) (by decide) (List.getElem?_eq_getElem (Nat.pos_of_ne_zero hn))
  refine ⟨g, o, e, hP, hg, fun k hk => ?_⟩
  obtain ⟨g', o', c', e', hP', hg', ⟨a, m, hc, h1, h2, h3⟩, hcell⟩ := h.at_ (i := k) (by decide) (List.getElem?_eq_getElem hk)
  rw [e] at e'
  injection e' with e'
  injection e' with e1 e2
  subst e1 e2
  have hS : S.getD k [] = S[k] := by rw [List.getD_eq_getElem?_getD, List.getElem?_eq_getElem hk]; rfl
  rw [hS]
  refine ⟨a, _, m, rfl, h1, h2, ⟨rfl, h3⟩, fun w' hb => ?_⟩
  have := hcell 0 _ (by rw [hc]; rfl)
  have e : o + k * (SlE LkE).k + 0 = o + k := by show o + k * 1 + 0 = o + k; omega
  rw [e] at this
  rw [← this]
  exact hb.cell (lt_of_cell this)
theorem ftkl {α : Type} (S : List (List α)) {k : Nat} (h : k < S.length) : (S.take (k + 1)).flatten = (S.take k).flatten ++ S.getD k [] := by
  rw [List.take_add_one, List.getElem?_eq_getElem h, List.getD_eq_getElem?_getD, List.getElem?_eq_getElem h, List.flatten_append]
  simp
theorem ftkl_le {α : Type} (S : List (List α)) (k : Nat) : (S.take k).flatten.length ≤ S.flatten.length := by
  have h : S.flatten = (S.take k).flatten ++ (S.drop k).flatten := by rw [← List.flatten_append, List.take_append_drop]
  rw [h, List.length_append]; omega
end Go.Proofs.Ytgdcbfekekefiaa.Cur
namespace Go.Proofs.Ytgdcbfekekefiaa.Cur
open Go.RowKit Mem
set_option linter.unusedVariables false
set_option maxRecDepth 100000
end Go.Proofs.Ytgdcbfekekefiaa.Cur
namespace Go.Proofs.Ytgdcbfekekefiaa.Cur
open Go.RowKit Mem
set_option linter.unusedVariables false
set_option maxRecDepth 100000
end Go.Proofs.Ytgdcbfekekefiaa.Cur
