/- As the seat's text, without what nothing here names. -/
import Derived.Test.YtoemmppoejaapaaK35f
import Derived.Lib.AppendZerosOnto
import Derived.Test.YtoemmppoejaapaaK34f
namespace Go.Proofs.Ytoemmppoejaapaa.Cur
open Go.RowKit Mem
set_option linter.unusedVariables false
set_option maxRecDepth 100000
theorem Blk.c1 {w : World} {b : Nat} {v : Value} {t : Nat} (h : Blk w b #[v] t) : w.cell? ⟨b, 0, none⟩ = some v := h.cell 0 rfl
theorem LkE.none (w : World) (P : Nat → Prop) : LkE.R w P [.int .u64 0, .slice none 0 0] lk0 := LkE.mk (x := 0) (z := []) (by omega) rfl (Nat.le_refl _) (fun _ => rfl) (Sq.nil _ _ _ _)
set_option maxHeartbeats 1000000 in
theorem rfind_any (P : Nat → Prop) (A : Option Addr) (n m : Nat) (L : List Lk) (x : Int) (w : World) (hz : Lks w P A n L) (hn : n ≤ 1000000) :
    Calls Try.prog 39 #[.slice A n m, .int .u64 x] w (BPost (.int .i64 (fnl L x)) w) := by
  unfold BPost
  have HL := Lib.hid hz.1
  have HC := Lib.hid (fun h => hz.cells h)
  have HYES := Lib.hid (fnl_yes L x)
  have HNO := Lib.hid (fnl_no L x)
  generalize fnl L x = r at *
  clear hz
  go_enter Try.func39, Try.ntmps39
  go_wp2
  go_loopw [5] (fun i wr => ∃ k : Nat, k ≤ n ∧ i = .int .i64 k ∧ Hid (∀ j, j < k → (L.getD j lk0).1 ≠ x) ∧ Below w.heap.size w wr) (fun i _ => n - (intOf i).toNat)
  case atStart => exact ⟨0, by omega, rfl, Lib.hid (by intro j hj; omega), Below.refl _ _⟩
  case round =>
    obtain ⟨k, hk, rfl, hj, hb⟩ := hrel
    by_cases hlt : k < n
    · obtain ⟨g, o, rfl, _, hg, hc⟩ := HC.out (by omega)
      obtain ⟨y, z, a, l, mm, he, yb, _, _, _, _, _, _, _, hcell⟩ := hc k hlt
      obtain ⟨c0, c1⟩ := hcell wr hb
      have HEQ := Lib.hid he
      have e2 : (k : Int) < n := by omega
      have e3 : IntKind.i64.wrap ((k : Int) + 1) = ((k + 1 : Nat) : Int) := IntWalk.i64_in _ (by omega)
      clear hc hcell he
      by_cases hxy : y = x
      · have hb2 : (y == x) = true := by simpa using hxy
        have HR := Lib.hid (HYES.out k (by rw [HL.out]; exact hlt) (by rw [HEQ.out]; exact hxy) hj.out)
        clear hxy
        go_wp2
        go_ret
        exact ⟨by rw [HR.out]; rfl, hb⟩
      · have hb2 : (y == x) = false := by simpa using hxy
        have HJ : Hid (∀ j, j < k + 1 → (L.getD j lk0).1 ≠ x) := Lib.hid (fun j hjk => by
          rcases Nat.lt_or_ge j k with h | h
          · exact hj.out j h
          · obtain rfl : j = k := by omega
            rw [HEQ.out]; exact hxy)
        clear hxy
        go_wp2
        go_roundw
        case rel => exact ⟨k + 1, by omega, by go_num, HJ, hb⟩
        case measure => simp [intOf]; omega
    · obtain rfl : k = n := by omega
      have HR := Lib.hid (HNO.out (fun j hj2 => hj.out j (by rw [HL.out] at hj2; exact hj2)))
      go_wp2
      go_ret
      exact ⟨by rw [HR.out]; rfl, hb⟩
end Go.Proofs.Ytoemmppoejaapaa.Cur
namespace Go.Proofs.Ytoemmppoejaapaa.Cur
open Go.RowKit Mem
set_option linter.unusedVariables false
set_option maxRecDepth 100000
def OwnO (w : World) (B : Nat) (v : Value) (L : List Lk) : Prop := OwnQ LkE 51 w B (fun k => k < B) v L
theorem OwnO.below {w w' : World} {B : Nat} {v : Value} {L : List Lk} (h : OwnO w B v L) (hb : Below w.heap.size w w') : OwnO w' B v L := OwnQ.below h hb
theorem OwnO.ge {w : World} {B : Nat} {v : Value} {L : List Lk} (h : OwnO w B v L) : ∀ g, v.ownBlock = some g → B ≤ g := by
  obtain ⟨cs, h1, h2, h3⟩ := h
  exact own_ge h2
def Lns (w : World) (P : Nat → Prop) (A : Option Addr) (n : Nat) (S : List (List Lk)) : Prop := S.length = n ∧ Sq (SlE LkE) w P A S
theorem Lns.cells {w : World} {P : Nat → Prop} {A : Option Addr} {n : Nat} {S : List (List Lk)} (h : Lns w P A n S) (hn : n ≠ 0) :
    ∃ g o, A = some ⟨g, o, none⟩ ∧ P g ∧ g < w.heap.size ∧ ∀ k, k < n → ∃ a l m, (S.getD k []).length = l ∧ l ≤ m ∧ (a = none → m = 0) ∧ Lks w P a l (S.getD k []) ∧
      ∀ w', Below w.heap.size w w' → w'.cell? ⟨g, o + k, none⟩ = some (.slice a l m) := by
  obtain ⟨rfl, h⟩ := h
  obtain ⟨g, o, c, e, hP, hg, _⟩ := h.at_ (i := 0) (by decide) (List.getElem?_eq_getElem (Nat.pos_of_ne_zero hn))
  refine ⟨g, o, e, hP, hg, fun k hk => ?_⟩
  obtain ⟨g', o', c', e', hP', hg', ⟨a, m, hc, h1, h2, h3⟩, hcell⟩ := h.at_ (i := k) (by decide) (List.getElem?_eq_getElem hk)
  rw [e] at e'
  injection e' with e'
  injection e' with e1 e2
  subst e1 e2
  have hS : S.getD k [] = S[k] := by rw [List.getD_eq_getElem?_getD, List.getElem?_eq_getElem hk]; rfl
  rw [hS]
  refine ⟨a, _, m, rfl, h1, h2, ⟨rfl, h3⟩, fun w' hb => ?_⟩
  have := hcell 0 _ (by rw [hc]; rfl)
  have e : o + k * (SlE LkE).k + 0 = o + k := by show o + k * 1 + 0 = o + k; omega
  rw [e] at this
  rw [← this]
  exact hb.cell (lt_of_cell this)
end Go.Proofs.Ytoemmppoejaapaa.Cur
namespace Go.Proofs.Ytoemmppoejaapaa.Cur
open Go.RowKit Mem
set_option linter.unusedVariables false
set_option maxRecDepth 100000
end Go.Proofs.Ytoemmppoejaapaa.Cur
namespace Go.Proofs.Ytoemmppoejaapaa.Cur
open Go.RowKit Mem
set_option linter.unusedVariables false
set_option maxRecDepth 100000
theorem tk_one {L : List Lk} {k : Nat} (hk : k < L.length) : L.take (k + 1) = L.take k ++ [L.getD k lk0] := by
  rw [List.take_add_one, List.getElem?_eq_getElem hk, List.getD_eq_getElem?_getD, List.getElem?_eq_getElem hk]; rfl
end Go.Proofs.Ytoemmppoejaapaa.Cur
