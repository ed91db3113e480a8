/- Stripes: which are right, by the program. -/
import Derived.Test.YtpoicagalmhfdaaStpA
namespace Go.Proofs.Ytpoicagalmhfdaa.Cur
open Go.RowKit Mem
set_option linter.unusedVariables false
set_option maxRecDepth 100000


/-- Are all of them nodes? -/
def ndb (l : List Int) : Bool := l.all fun x => decide (x ≤ 4294967295)
theorem ndb_yes {l : List Int} (h : ∀ j, j < l.length → l.getD j 0 ≤ 4294967295) : ndb l = true := by
  unfold ndb
  rw [List.all_eq_true]
  intro x hx
  obtain ⟨j, hj, e⟩ := List.mem_iff_getElem.1 hx
  have := h j hj
  rw [List.getD_eq_getElem?_getD, List.getElem?_eq_getElem hj] at this
  rw [decide_eq_true_eq, ← e]; exact this
theorem ndb_no {l : List Int} {j : Nat} (hj : j < l.length) (h : ¬ l.getD j 0 ≤ 4294967295) : ndb l = false := by
  cases e : ndb l with
  | false => rfl
  | true =>
    unfold ndb at e
    rw [List.all_eq_true] at e
    have := e _ (List.getElem_mem hj)
    rw [List.getD_eq_getElem?_getD, List.getElem?_eq_getElem hj] at h
    exact absurd (of_decide_eq_true this) h
theorem rises_le {l : List Int} (h : risesB l = true) : ∀ i j, i ≤ j → j < l.length → l.getD i 0 ≤ l.getD j 0 := by
  intro i j hij
  induction j with
  | zero => intro _; rw [show i = 0 by omega]; exact Int.le_refl _
  | succ j ih =>
    intro hj
    rcases Nat.lt_or_ge i (j + 1) with h1 | h1
    · have := (risesB_iff l).1 h j hj
      have := ih (by omega) (by omega)
      omega
    · rw [show i = j + 1 by omega]; exact Int.le_refl _
/-- All are nodes if the last is. -/
theorem ndb_last {l : List Int} (h : risesB l = true) (hl : 1 ≤ l.length) : ndb l = decide (l.getD (l.length - 1) 0 < 4294967296) := by
  by_cases hc : l.getD (l.length - 1) 0 < 4294967296
  · rw [decide_eq_true hc]
    exact ndb_yes fun j hj => by have := rises_le h j (l.length - 1) (by omega) (by omega); omega
  · rw [decide_eq_false hc]
    exact ndb_no (j := l.length - 1) (by omega) (by omega)
/-- Which set has a number, or -1. -/
def hli : List (List Int) → Int → Int
  | [], _ => -1
  | s :: S, x => if s.contains x = true then 0 else if hli S x < 0 then -1 else hli S x + 1
theorem hli_yes : ∀ (S : List (List Int)) (x : Int) (k : Nat), k < S.length → (S.getD k []).contains x = true → (∀ j, j < k → (S.getD j []).contains x = false) → hli S x = k
  | [], _, _, h, _, _ => absurd h (by simp)
  | y :: l, x, 0, _, h, _ => by unfold hli; rw [if_pos (by simpa using h)]; rfl
  | y :: l, x, k + 1, h, h1, h2 => by
    have ih := hli_yes l x k (by simpa using h) (by simpa using h1) (fun j hj => by have := h2 (j + 1) (by omega); simpa using this)
    unfold hli
    rw [if_neg (by have := h2 0 (by omega); simpa using this), ih, if_neg (by omega)]; push_cast; rfl
theorem hli_no : ∀ (S : List (List Int)) (x : Int), (∀ j, j < S.length → (S.getD j []).contains x = false) → hli S x = -1
  | [], _, _ => rfl
  | y :: l, x, h => by
    have ih := hli_no l x (fun j hj => by have := h (j + 1) (by simpa using hj); simpa using this)
    unfold hli
    rw [if_neg (by have := h 0 (by simp); simpa using this), ih, if_pos (by decide)]
theorem hli_bd : ∀ (S : List (List Int)) (x : Int), -1 ≤ hli S x ∧ hli S x < S.length
  | [], _ => by unfold hli; simp
  | y :: l, x => by
    have ih := hli_bd l x
    unfold hli
    rw [List.length_cons]
    split
    · omega
    · split <;> omega
theorem hli_mem : ∀ (S : List (List Int)) (x : Int), decide (0 ≤ hli S x) = S.any fun s => s.contains x
  | [], _ => by unfold hli; simp
  | y :: l, x => by
    have ih := hli_mem l x
    have hb := hli_bd l x
    unfold hli
    rw [List.any_cons, ← ih]
    cases h : y.contains x
    · rw [if_neg (by simp), Bool.false_or]
      split
      · rename_i h2; rw [decide_eq_false (by omega), decide_eq_false (by omega)]
      · rename_i h2; rw [decide_eq_true (by omega), decide_eq_true (by omega)]
    · rw [if_pos rfl]; simp
/-- What is told of it. -/
def hlv (S : List (List Int)) (x : Int) : Value := .tuple #[.int .i64 (if 0 ≤ hli S x then hli S x else 0), .bool (decide (0 ≤ hli S x))]
theorem hlv_yes {S : List (List Int)} {x : Int} {k : Nat} (h : hli S x = k) : hlv S x = .tuple #[.int .i64 k, .bool true] := by
  unfold hlv; rw [h, if_pos (by omega), decide_eq_true (by omega)]
theorem hlv_no {S : List (List Int)} {x : Int} (h : hli S x = -1) : hlv S x = .tuple #[.int .i64 0, .bool false] := by
  unfold hlv; rw [h, if_neg (by omega), decide_eq_false (by omega)]

set_option maxHeartbeats 1000000 in
theorem arenodes_any (A : Option Addr) (n m : Nat) (z : List Int) (w : World) (hz : Us w A n z) (hn : n ≤ 1000000) :
    Calls Try.prog 63 #[.slice A n m] w (BPost (.bool (ndb z)) w) := by
  unfold BPost
  have HL := Lib.hid hz.1
  have HC : Hid (n ≠ 0 → ∃ g o, A = some ⟨g, o, none⟩ ∧ g < w.heap.size ∧ ∀ w', Below w.heap.size w w' → ∀ k, k < n → w'.cell? ⟨g, o + k, none⟩ = some (.int .u64 (z.getD k 0))) := Lib.hid fun h => hz.cells (by omega)
  have HYES := Lib.hid (ndb_yes (l := z))
  have HNO := Lib.hid (fun j => ndb_no (l := z) (j := j))
  generalize ndb z = r at *
  clear hz
  go_enter Try.func63, Try.ntmps63
  go_wp2
  go_loopw [7] (fun i wr => ∃ k : Nat, k ≤ n ∧ i = .int .i64 k ∧ Hid (∀ j, j < k → z.getD j 0 ≤ 4294967295) ∧ Below w.heap.size w wr) (fun i _ => n - (intOf i).toNat)
  case atStart => exact ⟨0, by omega, rfl, Lib.hid (by intro j hj; omega), Below.refl _ _⟩
  case round =>
    obtain ⟨k, hk, rfl, hj, hb⟩ := hrel
    by_cases hlt : k < n
    · obtain ⟨g, o, rfl, hg, hc⟩ := HC.out (by omega)
      have c0 := hc wr hb k hlt
      obtain ⟨y, hy⟩ : ∃ y, y = z.getD k 0 := ⟨_, rfl⟩
      rw [← hy] at c0
      have HY := Lib.hid hy
      have e2 : (k : Int) < n := by omega
      have e3 : IntKind.i64.wrap ((k : Int) + 1) = ((k + 1 : Nat) : Int) := IntWalk.i64_in _ (by omega)
      clear hc hy
      by_cases he : 4294967295 < y
      · have HR : Hid (r = false) := Lib.hid (HNO.out k (by rw [HL.out]; exact hlt) (by rw [← HY.out]; omega))
        have HB := Lib.hid hb
        clear hj hb
        go_wp2
        go_ret
        exact ⟨by rw [HR.out]; rfl, HB.out⟩
      · go_wp2
        go_roundw
        case rel => exact ⟨k + 1, by omega, by go_num, Lib.hid (fun j hjk => by
          rcases Nat.lt_or_ge j k with h | h
          · exact hj.out j h
          · obtain rfl : j = k := by omega
            rw [← HY.out]; omega), hb⟩
        case measure => simp [intOf]; omega
    · obtain rfl : k = n := by omega
      go_wp2
      go_ret
      exact ⟨by rw [HYES.out (fun j hj2 => hj.out j (by rw [HL.out] at hj2; exact hj2))]; rfl, hb⟩

set_option maxHeartbeats 1000000 in
theorem holder_any (P : Nat → Prop) (A : Option Addr) (n m : Nat) (S : List (List Int)) (x : Int) (w : World) (hz : Sts w P A n S) (hn : n ≤ 1000000) (hlen : ∀ l ∈ S, l.length ≤ 1000000) :
    Calls Try.prog 58 #[.slice A n m, .int .u64 x] w (BPost (hlv S x) w) := by
  unfold BPost
  have HL := Lib.hid hz.1
  have HC := Lib.hid (fun h => hz.cells h)
  have HYES := Lib.hid (fun k h1 h2 h3 => hlv_yes (hli_yes S x k h1 h2 h3))
  have HNO := Lib.hid (fun h => hlv_no (hli_no S x h))
  have HLEN : Hid (∀ k, k < n → (S.getD k []).length ≤ 1000000) := Lib.hid fun k hk => by
    have hkl : k < S.length := by rw [hz.1]; exact hk
    rw [List.getD_eq_getElem?_getD, List.getElem?_eq_getElem hkl]
    exact hlen _ (List.getElem_mem hkl)
  generalize hlv S x = r at *
  clear hz hlen
  go_enter Try.func58, Try.ntmps58
  go_wp2
  go_loopw [10] (fun i wr => ∃ k : Nat, k ≤ n ∧ i = .int .i64 k ∧ Hid (∀ j, j < k → (S.getD j []).contains x = false) ∧ Below w.heap.size w wr) (fun i _ => n - (intOf i).toNat)
  case atStart => exact ⟨0, by omega, rfl, Lib.hid (by intro j hj; omega), Below.refl _ _⟩
  case round =>
    obtain ⟨k, hk, rfl, hj, hb⟩ := hrel
    by_cases hlt : k < n
    · obtain ⟨g, o, rfl, _, hg, hc⟩ := HC.out (by omega)
      obtain ⟨a, l, mm, hl, hlm, han, hus, _, _, hcell⟩ := hc k hlt
      have c0 := hcell wr hb
      have hlen := HLEN.out k hlt
      rw [hl] at hlen
      have hcon := scontains_any a l mm (S.getD k []) x wr (hus.below hb) hlen
      unfold BPost at hcon
      have HR1 := Lib.hid (HYES.out k (by rw [HL.out]; exact hlt))
      obtain ⟨v, hv⟩ : ∃ v, v = (S.getD k []).contains x := ⟨_, rfl⟩
      rw [← hv] at hcon HR1
      have HV := Lib.hid hv
      have e2 : (k : Int) < n := by omega
      have e3 : IntKind.i64.wrap ((k : Int) + 1) = ((k + 1 : Nat) : Int) := IntWalk.i64_in _ (by omega)
      clear hc hv hl hus hcell han
      go_wp2_with fail
      refine hcon.mono ?_
      rintro e w1 ⟨rfl, hb1⟩
      have hb2 := hb.trans (hb1.mono hb.size)
      clear hcon hb1 c0
      cases v
      · clear hb
        go_wp2
        go_roundw
        case rel => exact ⟨k + 1, by omega, by go_num, Lib.hid (fun j hjk => by
          rcases Nat.lt_or_ge j k with h | h
          · exact hj.out j h
          · obtain rfl : j = k := by omega
            exact HV.out.symm), hb2⟩
        case measure => simp [intOf]; omega
      · have HR := Lib.hid (HR1.out rfl hj.out)
        have HB := Lib.hid hb2
        clear hj hb hb2 HR1
        go_wp2
        go_ret2
        exact ⟨by rw [HR.out]; rfl, HB.out⟩
    · obtain rfl : k = n := by omega
      go_wp2
      go_ret2
      exact ⟨by rw [HNO.out (fun j hj2 => hj.out j (by rw [HL.out] at hj2; exact hj2))]; rfl, hb⟩
end Go.Proofs.Ytpoicagalmhfdaa.Cur
