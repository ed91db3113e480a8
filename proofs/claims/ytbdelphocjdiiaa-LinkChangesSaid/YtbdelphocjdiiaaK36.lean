/- K36: LnkJ LnkL LnkN LnkO -/
import Derived.Test.YtbdelphocjdiiaaK35
import Derived.Lib.AppendZerosOnto
import Derived.Test.YtbdelphocjdiiaaK34
/- Links: a place; Find, by the program and by the document. -/
/- Links: slices of a row; slices.Grow and slices.Concat at links. -/
/- Links: one more, or another one, by the program. -/
/- Links: one more, or another one, by the document. -/
namespace Go.Proofs.Ytbdelphocjdiiaa.Cur
open Go.RowKit Mem
set_option linter.unusedVariables false
set_option maxRecDepth 100000


/-- Where the first one is that is so, or the length. -/
def pcx (g : Lk → Bool) : List Lk → Nat
  | [] => 0
  | s :: L => if g s then 0 else pcx g L + 1
theorem pcx_yes {g : Lk → Bool} : ∀ {L : List Lk} {k : Nat}, k < L.length → g (L.getD k lk0) = true → (∀ j, j < k → g (L.getD j lk0) = false) → pcx g L = k
  | [], _, h, _, _ => absurd h (by simp)
  | s :: L, 0, _, h, _ => by unfold pcx; rw [if_pos (by simpa using h)]
  | s :: L, k + 1, hk, h, hj => by
    have ih := pcx_yes (L := L) (k := k) (by simpa using hk) (by simpa using h) (fun j h2 => by have := hj (j + 1) (by omega); simpa using this)
    have h0 := hj 0 (by omega)
    unfold pcx
    rw [if_neg (by simpa using h0), ih]
theorem pcx_no {g : Lk → Bool} : ∀ {L : List Lk}, (∀ j, j < L.length → g (L.getD j lk0) = false) → pcx g L = L.length
  | [], _ => rfl
  | s :: L, h => by
    have ih := pcx_no (L := L) (fun j hj => by have := h (j + 1) (by simpa using hj); simpa using this)
    have h0 := h 0 (by simp)
    unfold pcx
    rw [if_neg (by simpa using h0), ih, List.length_cons]
theorem pcx_le (g : Lk → Bool) : ∀ L : List Lk, pcx g L ≤ L.length
  | [] => Nat.le_refl _
  | s :: L => by
    have := pcx_le g L
    unfold pcx
    rw [List.length_cons]
    split <;> omega
def isof (x : Int) (s : Lk) : Bool := decide (s.1 = x)
def isbe (x : Int) (s : Lk) : Bool := decide (x < s.1)
theorem fnl_pcx : ∀ (L : List Lk) (x : Int), fnl L x = if pcx (isof x) L < L.length then ((pcx (isof x) L : Nat) : Int) else -1
  | [], _ => rfl
  | s :: L, x => by
    have ih := fnl_pcx L x
    have e : pcx (isof x) (s :: L) = if isof x s = true then 0 else pcx (isof x) L + 1 := rfl
    have e2 : isof x s = decide (s.1 = x) := rfl
    rw [List.length_cons]
    unfold fnl
    by_cases h : s.1 = x
    · rw [if_pos (by rw [e2]; exact decide_eq_true h)] at e
      rw [if_pos h, e, if_pos (by omega)]; rfl
    · rw [if_neg (by rw [e2, decide_eq_false h]; decide)] at e
      rw [if_neg h, e, ih]
      by_cases h2 : pcx (isof x) L < L.length
      · rw [if_pos h2, if_neg (by omega), if_pos (by omega)]; push_cast; rfl
      · rw [if_neg h2, if_pos (by omega), if_neg (by omega)]
theorem gtl_pcx : ∀ (L : List Lk) (x : Int), gtl L x = pcx (isbe x) L
  | [], _ => rfl
  | s :: L, x => by
    have ih := gtl_pcx L x
    have e : pcx (isbe x) (s :: L) = if isbe x s = true then 0 else pcx (isbe x) L + 1 := rfl
    have e2 : isbe x s = decide (x < s.1) := rfl
    rw [e, e2]
    unfold gtl
    rw [ih]
    by_cases h : x < s.1
    · rw [if_pos h, if_pos (by simpa using h)]
    · rw [if_neg h, if_neg (by simpa using h)]

def ClPost (f : Nat) (x : Int) (w : World) (e : Ending) (w' : World) : Prop :=
  e = .returned (.func (.func f) #[] #[.pointer (some ⟨w.heap.size, 0, none⟩)]) ∧ Blk w' w.heap.size #[.int .u64 x] 22 ∧ Below w.heap.size w w'
theorem lof_any (x : Int) (w : World) : Calls Try.prog 55 #[.int .u64 x] w (ClPost 74 x w) := by
  have hX := Blk.new w #[.int .u64 x] 22
  have hb := below_one w (.cells #[.int .u64 x] 22)
  go_enter Try.func55, Try.ntmps55
  go_wp2
  go_ret
  exact ⟨rfl, hX, hb⟩
theorem lbeh_any (x : Int) (w : World) : Calls Try.prog 57 #[.int .u64 x] w (ClPost 76 x w) := by
  have hX := Blk.new w #[.int .u64 x] 22
  have hb := below_one w (.cells #[.int .u64 x] 22)
  go_enter Try.func57, Try.ntmps57
  go_wp2
  go_ret
  exact ⟨rfl, hX, hb⟩
theorem Blk.c1 {w : World} {b : Nat} {v : Value} {t : Nat} (h : Blk w b #[v] t) : w.cell? ⟨b, 0, none⟩ = some v := h.cell 0 rfl
theorem lofc_any (x y : Int) (A : Option Addr) (n c b : Nat) (w : World) (hB : Blk w b #[.int .u64 x] 22) :
    Calls Try.prog 74 #[lkagg y A n c, .pointer (some ⟨b, 0, none⟩)] w (BPost (.bool (decide (y = x))) w) := by
  have hX := Blk.new w (lkc y A n c) 53
  have hb := below_one w (.cells (lkc y A n c) 53)
  have b0 := (hB.below hb).c1
  obtain ⟨x0, x1⟩ := hX.c2
  unfold BPost
  clear hX hB
  go_enter Try.func74, Try.ntmps74
  go_wp2
  go_ret
  exact ⟨rfl, hb⟩
theorem lbec_any (x y : Int) (A : Option Addr) (n c b : Nat) (w : World) (hB : Blk w b #[.int .u64 x] 22) :
    Calls Try.prog 76 #[lkagg y A n c, .pointer (some ⟨b, 0, none⟩)] w (BPost (.bool (decide (x < y))) w) := by
  have hX := Blk.new w (lkc y A n c) 53
  have hb := below_one w (.cells (lkc y A n c) 53)
  have b0 := (hB.below hb).c1
  obtain ⟨x0, x1⟩ := hX.c2
  unfold BPost
  clear hX hB
  go_enter Try.func76, Try.ntmps76
  go_wp2
  go_ret
  exact ⟨rfl, hb⟩

set_option maxHeartbeats 2000000 in
theorem lplof_any (P : Nat → Prop) (A : Option Addr) (n m : Nat) (L : List Lk) (x : Int) (b : Nat) (w : World) (hz : Lks w P A n L) (hB : Blk w b #[.int .u64 x] 22) (hn : n ≤ 1000000) :
    Calls Try.prog 54 #[.slice A n m, .func (.func 74) #[] #[.pointer (some ⟨b, 0, none⟩)]] w (BPost (.int .i64 (pcx (isof x) L)) w) := by
  unfold BPost
  have HL := Lib.hid hz.1
  have HC := Lib.hid (fun h => hz.cells h)
  have HYES := Lib.hid (fun k hk h1 h2 => pcx_yes (g := isof x) (L := L) (k := k) hk h1 h2)
  have HNO := Lib.hid (pcx_no (g := isof x) (L := L))
  have HB := Lib.hid hB
  generalize pcx (isof x) L = r at *
  clear hz hB
  go_enter Try.func54, Try.ntmps54
  go_wp2
  go_loopw [9] (fun i wr => ∃ k : Nat, k ≤ n ∧ i = .int .i64 k ∧ Hid (∀ j, j < k → (isof x) (L.getD j lk0) = false) ∧ Below w.heap.size w wr) (fun i _ => n - (intOf i).toNat)
  case atStart => exact ⟨0, by omega, rfl, Lib.hid (by intro j hj; omega), Below.refl _ _⟩
  case round =>
    obtain ⟨k, hk, rfl, hj, hb⟩ := hrel
    by_cases hlt : k < n
    · obtain ⟨g, o, rfl, _, hg, hc⟩ := HC.out (by omega)
      obtain ⟨y, z, a, l, mm, he, yb, _, _, _, _, _, _, _, hcell⟩ := hc k hlt
      obtain ⟨c0, c1⟩ := hcell wr hb
      have HEQ : Hid ((isof x) (L.getD k lk0) = decide (y = x)) := Lib.hid (by rw [he]; rfl)
      have hX := Blk.new wr (lkc y a l mm) 53
      have hbX := hb.trans ((below_one wr (.cells (lkc y a l mm) 53)).mono hb.size)
      obtain ⟨x0, x1⟩ := hX.c2
      have hcon := lofc_any x y a l mm b _ (HB.out.below hbX)
      unfold BPost at hcon
      have e2 : (k : Int) < n := by omega
      have e3 : IntKind.i64.wrap ((k : Int) + 1) = ((k + 1 : Nat) : Int) := IntWalk.i64_in _ (by omega)
      obtain ⟨dv, hdv⟩ : ∃ dv, dv = decide (y = x) := ⟨_, rfl⟩
      rw [← hdv] at hcon HEQ
      clear hc hcell he hX hb hdv
      go_wp2_with fail
      refine hcon.mono ?_
      rintro e w1 ⟨rfl, hb1⟩
      have hbd := hbX.trans (hb1.mono hbX.size)
      clear hcon c0 c1 x0 x1 hbX hb1
      cases dv
      · have HJ : Hid (∀ j, j < k + 1 → (isof x) (L.getD j lk0) = false) := Lib.hid (fun j hjk => by
          rcases Nat.lt_or_ge j k with h | h
          · exact hj.out j h
          · obtain rfl : j = k := by omega
            exact HEQ.out)
        go_wp2
        go_roundw
        case rel => exact ⟨k + 1, by omega, by go_num, HJ, hbd⟩
        case measure => simp [intOf]; omega
      · have HR := Lib.hid (HYES.out k (by rw [HL.out]; exact hlt) HEQ.out hj.out)
        go_wp2
        go_ret
        exact ⟨by rw [HR.out]; rfl, hbd⟩
    · obtain rfl : k = n := by omega
      have HR := Lib.hid (HNO.out (fun j hj2 => hj.out j (by rw [HL.out] at hj2; exact hj2)))
      go_wp2
      go_ret
      exact ⟨by rw [HR.out, HL.out]; rfl, hb⟩
set_option maxHeartbeats 2000000 in
theorem lplbe_any (P : Nat → Prop) (A : Option Addr) (n m : Nat) (L : List Lk) (x : Int) (b : Nat) (w : World) (hz : Lks w P A n L) (hB : Blk w b #[.int .u64 x] 22) (hn : n ≤ 1000000) :
    Calls Try.prog 54 #[.slice A n m, .func (.func 76) #[] #[.pointer (some ⟨b, 0, none⟩)]] w (BPost (.int .i64 (pcx (isbe x) L)) w) := by
  unfold BPost
  have HL := Lib.hid hz.1
  have HC := Lib.hid (fun h => hz.cells h)
  have HYES := Lib.hid (fun k hk h1 h2 => pcx_yes (g := isbe x) (L := L) (k := k) hk h1 h2)
  have HNO := Lib.hid (pcx_no (g := isbe x) (L := L))
  have HB := Lib.hid hB
  generalize pcx (isbe x) L = r at *
  clear hz hB
  go_enter Try.func54, Try.ntmps54
  go_wp2
  go_loopw [9] (fun i wr => ∃ k : Nat, k ≤ n ∧ i = .int .i64 k ∧ Hid (∀ j, j < k → (isbe x) (L.getD j lk0) = false) ∧ Below w.heap.size w wr) (fun i _ => n - (intOf i).toNat)
  case atStart => exact ⟨0, by omega, rfl, Lib.hid (by intro j hj; omega), Below.refl _ _⟩
  case round =>
    obtain ⟨k, hk, rfl, hj, hb⟩ := hrel
    by_cases hlt : k < n
    · obtain ⟨g, o, rfl, _, hg, hc⟩ := HC.out (by omega)
      obtain ⟨y, z, a, l, mm, he, yb, _, _, _, _, _, _, _, hcell⟩ := hc k hlt
      obtain ⟨c0, c1⟩ := hcell wr hb
      have HEQ : Hid ((isbe x) (L.getD k lk0) = decide (x < y)) := Lib.hid (by rw [he]; rfl)
      have hX := Blk.new wr (lkc y a l mm) 53
      have hbX := hb.trans ((below_one wr (.cells (lkc y a l mm) 53)).mono hb.size)
      obtain ⟨x0, x1⟩ := hX.c2
      have hcon := lbec_any x y a l mm b _ (HB.out.below hbX)
      unfold BPost at hcon
      have e2 : (k : Int) < n := by omega
      have e3 : IntKind.i64.wrap ((k : Int) + 1) = ((k + 1 : Nat) : Int) := IntWalk.i64_in _ (by omega)
      obtain ⟨dv, hdv⟩ : ∃ dv, dv = decide (x < y) := ⟨_, rfl⟩
      rw [← hdv] at hcon HEQ
      clear hc hcell he hX hb hdv
      go_wp2_with fail
      refine hcon.mono ?_
      rintro e w1 ⟨rfl, hb1⟩
      have hbd := hbX.trans (hb1.mono hbX.size)
      clear hcon c0 c1 x0 x1 hbX hb1
      cases dv
      · have HJ : Hid (∀ j, j < k + 1 → (isbe x) (L.getD j lk0) = false) := Lib.hid (fun j hjk => by
          rcases Nat.lt_or_ge j k with h | h
          · exact hj.out j h
          · obtain rfl : j = k := by omega
            exact HEQ.out)
        go_wp2
        go_roundw
        case rel => exact ⟨k + 1, by omega, by go_num, HJ, hbd⟩
        case measure => simp [intOf]; omega
      · have HR := Lib.hid (HYES.out k (by rw [HL.out]; exact hlt) HEQ.out hj.out)
        go_wp2
        go_ret
        exact ⟨by rw [HR.out]; rfl, hbd⟩
    · obtain rfl : k = n := by omega
      have HR := Lib.hid (HNO.out (fun j hj2 => hj.out j (by rw [HL.out] at hj2; exact hj2)))
      go_wp2
      go_ret
      exact ⟨by rw [HR.out, HL.out]; rfl, hb⟩

/-- The link that is found, or none. -/
def fnd (L : List Lk) (x : Int) : Lk := if 0 ≤ fnl L x then L.getD (fnl L x).toNat lk0 else lk0
def LFdPost (L : List Lk) (x : Int) (w : World) (e : Ending) (w' : World) : Prop :=
  ∃ y z A m, fnd L x = (y, z) ∧ e = .returned (.tuple #[lkagg y A z.length m, .bool (decide (0 ≤ fnl L x))]) ∧ Below w.heap.size w w' ∧ LkE.R w' (fun k => w.heap.size ≤ k) [.int .u64 y, .slice A z.length m] (y, z)
theorem LkE.none (w : World) (P : Nat → Prop) : LkE.R w P [.int .u64 0, .slice none 0 0] lk0 := LkE.mk (x := 0) (z := []) (by omega) rfl (Nat.le_refl _) (fun _ => rfl) (Sq.nil _ _ _ _)
set_option maxHeartbeats 2000000 in
theorem lfind_any (P : Nat → Prop) (A : Option Addr) (n m : Nat) (L : List Lk) (x : Int) (w : World) (hz : Lks w P A n L) (hn : n ≤ 1000000) (hlen : blen 1000000 L) :
    Calls Try.prog 24 #[.slice A n m, .int .u64 x] w (LFdPost L x w) := by
  have HL := Lib.hid hz.1
  have HZ := Lib.hid hz
  have HLEN := Lib.hid (fun k => hlen.at_ k)
  have HFN := Lib.hid (fnl_pcx L x)
  have HPL := Lib.hid (pcx_le (isof x) L)
  have hY := Blk.new w (lkc 0 none 0 0) 53
  have hbY := below_one w (.cells (lkc 0 none 0 0) 53)
  have hsz : (w.alloc (.cells (lkc 0 none 0 0) 53)).heap.size = w.heap.size + 1 := by simp
  clear hz hlen
  go_enter Try.func24, Try.ntmps24
  go_wp2_with fail
  with_reducible refine (lof_any x _).mono ?_
  rintro e w1 ⟨rfl, hB1, hb1⟩
  rw [hsz] at hB1
  have hY1 := hY.below hb1
  have hbd1 := hbY.trans (hb1.mono hbY.size)
  have hplc := lplof_any P A n m L x _ w1 (HZ.out.below hbd1) hB1 hn
  unfold BPost at hplc
  have hple : pcx (isof x) L ≤ n := by have := HPL.out; rwa [HL.out] at this
  generalize pcx (isof x) L = r at *
  clear hB1 hb1 hbY hY
  go_wp2_with fail
  with_reducible refine hplc.mono ?_
  rintro e w2 ⟨rfl, hb2⟩
  have hY2 := hY1.below hb2
  have hbd2 := hbd1.trans (hb2.mono hbd1.size)
  obtain ⟨y0, y1⟩ := hY2.c2
  have f0 := hY2.free 0
  have f1 := hY2.free 1
  clear hplc hb2 hbd1 hY1
  by_cases hr : r = n
  · have hfn : Hid (fnl L x = -1) := Lib.hid (by rw [HFN.out, if_neg (by rw [HL.out]; omega)])
    have HF : Hid (fnd L x = (0, [])) := Lib.hid (by unfold fnd; rw [hfn.out]; rfl)
    have HD : Hid (decide (0 ≤ fnl L x) = false) := Lib.hid (by rw [hfn.out]; rfl)
    subst hr
    have HB2 := Lib.hid hbd2
    clear hbd2 hY2
    go_wp2
    refine bodyPost_ret (v := .tuple #[lkagg 0 none 0 0, .bool false]) (by simp [results, Try.results24, go_sem, y0, y1]) rfl ⟨0, [], none, 0, HF.out, by rw [HD.out]; rfl, ?_, LkE.none _ _⟩
    iterate 2 (refine Below.setCell ?_ (by simp) _)
    exact HB2.out
  · have hrn : r < n := by omega
    have hfn : Hid (fnl L x = r) := Lib.hid (by rw [HFN.out, if_pos (by rw [HL.out]; omega)])
    have HF : Hid (fnd L x = L.getD r lk0) := Lib.hid (by unfold fnd; rw [hfn.out, if_pos (by omega)]; rfl)
    have HD : Hid (decide (0 ≤ fnl L x) = true) := Lib.hid (by rw [hfn.out]; simp)
    obtain ⟨g, o, rfl, _, hg, hc⟩ := HZ.out.cells (by omega)
    obtain ⟨y, z, a, l, mm, he, yb, hl, hlm, hnl, hus, hzb, _, _, hcell⟩ := hc r hrn
    obtain ⟨c0, c1⟩ := hcell w2 hbd2
    have hll := HLEN.out r
    rw [he] at hll
    have HEQ := Lib.hid he
    have hll2 : l ≤ 1000000 := by rw [← hl]; exact hll
    have hcon := lown_any y a l mm z w2 yb (hus.below hbd2) hzb hnl hll2
    have e1 : (r : Int) < n := by omega
    have e2 : ((r : Int) == (n : Int)) = false := by simp; omega
    have hsz2 := hbd2.size
    clear hc hcell he hl hus hzb hnl hll y0 y1 f0 f1 hr
    go_wp2_with fail
    with_reducible refine hcon.mono ?_
    rintro e w3 ⟨A3, m3, rfl, hb3, hel⟩
    have hY3 := hY2.below hb3
    have HB3 := Lib.hid (hbd2.trans (hb3.mono hbd2.size))
    have HEL := Lib.hid hel
    have hwlt := hY2.lt
    obtain ⟨y0, y1⟩ := hY3.c2
    have f0 := hY3.free 0
    have f1 := hY3.free 1
    clear hcon hb3 hel c0 c1 hY2 hY3 hbd2
    go_wp2
    refine bodyPost_ret (v := .tuple #[lkagg y A3 z.length m3, .bool true]) (by simp [results, Try.results24, go_sem, y0, y1]) rfl ⟨y, z, A3, m3, by rw [HF.out, HEQ.out], by rw [HD.out], ?_, ?_⟩
    · iterate 2 (refine Below.setCell ?_ (by simp) _)
      exact HB3.out
    · refine LkE.mono (LkE.keep HEL.out fun b hb9 _ => ?_) (fun b hb9 _ => by have h2 : w2.heap.size ≤ b := hb9; omega)
      have h2 : w2.heap.size ≤ b := hb9
      rw [Below.heap_setCell _ _ _ _ (by simp; omega), Below.heap_setCell _ _ _ _ (by simp; omega)]

set_option maxHeartbeats 1000000 in
theorem rfind_any (P : Nat → Prop) (A : Option Addr) (n m : Nat) (L : List Lk) (x : Int) (w : World) (hz : Lks w P A n L) (hn : n ≤ 1000000) :
    Calls Try.prog 25 #[.slice A n m, .int .u64 x] w (BPost (.int .i64 (fnl L x)) w) := by
  unfold BPost
  have HL := Lib.hid hz.1
  have HC := Lib.hid (fun h => hz.cells h)
  have HYES := Lib.hid (fnl_yes L x)
  have HNO := Lib.hid (fnl_no L x)
  generalize fnl L x = r at *
  clear hz
  go_enter Try.func25, Try.ntmps25
  go_wp2
  go_loopw [5] (fun i wr => ∃ k : Nat, k ≤ n ∧ i = .int .i64 k ∧ Hid (∀ j, j < k → (L.getD j lk0).1 ≠ x) ∧ Below w.heap.size w wr) (fun i _ => n - (intOf i).toNat)
  case atStart => exact ⟨0, by omega, rfl, Lib.hid (by intro j hj; omega), Below.refl _ _⟩
  case round =>
    obtain ⟨k, hk, rfl, hj, hb⟩ := hrel
    by_cases hlt : k < n
    · obtain ⟨g, o, rfl, _, hg, hc⟩ := HC.out (by omega)
      obtain ⟨y, z, a, l, mm, he, yb, _, _, _, _, _, _, _, hcell⟩ := hc k hlt
      obtain ⟨c0, c1⟩ := hcell wr hb
      have HEQ := Lib.hid he
      have e2 : (k : Int) < n := by omega
      have e3 : IntKind.i64.wrap ((k : Int) + 1) = ((k + 1 : Nat) : Int) := IntWalk.i64_in _ (by omega)
      clear hc hcell he
      by_cases hxy : y = x
      · have hb2 : (y == x) = true := by simpa using hxy
        have HR := Lib.hid (HYES.out k (by rw [HL.out]; exact hlt) (by rw [HEQ.out]; exact hxy) hj.out)
        clear hxy
        go_wp2
        go_ret
        exact ⟨by rw [HR.out]; rfl, hb⟩
      · have hb2 : (y == x) = false := by simpa using hxy
        have HJ : Hid (∀ j, j < k + 1 → (L.getD j lk0).1 ≠ x) := Lib.hid (fun j hjk => by
          rcases Nat.lt_or_ge j k with h | h
          · exact hj.out j h
          · obtain rfl : j = k := by omega
            rw [HEQ.out]; exact hxy)
        clear hxy
        go_wp2
        go_roundw
        case rel => exact ⟨k + 1, by omega, by go_num, HJ, hb⟩
        case measure => simp [intOf]; omega
    · obtain rfl : k = n := by omega
      have HR := Lib.hid (HNO.out (fun j hj2 => hj.out j (by rw [HL.out] at hj2; exact hj2)))
      go_wp2
      go_ret
      exact ⟨by rw [HR.out]; rfl, hb⟩
end Go.Proofs.Ytbdelphocjdiiaa.Cur

namespace Go.Proofs.Ytbdelphocjdiiaa.Cur
open Go.RowKit Mem
set_option linter.unusedVariables false
set_option maxRecDepth 100000


theorem Ch.dropc {α : Type} {E : El α} {w : World} {P : Nat → Prop} : ∀ {cs : List (List Value)} {xs : List α}, Ch E w P cs xs → ∀ k, Ch E w P (cs.drop k) (xs.drop k)
  | [], [], _, k => by rw [List.drop_nil, List.drop_nil]; trivial
  | c :: cs, x :: xs, h, 0 => h
  | c :: cs, x :: xs, h, k + 1 => Ch.dropc h.2 k
  | [], _ :: _, h, _ => h.elim
  | _ :: _, [], h, _ => h.elim
theorem Ch.appc {α : Type} {E : El α} {w : World} {P : Nat → Prop} : ∀ {cs : List (List Value)} {xs : List α}, Ch E w P cs xs → ∀ {ds : List (List Value)} {ys : List α}, Ch E w P ds ys → Ch E w P (cs ++ ds) (xs ++ ys)
  | [], [], _, _, _, h => h
  | c :: cs, x :: xs, h, _, _, h2 => ⟨h.1, Ch.appc h.2 h2⟩
  | [], _ :: _, h, _, _, _ => h.elim
  | _ :: _, [], h, _, _, _ => h.elim
/-- All but the first k of them. -/
theorem Sq.dropq {α : Type} {E : El α} {w : World} {P : Nat → Prop} {g o : Nat} {xs : List α} (h : Sq E w P (some ⟨g, o, none⟩) xs) (k : Nat) (hk : k ≤ xs.length) : Sq E w P (some ⟨g, o + k * E.k, none⟩) (xs.drop k) := by
  obtain ⟨cs, h1, h2⟩ := h
  refine ⟨cs.drop k, h1.dropc k, fun hn => ?_⟩
  have e : cs.flatten = (cs.take k).flatten ++ (cs.drop k).flatten := by rw [← List.flatten_append, List.take_append_drop]
  have hl : (cs.take k).flatten.length = k * E.k := by rw [(h1.take k).flat, List.length_take]; congr 1; omega
  obtain ⟨g', o', ea, hP, hc⟩ := h2 (by rw [e, List.length_append]; omega)
  injection ea with ea
  injection ea with e1 e2
  subst e1 e2
  refine ⟨g, o + k * E.k, rfl, hP, fun i v hi => ?_⟩
  have := hc (k * E.k + i) v (by rw [e, List.getElem?_append_right (by omega), hl, Nat.add_sub_cancel_left]; exact hi)
  rwa [← Nat.add_assoc] at this
theorem Lks.takel {w : World} {P : Nat → Prop} {A : Option Addr} {n : Nat} {L : List Lk} (h : Lks w P A n L) {k : Nat} (hk : k ≤ n) : Lks w P A k (L.take k) := ⟨by rw [List.length_take, h.1]; omega, h.2.take k⟩
theorem slice_lkh {w : World} {P : Nat → Prop} {A : Option Addr} {n : Nat} {L : List Lk} (m k : Nat) (hk : k ≤ n) (hm : n ≤ m) : ∀ w', (Instr.slice 23 (.slice A n m) none (some (.int .i64 (k : Int))) none).run Try.prog w' = .ok (.slice A k m) w' := fun w' => by
  have := run_slice_h (P := Try.prog) (w := w') 23 A n m Try.underlying23 .i64 (k : Int) (by omega) (by omega)
  have hs : ∀ w', (sizeOf 53).run Try.prog w' = .ok 2 w' := fun w' => by kernel_rfl
  have he : Try.prog.elem 23 = 53 := by kernel_rfl
  rw [this, Int.toNat_natCast, he, hs]
  have e0 : ∀ a : Addr, a.add 0 = a := fun a => by unfold Addr.add; simp
  simp [Result.andThen, sliced, e0]
theorem slice_lkl {w : World} {P : Nat → Prop} {A : Option Addr} {n : Nat} {L : List Lk} (hz : Lks w P A n L) (m l : Nat) (h1 : l ≤ n) (hm : n ≤ m) (hA : A = none → m = 0) :
    ∃ A' M, (∀ w', (Instr.slice 23 (.slice A n m) (some (.int .i64 (l : Int))) none none).run Try.prog w' = .ok (.slice A' (n - l) M) w') ∧ Lks w P A' (n - l) (L.drop l) ∧ n - l ≤ M ∧ (A' = none → M = 0) := by
  have hs : ∀ w', (sizeOf 53).run Try.prog w' = .ok 2 w' := fun w' => by kernel_rfl
  have he : Try.prog.elem 23 = 53 := by kernel_rfl
  refine ⟨if m = l then A else A.map (·.add (l * 2)), m - l, fun w' => ?_, ⟨by rw [List.length_drop, hz.1], ?_⟩, by omega, fun h => ?_⟩
  · have := run_slice_l (P := Try.prog) (w := w') 23 A n m (by rw [he]; exact Try.underlying23) .i64 (l : Int) (by omega) (by omega)
    rw [this, he, hs]
    simp [Result.andThen, sliced]
    try omega
  · by_cases hl : l = n
    · rw [List.drop_of_length_le (by rw [hz.1]; omega)]
      exact Sq.nil _ _ _ _
    · obtain ⟨g, o, rfl, _⟩ := hz.cells (by omega)
      rw [if_neg (by omega)]
      have := hz.2.dropq l (by rw [hz.1]; omega)
      have e : (⟨g, o, none⟩ : Addr).add (l * 2) = ⟨g, o + l * 2, none⟩ := by unfold Addr.add; simp; try omega
      show Sq LkE w P (some ((⟨g, o, none⟩ : Addr).add (l * 2))) _
      rw [e]
      exact this
  · split at h
    · rw [hA h]; omega
    · have : A = none := by simpa using h
      rw [hA this]; omega

/-- Links in a row of the call's own, whose backs are read elsewhere, in elder blocks. -/
def OwnO (w : World) (B : Nat) (v : Value) (L : List Lk) : Prop := OwnQ LkE 53 w B (fun k => k < B) v L
theorem OwnO.below {w w' : World} {B : Nat} {v : Value} {L : List Lk} (h : OwnO w B v L) (hb : Below w.heap.size w w') : OwnO w' B v L := OwnQ.below h hb
theorem OwnO.ge {w : World} {B : Nat} {v : Value} {L : List Lk} (h : OwnO w B v L) : ∀ g, v.ownBlock = some g → B ≤ g := by
  obtain ⟨cs, h1, h2, h3⟩ := h
  exact own_ge h2
theorem OwnO.app {w w' : World} {B m : Nat} {v v' : Value} {L M : List Lk} {cs ds : List (List Value)} (h1 : Ch LkE w (fun k => k < B) cs L) (h2 : w.ownsRow B 53 2 v L.length cs.flatten) (hB : B ≤ w.heap.size) (hd : Ch LkE w (fun k => k < B) ds M)
    (hm : M.length = m) (ho : w'.ownsRow B 53 2 v' (L.length + m) (cs.flatten ++ ds.flatten)) (hg : w.grownBy w' v.ownBlock) : OwnO w' B v' (L ++ M) := by
  have hk : ∀ b, b < B → b < w.heap.size → w'.heap[b]? = w.heap[b]? := fun b hb hlt => hg.block b hlt fun e => by have := own_ge h2 b e.symm; omega
  refine ⟨cs ++ ds, (h1.appc hd).keep hk, ?_, fun g hgb hh => by have := own_ge ho g hgb; have h9 : g < B := hh; omega⟩
  rw [List.flatten_append, List.length_append, hm]
  exact ho

theorem OwnO.nilbase {w : World} {B B' : Nat} {v : Value} (h : OwnO w B v []) (hB : B' ≤ B) : OwnO w B' v [] := by
  obtain ⟨cs, h1, h2, h3⟩ := h
  have hcs : cs = [] := by
    cases cs with
    | nil => rfl
    | cons c cs => exact h1.elim
  subst hcs
  refine ⟨[], trivial, ⟨h2.1, h2.2.imp id fun ⟨g, cap, cur, e, hg, r⟩ => ⟨g, cap, cur, e, Nat.le_trans hB hg, r⟩⟩, fun g hg hh => ?_⟩
  have := own_ge h2 g hg
  have h9 : g < B' := hh
  omega
theorem lgrow_any (n : Nat) (h1 : 1 ≤ n) (hn : n ≤ 1000000) (w : World) : Calls Try.prog 77 #[.slice none 0 0, .int .i64 n] w (fun e w' => ∃ v, e = .returned v ∧ OwnO w' w.heap.size v [] ∧ Below w.heap.size w w') := by
  obtain ⟨i, hi, hz, hs, hb⟩ : ∃ i, Try.prog.info? 53 = some i ∧ i.zero = some (.agg #[.int .u64 0, .slice none 0 0]) ∧ i.size = 2 ∧ i.bytes = 32 := by
    have h := kindLK.info
    cases e : Try.prog.info? 53 with
    | none => rw [e] at h; cases h
    | some i => rw [e] at h; simp at h; exact ⟨i, rfl, h.1, h.2.1, h.2.2⟩
  obtain ⟨G, hG⟩ : ∃ G, G = grownCap w (0 + n) 0 53 := ⟨_, rfl⟩
  have hGn : n ≤ G := by have := grownCap_ge w (0 + n) 0 53; omega
  have hGm : G ≤ maxLen := by rw [hG]; exact grownCap_le_maxLen w (0 + n) 0 _ (by unfold maxLen; omega)
  obtain ⟨C, hC⟩ : ∃ C : Array Value, C = ([] : List Value).toArray ++ Builtin.zeroCells (Value.agg #[.int .u64 0, .slice none 0 0]).cells n ++ Builtin.zeroCells (Value.agg #[.int .u64 0, .slice none 0 0]).cells (G - (0 + n)) := ⟨_, rfl⟩
  have hCs : C.size = G * 2 := by
    rw [hC]
    simp [Builtin.zeroCells, Value.cells]
    omega
  have hrun : ∀ ty, (Builtin.append_ #[23, 3] ty #[.slice none 0 0, .int .i64 n]).run Try.prog w = .ok (.slice (some ⟨w.heap.size, 0, none⟩) n G) (w.drew.alloc (.cells C 53)) := fun ty => by
    have h := Lib.run_append_grow_zeros w 23 3 ty 53 i (.agg #[.int .u64 0, .slice none 0 0]) .i64 .i64 kindLK.und Try.underlying3 hi hz none 0 0 [] (run_firstCells_none _ _ _ _ _) n (by omega) (by omega) (by omega) (by omega) (by rw [hb]; omega) (growslice_fits (by omega) (by rw [hb]; omega))
    rw [← hG, ← hC, Nat.zero_add] at h
    exact h
  have hB : Below w.heap.size w (w.drew.alloc (.cells C 53)) := (below_one' w).trans (below_one w.drew _)
  have hO : OwnO (w.drew.alloc (.cells C 53)) w.heap.size (.slice (some ⟨w.heap.size, 0, none⟩) 0 G) [] :=
    ⟨[], trivial, ⟨rfl, .inr ⟨w.heap.size, G, C, rfl, Nat.le_refl _, heap_alloc_new w.drew _, Nat.zero_le _, hGm, hCs, by simp⟩⟩, fun g hg hh => by
      have e : w.heap.size = g := by injection hg
      have h9 : g < w.heap.size := hh
      omega⟩
  have HE := Lib.hid (And.intro hO hB)
  have e1 : IntKind.i64.wrap (n : Int) = (n : Int) := IntWalk.i64_in _ (by omega)
  have e2 : (0 : Int) < n := by omega
  have e3 : ¬ (n : Int) < 0 := by omega
  have e4 : (n : Int) ≤ G := by omega
  have hsl := slice_lkh (w := w) (P := fun _ => True) (A := some ⟨w.heap.size, 0, none⟩) (L := []) (n := n) G 0 (by omega) hGn
  clear hO hB hi hz hs hb hG hC hCs hGn hGm
  go_enter Try.func77, Try.ntmps77
  go_wp2_with (at_builtin; refine Lib.wpList_append_run _ rfl _ _ _ _ rfl _ _ rfl rfl _ _ (hrun _) ?_)
  all_goals (go_ret; exact ⟨_, rfl, HE.out.1, HE.out.2⟩)

/-- Rows of links at an address. -/
def Lns (w : World) (P : Nat → Prop) (A : Option Addr) (n : Nat) (S : List (List Lk)) : Prop := S.length = n ∧ Sq (SlE LkE) w P A S
theorem Lns.cells {w : World} {P : Nat → Prop} {A : Option Addr} {n : Nat} {S : List (List Lk)} (h : Lns w P A n S) (hn : n ≠ 0) :
    ∃ g o, A = some ⟨g, o, none⟩ ∧ P g ∧ g < w.heap.size ∧ ∀ k, k < n → ∃ a l m, (S.getD k []).length = l ∧ l ≤ m ∧ (a = none → m = 0) ∧ Lks w P a l (S.getD k []) ∧
      ∀ w', Below w.heap.size w w' → w'.cell? ⟨g, o + k, none⟩ = some (.slice a l m) := by
  obtain ⟨rfl, h⟩ := h
  obtain ⟨g, o, c, e, hP, hg, _⟩ := h.at_ (i := 0) (by decide) (List.getElem?_eq_getElem (Nat.pos_of_ne_zero hn))
  refine ⟨g, o, e, hP, hg, fun k hk => ?_⟩
  obtain ⟨g', o', c', e', hP', hg', ⟨a, m, hc, h1, h2, h3⟩, hcell⟩ := h.at_ (i := k) (by decide) (List.getElem?_eq_getElem hk)
  rw [e] at e'
  injection e' with e'
  injection e' with e1 e2
  subst e1 e2
  have hS : S.getD k [] = S[k] := by rw [List.getD_eq_getElem?_getD, List.getElem?_eq_getElem hk]; rfl
  rw [hS]
  refine ⟨a, _, m, rfl, h1, h2, ⟨rfl, h3⟩, fun w' hb => ?_⟩
  have := hcell 0 _ (by rw [hc]; rfl)
  have e : o + k * (SlE LkE).k + 0 = o + k := by show o + k * 1 + 0 = o + k; omega
  rw [e] at this
  rw [← this]
  exact hb.cell (lt_of_cell this)
theorem ftkl {α : Type} (S : List (List α)) {k : Nat} (h : k < S.length) : (S.take (k + 1)).flatten = (S.take k).flatten ++ S.getD k [] := by
  rw [List.take_add_one, List.getElem?_eq_getElem h, List.getD_eq_getElem?_getD, List.getElem?_eq_getElem h, List.flatten_append]
  simp
theorem ftkl_le {α : Type} (S : List (List α)) (k : Nat) : (S.take k).flatten.length ≤ S.flatten.length := by
  have h : S.flatten = (S.take k).flatten ++ (S.drop k).flatten := by rw [← List.flatten_append, List.take_append_drop]
  rw [h, List.length_append]; omega
def LCaPost (L : List Lk) (w : World) (e : Ending) (w' : World) : Prop := ∃ A n m, e = .returned (.slice A n m) ∧ Below w.heap.size w w' ∧ Lks w' (fun _ => True) A n L ∧ (A = none → m = 0)
set_option maxHeartbeats 2000000 in
theorem lconcat_any (P : Nat → Prop) (A : Option Addr) (n m : Nat) (S : List (List Lk)) (w : World) (hz : Lns w P A n S) (hn : n ≠ 0) (hnm : n ≤ 1000) (h1 : 1 ≤ S.flatten.length) (hT : S.flatten.length ≤ 1000) :
    Calls Try.prog 58 #[.slice A n m] w (LCaPost S.flatten w) := by
  have hlen : S.length = n := hz.1
  obtain ⟨g, o, rfl, _, _, hc⟩ := hz.cells hn
  have HC := Lib.hid hc
  have HLEN := Lib.hid hlen
  have HT := Lib.hid (And.intro h1 hT)
  have n0 : (0 : Int) < n := by omega
  clear hc hz hlen h1 hT hn
  go_enter Try.func58, Try.ntmps58
  go_wp2
  go_loopw [3, 11] (fun x y wr => ∃ k s : Nat, k ≤ n ∧ x = .int .i64 s ∧ y = .int .i64 k ∧ s ≤ 1000 ∧ Hid (s = (S.take k).flatten.length ∧ Below w.heap.size w wr)) (fun x y _ => 1001 - (intOf y).toNat)
  case atStart => exact ⟨0, 0, by omega, rfl, rfl, by omega, Lib.hid ⟨rfl, Below.refl _ _⟩⟩
  case round =>
    obtain ⟨k, s, hk, rfl, rfl, hs, HR⟩ := hrel
    obtain ⟨hs2, hw⟩ := HR.out
    have HW := Lib.hid hw
    clear HR
    by_cases hkn : k < n
    · have e1 : (k : Int) < n := by omega
      obtain ⟨a, l, m', q1, q2, q3, q4, q7⟩ := HC.out k hkn
      have c0 := q7 _ hw
      have hF := ftkl S (k := k) (by rw [HLEN.out]; exact hkn)
      have hL := ftkl_le S (k + 1)
      rw [hF, List.length_append, q1, ← hs2] at hL
      have hl : s + l ≤ 1000 := Nat.le_trans hL HT.out.2
      have e2 : IntKind.i64.wrap ((s : Int) + l) = ((s + l : Nat) : Int) := IntWalk.i64_in _ (by omega)
      have e3 : IntKind.i64.wrap ((k : Int) + 1) = ((k + 1 : Nat) : Int) := IntWalk.i64_in _ (by omega)
      have e4 : ¬ ((s + l : Nat) : Int) < 0 := by omega
      have HE : Hid (s + l = (S.take (k + 1)).flatten.length) := Lib.hid (by rw [hF, List.length_append, q1, ← hs2])
      clear q1 q4 q7 hF hL hs2 hw
      go_wp2
      go_roundw
      case rel => exact ⟨k + 1, s + l, by omega, by go_num, by go_num, hl, Lib.hid ⟨HE.out, HW.out⟩⟩
      case measure => simp [intOf]; omega
    · have hke : n = k := by omega
      subst hke
      have hs3 : s = S.flatten.length := by rw [hs2, List.take_of_length_le (by rw [HLEN.out]; omega)]
      have s1 : 1 ≤ s := by rw [hs3]; exact HT.out.1
      have HS := Lib.hid hs3
      clear hs2 hs3 hw
      go_wp2_with fail
      with_reducible refine (lgrow_any s s1 (by omega) _).mono ?_
      rintro e w1 ⟨v, rfl, ho, hb⟩
      have hB0 : w.heap.size ≤ wr.heap.size := HW.out.size
      have hBw : wr.heap.size ≤ w1.heap.size := hb.size
      have H0 : Hid (OwnO w1 w.heap.size v [] ∧ Below w.heap.size w w1) := Lib.hid ⟨ho.nilbase hB0, HW.out.trans (hb.mono hB0)⟩
      clear ho hb
      go_wp2
      go_loopw [6, 27] (fun x y wr => ∃ k : Nat, k ≤ n ∧ y = .int .i64 k ∧ Hid (OwnO wr w.heap.size x (S.take k).flatten ∧ Below w.heap.size w wr)) (fun x y _ => 1001 - (intOf y).toNat)
      case atStart => exact ⟨0, by omega, rfl, H0⟩
      case round =>
        clear H0
        obtain ⟨k, hk, rfl, HR⟩ := hrel
        obtain ⟨ho, hb⟩ := HR.out
        clear HR
        by_cases hkn : k < n
        · have e1 : (k : Int) < n := by omega
          obtain ⟨a, l, m', q1, q2, q3, q4, q7⟩ := HC.out k hkn
          have c0 := q7 _ hb
          have hF := ftkl S (k := k) (by rw [HLEN.out]; exact hkn)
          have hL := ftkl_le S (k + 1)
          rw [hF, List.length_append, q1] at hL
          have hl : (S.take k).flatten.length + l ≤ 1000000 := by have := HT.out.2; omega
          have e3 : IntKind.i64.wrap ((k : Int) + 1) = ((k + 1 : Nat) : Int) := IntWalk.i64_in _ (by omega)
          obtain ⟨ds, d1, d2, d3, d4⟩ := ((q4.mono (Q := fun b => b < w.heap.size) (fun b _ h => h)).below hb).2.raw
          rw [q1, show LkE.k = 2 from rfl] at d2
          have hB9 := hb.size
          obtain ⟨cs, g1, g2', g3⟩ := ho
          have g2 : wr.ownsRow w.heap.size 53 2 _ (S.take k).flatten.length cs.flatten := g2'
          clear g2'
          have HE := Lib.hid (fun (v' : Value) (w' : World) ho' hg' => (show OwnO w' w.heap.size v' (S.take (k + 1)).flatten from by
            rw [hF]
            exact OwnO.app g1 g2 hB9 d1 q1 ho' hg'))
          have HB := Lib.hid (And.intro hb (own_ge g2))
          clear q1 q4 q7 hF hL d1 g1 g3
          go_wp2_with (at_builtin; go_must (refine list_append_rw kindLK rfl (.tmp 31) (.tmp 32) rfl w.heap.size _ _ _ rfl g2 a l m' ds.flatten rfl d2 d3 q3 d4 hl (by omega) hB9 ?_; intro v' w10 ho' hg' hgr'; have HN := Lib.hid (And.intro (HE.out _ _ ho' hg') (HB.out.1.grown hg' hB9 (fun k e => HB.out.2 k e))); clear ho' hg' hgr'))
          go_roundw
          case rel => exact ⟨k + 1, by omega, by go_num, HN⟩
          case measure => simp [intOf]; omega
        · have e1 : ¬ (k : Int) < n := by omega
          have HE : Hid (OwnO wr w.heap.size _ S.flatten ∧ Below w.heap.size w wr) := Lib.hid ⟨by rw [← List.take_of_length_le (l := S) (i := k) (by rw [HLEN.out]; omega)]; exact ho, hb⟩
          obtain ⟨A9, c9, hv9, z1, z2, z3⟩ := OwnQ.slice HE.out.1
          obtain ⟨N9, hN9⟩ : ∃ N9, N9 = S.flatten.length := ⟨_, rfl⟩
          rw [← hN9] at hv9
          have HZ3 : Hid (Lks wr (fun _ => True) A9 N9 S.flatten) := Lib.hid ⟨hN9.symm, z3.mono (fun _ _ _ => trivial)⟩
          have HZ2 := Lib.hid z2
          clear ho hb z1 z2 z3 hN9
          subst hv9
          go_wp2
          go_ret
          exact ⟨_, _, _, rfl, HE.out.2, HZ3.out, HZ2.out⟩
end Go.Proofs.Ytbdelphocjdiiaa.Cur

namespace Go.Proofs.Ytbdelphocjdiiaa.Cur
open Go.RowKit Mem
set_option linter.unusedVariables false
set_option maxRecDepth 100000


theorem wth_of {L : List Lk} {s : Lk} {k : Nat} (hk : k < L.length) (hf : fnl L s.1 = k) : wth L s = [L.take k, [s], L.drop (k + 1)].flatten := by
  unfold wth
  rw [if_pos (by omega), hf, Int.toNat_natCast, List.set_eq_take_append_cons_drop, if_pos hk]
  simp
theorem wth_be {L : List Lk} {s : Lk} (hf : fnl L s.1 = -1) : wth L s = [L.take (pcx (isbe s.1) L), [s], L.drop (pcx (isbe s.1) L)].flatten := by
  unfold wth
  rw [if_neg (by omega), gtl_pcx]
  simp
theorem wth_len (L : List Lk) (s : Lk) : (wth L s).length ≤ L.length + 1 ∧ 1 ≤ (wth L s).length := by
  unfold wth
  split
  · rename_i h
    rw [List.length_set]
    refine ⟨by omega, ?_⟩
    cases L with
    | nil => have : fnl [] s.1 = -1 := rfl; omega
    | cons a l => rw [List.length_cons]; omega
  · have := gtl_le L s.1
    rw [List.length_append, List.length_cons, List.length_take, List.length_drop]
    omega
theorem wth_blen {M : Nat} {L : List Lk} {s : Lk} (h : blen M L) (hs : s.2.length ≤ M) : blen M (wth L s) := fun t ht => by
  unfold wth at ht
  split at ht
  · rcases List.mem_or_eq_of_mem_set ht with h1 | rfl
    · exact h t h1
    · exact hs
  · rcases List.mem_append.1 ht with h1 | h1
    · exact h t (List.mem_of_mem_take h1)
    · rcases List.mem_cons.1 h1 with rfl | h1
      · exact hs
      · exact h t (List.mem_of_mem_drop h1)
theorem lns_three {w : World} {P : Nat → Prop} {b n1 m1 n2 m2 n3 m3 t : Nat} {A1 A2 A3 : Option Addr} {L1 L2 L3 : List Lk} (hB : Blk w b #[.slice A1 n1 m1, .slice A2 n2 m2, .slice A3 n3 m3] t) (hP : P b)
    (h1 : Lks w P A1 n1 L1) (k1 : n1 ≤ m1) (e1 : A1 = none → m1 = 0) (h2 : Lks w P A2 n2 L2) (k2 : n2 ≤ m2) (e2 : A2 = none → m2 = 0) (h3 : Lks w P A3 n3 L3) (k3 : n3 ≤ m3) (e3 : A3 = none → m3 = 0) : Lns w P (some ⟨b, 0, none⟩) 3 [L1, L2, L3] := by
  obtain ⟨rfl, h1⟩ := h1
  obtain ⟨rfl, h2⟩ := h2
  obtain ⟨rfl, h3⟩ := h3
  refine ⟨rfl, [[.slice A1 L1.length m1], [.slice A2 L2.length m2], [.slice A3 L3.length m3]], ⟨⟨A1, m1, rfl, k1, e1, h1⟩, ⟨A2, m2, rfl, k2, e2, h2⟩, ⟨A3, m3, rfl, k3, e3, h3⟩, trivial⟩, fun _ => ⟨b, 0, rfl, hP, fun i v hi => ?_⟩⟩
  rw [Nat.zero_add]
  exact hB.cell i (by simpa using hi)
theorem lks_one {w : World} {b : Nat} {x : Int} {A : Option Addr} {n m : Nat} {z : List Int} {t : Nat} (hB : Blk w b (lkc x A n m) t) (hR : LkE.R w (fun _ => True) [.int .u64 x, .slice A n m] (x, z)) : Lks w (fun _ => True) (some ⟨b, 0, none⟩) 1 [(x, z)] :=
  lks_of_cells rfl trivial fun i hi => by
    obtain rfl : i = 0 := by omega
    exact ⟨_, _, ⟨hB.cell 0 rfl, hB.cell 1 rfl⟩, hR⟩

set_option maxHeartbeats 4000000 in
theorem lwith_any (P : Nat → Prop) (A : Option Addr) (n m : Nat) (L : List Lk) (x : Int) (B : Option Addr) (nb cb : Nat) (z : List Int) (w : World) (hz : Lks w P A n L) (hnm : n ≤ m) (hnil : A = none → m = 0) (hn : n ≤ 900) (hlen : blen 100000 L)
    (hx : 0 ≤ x ∧ x < 18446744073709551616) (hu : Us w B nb z) (hzb : ∀ y ∈ z, 0 ≤ y ∧ y < 18446744073709551616) (hnb : nb ≤ cb) (hbn : B = none → cb = 0) (hnb2 : nb ≤ 100000) :
    Calls Try.prog 29 #[.slice A n m, lkagg x B nb cb] w (LCoPost (wth L (x, z)) w) := by
  have HL := Lib.hid hz.1
  have HZ := Lib.hid hz
  have HNIL := Lib.hid hnil
  have HEL := Lib.hid (LkE.mk (P := fun _ => True) hx hu.1 hnb hbn (hu.sq hzb (fun _ _ _ => trivial)))
  have HFN := Lib.hid (fnl_pcx L x)
  have HPL := Lib.hid (pcx_le (isof x) L)
  have HPB := Lib.hid (pcx_le (isbe x) L)
  have HWL : Hid ((wth L (x, z)).length ≤ 901 ∧ 1 ≤ (wth L (x, z)).length) := Lib.hid (by have := wth_len L (x, z); rw [hz.1] at this; omega)
  have HWB := Lib.hid (wth_blen (s := (x, z)) hlen (by show z.length ≤ 100000; rw [hu.1]; exact hnb2))
  have HWO := Lib.hid (fun k (hk : k < L.length) (hf : fnl L x = (k : Int)) => wth_of (s := (x, z)) hk hf)
  have HWE := Lib.hid (fun (hf : fnl L x = -1) => wth_be (L := L) (s := (x, z)) hf)
  have hX := Blk.new w (lkc x B nb cb) 53
  have hbX := below_one w (.cells (lkc x B nb cb) 53)
  obtain ⟨x0, x1⟩ := hX.c2
  clear hz hnil hlen hu hzb
  generalize wth L (x, z) = W at *
  go_enter Try.func29, Try.ntmps29
  go_wp2_with fail
  generalize w.alloc (.cells (lkc x B nb cb) 53) = w0 at *
  with_reducible refine (lof_any x _).mono ?_
  rintro e w1 ⟨rfl, hB1, hb1⟩
  have hX1 := hX.below hb1
  have hbd1 := hbX.trans (hb1.mono hbX.size)
  have hplc := lplof_any P A n m L x _ w1 (HZ.out.below hbd1) hB1 (by omega)
  unfold BPost at hplc
  have hple : pcx (isof x) L ≤ n := by have := HPL.out; rwa [HL.out] at this
  generalize pcx (isof x) L = r at *
  clear hB1 hb1 hbX hX x0 x1
  obtain ⟨x0, x1⟩ := hX1.c2
  go_wp2_with fail
  with_reducible refine hplc.mono ?_
  rintro e w2 ⟨rfl, hb2⟩
  have hX2 := hX1.below hb2
  have hbd2 := hbd1.trans (hb2.mono hbd1.size)
  clear hplc hb2 hbd1 hX1 x0 x1
  obtain ⟨x0, x1⟩ := hX2.c2
  obtain ⟨R, hR⟩ : ∃ R, R = r + 1 := ⟨_, rfl⟩
  have e3 : IntKind.i64.wrap ((r : Int) + 1) = (R : Int) := by rw [IntWalk.i64_in _ (by omega), hR]; push_cast; rfl
  by_cases hr : r = n
  · have hfn : fnl L x = -1 := by rw [HFN.out, if_neg (by rw [HL.out]; omega)]
    have HW := Lib.hid (HWE.out hfn)
    have hr' := hr.symm
    subst hr'
    clear hr hfn HWO HWE HFN hR
    go_wp2_with fail
    with_reducible refine (lbeh_any x _).mono ?_
    rintro e w3 ⟨rfl, hB3, hb3⟩
    have hX3 := hX2.below hb3
    have hbd3 := hbd2.trans (hb3.mono hbd2.size)
    have hplc := lplbe_any P A n m L x _ w3 (HZ.out.below hbd3) hB3 (by omega)
    unfold BPost at hplc
    have hple2 : pcx (isbe x) L ≤ n := by have := HPB.out; rwa [HL.out] at this
    generalize pcx (isbe x) L = q at *
    clear hB3 hb3 hbd2 hX2 x0 x1
    obtain ⟨x0, x1⟩ := hX3.c2
    go_wp2_with fail
    with_reducible refine hplc.mono ?_
    rintro e wq ⟨rfl, hb4⟩
    have hXq := hX3.below hb4
    have hbdq := hbd3.trans (hb4.mono hbd3.size)
    clear hplc hb4 hbd3 hX3 x0 x1
    obtain ⟨x0, x1⟩ := hXq.c2
    obtain ⟨A3, m3, hsl3, hl3, hm3, hn3⟩ := slice_lkl HZ.out m (q) (by omega) hnm HNIL.out
    have hsl1 := slice_lkh (w := w) (P := P) (A := A) (L := L) (n := n) m (q) (by omega) hnm
    have hl1 := HZ.out.takel (k := q) (by omega)
    have HL1 := Lib.hid hl1
    have HL3 := Lib.hid hl3
    have HN3 := Lib.hid hn3
    have HM1 : Hid (q ≤ m) := Lib.hid (by omega)
    have hSD : Blk wq.drew w.heap.size (lkc x B nb cb) 53 := hXq
    have hbD := hbdq.trans ((below_one' wq).mono hbdq.size)
    have L0 : ∀ w', Blk w' w.heap.size (lkc x B nb cb) 53 → w'.cell? ⟨w.heap.size, 0, none⟩ = some (.int .u64 x) ∧ w'.cell? ⟨w.heap.size, 1, none⟩ = some (.slice B nb cb) := fun w' h => h.c2
    clear hl1 hl3 hn3 hXq hbdq
    go_wp2
    clear x0 x1
    refine Seq.wp_region_seq (fun w' => Blk w' w.heap.size (lkc x B nb cb) 53) (by kernel_rfl) (by kernel_rfl) hSD ?_
    generalize wq.drew = wd at *
    repeat (first | (refine Seq.Seq.skip (by rfl) ?_; (try simp only [Act.put, List.setIfInBounds_toArray, List.set_cons_zero, List.set_cons_succ])) | (refine Seq.Seq.det ?_ (by rfl) (fun w hS => ?_) ?_; rotate_left; ((try dsimp only at hS); go_simp; (try rw [if_pos (by omega)]); with_reducible rfl); (try simp only [Act.put, List.setIfInBounds_toArray, List.set_cons_zero, List.set_cons_succ])))
    refine Seq.Seq.make (by rfl) (by rfl) (fun K Q' hK => ?_)
    go_simp
    have hb5 := below_one wd (.cells #[.int .u64 x, .slice B nb cb] 53)
    have hS5 := hSD.below hb5
    have hbd5 := hbD.trans (hb5.mono hbD.size)
    have HO5 := Lib.hid (lks_one (Blk.new wd (lkc x B nb cb) 53) (LkE.mono (LkE.keep HEL.out (fun b _ hl => hbd5.block b hl)) (fun _ _ _ => trivial)))
    clear hb5 hbD hSD
    refine hK.out _ _ (hS5) ?_
    clear hK K
    try simp only [Act.put, List.setIfInBounds_toArray, List.set_cons_zero, List.set_cons_succ]
    generalize wd.alloc (.cells #[.int .u64 x, .slice B nb cb] 53) = w5 at *
    generalize wd.heap.size = b5 at *
    repeat (first | (refine Seq.Seq.skip (by rfl) ?_; (try simp only [Act.put, List.setIfInBounds_toArray, List.set_cons_zero, List.set_cons_succ])) | (refine Seq.Seq.det ?_ (by rfl) (fun w hS => ?_) ?_; rotate_left; ((try dsimp only at hS); go_simp; (try rw [if_pos (by omega)]); with_reducible rfl); (try simp only [Act.put, List.setIfInBounds_toArray, List.set_cons_zero, List.set_cons_succ])))
    refine Seq.Seq.make (by rfl) (by rfl) (fun K Q' hK => ?_)
    go_simp
    have hb6 := below_one w5 (.cells #[.slice A (q) m, .slice (some ⟨b5, 0, none⟩) 1 1, .slice A3 (n - (q)) m3] 23)
    have hS6 := hS5.below hb6
    have hbd6 := hbd5.trans (hb6.mono hbd5.size)
    have hq6 := lns_three (P := fun _ => True) (Blk.new w5 #[.slice A (q) m, .slice (some ⟨b5, 0, none⟩) 1 1, .slice A3 (n - (q)) m3] 23) trivial ((HL1.out.below hbd6).mono (fun _ _ _ => trivial)) HM1.out HNIL.out (HO5.out.below hb6) (Nat.le_refl _) (fun e => by cases e) ((HL3.out.below hbd6).mono (fun _ _ _ => trivial)) hm3 HN3.out
    have HCC := Lib.hid (lconcat_any _ _ 3 3 _ _ hq6 (by omega) (by omega) (by rw [← HW.out]; exact HWL.out.2) (by rw [← HW.out]; have := HWL.out.1; omega))
    rw [← HW.out] at HCC
    clear hb6 hS5 hq6 hbd5 hsl1 hsl3
    refine hK.out _ _ (hS6) ?_
    clear hK K
    try simp only [Act.put, List.setIfInBounds_toArray, List.set_cons_zero, List.set_cons_succ]
    repeat (first | (refine Seq.Seq.skip (by rfl) ?_; (try simp only [Act.put, List.setIfInBounds_toArray, List.set_cons_zero, List.set_cons_succ])) | (refine Seq.Seq.det ?_ (by rfl) (fun w hS => ?_) ?_; rotate_left; ((try dsimp only at hS); go_simp; (try rw [if_pos (by omega)]); with_reducible rfl); (try simp only [Act.put, List.setIfInBounds_toArray, List.set_cons_zero, List.set_cons_succ])))
    refine Seq.Seq.make (by rfl) (by rfl) (fun K Q' hK => ?_)
    go_simp
    go_at_call 58
    with_reducible refine HCC.out.mono ?_
    rintro en w7 ⟨A7, n7, m7, rfl, hb7, hl7, hn7⟩
    have hS7 := hS6.below hb7
    have hbd7 := hbd6.trans (hb7.mono hbd6.size)
    have HCP := Lib.hid (lcopy_any _ A7 n7 m7 _ w7 hl7 hn7 (by rw [← hl7.1]; have := HWL.out.1; omega) HWB.out)
    clear hb7 hS6 hbd6 hl7 hn7 HCC
    refine hK.out _ _ (hS7) ?_
    clear hK K
    try simp only [Act.put, List.setIfInBounds_toArray, List.set_cons_zero, List.set_cons_succ]
    repeat (first | (refine Seq.Seq.skip (by rfl) ?_; (try simp only [Act.put, List.setIfInBounds_toArray, List.set_cons_zero, List.set_cons_succ])) | (refine Seq.Seq.det ?_ (by rfl) (fun w hS => ?_) ?_; rotate_left; ((try dsimp only at hS); go_simp; (try rw [if_pos (by omega)]); with_reducible rfl); (try simp only [Act.put, List.setIfInBounds_toArray, List.set_cons_zero, List.set_cons_succ])))
    refine Seq.Seq.make (by rfl) (by rfl) (fun K Q' hK => ?_)
    go_simp
    go_at_call 32
    with_reducible refine HCP.out.mono ?_
    rintro en w8 ⟨v8, rfl, hb8, ho8⟩
    have hS8 := hS7.below hb8
    have hbd8 := hbd7.trans (hb8.mono hbd7.size)
    have HO8 := Lib.hid (ho8.base (B' := w.heap.size) hbd7.size)
    have HV8 := Lib.hid ho8.lks
    clear hb8 hS7 ho8 HCP
    obtain ⟨A8, c8, hv8, _⟩ := HV8.out
    subst hv8
    refine hK.out _ _ (hS8) ?_
    clear hK K
    try simp only [Act.put, List.setIfInBounds_toArray, List.set_cons_zero, List.set_cons_succ]
    repeat (first | (refine Seq.Seq.skip (by rfl) ?_; (try simp only [Act.put, List.setIfInBounds_toArray, List.set_cons_zero, List.set_cons_succ])) | (refine Seq.Seq.det ?_ (by rfl) (fun w hS => ?_) ?_; rotate_left; ((try dsimp only at hS); go_simp; (try rw [if_pos (by omega)]); with_reducible rfl); (try simp only [Act.put, List.setIfInBounds_toArray, List.set_cons_zero, List.set_cons_succ])))
    refine Seq.Seq.nil ?_
    clear hS8 L0 HV8
    go_wp2
    go_ret
    exact ⟨_, rfl, hbd8, HO8.out⟩
  · have hrn : r < n := by omega
    have e4 : ((r : Int) == (n : Int)) = false := by simp; omega
    have HW := Lib.hid (HWO.out r (by rw [HL.out]; exact hrn) (by rw [HFN.out, if_pos (by rw [HL.out]; exact hrn)]))
    rw [← hR] at HW
    have hRn : R ≤ n := by omega
    clear hR
    obtain ⟨wq, hwq⟩ : ∃ wq, wq = w2 := ⟨_, rfl⟩
    subst hwq
    have hXq := hX2
    have hbdq := hbd2
    clear hX2 hbd2 hr HWO HWE HFN
    obtain ⟨A3, m3, hsl3, hl3, hm3, hn3⟩ := slice_lkl HZ.out m (R) (by omega) hnm HNIL.out
    have hsl1 := slice_lkh (w := w) (P := P) (A := A) (L := L) (n := n) m (r) (by omega) hnm
    have hl1 := HZ.out.takel (k := r) (by omega)
    have HL1 := Lib.hid hl1
    have HL3 := Lib.hid hl3
    have HN3 := Lib.hid hn3
    have HM1 : Hid (r ≤ m) := Lib.hid (by omega)
    have hSD : Blk wq.drew w.heap.size (lkc x B nb cb) 53 := hXq
    have hbD := hbdq.trans ((below_one' wq).mono hbdq.size)
    have L0 : ∀ w', Blk w' w.heap.size (lkc x B nb cb) 53 → w'.cell? ⟨w.heap.size, 0, none⟩ = some (.int .u64 x) ∧ w'.cell? ⟨w.heap.size, 1, none⟩ = some (.slice B nb cb) := fun w' h => h.c2
    clear hl1 hl3 hn3 hXq hbdq
    go_wp2
    clear x0 x1
    refine Seq.wp_region_seq (fun w' => Blk w' w.heap.size (lkc x B nb cb) 53) (by kernel_rfl) (by kernel_rfl) hSD ?_
    generalize wq.drew = wd at *
    repeat (first | (refine Seq.Seq.skip (by rfl) ?_; (try simp only [Act.put, List.setIfInBounds_toArray, List.set_cons_zero, List.set_cons_succ])) | (refine Seq.Seq.det ?_ (by rfl) (fun w hS => ?_) ?_; rotate_left; ((try dsimp only at hS); go_simp; (try rw [if_pos (by omega)]); with_reducible rfl); (try simp only [Act.put, List.setIfInBounds_toArray, List.set_cons_zero, List.set_cons_succ])))
    refine Seq.Seq.make (by rfl) (by rfl) (fun K Q' hK => ?_)
    go_simp
    have hb5 := below_one wd (.cells #[.int .u64 x, .slice B nb cb] 53)
    have hS5 := hSD.below hb5
    have hbd5 := hbD.trans (hb5.mono hbD.size)
    have HO5 := Lib.hid (lks_one (Blk.new wd (lkc x B nb cb) 53) (LkE.mono (LkE.keep HEL.out (fun b _ hl => hbd5.block b hl)) (fun _ _ _ => trivial)))
    clear hb5 hbD hSD
    refine hK.out _ _ (hS5) ?_
    clear hK K
    try simp only [Act.put, List.setIfInBounds_toArray, List.set_cons_zero, List.set_cons_succ]
    generalize wd.alloc (.cells #[.int .u64 x, .slice B nb cb] 53) = w5 at *
    generalize wd.heap.size = b5 at *
    repeat (first | (refine Seq.Seq.skip (by rfl) ?_; (try simp only [Act.put, List.setIfInBounds_toArray, List.set_cons_zero, List.set_cons_succ])) | (refine Seq.Seq.det ?_ (by rfl) (fun w hS => ?_) ?_; rotate_left; ((try dsimp only at hS); go_simp; (try rw [if_pos (by omega)]); with_reducible rfl); (try simp only [Act.put, List.setIfInBounds_toArray, List.set_cons_zero, List.set_cons_succ])))
    refine Seq.Seq.make (by rfl) (by rfl) (fun K Q' hK => ?_)
    go_simp
    have hb6 := below_one w5 (.cells #[.slice A (r) m, .slice (some ⟨b5, 0, none⟩) 1 1, .slice A3 (n - (R)) m3] 23)
    have hS6 := hS5.below hb6
    have hbd6 := hbd5.trans (hb6.mono hbd5.size)
    have hq6 := lns_three (P := fun _ => True) (Blk.new w5 #[.slice A (r) m, .slice (some ⟨b5, 0, none⟩) 1 1, .slice A3 (n - (R)) m3] 23) trivial ((HL1.out.below hbd6).mono (fun _ _ _ => trivial)) HM1.out HNIL.out (HO5.out.below hb6) (Nat.le_refl _) (fun e => by cases e) ((HL3.out.below hbd6).mono (fun _ _ _ => trivial)) hm3 HN3.out
    have HCC := Lib.hid (lconcat_any _ _ 3 3 _ _ hq6 (by omega) (by omega) (by rw [← HW.out]; exact HWL.out.2) (by rw [← HW.out]; have := HWL.out.1; omega))
    rw [← HW.out] at HCC
    clear hb6 hS5 hq6 hbd5 hsl1 hsl3
    refine hK.out _ _ (hS6) ?_
    clear hK K
    try simp only [Act.put, List.setIfInBounds_toArray, List.set_cons_zero, List.set_cons_succ]
    repeat (first | (refine Seq.Seq.skip (by rfl) ?_; (try simp only [Act.put, List.setIfInBounds_toArray, List.set_cons_zero, List.set_cons_succ])) | (refine Seq.Seq.det ?_ (by rfl) (fun w hS => ?_) ?_; rotate_left; ((try dsimp only at hS); go_simp; (try rw [if_pos (by omega)]); with_reducible rfl); (try simp only [Act.put, List.setIfInBounds_toArray, List.set_cons_zero, List.set_cons_succ])))
    refine Seq.Seq.make (by rfl) (by rfl) (fun K Q' hK => ?_)
    go_simp
    go_at_call 58
    with_reducible refine HCC.out.mono ?_
    rintro en w7 ⟨A7, n7, m7, rfl, hb7, hl7, hn7⟩
    have hS7 := hS6.below hb7
    have hbd7 := hbd6.trans (hb7.mono hbd6.size)
    have HCP := Lib.hid (lcopy_any _ A7 n7 m7 _ w7 hl7 hn7 (by rw [← hl7.1]; have := HWL.out.1; omega) HWB.out)
    clear hb7 hS6 hbd6 hl7 hn7 HCC
    refine hK.out _ _ (hS7) ?_
    clear hK K
    try simp only [Act.put, List.setIfInBounds_toArray, List.set_cons_zero, List.set_cons_succ]
    repeat (first | (refine Seq.Seq.skip (by rfl) ?_; (try simp only [Act.put, List.setIfInBounds_toArray, List.set_cons_zero, List.set_cons_succ])) | (refine Seq.Seq.det ?_ (by rfl) (fun w hS => ?_) ?_; rotate_left; ((try dsimp only at hS); go_simp; (try rw [if_pos (by omega)]); with_reducible rfl); (try simp only [Act.put, List.setIfInBounds_toArray, List.set_cons_zero, List.set_cons_succ])))
    refine Seq.Seq.make (by rfl) (by rfl) (fun K Q' hK => ?_)
    go_simp
    go_at_call 32
    with_reducible refine HCP.out.mono ?_
    rintro en w8 ⟨v8, rfl, hb8, ho8⟩
    have hS8 := hS7.below hb8
    have hbd8 := hbd7.trans (hb8.mono hbd7.size)
    have HO8 := Lib.hid (ho8.base (B' := w.heap.size) hbd7.size)
    have HV8 := Lib.hid ho8.lks
    clear hb8 hS7 ho8 HCP
    obtain ⟨A8, c8, hv8, _⟩ := HV8.out
    subst hv8
    refine hK.out _ _ (hS8) ?_
    clear hK K
    try simp only [Act.put, List.setIfInBounds_toArray, List.set_cons_zero, List.set_cons_succ]
    repeat (first | (refine Seq.Seq.skip (by rfl) ?_; (try simp only [Act.put, List.setIfInBounds_toArray, List.set_cons_zero, List.set_cons_succ])) | (refine Seq.Seq.det ?_ (by rfl) (fun w hS => ?_) ?_; rotate_left; ((try dsimp only at hS); go_simp; (try rw [if_pos (by omega)]); with_reducible rfl); (try simp only [Act.put, List.setIfInBounds_toArray, List.set_cons_zero, List.set_cons_succ])))
    refine Seq.Seq.nil ?_
    clear hS8 L0 HV8
    go_wp2
    go_ret
    exact ⟨_, rfl, hbd8, HO8.out⟩
end Go.Proofs.Ytbdelphocjdiiaa.Cur

namespace Go.Proofs.Ytbdelphocjdiiaa.Cur
open Go.RowKit Mem
set_option linter.unusedVariables false
set_option maxRecDepth 100000


/-- A link is appended. -/
theorem OwnO.push {W w : World} {v : Value} {L : List Lk} (h : OwnO w W.heap.size v L) (hb : Below W.heap.size W w) {c1 c2 : Value} {s : Lk} (hs : LkE.R w (fun b => b < W.heap.size) [c1, c2] s) :
    ∃ xs, (w.alloc (.cells #[c1, c2] 53)).ownsRow W.heap.size 53 2 v L.length xs ∧ W.heap.size ≤ (w.alloc (.cells #[c1, c2] 53)).heap.size ∧ Rw (w.alloc (.cells #[c1, c2] 53)) (some ⟨w.heap.size, 0, none⟩) [c1, c2] ∧
      ∀ v' w', w'.ownsRow W.heap.size 53 2 v' (L.length + 1) (xs ++ [c1, c2]) → (w.alloc (.cells #[c1, c2] 53)).grownBy w' v.ownBlock → OwnO w' W.heap.size v' (L ++ [s]) ∧ Below W.heap.size W w' := by
  have hA := below_one w (.cells #[c1, c2] 53)
  obtain ⟨cs, g1, g2, g3⟩ := h.below hA
  have hB : W.heap.size ≤ (w.alloc (.cells #[c1, c2] 53)).heap.size := by have := hb.size; simp; omega
  refine ⟨cs.flatten, g2, hB, rw_new w [c1, c2] 53, fun v' w' ho hg => ⟨?_, ?_⟩⟩
  · exact OwnO.app (M := [s]) (ds := [[c1, c2]]) g1 g2 hB ⟨LkE.keep hs (fun b hb9 hl => hA.block b hl), trivial⟩ rfl (by simpa using ho) hg
  · exact (hb.trans (hA.mono hb.size)).grown hg hB (fun k e => own_ge g2 k e)

/-- Is it there already? -/
def dbq (f : Int) (g k : Nat) : Bool := decide ((f < 0 ∧ g < k) ∨ (0 ≤ f ∧ f < (k : Int)))
theorem dbq_yes {f : Int} {g k : Nat} (h : (f < 0 ∧ g < k) ∨ (0 ≤ f ∧ f < (k : Int))) : dbq f g k = true := decide_eq_true h
theorem dbq_no {f : Int} {g k : Nat} (h : ¬ ((f < 0 ∧ g < k) ∨ (0 ≤ f ∧ f < (k : Int)))) : dbq f g k = false := decide_eq_false h
/-- How far the document has come: so many links are there behind k of them. -/
def wcn (f : Int) (g k : Nat) : Nat := if f < 0 ∧ g < k then k + 1 else k
theorem wth_at {L : List Lk} {s : Lk} {k : Nat} (hk : k < L.length) :
    (0 ≤ fnl L s.1 → (wth L s).length = L.length ∧ (wth L s).getD k lk0 = if fnl L s.1 = k then s else L.getD k lk0) ∧
    (fnl L s.1 < 0 → (wth L s).length = L.length + 1 ∧ (k < gtl L s.1 → (wth L s).getD k lk0 = L.getD k lk0) ∧ (gtl L s.1 ≤ k → (wth L s).getD (k + 1) lk0 = L.getD k lk0)) := by
  constructor
  · intro h
    unfold wth
    rw [if_pos h]
    refine ⟨List.length_set, ?_⟩
    rw [List.getD_eq_getElem?_getD, List.getElem?_set]
    by_cases hf : fnl L s.1 = k
    · rw [if_pos (by omega), if_pos hf, if_pos (by omega)]; rfl
    · rw [if_neg (by omega), if_neg hf, ← List.getD_eq_getElem?_getD]
  · intro h
    have hg := gtl_le L s.1
    unfold wth
    rw [if_neg (by omega)]
    refine ⟨by rw [List.length_append, List.length_cons, List.length_take, List.length_drop]; omega, fun h1 => ?_, fun h1 => ?_⟩
    · rw [List.getD_eq_getElem?_getD, List.getElem?_append_left (by rw [List.length_take]; omega), List.getElem?_take_of_lt h1, ← List.getD_eq_getElem?_getD]
    · rw [List.getD_eq_getElem?_getD, List.getElem?_append_right (by rw [List.length_take]; omega), List.length_take, show k + 1 - min (gtl L s.1) L.length = (k - gtl L s.1) + 1 by omega, List.getElem?_cons_succ, List.getElem?_drop, show gtl L s.1 + (k - gtl L s.1) = k by omega, ← List.getD_eq_getElem?_getD]
theorem wth_mid {L : List Lk} {s : Lk} (h : fnl L s.1 < 0) : (wth L s).getD (gtl L s.1) lk0 = s := by
  have hg := gtl_le L s.1
  unfold wth
  rw [if_neg (by omega), List.getD_eq_getElem?_getD, List.getElem?_append_right (by rw [List.length_take]; omega), List.length_take, show gtl L s.1 - min (gtl L s.1) L.length = 0 by omega]
  rfl
theorem tk_one {L : List Lk} {k : Nat} (hk : k < L.length) : L.take (k + 1) = L.take k ++ [L.getD k lk0] := by
  rw [List.take_add_one, List.getElem?_eq_getElem hk, List.getD_eq_getElem?_getD, List.getElem?_eq_getElem hk]; rfl
theorem gtl_spec (L : List Lk) (x : Int) : (∀ j, j < gtl L x → ¬ x < (L.getD j lk0).1) ∧ (gtl L x < L.length → x < (L.getD (gtl L x) lk0).1) := by
  induction L with
  | nil => exact ⟨fun j hj => by simp [gtl] at hj, fun h => by simp at h⟩
  | cons s L ih =>
    unfold gtl
    by_cases h : x < s.1
    · rw [if_pos h]; exact ⟨fun j hj => by omega, fun _ => by simpa using h⟩
    · rw [if_neg h]
      refine ⟨fun j hj => ?_, fun hl => ?_⟩
      · rcases j with _ | j
        · simpa using h
        · simpa using ih.1 j (by omega)
      · simpa using ih.2 (by simpa using hl)
theorem fnl_bd (L : List Lk) (x : Int) : fnl L x < L.length := by
  rw [fnl_pcx]
  split
  · omega
  · omega

set_option maxHeartbeats 8000000 in
theorem rwith_any (P : Nat → Prop) (A : Option Addr) (n m : Nat) (L : List Lk) (x : Int) (B : Option Addr) (nb cb : Nat) (z : List Int) (w : World) (hz : Lks w P A n L) (hn : n ≤ 900) (hx : 0 ≤ x ∧ x < 18446744073709551616) (hu : Us w B nb z) (hzb : ∀ y ∈ z, 0 ≤ y ∧ y < 18446744073709551616) (hnb : nb ≤ cb) (hbn : B = none → cb = 0) :
    Calls Try.prog 30 #[.slice A n m, lkagg x B nb cb] w (LCaPost (wth L (x, z)) w) := by
  have HL := Lib.hid hz.1
  have hX := Blk.new w (lkc x B nb cb) 53
  have hbX := below_one w (.cells (lkc x B nb cb) 53)
  have hfc := rfind_any P A n m L x _ (hz.below hbX) (by omega)
  unfold BPost at hfc
  have hs0 : (w.alloc (.cells (lkc x B nb cb) 53)).heap.size = w.heap.size + 1 := by simp
  obtain ⟨x0, x1⟩ := hX.c2
  generalize hw0 : w.alloc (.cells (lkc x B nb cb) 53) = w0 at *
  have HW0 := Lib.hid hw0
  clear hw0
  have HEL := Lib.hid (LkE.mk (w := w0) (P := fun b => b < w0.heap.size) hx hu.1 hnb hbn ((hu.below hbX).sq hzb (fun h0 ad ha => (hu.below hbX).2.lt (by rw [List.length_map, hu.1]; exact h0) ad ha)))
  have HZ : Hid (Lks w0 (fun b => b < w0.heap.size) A n L) := Lib.hid ((hz.below hbX).mono (fun b _ h => h))
  have HAT := Lib.hid (fun k (hk : k < L.length) => wth_at (s := (x, z)) hk)
  have HMID := Lib.hid (fun h => wth_mid (L := L) (s := (x, z)) h)
  have HG1 := Lib.hid (gtl_spec L x)
  have HG2 := Lib.hid (gtl_le L x)
  have HTK := Lib.hid (fun k hk => tk_one (L := wth L (x, z)) (k := k) hk)
  have HFB := Lib.hid (fnl_bd L x)
  have HWL := Lib.hid (wth_len L (x, z))
  have HEND := Lib.hid (fun k (h : (wth L (x, z)).length ≤ k) => List.take_of_length_le h)
  have HWN : Hid (L.length = 0 → (wth L (x, z)).length = 1) := Lib.hid (fun h => by have := wth_len L (x, z); omega)
  have HBX := Lib.hid hbX
  dsimp only at HAT HMID
  generalize wth L (x, z) = W at *
  generalize hf : fnl L x = f at *
  generalize gtl L x = gt at *
  have HX := Lib.hid hX
  clear hz hu hzb hX hf
  go_enter Try.func30, Try.ntmps30
  go_wp2_with fail
  rw [HW0.out]
  with_reducible refine hfc.mono ?_
  rintro e w1 ⟨rfl, hb1⟩
  have H0 : Hid (dbq f gt 0 = false ∧ OwnO w1 w0.heap.size (.slice none 0 0) (W.take (wcn f gt 0)) ∧ Below w0.heap.size w0 w1) := Lib.hid ⟨dbq_no (by omega), by
    rw [show wcn f gt 0 = 0 from if_neg (by omega), List.take_zero]
    exact OwnQ.nil _ _ _ _ _, hb1⟩
  clear hfc hb1 x0 x1 hbX HW0
  go_wp2
  go_loopw [5, 7, 8] (fun v d i wr => ∃ (k : Nat) (db : Bool), k ≤ n ∧ i = .int .i64 k ∧ d = .bool db ∧ Hid (dbq f gt k = db ∧ OwnO wr w0.heap.size v (W.take (wcn f gt k)) ∧ Below w0.heap.size w0 wr)) (fun _ _ i _ => n - (intOf i).toNat)
  case atStart => exact ⟨0, false, by omega, rfl, rfl, H0⟩
  case round =>
    clear H0
    obtain ⟨k, db, hk, rfl, rfl, HR⟩ := hrel
    obtain ⟨hdb, ho, hb⟩ := HR.out
    have hdb0 := Lib.hid hdb
    clear HR
    obtain ⟨Y, hY⟩ : ∃ Y, Y = W.take (wcn f gt k) := ⟨_, rfl⟩
    rw [← hY] at ho
    have HY := Lib.hid hY
    have HY1 : Hid (Y.length + 1 ≤ 1000000) := Lib.hid (by have := HWL.out.1; rw [HL.out] at this; rw [hY, List.length_take]; omega)
    clear hY
    have hdb2 : db = true ↔ ((f < 0 ∧ gt < k) ∨ (0 ≤ f ∧ f < (k : Int))) := by rw [← hdb]; exact decide_eq_true_iff
    have hbD := hb.trans ((below_one' wr).mono hb.size)
    by_cases hlt : k < n
    · obtain ⟨g, o, rfl, _, hg, hc⟩ := HZ.out.cells (by omega)
      obtain ⟨y, zz, a, l, mm, he, yb, hl, hlm, han, hus, hzzb, _, hsq, hcell⟩ := hc k hlt
      have hkL : k < L.length := by rw [HL.out]; exact hlt
      have HEY := Lib.hid (LkE.mk (w := w0) yb hl hlm han hsq)
      obtain ⟨t1, t2⟩ := HAT.out k hkL
      have hg1 := HG1.out
      have HEQ := Lib.hid he
      rw [he] at t1 t2
      have HCELL := Lib.hid hcell
      have HY2 : Hid ((Y ++ [(x, z)]).length + 1 ≤ 1000000) := Lib.hid (by have := HWL.out.1; rw [HL.out] at this; rw [HY.out, List.length_append, List.length_take]; simp; omega)
      have L1 : ∀ w', LkS w0 w' → w'.cell? ⟨g, o + k * 2, none⟩ = some (.int .u64 y) ∧ w'.cell? ⟨g, o + k * 2 + 1, none⟩ = some (.slice a l mm) := fun w' h => hcell w' h
      have L2 : ∀ w', LkS w0 w' → w'.cell? ⟨w.heap.size, 0, none⟩ = some (.int .u64 x) ∧ w'.cell? ⟨w.heap.size, 1, none⟩ = some (.slice B nb cb) := fun w' h => (HX.out.below h).c2
      have hS : LkS w0 wr.drew := hbD
      have hoD := ho.below (below_one' wr)
      have e2 : (k : Int) < n := by omega
      have e3 : IntKind.i64.wrap ((k : Int) + 1) = ((k + 1 : Nat) : Int) := IntWalk.i64_in _ (by omega)
      have HSY := fun w' (h : Below w0.heap.size w0 w') => LkE.keep HEY.out (fun b _ hl => h.block b hl)
      have HSX := fun w' (h : Below w0.heap.size w0 w') => LkE.keep HEL.out (fun b _ hl => h.block b hl)
      replace ho := hoD
      replace hb := hbD
      clear hc hcell he hl hlm han hus hzzb hsq hoD hbD hdb
      by_cases hf : f < 0
      · have df : decide (f < 0) = true := decide_eq_true hf
        have hfk : ((k : Int) == f) = false := by simp; omega
        obtain ⟨u1, u2, u3⟩ := t2 hf
        cases db
        · have hkg : k ≤ gt := by
            rcases Nat.lt_or_ge gt k with h | h
            · have := hdb2.2 (.inl ⟨hf, h⟩); cases this
            · exact h
          have hc1 : wcn f gt k = k := if_neg (by omega)
          by_cases hkg2 : k = gt
          · have hxy : x < y := by
              have h9 := hg1.2 (by rw [← hkg2]; exact hkL)
              rw [← hkg2, HEQ.out] at h9
              dsimp only at h9
              exact h9
            have dxy : decide (x < y) = true := decide_eq_true hxy
            have hm := HMID.out hf
            rw [← hkg2] at hm
            have HC : Hid (W.take (wcn f gt (k + 1)) = (Y ++ [(x, z)]) ++ [(y, zz)]) := Lib.hid (by
              rw [show wcn f gt (k + 1) = k + 1 + 1 from if_pos ⟨hf, by omega⟩, HTK.out (k + 1) (by omega), HTK.out k (by omega), u3 (by omega), hm, HY.out, hc1])
            have HDN : Hid (dbq f gt (k + 1) = true) := Lib.hid (dbq_yes (.inl ⟨hf, by omega⟩))
            clear hxy hdb2 t1 t2 u1 u2 u3 hc1 hf hg1 hm hkg2
            go_wp2
            refine Seq.wp_region_seq (LkS w0) (by kernel_rfl) (by kernel_rfl) hS ?_
            generalize wr.drew = wd at *
            repeat (first | (refine Seq.Seq.skip (by rfl) ?_; (try simp only [Act.put, List.setIfInBounds_toArray, List.set_cons_zero, List.set_cons_succ])) | (refine Seq.Seq.det ?_ (by rfl) (fun w hS => ?_) ?_; rotate_left; ((try dsimp only at hS); go_simp; (try rw [if_pos (by omega)]); with_reducible rfl); (try simp only [Act.put, List.setIfInBounds_toArray, List.set_cons_zero, List.set_cons_succ])))
            refine Seq.Seq.nil ?_
            have c0 := (L1 wd hS).1
            have c1 := (L1 wd hS).2
            have b0 := (L2 wd hS).1
            have b1 := (L2 wd hS).2
            clear L1 L2 hS
            obtain ⟨xs1, a2, a3, a4, a5⟩ := ho.push hb (HSX _ hb)
            clear ho
            go_wp2_with (at_builtin; go_must (first | (refine list_append_rw kindLK rfl (.tmp 35) (.tmp 37) rfl w0.heap.size _ _ xs1 rfl a2 _ 1 _ [.int .u64 x, .slice B nb cb] rfl rfl a4 (by simp) (by simp [Value.oneCell']) HY1.out (by omega) a3 ?_; intro v9 w9 ho9 hg9 hgr9; have HN := Lib.hid (a5 v9 w9 ho9 hg9); clear ho9 hg9 hgr9 a2 a3 a4 a5; obtain ⟨xs2, a2, a3, a4, a5⟩ := HN.out.1.push HN.out.2 (HSY _ HN.out.2); have c0 := (HCELL.out w9 HN.out.2).1; have c1 := (HCELL.out w9 HN.out.2).2) | (refine list_append_rw kindLK rfl (.tmp 46) (.tmp 51) rfl w0.heap.size _ _ xs2 rfl a2 _ 1 _ [.int .u64 y, .slice a l mm] rfl rfl a4 (by simp) (by simp [Value.oneCell']) HY2.out (by omega) a3 ?_; intro v9 w9 ho9 hg9 hgr9; have HN2 := Lib.hid (a5 v9 w9 ho9 hg9); clear ho9 hg9 hgr9 a2 a3 a4 a5)))
            go_roundw
            case rel => exact ⟨k + 1, true, by omega, by go_num, rfl, Lib.hid ⟨HDN.out, by rw [HC.out]; exact HN2.out.1, HN2.out.2⟩⟩
            case measure => simp [intOf]; omega
          · have hxy : ¬ x < y := by
              have h9 := hg1.1 k (by omega)
              rw [HEQ.out] at h9
              dsimp only at h9
              omega
            have dxy : decide (x < y) = false := decide_eq_false hxy
            have HC : Hid (W.take (wcn f gt (k + 1)) = Y ++ [(y, zz)]) := Lib.hid (by
              rw [show wcn f gt (k + 1) = k + 1 from if_neg (by omega), HTK.out k (by omega), u2 (by omega), HY.out, hc1])
            have HDN : Hid (dbq f gt (k + 1) = false) := Lib.hid (dbq_no (by omega))
            clear hxy hdb2 t1 t2 u1 u2 u3 hc1 hf hg1
            go_wp2
            refine Seq.wp_region_seq (LkS w0) (by kernel_rfl) (by kernel_rfl) hS ?_
            generalize wr.drew = wd at *
            repeat (first | (refine Seq.Seq.skip (by rfl) ?_; (try simp only [Act.put, List.setIfInBounds_toArray, List.set_cons_zero, List.set_cons_succ])) | (refine Seq.Seq.det ?_ (by rfl) (fun w hS => ?_) ?_; rotate_left; ((try dsimp only at hS); go_simp; (try rw [if_pos (by omega)]); with_reducible rfl); (try simp only [Act.put, List.setIfInBounds_toArray, List.set_cons_zero, List.set_cons_succ])))
            refine Seq.Seq.nil ?_
            have c0 := (L1 wd hS).1
            have c1 := (L1 wd hS).2
            have b0 := (L2 wd hS).1
            have b1 := (L2 wd hS).2
            clear L1 L2 hS
            obtain ⟨xs1, a2, a3, a4, a5⟩ := ho.push hb (HSY _ hb)
            clear ho hb
            go_wp2_with (at_builtin; go_must (refine list_append_rw kindLK rfl (.tmp 46) (.tmp 51) rfl w0.heap.size _ _ xs1 rfl a2 _ 1 _ [.int .u64 y, .slice a l mm] rfl rfl a4 (by simp) (by simp [Value.oneCell']) HY1.out (by omega) a3 ?_; intro v9 w9 ho9 hg9 hgr9; have HN := Lib.hid (a5 v9 w9 ho9 hg9); clear ho9 hg9 hgr9 a2 a3 a4 a5))
            go_roundw
            case rel => exact ⟨k + 1, false, by omega, by go_num, rfl, Lib.hid ⟨HDN.out, by rw [HC.out]; exact HN.out.1, HN.out.2⟩⟩
            case measure => simp [intOf]; omega
        · have hkg : gt < k := by
            rcases hdb2.1 rfl with h | h
            · exact h.2
            · omega
          have HC : Hid (W.take (wcn f gt (k + 1)) = Y ++ [(y, zz)]) := Lib.hid (by
            rw [show wcn f gt (k + 1) = k + 1 + 1 from if_pos ⟨hf, by omega⟩, HTK.out (k + 1) (by omega), u3 (by omega), HY.out, show wcn f gt k = k + 1 from if_pos ⟨hf, hkg⟩])
          have HDN : Hid (dbq f gt (k + 1) = true) := Lib.hid (dbq_yes (.inl ⟨hf, by omega⟩))
          clear hdb2 t1 t2 u1 u2 u3 hf hg1
          go_wp2
          refine Seq.wp_region_seq (LkS w0) (by kernel_rfl) (by kernel_rfl) hS ?_
          generalize wr.drew = wd at *
          repeat (first | (refine Seq.Seq.skip (by rfl) ?_; (try simp only [Act.put, List.setIfInBounds_toArray, List.set_cons_zero, List.set_cons_succ])) | (refine Seq.Seq.det ?_ (by rfl) (fun w hS => ?_) ?_; rotate_left; ((try dsimp only at hS); go_simp; (try rw [if_pos (by omega)]); with_reducible rfl); (try simp only [Act.put, List.setIfInBounds_toArray, List.set_cons_zero, List.set_cons_succ])))
          refine Seq.Seq.nil ?_
          have c0 := (L1 wd hS).1
          have c1 := (L1 wd hS).2
          have b0 := (L2 wd hS).1
          have b1 := (L2 wd hS).2
          clear L1 L2 hS
          obtain ⟨xs1, a2, a3, a4, a5⟩ := ho.push hb (HSY _ hb)
          clear ho hb
          go_wp2_with (at_builtin; go_must (refine list_append_rw kindLK rfl (.tmp 46) (.tmp 51) rfl w0.heap.size _ _ xs1 rfl a2 _ 1 _ [.int .u64 y, .slice a l mm] rfl rfl a4 (by simp) (by simp [Value.oneCell']) HY1.out (by omega) a3 ?_; intro v9 w9 ho9 hg9 hgr9; have HN := Lib.hid (a5 v9 w9 ho9 hg9); clear ho9 hg9 hgr9 a2 a3 a4 a5))
          go_roundw
          case rel => exact ⟨k + 1, true, by omega, by go_num, rfl, Lib.hid ⟨HDN.out, by rw [HC.out]; exact HN.out.1, HN.out.2⟩⟩
          case measure => simp [intOf]; omega
      · have df : decide (f < 0) = false := decide_eq_false hf
        obtain ⟨u1, u2⟩ := t1 (by omega)
        have hc1 : wcn f gt k = k := if_neg (by omega)
        have hc2 : wcn f gt (k + 1) = k + 1 := if_neg (by omega)
        by_cases hfk : f = k
        · have hfb : ((k : Int) == f) = true := by simp; omega
          rw [if_pos hfk] at u2
          have HC : Hid (W.take (wcn f gt (k + 1)) = Y ++ [(x, z)]) := Lib.hid (by
            rw [hc2, HTK.out k (by omega), u2, HY.out, hc1])
          have HDN : Hid (dbq f gt (k + 1) = true) := Lib.hid (dbq_yes (.inr ⟨by omega, by omega⟩))
          clear hdb2 t1 t2 u1 u2 hf hg1 hc1 hc2 hfk
          go_wp2
          refine Seq.wp_region_seq (LkS w0) (by kernel_rfl) (by kernel_rfl) hS ?_
          generalize wr.drew = wd at *
          repeat (first | (refine Seq.Seq.skip (by rfl) ?_; (try simp only [Act.put, List.setIfInBounds_toArray, List.set_cons_zero, List.set_cons_succ])) | (refine Seq.Seq.det ?_ (by rfl) (fun w hS => ?_) ?_; rotate_left; ((try dsimp only at hS); go_simp; (try rw [if_pos (by omega)]); with_reducible rfl); (try simp only [Act.put, List.setIfInBounds_toArray, List.set_cons_zero, List.set_cons_succ])))
          refine Seq.Seq.nil ?_
          have c0 := (L1 wd hS).1
          have c1 := (L1 wd hS).2
          have b0 := (L2 wd hS).1
          have b1 := (L2 wd hS).2
          clear L1 L2 hS
          obtain ⟨xs1, a2, a3, a4, a5⟩ := ho.push hb (HSX _ hb)
          clear ho hb
          go_wp2_with (at_builtin; go_must (refine list_append_rw kindLK rfl (.tmp 42) (.tmp 44) rfl w0.heap.size _ _ xs1 rfl a2 _ 1 _ [.int .u64 x, .slice B nb cb] rfl rfl a4 (by simp) (by simp [Value.oneCell']) HY1.out (by omega) a3 ?_; intro v9 w9 ho9 hg9 hgr9; have HN := Lib.hid (a5 v9 w9 ho9 hg9); clear ho9 hg9 hgr9 a2 a3 a4 a5))
          go_roundw
          case rel => exact ⟨k + 1, true, by omega, by go_num, rfl, Lib.hid ⟨HDN.out, by rw [HC.out]; exact HN.out.1, HN.out.2⟩⟩
          case measure => simp [intOf]; omega
        · have hfb : ((k : Int) == f) = false := by simp; omega
          rw [if_neg hfk] at u2
          have HC : Hid (W.take (wcn f gt (k + 1)) = Y ++ [(y, zz)]) := Lib.hid (by
            rw [hc2, HTK.out k (by omega), u2, HY.out, hc1])
          have HDN : Hid (dbq f gt (k + 1) = db) := Lib.hid (by
            rw [← hdb0.out]
            unfold dbq
            exact decide_eq_decide.2 (by omega))
          clear hdb2 t1 t2 u1 u2 hf hg1 hc1 hc2 hfk
          go_wp2
          refine Seq.wp_region_seq (LkS w0) (by kernel_rfl) (by kernel_rfl) hS ?_
          generalize wr.drew = wd at *
          repeat (first | (refine Seq.Seq.skip (by rfl) ?_; (try simp only [Act.put, List.setIfInBounds_toArray, List.set_cons_zero, List.set_cons_succ])) | (refine Seq.Seq.det ?_ (by rfl) (fun w hS => ?_) ?_; rotate_left; ((try dsimp only at hS); go_simp; (try rw [if_pos (by omega)]); with_reducible rfl); (try simp only [Act.put, List.setIfInBounds_toArray, List.set_cons_zero, List.set_cons_succ])))
          refine Seq.Seq.nil ?_
          have c0 := (L1 wd hS).1
          have c1 := (L1 wd hS).2
          have b0 := (L2 wd hS).1
          have b1 := (L2 wd hS).2
          clear L1 L2 hS
          obtain ⟨xs1, a2, a3, a4, a5⟩ := ho.push hb (HSY _ hb)
          clear ho hb
          go_wp2_with (at_builtin; go_must (refine list_append_rw kindLK rfl (.tmp 46) (.tmp 51) rfl w0.heap.size _ _ xs1 rfl a2 _ 1 _ [.int .u64 y, .slice a l mm] rfl rfl a4 (by simp) (by simp [Value.oneCell']) HY1.out (by omega) a3 ?_; intro v9 w9 ho9 hg9 hgr9; have HN := Lib.hid (a5 v9 w9 ho9 hg9); clear ho9 hg9 hgr9 a2 a3 a4 a5))
          go_roundw
          case rel => exact ⟨k + 1, db, by omega, by go_num, rfl, Lib.hid ⟨HDN.out, by rw [HC.out]; exact HN.out.1, HN.out.2⟩⟩
          case measure => simp [intOf]; omega
    · obtain rfl : k = n := by omega
      by_cases hdd : db = true
      · subst hdd
        have HC : Hid (Y = W) := Lib.hid (by
          rw [HY.out]
          refine HEND.out _ ?_
          rcases hdb2.1 rfl with h | h
          · rw [show wcn f gt k = k + 1 from if_pos h]
            have := HWL.out.1
            rw [HL.out] at this
            exact this
          · rw [show wcn f gt k = k from if_neg (by omega)]
            by_cases h0 : k = 0
            · omega
            · have := ((HAT.out 0 (by rw [HL.out]; omega)).1 (by omega)).1
              rw [this, HL.out]; exact Nat.le_refl _)
        obtain ⟨A9, c9, hv9, z1, z2, z3⟩ := OwnQ.slice ho
        have HZ3 : Hid (Lks wr (fun _ => True) A9 Y.length W) := Lib.hid ⟨by rw [HC.out], by rw [← HC.out]; exact z3.mono (fun _ _ _ => trivial)⟩
        have HZ2 := Lib.hid z2
        have HBE := Lib.hid (HBX.out.trans (hb.mono HBX.out.size))
        clear ho hb z1 z2 z3 hbD hdb2 hdb
        subst hv9
        go_wp2
        go_ret
        exact ⟨_, _, _, rfl, HBE.out, HZ3.out, HZ2.out⟩
      · have hdf : db = false := by simpa using hdd
        subst hdf
        have hfe : f < 0 ∧ gt = k := by
          have h9 := hdb2.2
          have h8 := HFB.out
          have h7 := HG2.out
          rw [HL.out] at h8 h7
          by_cases hf : f < 0
          · refine ⟨hf, ?_⟩
            rcases Nat.lt_or_ge gt k with h | h
            · have := h9 (.inl ⟨hf, h⟩); cases this
            · omega
          · have := h9 (.inr ⟨by omega, by omega⟩); cases this
        obtain ⟨b0, b1⟩ := (HX.out.below hb).c2
        have HC : Hid (Y ++ [(x, z)] = W) := Lib.hid (by
          have hm := HMID.out hfe.1
          rw [hfe.2] at hm
          have hwl : W.length = k + 1 := by
            by_cases h0 : k = 0
            · rw [HWN.out (by rw [HL.out, h0]), h0]
            · have := ((HAT.out 0 (by rw [HL.out]; omega)).2 hfe.1).1
              rw [this, HL.out]
          rw [HY.out, show wcn f gt k = k from if_neg (by omega)]
          have h5 := HTK.out k (by omega)
          rw [hm] at h5
          rw [← h5]
          exact HEND.out _ (by omega))
        obtain ⟨xs1, a2, a3, a4, a5⟩ := ho.push hb (LkE.keep HEL.out (fun b _ hl => hb.block b hl))
        clear ho hfe hdb2 hdb hdd hbD
        go_wp2_with (at_builtin; go_must (refine list_append_rw kindLK rfl (.tmp 55) (.tmp 57) rfl w0.heap.size _ _ xs1 rfl a2 _ 1 _ [.int .u64 x, .slice B nb cb] rfl rfl a4 (by simp) (by simp [Value.oneCell']) HY1.out (by omega) a3 ?_; intro v9 w9 ho9 hg9 hgr9; have HN := Lib.hid (a5 v9 w9 ho9 hg9); clear ho9 hg9 hgr9 a2 a3 a4 a5 hb; obtain ⟨N9, hN9⟩ : ∃ N9, N9 = (Y ++ [(x, z)]).length := ⟨_, rfl⟩; obtain ⟨A9, c9, hv9, z1, z2, z3⟩ := OwnQ.slice HN.out.1; rw [← hN9] at hv9; have HZ3 : Hid (Lks w9 (fun _ => True) A9 N9 W) := Lib.hid ⟨by rw [← HC.out, hN9], by rw [← HC.out]; exact z3.mono (fun _ _ _ => trivial)⟩; have HZ2 := Lib.hid z2; have HBE := Lib.hid (HBX.out.trans (HN.out.2.mono HBX.out.size)); clear z1 z2 z3 hN9; subst hv9))
        go_ret
        exact ⟨_, _, _, rfl, HBE.out, HZ3.out, HZ2.out⟩
end Go.Proofs.Ytbdelphocjdiiaa.Cur
