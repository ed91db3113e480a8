/- Stripes: which are right, by the document. -/
import Derived.Test.YtpoicagalmhfdaaStpD
namespace Go.Proofs.Ytpoicagalmhfdaa.Cur
open Go.RowKit Mem
set_option linter.unusedVariables false
set_option maxRecDepth 100000


theorem has_yes {z : List Int} {x : Int} {j : Nat} (hj : j < z.length) (h : z.getD j 0 = x) : z.contains x = true := by
  rw [← h]; simpa using getD_mem hj
theorem has_no {z : List Int} {x : Int} (h : ∀ j, j < z.length → z.getD j 0 ≠ x) : z.contains x = false := by
  cases e : z.contains x with
  | false => rfl
  | true =>
    have hm : x ∈ z := by simpa using e
    obtain ⟨j, hj, e2⟩ := List.mem_iff_getElem.1 hm
    have := h j hj
    rw [List.getD_eq_getElem?_getD, List.getElem?_eq_getElem hj] at this
    exact absurd e2 this

set_option maxHeartbeats 1000000 in
theorem rhas_any (A : Option Addr) (n m : Nat) (z : List Int) (x : Int) (w : World) (hz : Us w A n z) (hn : n ≤ 1000000) :
    Calls Try.prog 30 #[.slice A n m, .int .u64 x] w (BPost (.bool (z.contains x)) w) := by
  unfold BPost
  have HL := Lib.hid hz.1
  have HC : Hid (n ≠ 0 → ∃ g o, A = some ⟨g, o, none⟩ ∧ g < w.heap.size ∧ ∀ w', Below w.heap.size w w' → ∀ k, k < n → w'.cell? ⟨g, o + k, none⟩ = some (.int .u64 (z.getD k 0))) := Lib.hid fun h => hz.cells (by omega)
  have HYES := Lib.hid (fun j => has_yes (z := z) (x := x) (j := j))
  have HNO := Lib.hid (has_no (z := z) (x := x))
  generalize z.contains x = r at *
  clear hz
  go_enter Try.func30, Try.ntmps30
  go_wp2
  go_loopw [5] (fun i wr => ∃ k : Nat, k ≤ n ∧ i = .int .i64 k ∧ Hid (∀ j, j < k → z.getD j 0 ≠ x) ∧ Below w.heap.size w wr) (fun i _ => n - (intOf i).toNat)
  case atStart => exact ⟨0, by omega, rfl, Lib.hid (by intro j hj; omega), Below.refl _ _⟩
  case round =>
    obtain ⟨k, hk, rfl, hj, hb⟩ := hrel
    by_cases hlt : k < n
    · obtain ⟨g, o, rfl, hg, hc⟩ := HC.out (by omega)
      have c0 := hc wr hb k hlt
      obtain ⟨y, hy⟩ : ∃ y, y = z.getD k 0 := ⟨_, rfl⟩
      rw [← hy] at c0
      have HY := Lib.hid hy
      have e2 : (k : Int) < n := by omega
      have e3 : IntKind.i64.wrap ((k : Int) + 1) = ((k + 1 : Nat) : Int) := IntWalk.i64_in _ (by omega)
      clear hc hy
      by_cases he : y = x
      · have hb2 : (y == x) = true := by simpa using he
        have HR : Hid (r = true) := Lib.hid (HYES.out k (by rw [HL.out]; exact hlt) (by rw [← HY.out]; exact he))
        have HB := Lib.hid hb
        clear he hj hb
        go_wp2
        go_ret
        exact ⟨by rw [HR.out]; rfl, HB.out⟩
      · have hb2 : (y == x) = false := by simpa using he
        have HNE := Lib.hid he
        clear he
        go_wp2
        go_roundw
        case rel => exact ⟨k + 1, by omega, by go_num, Lib.hid (fun j hjk => by
          rcases Nat.lt_or_ge j k with h | h
          · exact hj.out j h
          · obtain rfl : j = k := by omega
            rw [← HY.out]; exact HNE.out), hb⟩
        case measure => simp [intOf]; omega
    · obtain rfl : k = n := by omega
      go_wp2
      go_ret
      exact ⟨by rw [HNO.out (fun j hj2 => hj.out j (by rw [HL.out] at hj2; exact hj2))]; rfl, hb⟩

theorem tw_at {S : List (List Int)} {l : List Int} {i j : Nat} (hi : i < S.length) (hj : j < l.length) (h : (S.getD i []).contains (l.getD j 0) = true) : tw S l = true :=
  tw_yes hj (by
    rw [List.any_eq_true]
    refine ⟨S.getD i [], ?_, h⟩
    rw [List.getD_eq_getElem?_getD, List.getElem?_eq_getElem hi]
    exact List.getElem_mem hi)
theorem tw_none {S : List (List Int)} {l : List Int} (h : ∀ i, i < S.length → ∀ j, j < l.length → (S.getD i []).contains (l.getD j 0) = false) : tw S l = false :=
  tw_no fun j hj => by
    rw [List.any_eq_false]
    intro s hs hh
    obtain ⟨i, hi, e⟩ := List.mem_iff_getElem.1 hs
    have := h i hi j hj
    rw [List.getD_eq_getElem?_getD, List.getElem?_eq_getElem hi, Option.getD_some, e] at this
    rw [this] at hh; cases hh
theorem getD_take {S : List (List Int)} {k i : Nat} (h : i < k) : (S.take k).getD i [] = S.getD i [] := by
  rw [List.getD_eq_getElem?_getD, List.getD_eq_getElem?_getD, List.getElem?_take_of_lt h]

set_option maxHeartbeats 2000000 in
theorem rtwice_any (P : Nat → Prop) (A : Option Addr) (n m : Nat) (S : List (List Int)) (k : Nat) (a : Option Addr) (l c : Nat) (z : List Int) (w : World) (hz : Sts w P A n S) (hk : k ≤ n) (hn : n ≤ 1000000) (hlen : ∀ l ∈ S, l.length ≤ 1000000) (hl : Us w a l z) (hln : l ≤ 1000000) :
    Calls Try.prog 39 #[.slice A n m, .int .i64 k, .slice a l c] w (BPost (.bool (tw (S.take k) z)) w) := by
  unfold BPost
  have HL := Lib.hid hz.1
  have HL2 := Lib.hid hl.1
  have HC := Lib.hid (fun h => hz.cells h)
  have HC2 := Lib.hid (fun (h : l ≠ 0) => hl.cells (by omega))
  have HLEN := Lib.hid hlen
  have hkl : (S.take k).length = k := by rw [List.length_take, hz.1]; omega
  have HYES : Hid (∀ i, i < k → ∀ j, j < l → (S.getD i []).contains (z.getD j 0) = true → tw (S.take k) z = true) := Lib.hid fun i hi j hj h => tw_at (i := i) (by omega) (by rw [hl.1]; exact hj) (by rw [getD_take hi]; exact h)
  have HNO : Hid ((∀ i, i < k → ∀ j, j < l → (S.getD i []).contains (z.getD j 0) = false) → tw (S.take k) z = false) := Lib.hid fun h => tw_none fun i hi j hj => by rw [hkl] at hi; rw [getD_take hi]; exact h i hi j (by rw [hl.1] at hj; exact hj)
  generalize tw (S.take k) z = r at *
  clear hz hlen hl hkl
  go_enter Try.func39, Try.ntmps39
  go_wp2
  go_loopw [7] (fun v wr => ∃ i : Nat, i ≤ k ∧ v = .int .i64 i ∧ Hid (∀ i', i' < i → ∀ j, j < l → (S.getD i' []).contains (z.getD j 0) = false) ∧ Below w.heap.size w wr) (fun i _ => k - (intOf i).toNat)
  case atStart => exact ⟨0, by omega, rfl, Lib.hid (by intro j hj; omega), Below.refl _ _⟩
  case round =>
    obtain ⟨i, hi, rfl, hii, hb⟩ := hrel
    by_cases hlt : i < k
    · obtain ⟨g, o, rfl, _, hg, hc⟩ := HC.out (by omega)
      obtain ⟨a1, l1, m1, hl1, hlm, han, hus, _, _, hcell⟩ := hc i (by omega)
      have hll := getD_len HLEN.out i
      rw [hl1] at hll
      have e2 : (i : Int) < k := by omega
      have e3 : IntKind.i64.wrap ((i : Int) + 1) = ((i + 1 : Nat) : Int) := IntWalk.i64_in _ (by omega)
      have HCELL := Lib.hid hcell
      have HUS := Lib.hid hus
      have HR1 := Lib.hid (HYES.out i hlt)
      have HB := Lib.hid hb
      have HN : i < n := by omega
      clear hc hus hcell han hl1 hb
      go_wp2
      go_loopw [8] (fun v wr => ∃ j : Nat, j ≤ l ∧ v = .int .i64 j ∧ Hid (∀ j', j' < j → (S.getD i []).contains (z.getD j' 0) = false) ∧ Below w.heap.size w wr) (fun i _ => l - (intOf i).toNat)
      case atStart => exact ⟨0, by omega, rfl, Lib.hid (by intro j hj; omega), HB.out⟩
      case round =>
        obtain ⟨j, hj, rfl, hjj, hb⟩ := hrel
        by_cases hjt : j < l
        · obtain ⟨g2, o2, rfl, hg2, hc2⟩ := HC2.out (by omega)
          have f2 : (j : Int) < l := by omega
          have f3 : IntKind.i64.wrap ((j : Int) + 1) = ((j + 1 : Nat) : Int) := IntWalk.i64_in _ (by omega)
          obtain ⟨x, hx⟩ : ∃ x, x = z.getD j 0 := ⟨_, rfl⟩
          have L1 : ∀ w', Below w.heap.size w w' → w'.cell? ⟨g2, o2 + j, none⟩ = some (.int .u64 x) := fun w' h => by rw [hx]; exact hc2 w' h j hjt
          have L2 : ∀ w', Below w.heap.size w w' → w'.cell? ⟨g, o + i, none⟩ = some (.slice a1 l1 m1) := fun w' h => HCELL.out w' h
          have HX := Lib.hid hx
          have hcon := fun w' (h : Below w.heap.size w w') => rhas_any a1 l1 m1 (S.getD i []) x w' (HUS.out.below h) hll
          have HRJ := Lib.hid (HR1.out j hjt)
          rw [← HX.out] at HRJ
          obtain ⟨v, hv⟩ : ∃ v, v = (S.getD i []).contains x := ⟨_, rfl⟩
          rw [← hv] at hcon HRJ
          have HV := Lib.hid hv
          have HCON := Lib.hid hcon
          clear hx hv hcon hc2
          have hS := hb.trans ((below_one' _).mono hb.size)
          go_wp2
          refine Seq.wp_region_seq (fun w' => Below w.heap.size w w') (by kernel_rfl) (by kernel_rfl) hS ?_
          repeat (first | (refine Seq.Seq.skip (by rfl) ?_; (try simp only [Act.put, List.setIfInBounds_toArray, List.set_cons_zero, List.set_cons_succ])) | (refine Seq.Seq.det ?_ (by rfl) (fun w hS => ?_) ?_; rotate_left; ((try dsimp only at hS); go_simp; (try rw [if_pos (by omega)]); with_reducible rfl); (try simp only [Act.put, List.setIfInBounds_toArray, List.set_cons_zero, List.set_cons_succ])))
          refine Seq.Seq.make (by rfl) (by rfl) (fun K Q' hK => ?_)
          go_simp
          go_at_call 30
          with_reducible refine (HCON.out _ hS).mono ?_
          rintro e w5 ⟨rfl, hb5⟩
          replace hS := hS.trans (hb5.mono hS.size)
          refine hK.out _ _ (hS) ?_
          clear hK K
          try simp only [Act.put, List.setIfInBounds_toArray, List.set_cons_zero, List.set_cons_succ]
          repeat (first | (refine Seq.Seq.skip (by rfl) ?_; (try simp only [Act.put, List.setIfInBounds_toArray, List.set_cons_zero, List.set_cons_succ])) | (refine Seq.Seq.det ?_ (by rfl) (fun w hS => ?_) ?_; rotate_left; ((try dsimp only at hS); go_simp; (try rw [if_pos (by omega)]); with_reducible rfl); (try simp only [Act.put, List.setIfInBounds_toArray, List.set_cons_zero, List.set_cons_succ])))
          refine Seq.Seq.nil ?_
          have HB2 := Lib.hid hS
          clear hb5 hS hb L1 L2
          cases v
          · go_wp2
            go_roundw
            case rel => exact ⟨j + 1, by omega, by go_num, Lib.hid (fun j' hj' => by
              rcases Nat.lt_or_ge j' j with h | h
              · exact hjj.out j' h
              · obtain rfl : j' = j := by omega
                rw [← HX.out]; exact HV.out.symm), HB2.out⟩
            case measure => simp [intOf]; omega
          · have HR := Lib.hid (HRJ.out rfl)
            go_wp2
            go_ret
            exact ⟨by rw [HR.out]; rfl, HB2.out⟩
        · obtain rfl : j = l := by omega
          clear hjt
          go_wp2
          go_roundw
          case rel => exact ⟨i + 1, by omega, by go_num, Lib.hid (fun i' hi' => by
            rcases Nat.lt_or_ge i' i with h | h
            · exact hii.out i' h
            · obtain rfl : i' = i := by omega
              exact hjj.out), hb⟩
          case measure => simp [intOf]; omega
    · obtain rfl : i = k := by omega
      go_wp2
      go_ret
      exact ⟨by rw [HNO.out hii.out]; rfl, hb⟩

theorem sok_all : ∀ (S A : List (List Int)), sok A S = (List.range S.length).all fun i => seok (A ++ S.take i) (S.getD i [])
  | [], A => rfl
  | l :: S, A => by
    unfold sok
    rw [sok_all S (A ++ [l]), List.length_cons, List.range_succ_eq_map, List.all_cons, List.all_map]
    have e : ((fun i => seok (A ++ (l :: S).take i) ((l :: S).getD i [])) ∘ Nat.succ) = fun i => seok (A ++ [l] ++ S.take i) (S.getD i []) := by
      funext i
      simp [List.getD_eq_getElem?_getD]
    rw [e]
    simp
theorem sok_yes {S : List (List Int)} (h : ∀ i, i < S.length → seok (S.take i) (S.getD i []) = true) : sok [] S = true := by
  rw [sok_all, List.all_eq_true]
  intro i hi
  rw [List.nil_append]; exact h i (List.mem_range.1 hi)
theorem sok_no {S : List (List Int)} {i : Nat} (hi : i < S.length) (h : seok (S.take i) (S.getD i []) = false) : sok [] S = false := by
  cases e : sok [] S with
  | false => rfl
  | true =>
    rw [sok_all, List.all_eq_true] at e
    have := e i (List.mem_range.2 hi)
    rw [List.nil_append, h] at this; cases this

set_option maxHeartbeats 4000000 in
theorem rright19_any (P : Nat → Prop) (f t : Int) (A : Option Addr) (n m : Nat) (S : List (List Int)) (w : World) (hz : Sts w P A n S) (hm : n ≤ m) (hn : n ≤ 1000000) (hlen : ∀ l ∈ S, l.length ≤ 1000000) :
    Calls Try.prog 15 #[stagg f t A n m] w (BPost (.bool (stok (f, t, S))) w) := by
  have hX := Blk.new w (stc f t A n m) 25
  have hb := below_one w (.cells (stc f t A n m) 25)
  obtain ⟨x0, x1, x2⟩ := hX.c3
  unfold BPost
  have HV : Hid (stok (f, t, S) = (decide (f < t) && decide (t ≤ 4611686018427387904) && decide (1 ≤ n) && decide (n ≤ 8) && sok [] S)) := Lib.hid (by unfold stok; simp only [hz.1])
  have HL := Lib.hid hz.1
  generalize stok (f, t, S) = V at *
  by_cases h1 : t ≤ f
  · have HVV : Hid (V = false) := Lib.hid (by rw [HV.out, decide_eq_false (show ¬ f < t by omega)]; simp)
    clear hX hz hlen
    go_enter Try.func15, Try.ntmps15
    go_wp2
    go_ret
    exact ⟨by rw [HVV.out]; rfl, hb⟩
  by_cases h2 : 4611686018427387904 < t
  · have HVV : Hid (V = false) := Lib.hid (by rw [HV.out, decide_eq_false (show ¬ t ≤ 4611686018427387904 by omega)]; simp)
    clear hX hz hlen
    go_enter Try.func15, Try.ntmps15
    go_wp2
    go_ret
    exact ⟨by rw [HVV.out]; rfl, hb⟩
  by_cases h3 : n < 1
  · have HVV : Hid (V = false) := Lib.hid (by rw [HV.out, decide_eq_false (show ¬ 1 ≤ n by omega)]; simp)
    clear hX hz hlen
    go_enter Try.func15, Try.ntmps15
    go_wp2
    go_ret
    exact ⟨by rw [HVV.out]; rfl, hb⟩
  by_cases h4 : 8 < n
  · have HVV : Hid (V = false) := Lib.hid (by rw [HV.out, decide_eq_false (show ¬ n ≤ 8 by omega)]; simp)
    clear hX hz hlen
    go_enter Try.func15, Try.ntmps15
    go_wp2
    go_ret
    exact ⟨by rw [HVV.out]; rfl, hb⟩
  have HVV : Hid (V = sok [] S) := Lib.hid (by rw [HV.out, decide_eq_true (by omega), decide_eq_true (by omega), decide_eq_true (by omega), decide_eq_true (by omega)]; simp)
  clear HV
  have HC := Lib.hid ((hz.below hb).cells (by omega))
  have HZ := Lib.hid (hz.below hb)
  have HLEN := Lib.hid hlen
  have HNO := Lib.hid (fun i h => sok_no (S := S) (i := i) h)
  have HYES := Lib.hid (sok_yes (S := S))
  generalize sok [] S = r at *
  obtain rfl := HVV.out
  clear hz hlen x0 x1 x2 HVV
  obtain ⟨g, o, rfl, _, hg, hc⟩ := HC.out
  have HC2 := Lib.hid hc
  have HX := Lib.hid hX
  obtain ⟨x0, x1, x2⟩ := hX.c3
  clear hc HC hX
  go_enter Try.func15, Try.ntmps15
  go_wp2
  clear x0 x1 x2
  generalize w.alloc (.cells (stc f t (some ⟨g, o, none⟩) n m) 25) = w0 at *
  go_loopw [3] (fun i wr => ∃ k : Nat, k ≤ n ∧ i = .int .i64 k ∧ Hid (∀ j, j < k → seok (S.take j) (S.getD j []) = true) ∧ Below w0.heap.size w0 wr) (fun i _ => n - (intOf i).toNat)
  case atStart => exact ⟨0, by omega, rfl, Lib.hid (by intro j hj; omega), Below.refl _ _⟩
  case round =>
    obtain ⟨k, hk, rfl, hj, hb0⟩ := hrel
    obtain ⟨x0, x1, x2⟩ := (HX.out.below hb0).c3
    by_cases hlt : k < n
    · obtain ⟨a, l, mm, hl, hlm, han, hus, _, hby, hcell⟩ := HC2.out k hlt
      have c0 := hcell wr hb0
      have hll := getD_len HLEN.out k
      rw [hl] at hll
      have HR1 := Lib.hid (HNO.out k (by rw [HL.out]; exact hlt))
      have e2 : (k : Int) < n := by omega
      have e3 : IntKind.i64.wrap ((k : Int) + 1) = ((k + 1 : Nat) : Int) := IntWalk.i64_in _ (by omega)
      have hrcon := rrises_any a l mm (S.getD k []) wr (hus.below hb0) hll hby
      have htcon := fun w' (h : Below w0.heap.size w0 w') => rtwice_any P (some ⟨g, o, none⟩) n m S k a l mm (S.getD k []) w' (HZ.out.below h) (by omega) hn HLEN.out (hus.below h) hll
      unfold BPost at hrcon htcon
      have HF : Hid (seok (S.take k) (S.getD k []) = (decide (1 ≤ l) && decide (l ≤ 8) && risesB (S.getD k []) && decide ((S.getD k []).getD (l - 1) 0 < 4294967296) && !tw (S.take k) (S.getD k []))) := Lib.hid (by unfold seok; rw [hl])
      have HJ := Lib.hid (fun (h : seok (S.take k) (S.getD k []) = true) (i : Nat) (hi : i < k + 1) => show seok (S.take i) (S.getD i []) = true by
        rcases Nat.lt_or_ge i k with h2 | h2
        · exact hj.out i h2
        · obtain rfl : i = k := by omega
          exact h)
      have HU := Lib.hid (fun (h : 0 < l) => (hus.cells h))
      generalize seok (S.take k) (S.getD k []) = fv at *
      generalize risesB (S.getD k []) = rv at *
      generalize tw (S.take k) (S.getD k []) = tv at *
      obtain ⟨y, hy⟩ : ∃ y, y = (S.getD k []).getD (l - 1) 0 := ⟨_, rfl⟩
      rw [← hy] at HF
      have HY := Lib.hid hy
      clear hl hus hby hcell hj hy
      by_cases h5 : l < 1
      · have HR := Lib.hid (HR1.out (by rw [HF.out, decide_eq_false (by omega)]; simp))
        clear hrcon htcon
        go_wp2
        go_ret
        exact ⟨by rw [HR.out]; rfl, hb.trans (hb0.mono hb.size)⟩
      by_cases h6 : 8 < l
      · have HR := Lib.hid (HR1.out (by rw [HF.out, decide_eq_false (show ¬ l ≤ 8 by omega)]; simp))
        clear hrcon htcon
        go_wp2
        go_ret
        exact ⟨by rw [HR.out]; rfl, hb.trans (hb0.mono hb.size)⟩
      have HF2 : Hid (fv = (rv && decide (y < 4294967296) && !tv)) := Lib.hid (by rw [HF.out, decide_eq_true (by omega), decide_eq_true (by omega)]; simp)
      obtain ⟨g2, o2, rfl, hg2, hc2⟩ := HU.out (by omega)
      cases rv
      · have HR := Lib.hid (HR1.out (by rw [HF2.out]; rfl))
        clear htcon hc2
        go_wp2_with fail
        refine hrcon.mono ?_
        rintro e w1 ⟨rfl, hb1⟩
        have HB1 := Lib.hid (hb.trans ((hb0.trans (hb1.mono hb0.size)).mono hb.size))
        clear hrcon hb1 c0
        go_wp2
        go_ret
        exact ⟨by rw [HR.out]; rfl, HB1.out⟩
      · go_wp2_with fail
        refine hrcon.mono ?_
        rintro e w1 ⟨rfl, hb1⟩
        have hb2 := hb0.trans (hb1.mono hb0.size)
        have c1 := hc2 w1 hb2 (l - 1) (by omega)
        rw [← HY.out] at c1
        have e4 : IntKind.i64.wrap ((l : Int) - 1) = ((l - 1 : Nat) : Int) := by rw [IntWalk.i64_in _ (by omega)]; omega
        have e5 : ((l - 1 : Nat) : Int) < l := by omega
        replace htcon := htcon w1 hb2
        clear hrcon hb1 c0 x0 x1 x2 hc2
        obtain ⟨x0, x1, x2⟩ := (HX.out.below hb2).c3
        by_cases h7 : 4294967296 ≤ y
        · have HR := Lib.hid (HR1.out (by rw [HF2.out, decide_eq_false (show ¬ y < 4294967296 by omega)]; simp))
          clear htcon
          go_wp2
          go_ret
          exact ⟨by rw [HR.out]; rfl, hb.trans (hb2.mono hb.size)⟩
        · go_wp2_with fail
          refine htcon.mono ?_
          rintro e w2 ⟨rfl, hb3⟩
          have HB := Lib.hid (hb2.trans (hb3.mono hb2.size))
          clear htcon hb2 hb3
          cases tv
          · have HJ2 := Lib.hid (HJ.out (by rw [HF2.out, decide_eq_true (by omega)]; rfl))
            go_wp2
            go_roundw
            case rel => exact ⟨k + 1, by omega, by go_num, HJ2, HB.out⟩
            case measure => simp [intOf]; omega
          · have HR := Lib.hid (HR1.out (by rw [HF2.out]; simp))
            go_wp2
            go_ret
            exact ⟨by rw [HR.out]; rfl, hb.trans (HB.out.mono hb.size)⟩
    · obtain rfl : k = n := by omega
      go_wp2
      go_ret
      exact ⟨by rw [HYES.out (fun i hi => hj.out i (by rw [HL.out] at hi; exact hi))]; rfl, hb.trans (hb0.mono hb.size)⟩
end Go.Proofs.Ytpoicagalmhfdaa.Cur
