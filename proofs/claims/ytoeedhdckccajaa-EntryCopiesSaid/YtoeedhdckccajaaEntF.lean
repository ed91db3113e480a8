/- Entries: sizes that fit; pieces of bytes; two rows are the same by the document. -/
import Derived.Test.YtoeedhdckccajaaEntE
import Derived.Test.YtoeedhdckccajaaK1
namespace Go.Proofs.Ytoeedhdckccajaa.Cur
open Go.RowKit Mem Go.ChangeShapes Go.WideShapes
set_option linter.unusedVariables false
set_option maxRecDepth 100000


abbrev iv (z : List Int) : List Value := z.map (Value.int .i64)
def Is (w : World) (A : Option Addr) (n : Nat) (z : List Int) : Prop := z.length = n ∧ Rw w A (iv z)
theorem Is.below {w w' : World} {A : Option Addr} {n : Nat} {z : List Int} (h : Is w A n z) (hb : Below w.heap.size w w') : Is w' A n z := ⟨h.1, h.2.below hb⟩
theorem Is.at_ {w : World} {A : Option Addr} {n : Nat} {z : List Int} (h : Is w A n z) {k : Nat} (hk : k < n) : ∃ g o, A = some ⟨g, o, none⟩ ∧ w.cell? ⟨g, o + k, none⟩ = some (.int .i64 (z.getD k 0)) := by
  have hz : k < z.length := by rw [h.1]; exact hk
  refine h.2.at_ ?_
  rw [List.getElem?_map, List.getElem?_eq_getElem hz, List.getD_eq_getElem?_getD, List.getElem?_eq_getElem hz]
  rfl
section
variable {H : Type} {enc : TypeId × Value → H} {w : World} {base : Nat} {v : Value} {d : DataW H} {p : List MemPlace}
theorem open_i64s (g : Value.okWide Try.prog w .any base 55 v) (h : DataW.Trod enc Try.prog w 0 (fun _ => true) true 55 v d p) :
    ∃ A n m z, v = .slice A n m ∧ n ≤ m ∧ Is w A n z ∧ (∀ x ∈ z, -9223372036854775808 ≤ x ∧ x ≤ 9223372036854775807) ∧ (A = none → m = 0) := by
  obtain ⟨A, n, m, rfl⟩ := okWide_slice Try.underlying55 g
  obtain ⟨fuel, hf⟩ := h
  rcases open_ints Try.underlying55 Try.underlying3 (by kernel_rfl) hf with ⟨hcs, _⟩ | ⟨x, l, c, zs, hcs, _, hl, hm, hz, _, hcell, hwz⟩
  · simp [Value.cells] at hcs
    obtain ⟨rfl, rfl, rfl⟩ := hcs
    exact ⟨none, 0, 0, [], rfl, Nat.le_refl _, ⟨rfl, Rw.nil _ _⟩, fun x h => by simp at h, fun _ => rfl⟩
  · simp [Value.cells] at hcs
    obtain ⟨rfl, rfl, rfl⟩ := hcs
    have hz' : zs.length = m := by simpa using hz
    refine ⟨some x, n, m, zs.take n, rfl, hl, ⟨by rw [List.length_take]; omega, fun hn => ?_⟩, fun y hy => ?_, fun e => by cases e⟩
    · rw [List.length_map, List.length_take] at hn
      obtain ⟨b, off, spot⟩ := x
      have hc := hcell 0 (by omega)
      have hspot : spot = none := by simpa [Addr.add] using World.cell?_spot hc
      subst hspot
      refine ⟨b, off, rfl, fun i x hx => ?_⟩
      rw [List.getElem?_map, Option.map_eq_some_iff] at hx
      obtain ⟨x, hx, rfl⟩ := hx
      have hi : i < n := by have := (List.getElem?_eq_some_iff.1 hx).1; rw [List.length_take] at this; omega
      rw [List.getElem?_take_of_lt hi] at hx
      have := hcell i (by omega)
      rw [List.getD_eq_getElem?_getD, hx] at this
      rw [← show (⟨b, off, none⟩ : Addr).add i = ⟨b, off + i, none⟩ by unfold Addr.add; split <;> simp_all]
      exact this
    · have h2 := bounds_i64 (hwz y (List.mem_of_mem_take hy))
      omega
end
/-- Where the k-th piece begins. -/
def ofs (S : List Int) : Nat → Nat
  | 0 => 0
  | k + 1 => ofs S k + (S.getD k 0).toNat
theorem ofs_mono (S : List Int) {k n : Nat} (h : k ≤ n) : ofs S k ≤ ofs S n := by
  induction n with
  | zero => obtain rfl : k = 0 := by omega
            exact Nat.le_refl _
  | succ n ih =>
    rcases Nat.lt_or_ge n k with h2 | h2
    · obtain rfl : k = n + 1 := by omega
      exact Nat.le_refl _
    · show ofs S k ≤ ofs S n + _; have := ih h2; omega
/-- None is negative, and they make x. -/
def Fits (S : List Int) (n x : Nat) : Prop := (∀ j, j < n → 0 ≤ S.getD j 0 ∧ ofs S (j + 1) ≤ x) ∧ ofs S n = x
def FitPost (S : List Int) (n x : Nat) (w : World) (e : Ending) (w' : World) : Prop := ∃ b, e = .returned (.bool b) ∧ Below w.heap.size w w' ∧ (b = true → Fits S n x) ∧ (b = false → ¬ Fits S n x)
set_option maxHeartbeats 2000000 in
theorem fit_any (A : Option Addr) (n m x : Nat) (S : List Int) (w : World) (hz : Is w A n S) (hn : n ≤ 1000000) (hx : x ≤ 1000000) (hb : ∀ y ∈ S, -9223372036854775808 ≤ y ∧ y ≤ 9223372036854775807) :
    Calls Try.prog 51 #[.slice A n m, .int .i64 x] w (FitPost S n x w) := by
  have HC := Lib.hid (fun k (h : k < n) => hz.at_ h)
  have HW := Lib.hid (fun w' (h : Below w.heap.size w w') k (hk : k < n) => (hz.below h).at_ hk)
  clear hz
  go_enter Try.func51, Try.ntmps51
  go_wp2
  go_loopw [1, 9] (fun t i wr => ∃ k u : Nat, k ≤ n ∧ t = .int .i64 u ∧ i = .int .i64 k ∧ Hid (u + ofs S k = x ∧ ∀ j, j < k → 0 ≤ S.getD j 0 ∧ ofs S (j + 1) ≤ x) ∧ Below w.heap.size w wr) (fun _ i _ => n - (intOf i).toNat)
  case atStart => exact ⟨0, x, by omega, rfl, rfl, Lib.hid ⟨rfl, fun j hj => by omega⟩, Below.refl _ _⟩
  case round =>
    obtain ⟨k, u, hk, rfl, rfl, HI, hbd⟩ := hrel
    have hux : u ≤ x := by have := HI.out.1; omega
    by_cases hlt : k < n
    · have ek : (k : Int) < n := by omega
      have e3 : IntKind.i64.wrap ((k : Int) + 1) = ((k + 1 : Nat) : Int) := IntWalk.i64_in _ (by omega)
      obtain ⟨g, o, hA, hcell⟩ := HW.out wr hbd k hlt
      subst hA
      have HSN := Lib.hid (show ofs S (k + 1) = ofs S k + (S.getD k 0).toNat from rfl)
      obtain ⟨s, hs⟩ : ∃ s, s = S.getD k 0 := ⟨_, rfl⟩
      rw [← hs] at hcell HSN
      have HS := Lib.hid hs
      clear hs
      by_cases h0 : s < 0
      · have HF : Hid (¬ Fits S n x) := Lib.hid fun h => by have := (h.1 k hlt).1; rw [← HS.out] at this; omega
        go_wp2
        go_ret
        exact ⟨false, rfl, hbd, fun h => (by cases h), fun _ => HF.out⟩
      · by_cases h1 : s > (u : Int)
        · have HF : Hid (¬ Fits S n x) := Lib.hid fun h => by have := (h.1 k hlt).2; rw [HSN.out] at this; have := HI.out.1; omega
          go_wp2
          go_ret
          exact ⟨false, rfl, hbd, fun h => (by cases h), fun _ => HF.out⟩
        · obtain ⟨v, rfl⟩ := Int.eq_ofNat_of_zero_le (show 0 ≤ s by omega)
          have e4 : IntKind.i64.wrap ((u : Int) - (v : Int)) = ((u - v : Nat) : Int) := by rw [IntWalk.i64_in _ (by omega)]; omega
          have h1' : ¬ ((v : Int) > (u : Int)) := h1
          have HI2 : Hid (u - v + ofs S (k + 1) = x ∧ ∀ j, j < k + 1 → 0 ≤ S.getD j 0 ∧ ofs S (j + 1) ≤ x) := Lib.hid ⟨by rw [HSN.out]; have := HI.out.1; simp; omega, fun j hj => by
            rcases Nat.lt_or_ge j k with h | h
            · exact HI.out.2 j h
            · obtain rfl : j = k := by omega
              rw [HSN.out, ← HS.out]; have := HI.out.1; simp; omega⟩
          go_wp2
          go_roundw
          case rel => exact ⟨k + 1, u - v, by omega, by go_num, by go_num, HI2, hbd⟩
          case measure => simp [intOf]; omega
    · obtain rfl : k = n := by omega
      rcases Nat.eq_zero_or_pos u with h0 | h0
      · subst h0
        have HF : Hid (Fits S k x) := Lib.hid ⟨HI.out.2, by have := HI.out.1; omega⟩
        go_wp2
        go_ret
        exact ⟨true, rfl, hbd, fun _ => HF.out, fun h => by cases h⟩
      · have e4 : ((u : Int) == 0) = false := by simp; omega
        have HF : Hid (¬ Fits S k x) := Lib.hid fun h => by have := h.2; have := HI.out.1; omega
        go_wp2
        go_ret
        exact ⟨false, rfl, hbd, fun h => (by cases h), fun _ => HF.out⟩
/-- A piece of bytes. -/
theorem Bs.mid {w : World} {A : Option Addr} {n : Nat} {z : List Int} (h : Bs w A n z) (l k : Nat) (hk : l + k ≤ n) : Bs w (if k = 0 then A else A.map (·.add l)) k ((z.drop l).take k) := by
  refine ⟨by rw [List.length_take, List.length_drop, h.1]; omega, fun h0 => ?_⟩
  obtain ⟨g, o, e, hc⟩ := h.2 (by omega)
  rw [if_neg (by omega)]
  subst e
  refine ⟨g, o + l, by simp [Addr.add], fun i x hx => ?_⟩
  have hi : i < k := by have := (List.getElem?_eq_some_iff.1 hx).1; rw [List.length_take] at this; omega
  rw [List.getElem?_take_of_lt hi, List.getElem?_drop] at hx
  rw [Nat.add_assoc]
  exact hc (l + i) x hx
theorem mid_none {A : Option Addr} {n : Nat} {z : List Int} {w : World} (h : Bs w A n z) {l k : Nat} (hk : l + k ≤ n) : (if k = 0 then A else A.map (·.add l)) = none → k = 0 := by
  intro e
  split at e
  · assumption
  · obtain ⟨g, o, e2, _⟩ := h.2 (by omega)
    rw [e2] at e
    cases e
theorem mid_block {A : Option Addr} {k l : Nat} {a : Addr} (e : (if k = 0 then A else A.map (·.add l)) = some a) : ∃ b, A = some b ∧ b.block = a.block := by
  split at e
  · exact ⟨a, e, rfl⟩
  · cases A with
    | none => cases e
    | some b =>
      refine ⟨b, rfl, ?_⟩
      injection e with e
      rw [← e]
      unfold Addr.add
      split <;> rfl
theorem slice_lhm8 (A : Option Addr) (n c l k : Nat) (hc : l + k ≤ c) (w' : World) : (Instr.slice 24 (.slice A n c) (some (.int .i64 (l : Int))) (some (.int .i64 ((l + k : Nat) : Int))) (some (.int .i64 ((l + k : Nat) : Int)))).run Try.prog w' = .ok (.slice (if k = 0 then A else A.map (·.add l)) k k) w' := by
  have hs : ∀ w', (sizeOf 5).run Try.prog w' = .ok 1 w' := fun w' => by kernel_rfl
  have he : Try.prog.elem 24 = 5 := by kernel_rfl
  have := run_slice_lhm (P := Try.prog) (w := w') 24 A n c (by rw [he]; exact Try.underlying24) .i64 .i64 .i64 (l : Int) ((l + k : Nat) : Int) ((l + k : Nat) : Int) (by omega) (by omega) (by omega) (by omega)
  rw [this, he, hs]
  simp only [Result.andThen, sliced, Int.toNat_natCast, Nat.mul_one, Nat.add_sub_cancel_left]
  by_cases h0 : k = 0
  · subst h0; simp
  · rw [if_neg (by omega), if_neg h0]
theorem slice_lh8 (A : Option Addr) (n c l k : Nat) (hc : l + k ≤ n) (hn : n ≤ c) (w' : World) : ∃ A' c', (Instr.slice 24 (.slice A n c) (some (.int .i64 (l : Int))) (some (.int .i64 ((l + k : Nat) : Int))) none).run Try.prog w' = .ok (.slice A' k c') w' ∧ (A' = A ∨ A' = A.map (·.add l)) ∧ (k ≠ 0 → A' = A.map (·.add l)) ∧ A' = (if c = l then A else A.map (·.add l)) ∧ c' = c - l := by
  have hs : ∀ w', (sizeOf 5).run Try.prog w' = .ok 1 w' := fun w' => by kernel_rfl
  have he : Try.prog.elem 24 = 5 := by kernel_rfl
  have := run_slice_lh (P := Try.prog) (w := w') 24 A n c (by rw [he]; exact Try.underlying24) .i64 .i64 (l : Int) ((l + k : Nat) : Int) (by omega) (by omega) (by omega)
  refine ⟨if c = l then A else A.map (·.add l), c - l, ?_, ?_, ?_, rfl, rfl⟩
  · rw [this, he, hs]
    simp only [Result.andThen, sliced, Int.toNat_natCast, Nat.mul_one, Nat.add_sub_cancel_left]
  · split
    · exact .inl rfl
    · exact .inr rfl
  · intro h; rw [if_neg (by omega)]

def EnS (w w' : World) : Prop := Below w.heap.size w w'
set_option maxHeartbeats 4000000 in
theorem rall_any (P Q : Nat → Prop) (A B : Option Addr) (n m c d : Nat) (L M : List En) (w : World) (ha : Ens w P A n L) (hb : Ens w Q B m M) (hn : n ≤ 1000000) (hm : m ≤ 1000000) (h1 : esm L) (h2 : esm M) :
    Calls Try.prog 29 #[.slice A n c, .slice B m d] w (BPost (.bool (decide (L = M))) w) := by
  unfold BPost
  have HL := Lib.hid ha.1
  have HL2 := Lib.hid hb.1
  have HN1 := Lib.hid h1
  have HN2 := Lib.hid h2
  have HC := Lib.hid (fun h => ha.cells h)
  have HC2 := Lib.hid (fun h => hb.cells h)
  have HYES := Lib.hid (lq_yes (d := en0) (x := L) (y := M))
  have HLEN := Lib.hid (lq_len (x := L) (y := M))
  have HNO := Lib.hid (fun i => lq_at (d := en0) (x := L) (y := M) i)
  generalize decide (L = M) = r at *
  clear ha hb h1 h2
  by_cases hnm : n = m
  case neg =>
    have hb2 : ((n : Int) != (m : Int)) = true := by simp; omega
    have HR := Lib.hid (HLEN.out (by rw [HL.out, HL2.out]; exact hnm))
    go_enter Try.func29, Try.ntmps29
    go_wp2
    go_ret
    exact ⟨by rw [HR.out]; rfl, Below.refl _ _⟩
  subst hnm
  have hb2 : ((n : Int) != (n : Int)) = false := by simp
  go_enter Try.func29, Try.ntmps29
  go_wp2
  go_loopw [5] (fun i wr => ∃ k : Nat, k ≤ n ∧ i = .int .i64 k ∧ Hid (∀ j, j < k → L.getD j en0 = M.getD j en0) ∧ Below w.heap.size w wr) (fun i _ => n - (intOf i).toNat)
  case atStart => exact ⟨0, by omega, rfl, Lib.hid (by intro j hj; omega), Below.refl _ _⟩
  case round =>
    obtain ⟨k, hk, rfl, hj, hb⟩ := hrel
    by_cases hlt : k < n
    · obtain ⟨g, o, rfl, _, hg, hc⟩ := HC.out (by omega)
      obtain ⟨g', o', rfl, _, hg', hc'⟩ := HC2.out (by omega)
      obtain ⟨K, D, a1, l1, m1, b1, r1, k1, he1, _, _, hks1, _, _, hbs1, hbb1, _, hcell1⟩ := hc k hlt
      obtain ⟨K2, D2, a2, l2, m2, b2, r2, k2, he2, _, _, hks2, _, _, hbs2, hbb2, _, hcell2⟩ := hc' k hlt
      have hp1 := HN1.out k
      have hp2 := HN2.out k
      have HNK := Lib.hid (HNO.out k)
      have HEQ : Hid (((K, D) : En) = (K2, D2) → L.getD k en0 = M.getD k en0) := Lib.hid (by rw [he1, he2]; exact id)
      rw [he1, he2] at HNK
      rw [he1] at hp1
      rw [he2] at hp2
      dsimp only at hp1 hp2
      have ek : (k : Int) < n := by omega
      have e3 : IntKind.i64.wrap ((k : Int) + 1) = ((k + 1 : Nat) : Int) := IntWalk.i64_in _ (by omega)
      have hbA := hb.trans ((below_one' wr).mono hb.size)
      have hS : EnS w wr.drew := hbA
      have L1 : ∀ w', EnS w w' → w'.cell? ⟨g, o + k * 2, none⟩ = some (.slice a1 l1 m1) ∧ w'.cell? ⟨g, o + k * 2 + 1, none⟩ = some (.slice b1 r1 k1) := fun w' h => hcell1 w' h
      have L2 : ∀ w', EnS w w' → w'.cell? ⟨g', o' + k * 2, none⟩ = some (.slice a2 l2 m2) ∧ w'.cell? ⟨g', o' + k * 2 + 1, none⟩ = some (.slice b2 r2 k2) := fun w' h => hcell2 w' h
      have hcon := rensame_any P Q a1 a2 b1 b2 l1 l2 m1 m2 r1 r2 k1 k2 K K2 D D2 wr.drew (hks1.below hbA) (hks2.below hbA) (by rw [← hks1.1]; omega) (by rw [← hks2.1]; omega) (hp1.2.1.le (by omega)) (hp2.2.1.le (by omega)) (hbs1.below hbA) (hbs2.below hbA) hbb1 hbb2
      have HDEC : Hid (decide (((K, D) : En) = (K2, D2)) = true ↔ ((K, D) : En) = (K2, D2)) := Lib.hid decide_eq_true_iff
      unfold BPost at hcon
      generalize decide (((K, D) : En) = (K2, D2)) = dv at *
      clear hc hc' hks1 hks2 hbs1 hbs2 hbb1 hbb2 hcell1 hcell2 he1 he2 hp1 hp2 hb hbA
      go_wp2
      refine Seq.wp_region_seq (EnS w) (by kernel_rfl) (by kernel_rfl) hS ?_
      repeat (first | (refine Seq.Seq.skip (by rfl) ?_; (try simp only [Act.put, List.setIfInBounds_toArray, List.set_cons_zero, List.set_cons_succ])) | (refine Seq.Seq.det ?_ (by rfl) (fun w hS => ?_) ?_; rotate_left; ((try dsimp only at hS); go_simp; (try rw [if_pos (by omega)]); with_reducible rfl); (try simp only [Act.put, List.setIfInBounds_toArray, List.set_cons_zero, List.set_cons_succ])))
      refine Seq.Seq.make (by rfl) (by rfl) (fun K Q' hK => ?_)
      go_simp
      go_at_call 21
      refine hcon.mono ?_
      rintro en v1 ⟨rfl, hc1⟩
      have hS2 : EnS w v1 := Below.trans hS (hc1.mono (show w.heap.size ≤ wr.drew.heap.size from Below.size hS))
      clear hc1 hcon
      refine hK.out _ _ (hS2) ?_
      clear hK K
      try simp only [Act.put, List.setIfInBounds_toArray, List.set_cons_zero, List.set_cons_succ]
      repeat (first | (refine Seq.Seq.skip (by rfl) ?_; (try simp only [Act.put, List.setIfInBounds_toArray, List.set_cons_zero, List.set_cons_succ])) | (refine Seq.Seq.det ?_ (by rfl) (fun w hS => ?_) ?_; rotate_left; ((try dsimp only at hS); go_simp; (try rw [if_pos (by omega)]); with_reducible rfl); (try simp only [Act.put, List.setIfInBounds_toArray, List.set_cons_zero, List.set_cons_succ])))
      refine Seq.Seq.nil ?_
      have hbd : Below w.heap.size w v1 := hS2
      clear L1 L2 hS hS2
      cases dv
      · have HR := Lib.hid (HNK.out (fun e => by have := HDEC.out.2 e; cases this))
        go_wp2
        go_ret
        exact ⟨by rw [HR.out]; rfl, hbd⟩
      · have HE := Lib.hid (HEQ.out (HDEC.out.1 rfl))
        go_wp2
        go_roundw
        case rel => exact ⟨k + 1, by omega, by go_num, Lib.hid (fun j hjk => by
          rcases Nat.lt_or_ge j k with h | h
          · exact hj.out j h
          · obtain rfl : j = k := by omega
            exact HE.out), hbd⟩
        case measure => simp [intOf]; omega
    · obtain rfl : k = n := by omega
      go_wp2
      go_ret
      exact ⟨by rw [HYES.out (by rw [HL.out, HL2.out]) (fun i hi => hj.out i (by rw [HL.out] at hi; exact hi))]; rfl, hb⟩
end Go.Proofs.Ytoeedhdckccajaa.Cur
