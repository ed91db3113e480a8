/- As the seat's text, without what nothing here names. -/
import Derived.Test.YtmiimjgfainclaaGreatK14w
import Derived.Test.YtmiimjgfainclaaGreatK1w
import Derived.Test.YtmiimjgfainclaaGreatShelfw
import Derived.Lib.Bytes
import Derived.Lib.SmallJoins
namespace Go.Proofs.YtmiimjgfainclaaGreat.Cur
open Go.RowKit Mem
set_option linter.unusedVariables false
def cp : List Int → List Int → Nat
  | a :: x, b :: y => if a = b then cp x y + 1 else 0
  | _, _ => 0
theorem cp_le : ∀ (x y : List Int), cp x y ≤ x.length ∧ cp x y ≤ y.length
  | [], _ => by simp [cp]
  | _ :: _, [] => by simp [cp]
  | a :: x, b :: y => by
    have := cp_le x y
    rw [cp]
    split <;> simp <;> omega
theorem cp_eq : ∀ (x y : List Int) (j : Nat), j < cp x y → x.getD j 0 = y.getD j 0
  | [], _, j, h => by simp [cp] at h
  | _ :: _, [], j, h => by simp [cp] at h
  | a :: x, b :: y, j, h => by
    rw [cp] at h
    split at h
    · rename_i e
      cases j with
      | zero => simpa using e
      | succ j => simpa using cp_eq x y j (by omega)
    · omega
theorem cp_stop : ∀ (x y : List Int), cp x y < x.length → cp x y < y.length → x.getD (cp x y) 0 ≠ y.getD (cp x y) 0
  | [], _, h, _ => by simp [cp] at h
  | _ :: _, [], _, h => by simp [cp] at h
  | a :: x, b :: y, h, h' => by
    rw [cp] at h h' ⊢
    split
    · rename_i e
      rw [if_pos e] at h h'
      simpa using cp_stop x y (by simpa using h) (by simpa using h')
    · rename_i e
      simpa using e
theorem le_cp {x y : List Int} {k : Nat} (h1 : k ≤ x.length) (h2 : k ≤ y.length) (h : ∀ j, j < k → x.getD j 0 = y.getD j 0) : k ≤ cp x y := by
  rcases Nat.lt_or_ge (cp x y) k with hc | hc
  · exact absurd (h _ hc) (cp_stop x y (by omega) (by omega))
  · exact hc
theorem cp_is {x y : List Int} {k : Nat} (h1 : k ≤ x.length) (h2 : k ≤ y.length) (h : ∀ j, j < k → x.getD j 0 = y.getD j 0) (hs : k = x.length ∨ k = y.length ∨ x.getD k 0 ≠ y.getD k 0) : cp x y = k := by
  have := le_cp h1 h2 h
  have hl := cp_le x y
  rcases Nat.lt_or_ge k (cp x y) with hc | hc
  · rcases hs with e | e | e
    · omega
    · omega
    · exact absurd (cp_eq x y k hc) e
  · omega
def mt (z : List Int) (a p : Nat) : Nat := cp (z.drop a) (z.drop p)
theorem getD_drop (z : List Int) (a j : Nat) : (z.drop a).getD j 0 = z.getD (a + j) 0 := by
  rw [List.getD_eq_getElem?_getD, List.getElem?_drop, List.getD_eq_getElem?_getD]
theorem mt_le (z : List Int) (a p : Nat) : mt z a p ≤ z.length - a := by
  have := (cp_le (z.drop a) (z.drop p)).1
  rw [List.length_drop] at this
  exact this
theorem mt_eq {z : List Int} {a p j : Nat} (h : j < mt z a p) : z.getD (a + j) 0 = z.getD (p + j) 0 := by
  have := cp_eq _ _ j h
  rwa [getD_drop, getD_drop] at this
theorem le_mt {z : List Int} {a p k : Nat} (hp : p ≤ a) (h1 : a + k ≤ z.length) (h : ∀ j, j < k → z.getD (a + j) 0 = z.getD (p + j) 0) : k ≤ mt z a p :=
  le_cp (by rw [List.length_drop]; omega) (by rw [List.length_drop]; omega) fun j hj => by rw [getD_drop, getD_drop]; exact h j hj
theorem mt_is {z : List Int} {a p k : Nat} (hp : p ≤ a) (h1 : a + k ≤ z.length) (h : ∀ j, j < k → z.getD (a + j) 0 = z.getD (p + j) 0) (hs : a + k = z.length ∨ z.getD (a + k) 0 ≠ z.getD (p + k) 0) : mt z a p = k :=
  cp_is (by rw [List.length_drop]; omega) (by rw [List.length_drop]; omega) (fun j hj => by rw [getD_drop, getD_drop]; exact h j hj) (by
    rw [List.length_drop, getD_drop, getD_drop]
    rcases hs with e | e
    · exact .inl (by omega)
    · exact .inr (.inr e))
theorem mt_next {z : List Int} {a p : Nat} (hp : p ≤ a) (h : 1 ≤ mt z a p) : mt z (a + 1) (p + 1) = mt z a p - 1 := by
  have hl := mt_le z a p
  refine mt_is (by omega) (by omega) (fun j hj => ?_) ?_
  · have := mt_eq (z := z) (a := a) (p := p) (j := 1 + j) (by omega)
    rw [← Nat.add_assoc, ← Nat.add_assoc] at this
    exact this
  · by_cases e : a + mt z a p = z.length
    · exact .inl (by omega)
    · refine .inr ?_
      have hs := cp_stop (z.drop a) (z.drop p) (by rw [List.length_drop]; show mt z a p < _; omega) (by rw [List.length_drop]; show mt z a p < _; omega)
      rw [getD_drop, getD_drop] at hs
      rw [show a + 1 + (mt z a p - 1) = a + mt z a p by omega, show p + 1 + (mt z a p - 1) = p + mt z a p by omega]
      exact hs
theorem mt_four {z : List Int} {a p : Nat} (hp : p ≤ a) (h : 4 ≤ mt z a p) : a + 4 ≤ z.length ∧ ky z a = ky z p := by
  have hl := mt_le z a p
  refine ⟨by omega, ?_⟩
  unfold ky
  have h0 := mt_eq (z := z) (a := a) (p := p) (j := 0) (by omega)
  have h1 := mt_eq (z := z) (a := a) (p := p) (j := 1) (by omega)
  have h2 := mt_eq (z := z) (a := a) (p := p) (j := 2) (by omega)
  have h3 := mt_eq (z := z) (a := a) (p := p) (j := 3) (by omega)
  rw [Nat.add_zero, Nat.add_zero] at h0
  rw [h0, h1, h2, h3]
theorem mt_key {z : List Int} {a p t : Nat} (hp : p ≤ a) (h : ky z (a + t) ≠ ky z (p + t)) : mt z a p ≤ t + 3 := by
  rcases Nat.lt_or_ge (t + 3) (mt z a p) with hc | hc
  · refine absurd ?_ h
    unfold ky
    have h0 := mt_eq (z := z) (a := a) (p := p) (j := t) (by omega)
    have h1 := mt_eq (z := z) (a := a) (p := p) (j := t + 1) (by omega)
    have h2 := mt_eq (z := z) (a := a) (p := p) (j := t + 2) (by omega)
    have h3 := mt_eq (z := z) (a := a) (p := p) (j := t + 3) (by omega)
    simp only [← Nat.add_assoc] at h1 h2 h3
    rw [h0, h1, h2, h3]
  · exact hc
def bst (z : List Int) (a : Int) : List Nat → Int × Nat → Int × Nat
  | [], s => s
  | p :: L, s => bst z a L (if s.2 < mt z a.toNat p then (a - p, mt z a.toNat p) else s)
theorem bst_append (z : List Int) (a : Int) (y : List Nat) : ∀ (x : List Nat) (s : Int × Nat), bst z a (x ++ y) s = bst z a y (bst z a x s)
  | [], s => rfl
  | p :: x, s => by rw [List.cons_append, bst, bst, bst_append z a y x]
theorem bst_ge (z : List Int) (a : Int) : ∀ (L : List Nat) (s : Int × Nat), s.2 ≤ (bst z a L s).2
  | [], s => Nat.le_refl _
  | p :: L, s => by
    rw [bst]
    have := bst_ge z a L (if s.2 < mt z a.toNat p then (a - p, mt z a.toNat p) else s)
    split at this <;> split <;> simp_all <;> omega
theorem bst_full {z : List Int} {a : Int} {s : Int × Nat} (h : z.length - a.toNat ≤ s.2) : ∀ (L : List Nat), bst z a L s = s
  | [] => rfl
  | p :: L => by
    have := mt_le z a.toNat p
    rw [bst, if_neg (by omega)]
    exact bst_full h L
theorem bst_max {z : List Int} {a : Int} {p : Nat} : ∀ {L : List Nat} {s : Int × Nat}, p ∈ L → mt z a.toNat p ≤ (bst z a L s).2
  | q :: L, s, h => by
    rw [bst]
    rcases List.mem_cons.1 h with rfl | h
    · have := bst_ge z a L (if s.2 < mt z a.toNat p then (a - p, mt z a.toNat p) else s)
      split at this <;> split <;> simp_all <;> omega
    · exact bst_max h
theorem bst_is {z : List Int} {a : Int} : ∀ (L : List Nat) (s : Int × Nat), (bst z a L s = s ∧ ∀ p ∈ L, mt z a.toNat p ≤ s.2) ∨
    ∃ (x : List Nat) (p : Nat) (y : List Nat), L = x ++ p :: y ∧ bst z a L s = (a - p, mt z a.toNat p) ∧ s.2 < mt z a.toNat p ∧ ∀ q ∈ x, mt z a.toNat q < mt z a.toNat p
  | [], s => .inl ⟨rfl, fun p h => absurd h (by simp)⟩
  | p :: L, s => by
    rw [bst]
    by_cases h : s.2 < mt z a.toNat p
    · rw [if_pos h]
      rcases bst_is L (a - p, mt z a.toNat p) with ⟨h1, h2⟩ | ⟨x, q, y, h1, h2, h3, h4⟩
      · exact .inr ⟨[], p, L, rfl, h1, h, fun q hq => absurd hq (by simp)⟩
      · refine .inr ⟨p :: x, q, y, by rw [h1]; rfl, h2, by simp at h3; omega, fun r hr => ?_⟩
        rcases List.mem_cons.1 hr with rfl | hr
        · exact h3
        · exact h4 r hr
    · rw [if_neg h]
      rcases bst_is L s with ⟨h1, h2⟩ | ⟨x, q, y, h1, h2, h3, h4⟩
      · refine .inl ⟨h1, fun r hr => ?_⟩
        rcases List.mem_cons.1 hr with rfl | hr
        · omega
        · exact h2 r hr
      · refine .inr ⟨p :: x, q, y, by rw [h1]; rfl, h2, h3, fun r hr => ?_⟩
        rcases List.mem_cons.1 hr with rfl | hr
        · omega
        · exact h4 r hr
def alls (a : Int) : List Nat := (List.range (min a 65536).toNat).map fun o : Nat => (a - 1 - o).toNat
theorem alls_mem {a : Int} {p : Nat} : p ∈ alls a ↔ (p : Int) < a ∧ a - p ≤ 65536 := by
  unfold alls
  rw [List.mem_map]
  constructor
  · rintro ⟨o, ho, rfl⟩
    rw [List.mem_range] at ho
    omega
  · rintro ⟨h1, h2⟩
    exact ⟨(a - 1 - p).toNat, by rw [List.mem_range]; omega, by omega⟩
theorem alls_sorted (a : Int) : (alls a).Pairwise (· > ·) := by
  unfold alls
  rw [List.pairwise_map]
  refine List.Pairwise.imp_of_mem ?_ List.pairwise_lt_range
  intro x y hx hy h
  rw [List.mem_range] at hx hy
  show (a - 1 - (y : Int)).toNat < (a - 1 - (x : Int)).toNat
  omega
def bm (z : List Int) (a : Int) : Int × Nat := bst z a (alls a) (0, 3)
def bo (z : List Int) (a : Int) : Int := (bm z a).1
def bn (z : List Int) (a : Int) : Int := if (bm z a).1 = 0 then 0 else (bm z a).2
end Go.Proofs.YtmiimjgfainclaaGreat.Cur
namespace Go.Proofs.YtmiimjgfainclaaGreat.Cur
open Go.RowKit Mem
set_option linter.unusedVariables false
theorem bst_filter {z : List Int} {a : Int} {P : Nat → Bool} : ∀ (L : List Nat) (s : Int × Nat), 3 ≤ s.2 → (∀ p ∈ L, P p = false → mt z a.toNat p ≤ 3) → bst z a (L.filter P) s = bst z a L s
  | [], s, _, _ => rfl
  | p :: L, s, hs, h => by
    have hL : ∀ q ∈ L, P q = false → mt z a.toNat q ≤ 3 := fun q hq => h q (by simp [hq])
    cases hp : P p
    · rw [List.filter_cons_of_neg (by rw [hp]; decide), bst, if_neg (by have := h p (by simp) hp; omega)]
      exact bst_filter L s hs hL
    · rw [List.filter_cons_of_pos hp, bst, bst]
      refine bst_filter L _ ?_ hL
      split
      · show 3 ≤ mt z a.toNat p; omega
      · exact hs
theorem alls_succ {a : Nat} (h : a < 65536) : alls ((a + 1 : Nat) : Int) = a :: alls (a : Int) := by
  unfold alls
  rw [show (min ((a + 1 : Nat) : Int) 65536).toNat = a + 1 by omega, show (min (a : Int) 65536).toNat = a by omega, List.range_succ_eq_map, List.map_cons, List.map_map]
  congr 1
  · show (((a + 1 : Nat) : Int) - 1 - ((0 : Nat) : Int)).toNat = a; omega
  · refine List.map_congr_left fun o _ => ?_
    show (((a + 1 : Nat) : Int) - 1 - ((o + 1 : Nat) : Int)).toNat = ((a : Int) - 1 - (o : Int)).toNat
    omega
theorem pls_filter {z : List Int} {x : Int} : ∀ {a : Nat}, a ≤ 65536 → pls z x a = (alls (a : Int)).filter (fun p => decide (p + 4 ≤ z.length ∧ ky z p = x))
  | 0, _ => rfl
  | a + 1, h => by
    rw [alls_succ (by omega)]
    by_cases hp : a + 4 ≤ z.length ∧ ky z a = x
    · rw [pls_hit hp, List.filter_cons, if_pos (by exact decide_eq_true hp), pls_filter (by omega)]
    · rw [pls_miss hp, List.filter_cons, if_neg (by rw [decide_eq_true_eq]; exact hp), pls_filter (by omega)]
theorem bst_nrs {z : List Int} (hz : z.length ≤ 65536) (a : Int) : bst z a (nrs z z.length a) (0, 3) = bst z a (alls a) (0, 3) := by
  cases hk' : hk z a
  · rw [nrs_no hk', bst]
    have hn := hk_neg hk'
    rcases bst_is (z := z) (a := a) (alls a) (0, 3) with ⟨h1, _⟩ | ⟨x, p, y, h1, _, h3, _⟩
    · exact h1.symm
    · have hp : p ∈ alls a := by rw [h1]; simp
      have := alls_mem.1 hp
      have := mt_le z a.toNat p
      have h3 : 3 < mt z a.toNat p := h3
      omega
  · obtain ⟨k, rfl, hkl⟩ := hk_pos hk'
    rw [nrs_yes hkl, Nat.min_eq_left (by omega), pls_filter (by omega)]
    refine bst_filter _ _ (Nat.le_refl _) fun p hp h => ?_
    rw [Int.toNat_natCast]
    have hpk := (alls_mem.1 hp).1
    rcases Nat.lt_or_ge 3 (mt z k p) with h4 | h4
    · have hf := mt_four (z := z) (a := k) (p := p) (by omega) h4
      rw [decide_eq_false_iff_not] at h
      exact absurd ⟨by omega, hf.2.symm⟩ h
    · exact h4
end Go.Proofs.YtmiimjgfainclaaGreat.Cur
namespace Go.Proofs.YtmiimjgfainclaaGreat.Cur
open Go.RowKit Mem
set_option linter.unusedVariables false
set_option maxRecDepth 100000
theorem bytesOf_inj {x y : List Int} (hx : ∀ u ∈ x, 0 ≤ u ∧ u < 256) (hy : ∀ u ∈ y, 0 ≤ u ∧ u < 256) : (Lib.bytesOf x == Lib.bytesOf y) = decide (x = y) := by
  rw [Bool.eq_iff_iff, beq_iff_eq, decide_eq_true_eq]
  refine ⟨fun h => ?_, fun h => by rw [h]⟩
  rw [← Lib.strOfNums_toList, ← Lib.strOfNums_toList] at h
  exact strOfNums_inj hx hy (bstr_inj h)
theorem cp_take : ∀ (x y : List Int) (n : Nat), x.length ≤ n → cp x (y.take n) = cp x y
  | [], _, _, _ => by simp [cp]
  | _ :: _, [], _, _ => by simp
  | a :: x, b :: y, n, h => by
    obtain ⟨n, rfl⟩ : ∃ k, n = k + 1 := ⟨n - 1, by simp at h; omega⟩
    rw [List.take_succ_cons, cp, cp, cp_take x y n (by simpa using h)]
theorem piece_getD {z : List Int} {l k j : Nat} (h : j < k - l) : (piece z l k).getD j 0 = z.getD (l + j) 0 := by
  unfold piece
  rw [List.getD_eq_getElem?_getD, List.getElem?_take_of_lt h, List.getElem?_drop, List.getD_eq_getElem?_getD]
set_option maxHeartbeats 4000000 in
theorem alike_any {w : World} {A B : Option Addr} {n c d : Nat} {x y : List Int} (hx : Bs w A n x) (hy : Bs w B n y) (hbx : ∀ u ∈ x, 0 ≤ u ∧ u < 256) (hby : ∀ u ∈ y, 0 ≤ u ∧ u < 256) (hc : n ≤ c) (hd : n ≤ d) (hn : n ≤ 100000) :
    Calls Tryz.prog 256 #[.slice A n c, .slice B n d] w fun e w' => e = .returned (.int .i64 (cp x y)) ∧ ∃ k, w' = w.drewN k := by
  have HXL := Lib.hid hx.1
  have HYL := Lib.hid hy.1
  have HX := Lib.hid (fun k (hk : k < n) => hx.at_ hk)
  have HY := Lib.hid (fun k (hk : k < n) => hy.at_ hk)
  have HXB := Lib.hid hx
  have HYB := Lib.hid hy
  have HB1 := Lib.hid hbx
  have HB2 := Lib.hid hby
  have hcn : cp x y ≤ n := by have := (cp_le x y).1; have := hx.1; omega
  clear hx hy hbx hby
  go_enter Tryz.func256, Tryz.ntmps256
  go_wp2
  go_loopw [5] (fun v wr => ∃ k q : Nat, k ≤ cp x y ∧ v = .int .i64 k ∧ wr = w.drewN q) (fun v _ => n - (intOf v).toNat)
  case atStart => exact ⟨0, 0, Nat.zero_le _, rfl, rfl⟩
  case round =>
    obtain ⟨k, q, hk, rfl, rfl⟩ := hrel
    by_cases hlt : k + 64 ≤ n
    · obtain ⟨A', M, hsl, hA, hM, _⟩ := slice_lh HXB.out c k (k + 64) (by omega) (by omega) (by omega) hc
      obtain ⟨B', M', hsl', hA', hM', _⟩ := slice_lh HYB.out d k (k + 64) (by omega) (by omega) (by omega) hd
      rw [show ((k : Int) + 64 - k).toNat = 64 by omega] at hsl hsl' hA hA' hM hM'
      rw [show ((k : Int) + 64).toNat = k + 64 by omega, Int.toNat_natCast] at hA hA'
      have hpx : ∀ u ∈ piece x k (k + 64), 0 ≤ u ∧ u < 256 := fun u hu => HB1.out u (List.mem_of_mem_drop (List.mem_of_mem_take hu))
      have hpy : ∀ u ∈ piece y k (k + 64), 0 ≤ u ∧ u < 256 := fun u hu => HB2.out u (List.mem_of_mem_drop (List.mem_of_mem_take hu))
      have hEq := Tryz.bytes_Equal (.slice A' 64 M) (.slice B' 64 M') _ _ (w.drewN (q + 1)) (run_convert_bs M (hA.drewN (q + 1))) (run_convert_bs M' (hA'.drewN (q + 1)))
      rw [bytesOf_inj hpx hpy] at hEq
      have hYes : piece x k (k + 64) = piece y k (k + 64) → k + 64 ≤ cp x y := fun h => le_cp (by rw [HXL.out]; omega) (by rw [HYL.out]; omega) (fun j hj => by
        by_cases e : j < k
        · exact cp_eq x y j (by omega)
        · have h1 := piece_getD (z := x) (l := k) (k := k + 64) (j := j - k) (by omega)
          have h2 := piece_getD (z := y) (l := k) (k := k + 64) (j := j - k) (by omega)
          rw [show k + (j - k) = j by omega] at h1 h2
          rw [← h1, ← h2, h])
      have HEQ := Lib.hid hEq
      have HYES := Lib.hid hYes
      have e1 : IntKind.i64.wrap ((k : Int) + 64) = k + 64 := IntWalk.i64_in _ (by omega)
      have e2 : (k : Int) + 64 ≤ n := by omega
      clear hA hA' hM hM' hpx hpy hEq hYes
      go_wp2
      refine Seq.wp_region_seq (fun w' => ∃ j, w' = w.drewN j) (by kernel_rfl) (by kernel_rfl) ⟨q + 1, rfl⟩ ?_
      repeat (first | (refine Seq.Seq.skip (by rfl) ?_; (try simp only [Act.put, List.setIfInBounds_toArray, List.set_cons_zero, List.set_cons_succ])) | (refine Seq.Seq.det ?_ (by rfl) (fun w hS => ?_) ?_; rotate_left; ((try dsimp only at hS); go_simp; (try rw [if_pos (by omega)]); with_reducible rfl); (try simp only [Act.put, List.setIfInBounds_toArray, List.set_cons_zero, List.set_cons_succ])))
      refine Seq.Seq.make (by rfl) (by rfl) (fun K Q' hK => ?_)
      go_simp
      go_at_call 69
      refine HEQ.out.mono ?_
      rintro e w1 ⟨rfl, rfl⟩
      have hS2 : ∃ j, w.drewN (q + 1) = w.drewN j := ⟨_, rfl⟩
      refine hK.out _ _ (hS2) ?_
      clear hK K
      try simp only [Act.put, List.setIfInBounds_toArray, List.set_cons_zero, List.set_cons_succ]
      by_cases hp : piece x k (k + 64) = piece y k (k + 64)
      · have HK2 := Lib.hid (HYES.out hp)
        rw [decide_eq_true hp]
        clear hp
        repeat (first | (refine Seq.Seq.skip (by rfl) ?_; (try simp only [Act.put, List.setIfInBounds_toArray, List.set_cons_zero, List.set_cons_succ])) | (refine Seq.Seq.det ?_ (by rfl) (fun w hS => ?_) ?_; rotate_left; ((try dsimp only at hS); go_simp; (try rw [if_pos (by omega)]); with_reducible rfl); (try simp only [Act.put, List.setIfInBounds_toArray, List.set_cons_zero, List.set_cons_succ])))
        refine Seq.Seq.nil ?_
        clear hsl hsl' e1 hS2
        go_wp2
        go_roundw
        case rel => exact ⟨k + 64, q + 1, HK2.out, by go_num, rfl⟩
        case measure => simp [intOf]; omega
      · rw [decide_eq_false hp]
        clear hp
        repeat (first | (refine Seq.Seq.skip (by rfl) ?_; (try simp only [Act.put, List.setIfInBounds_toArray, List.set_cons_zero, List.set_cons_succ])) | (refine Seq.Seq.det ?_ (by rfl) (fun w hS => ?_) ?_; rotate_left; ((try dsimp only at hS); go_simp; (try rw [if_pos (by omega)]); with_reducible rfl); (try simp only [Act.put, List.setIfInBounds_toArray, List.set_cons_zero, List.set_cons_succ])))
        refine Seq.Seq.nil ?_
        clear hsl hsl' e1 e2 hS2 hlt
        go_wp2_with fail
        go_loopw [5] (fun v wr => ∃ k q : Nat, k ≤ cp x y ∧ v = .int .i64 k ∧ wr = w.drewN q) (fun v _ => n - (intOf v).toNat)
        case atStart => exact ⟨k, q + 1, hk, rfl, rfl⟩
        case round =>
          clear hk
          obtain ⟨k, q, hk, rfl, rfl⟩ := hrel
          have HK := Lib.hid hk
          have hkn : k ≤ n := by omega
          clear hk
          by_cases hlt : k < n
          · have cx := HX.out k hlt
            have cy := HY.out k hlt
            have HS := Lib.hid (fun h : x.getD k 0 = y.getD k 0 => le_cp (x := x) (y := y) (k := k + 1) (by rw [HXL.out]; omega) (by rw [HYL.out]; omega) (fun j hj => by
              by_cases e : j = k
              · subst e; exact h
              · exact cp_eq x y j (by have := HK.out; omega)))
            have HE := Lib.hid (fun h : ¬ x.getD k 0 = y.getD k 0 => (show cp x y = k from by
              have := HK.out
              rcases Nat.lt_or_ge k (cp x y) with hc | hc
              · exact absurd (cp_eq x y k hc) h
              · omega))
            obtain ⟨g, o, rfl, hcx⟩ := cx
            obtain ⟨g', o', rfl, hcy⟩ := cy
            generalize x.getD k 0 = u at *
            generalize y.getD k 0 = v at *
            have L : ∀ w', (∃ j, w' = w.drewN j) → w'.cell? ⟨g, o + k, none⟩ = some (.int .u8 u) ∧ w'.cell? ⟨g', o' + k, none⟩ = some (.int .u8 v) := fun w' h => by
              obtain ⟨j, rfl⟩ := h
              exact ⟨hcx, hcy⟩
            clear hcx hcy
            cases huv : (u == v)
            · have HN := Lib.hid (HE.out (by simpa using huv))
              go_wp2
              refine Seq.wp_region_seq (fun w' => ∃ j, w' = w.drewN j) (by kernel_rfl) (by kernel_rfl) ⟨q + 1, rfl⟩ ?_
              repeat (first | (refine Seq.Seq.skip (by rfl) ?_; (try simp only [Act.put, List.setIfInBounds_toArray, List.set_cons_zero, List.set_cons_succ])) | (refine Seq.Seq.det ?_ (by rfl) (fun w hS => ?_) ?_; rotate_left; ((try dsimp only at hS); go_simp; (try rw [if_pos (by omega)]); with_reducible rfl); (try simp only [Act.put, List.setIfInBounds_toArray, List.set_cons_zero, List.set_cons_succ])))
              refine Seq.Seq.nil ?_
              clear L huv
              go_wp2
              go_ret
              exact ⟨by rw [HN.out]; rfl, q + 1, rfl⟩
            · have HN := Lib.hid (HS.out (by simpa using huv))
              go_wp2
              refine Seq.wp_region_seq (fun w' => ∃ j, w' = w.drewN j) (by kernel_rfl) (by kernel_rfl) ⟨q + 1, rfl⟩ ?_
              repeat (first | (refine Seq.Seq.skip (by rfl) ?_; (try simp only [Act.put, List.setIfInBounds_toArray, List.set_cons_zero, List.set_cons_succ])) | (refine Seq.Seq.det ?_ (by rfl) (fun w hS => ?_) ?_; rotate_left; ((try dsimp only at hS); go_simp; (try rw [if_pos (by omega)]); with_reducible rfl); (try simp only [Act.put, List.setIfInBounds_toArray, List.set_cons_zero, List.set_cons_succ])))
              refine Seq.Seq.nil ?_
              clear L huv
              go_wp2
              go_roundw
              case rel => exact ⟨k + 1, q + 1, HN.out, by go_num, rfl⟩
              case measure => simp [intOf]; omega
          · have HN : Hid (cp x y = k) := Lib.hid (by have := HK.out; have := (cp_le x y).1; have := HXL.out; omega)
            go_wp2
            refine Seq.wp_region_seq (fun w' => ∃ j, w' = w.drewN j) (by kernel_rfl) (by kernel_rfl) ⟨q + 1, rfl⟩ ?_
            repeat (first | (refine Seq.Seq.skip (by rfl) ?_; (try simp only [Act.put, List.setIfInBounds_toArray, List.set_cons_zero, List.set_cons_succ])) | (refine Seq.Seq.det ?_ (by rfl) (fun w hS => ?_) ?_; rotate_left; ((try dsimp only at hS); go_simp; (try rw [if_pos (by omega)]); with_reducible rfl); (try simp only [Act.put, List.setIfInBounds_toArray, List.set_cons_zero, List.set_cons_succ])))
            refine Seq.Seq.nil ?_
            go_wp2
            go_ret
            exact ⟨by rw [HN.out]; rfl, q + 1, rfl⟩
    · have e1 : IntKind.i64.wrap ((k : Int) + 64) = k + 64 := IntWalk.i64_in _ (by omega)
      have e2 : decide ((k : Int) + 64 ≤ n) = false := by simp; omega
      go_wp2
      refine Seq.wp_region_seq (fun w' => ∃ j, w' = w.drewN j) (by kernel_rfl) (by kernel_rfl) ⟨q + 1, rfl⟩ ?_
      repeat (first | (refine Seq.Seq.skip (by rfl) ?_; (try simp only [Act.put, List.setIfInBounds_toArray, List.set_cons_zero, List.set_cons_succ])) | (refine Seq.Seq.det ?_ (by rfl) (fun w hS => ?_) ?_; rotate_left; ((try dsimp only at hS); go_simp; (try rw [if_pos (by omega)]); with_reducible rfl); (try simp only [Act.put, List.setIfInBounds_toArray, List.set_cons_zero, List.set_cons_succ])))
      refine Seq.Seq.nil ?_
      clear e1 e2 hlt
      go_wp2_with fail
      go_loopw [5] (fun v wr => ∃ k q : Nat, k ≤ cp x y ∧ v = .int .i64 k ∧ wr = w.drewN q) (fun v _ => n - (intOf v).toNat)
      case atStart => exact ⟨k, q + 1, hk, rfl, rfl⟩
      case round =>
        clear hk
        obtain ⟨k, q, hk, rfl, rfl⟩ := hrel
        have HK := Lib.hid hk
        have hkn : k ≤ n := by omega
        clear hk
        by_cases hlt : k < n
        · have cx := HX.out k hlt
          have cy := HY.out k hlt
          have HS := Lib.hid (fun h : x.getD k 0 = y.getD k 0 => le_cp (x := x) (y := y) (k := k + 1) (by rw [HXL.out]; omega) (by rw [HYL.out]; omega) (fun j hj => by
            by_cases e : j = k
            · subst e; exact h
            · exact cp_eq x y j (by have := HK.out; omega)))
          have HE := Lib.hid (fun h : ¬ x.getD k 0 = y.getD k 0 => (show cp x y = k from by
            have := HK.out
            rcases Nat.lt_or_ge k (cp x y) with hc | hc
            · exact absurd (cp_eq x y k hc) h
            · omega))
          obtain ⟨g, o, rfl, hcx⟩ := cx
          obtain ⟨g', o', rfl, hcy⟩ := cy
          generalize x.getD k 0 = u at *
          generalize y.getD k 0 = v at *
          have L : ∀ w', (∃ j, w' = w.drewN j) → w'.cell? ⟨g, o + k, none⟩ = some (.int .u8 u) ∧ w'.cell? ⟨g', o' + k, none⟩ = some (.int .u8 v) := fun w' h => by
            obtain ⟨j, rfl⟩ := h
            exact ⟨hcx, hcy⟩
          clear hcx hcy
          cases huv : (u == v)
          · have HN := Lib.hid (HE.out (by simpa using huv))
            go_wp2
            refine Seq.wp_region_seq (fun w' => ∃ j, w' = w.drewN j) (by kernel_rfl) (by kernel_rfl) ⟨q + 1, rfl⟩ ?_
            repeat (first | (refine Seq.Seq.skip (by rfl) ?_; (try simp only [Act.put, List.setIfInBounds_toArray, List.set_cons_zero, List.set_cons_succ])) | (refine Seq.Seq.det ?_ (by rfl) (fun w hS => ?_) ?_; rotate_left; ((try dsimp only at hS); go_simp; (try rw [if_pos (by omega)]); with_reducible rfl); (try simp only [Act.put, List.setIfInBounds_toArray, List.set_cons_zero, List.set_cons_succ])))
            refine Seq.Seq.nil ?_
            clear L huv
            go_wp2
            go_ret
            exact ⟨by rw [HN.out]; rfl, q + 1, rfl⟩
          · have HN := Lib.hid (HS.out (by simpa using huv))
            go_wp2
            refine Seq.wp_region_seq (fun w' => ∃ j, w' = w.drewN j) (by kernel_rfl) (by kernel_rfl) ⟨q + 1, rfl⟩ ?_
            repeat (first | (refine Seq.Seq.skip (by rfl) ?_; (try simp only [Act.put, List.setIfInBounds_toArray, List.set_cons_zero, List.set_cons_succ])) | (refine Seq.Seq.det ?_ (by rfl) (fun w hS => ?_) ?_; rotate_left; ((try dsimp only at hS); go_simp; (try rw [if_pos (by omega)]); with_reducible rfl); (try simp only [Act.put, List.setIfInBounds_toArray, List.set_cons_zero, List.set_cons_succ])))
            refine Seq.Seq.nil ?_
            clear L huv
            go_wp2
            go_roundw
            case rel => exact ⟨k + 1, q + 1, HN.out, by go_num, rfl⟩
            case measure => simp [intOf]; omega
        · have HN : Hid (cp x y = k) := Lib.hid (by have := HK.out; have := (cp_le x y).1; have := HXL.out; omega)
          go_wp2
          refine Seq.wp_region_seq (fun w' => ∃ j, w' = w.drewN j) (by kernel_rfl) (by kernel_rfl) ⟨q + 1, rfl⟩ ?_
          repeat (first | (refine Seq.Seq.skip (by rfl) ?_; (try simp only [Act.put, List.setIfInBounds_toArray, List.set_cons_zero, List.set_cons_succ])) | (refine Seq.Seq.det ?_ (by rfl) (fun w hS => ?_) ?_; rotate_left; ((try dsimp only at hS); go_simp; (try rw [if_pos (by omega)]); with_reducible rfl); (try simp only [Act.put, List.setIfInBounds_toArray, List.set_cons_zero, List.set_cons_succ])))
          refine Seq.Seq.nil ?_
          go_wp2
          go_ret
          exact ⟨by rw [HN.out]; rfl, q + 1, rfl⟩
def lim (z : List Int) (a : Int) : Int := if 0 ≤ a ∧ a ≤ z.length then z.length - a else 0
theorem most_any {w : World} {A : Option Addr} {n m : Nat} {z : List Int} (a : Int) (hz : z.length = n) (hn : n ≤ 100000) (ha : -9223372036854775808 ≤ a ∧ a ≤ 9223372036854775807) :
    Calls Tryz.prog 248 #[.slice A n m, .int .i64 a] w fun e w' => e = .returned (.int .i64 (lim z a)) ∧ w = w' := by
  by_cases h0 : a < 0
  · have e : lim z a = 0 := by unfold lim; rw [if_neg (by omega)]
    rw [e]
    clear e
    go_enter Tryz.func248, Tryz.ntmps248
    go_wp2
    go_ret
    exact ⟨rfl, rfl⟩
  · by_cases h1 : (n : Int) < a
    · have e : lim z a = 0 := by unfold lim; rw [if_neg (by omega)]
      rw [e]
      clear e
      go_enter Tryz.func248, Tryz.ntmps248
      go_wp2
      go_ret
      exact ⟨rfl, rfl⟩
    · have e : lim z a = n - a := by unfold lim; rw [if_pos (by omega), hz]
      have e2 : min ((n : Int) - a) 1048576 = n - a := by omega
      rw [e]
      clear e
      go_enter Tryz.func248, Tryz.ntmps248
      go_wp2
      go_ret
      exact ⟨rfl, rfl⟩
theorem better_any (off n other m : Int) (w : World) : Calls Tryz.prog 251 #[.int .i64 off, .int .i64 n, .int .i64 other, .int .i64 m] w fun e w' => e = .returned (.bool (decide (m < n ∨ n = m ∧ off < other))) ∧ w = w' := by
  by_cases h1 : m < n
  · have e : decide (m < n ∨ n = m ∧ off < other) = true := decide_eq_true (.inl h1)
    rw [e]
    clear e
    go_enter Tryz.func251, Tryz.ntmps251
    go_wp2
    go_ret
    exact ⟨rfl, rfl⟩
  · by_cases h2 : n = m
    · subst h2
      by_cases h3 : off < other
      · have e : decide (n < n ∨ n = n ∧ off < other) = true := decide_eq_true (.inr ⟨rfl, h3⟩)
        rw [e]
        clear e
        go_enter Tryz.func251, Tryz.ntmps251
        go_wp2
        go_ret
        exact ⟨rfl, rfl⟩
      · have e : decide (n < n ∨ n = n ∧ off < other) = false := decide_eq_false (by omega)
        rw [e]
        clear e
        go_enter Tryz.func251, Tryz.ntmps251
        go_wp2
        go_ret
        exact ⟨rfl, rfl⟩
    · have e : decide (m < n ∨ n = m ∧ off < other) = false := decide_eq_false (by omega)
      have e1 : (n == m) = false := by simpa using h2
      rw [e]
      clear e h2
      go_enter Tryz.func251, Tryz.ntmps251
      go_wp2
      go_ret
      exact ⟨rfl, rfl⟩
def mv (z : List Int) (a off : Int) : Int := if 0 ≤ a ∧ a < z.length ∧ 1 ≤ off ∧ off ≤ a then mt z a.toNat (a - off).toNat else 0
def MatchPost (z : List Int) (a off : Int) (w : World) (e : Ending) (w' : World) : Prop := e = .returned (.int .i64 (mv z a off)) ∧ ∃ k, w' = w.drewN k
set_option maxHeartbeats 2000000 in
theorem match_any {w : World} {A : Option Addr} {n m : Nat} {z : List Int} (a off : Int) (hz : Bs w A n z) (hby : ∀ x ∈ z, 0 ≤ x ∧ x < 256) (hm : n ≤ m) (hn : n ≤ 100000) (ha : -9223372036854775808 ≤ a ∧ a ≤ 9223372036854775807) :
    Calls Tryz.prog 250 #[.slice A n m, .int .i64 a, .int .i64 off] w (MatchPost z a off w) := by
  unfold MatchPost
  have hzl := hz.1
  have hmo := fun w => most_any (w := w) (A := A) (m := m) a hzl hn ha
  by_cases h0 : 0 ≤ a ∧ a < n
  · have hlim : lim z a = n - a := by unfold lim; rw [if_pos (by omega), hzl]
    have hb : ((n : Int) - a == 0) = false := by simp; omega
    rw [hlim] at hmo
    clear hlim
    by_cases h1 : off < 1
    · have e : mv z a off = 0 := by unfold mv; rw [if_neg (by omega)]
      rw [e]
      clear e hz hby
      go_enter Tryz.func250, Tryz.ntmps250
      go_wp2_with fail
      refine (hmo _).mono ?_
      rintro e w1 ⟨rfl, rfl⟩
      clear hmo
      go_wp2
      go_ret
      exact ⟨rfl, 0, rfl⟩
    · by_cases h2 : a < off
      · have e : mv z a off = 0 := by unfold mv; rw [if_neg (by omega)]
        rw [e]
        clear e hz hby
        go_enter Tryz.func250, Tryz.ntmps250
        go_wp2_with fail
        refine (hmo _).mono ?_
        rintro e w1 ⟨rfl, rfl⟩
        clear hmo
        go_wp2
        go_ret
        exact ⟨rfl, 0, rfl⟩
      · obtain ⟨k, rfl⟩ : ∃ k : Nat, a = k := ⟨a.toNat, by omega⟩
        obtain ⟨p, hp⟩ : ∃ p : Nat, (k : Int) - off = p := ⟨((k : Int) - off).toNat, by omega⟩
        obtain ⟨A', M, hsl, hA, hM, _⟩ := slice_lh hz m k n (by omega) (by omega) (by omega) hm
        obtain ⟨B', M', hsl', hA', hM', _⟩ := slice_lh hz m p ((p : Int) + (n - k)) (by omega) (by omega) (by omega) hm
        have el : ((n : Int) - k).toNat = n - k := by omega
        have el2 : ((p : Int) + (n - k) - p).toNat = n - k := by omega
        rw [el] at hsl hA hM
        rw [el2] at hsl' hA' hM'
        have hpz1 : piece z ((k : Nat) : Int).toNat ((n : Nat) : Int).toNat = z.drop k := by
          unfold piece
          rw [Int.toNat_natCast, Int.toNat_natCast, List.take_of_length_le (by rw [List.length_drop]; omega)]
        have hpz2 : piece z ((p : Nat) : Int).toNat ((p : Int) + (n - k)).toNat = (z.drop p).take (n - k) := by
          unfold piece
          rw [Int.toNat_natCast, show ((p : Int) + (n - k)).toNat - p = n - k by omega]
        rw [hpz1] at hA
        rw [hpz2] at hA'
        have hal := fun (q : Nat) => alike_any (w := w.drewN q) (c := M) (d := M') (hA.drewN q) (hA'.drewN q) (fun u hu => hby u (List.mem_of_mem_drop hu)) (fun u hu => hby u (List.mem_of_mem_drop (List.mem_of_mem_take hu))) hM hM' (by omega)
        rw [cp_take _ _ _ (by rw [List.length_drop]; omega)] at hal
        have e : mv z k off = cp (z.drop k) (z.drop p) := by
          unfold mv mt
          rw [if_pos (by omega), Int.toNat_natCast, hp, Int.toNat_natCast]
        rw [e]
        have HAL := Lib.hid hal
        have e1 : IntKind.i64.wrap ((k : Int) - off) = p := by rw [hp]; exact IntWalk.i64_in _ (by omega)
        have e2 : IntKind.i64.wrap ((k : Int) + (n - k)) = n := by rw [show (k : Int) + (n - k) = n by omega]; exact IntWalk.i64_in _ (by omega)
        have e3 : IntKind.i64.wrap ((p : Int) + (n - k)) = p + (n - k) := IntWalk.i64_in _ (by omega)
        have HSL := Lib.hid hsl
        have HSL' := Lib.hid hsl'
        clear e hz hby hA hA' hM hM' hal hp hpz1 hpz2 el el2 hsl hsl'
        go_enter Tryz.func250, Tryz.ntmps250
        go_wp2_with fail
        refine (hmo _).mono ?_
        rintro e w1 ⟨rfl, rfl⟩
        clear hmo
        go_wp2_with fail
        have hsl := HSL.out
        have hsl' := HSL'.out
        refine Seq.wp_region_seq (fun w' => ∃ j, w' = w.drewN j) (by kernel_rfl) (by kernel_rfl) ⟨1, rfl⟩ ?_
        repeat (first | (refine Seq.Seq.skip (by rfl) ?_; (try simp only [Act.put, List.setIfInBounds_toArray, List.set_cons_zero, List.set_cons_succ])) | (refine Seq.Seq.det ?_ (by rfl) (fun w hS => ?_) ?_; rotate_left; ((try dsimp only at hS); go_simp; (try rw [if_pos (by omega)]); with_reducible rfl); (try simp only [Act.put, List.setIfInBounds_toArray, List.set_cons_zero, List.set_cons_succ])))
        refine Seq.Seq.make (by rfl) (by rfl) (fun K Q' hK => ?_)
        go_simp
        go_at_call 256
        refine (HAL.out 1).mono ?_
        rintro e w1 ⟨rfl, q, rfl⟩
        have hS2 : ∃ j, (w.drewN 1).drewN q = w.drewN j := ⟨_, World.drewN_drewN _ _ _⟩
        refine hK.out _ _ (hS2) ?_
        clear hK K
        try simp only [Act.put, List.setIfInBounds_toArray, List.set_cons_zero, List.set_cons_succ]
        repeat (first | (refine Seq.Seq.skip (by rfl) ?_; (try simp only [Act.put, List.setIfInBounds_toArray, List.set_cons_zero, List.set_cons_succ])) | (refine Seq.Seq.det ?_ (by rfl) (fun w hS => ?_) ?_; rotate_left; ((try dsimp only at hS); go_simp; (try rw [if_pos (by omega)]); with_reducible rfl); (try simp only [Act.put, List.setIfInBounds_toArray, List.set_cons_zero, List.set_cons_succ])))
        refine Seq.Seq.nil ?_
        clear hsl hsl' e1 e2 e3 hS2
        go_wp2
        go_ret
        exact ⟨rfl, 1 + q, World.drewN_drewN _ _ _⟩
  · have e : mv z a off = 0 := by unfold mv; rw [if_neg (by omega)]
    have hlim : lim z a = 0 := by unfold lim; split <;> omega
    rw [hlim] at hmo
    rw [e]
    clear e hz hby hlim
    go_enter Tryz.func250, Tryz.ntmps250
    go_wp2_with fail
    refine (hmo _).mono ?_
    rintro e w1 ⟨rfl, rfl⟩
    clear hmo
    go_wp2
    go_ret
    exact ⟨rfl, 0, rfl⟩
set_option maxHeartbeats 1000000 in
theorem may_any {w : World} {A : Option Addr} {n m : Nat} {z : List Int} (a p t : Nat) (hz : Bs w A n z) (hby : ∀ x ∈ z, 0 ≤ x ∧ x < 256) (hm : n ≤ m) (hn : n ≤ 100000) (hp : p ≤ a) (ht : a + t + 4 ≤ n) :
    Calls Tryz.prog 249 #[.slice A n m, .int .i64 a, .int .i64 p, .int .i64 ((3 + t : Nat) : Int)] w fun e w' => e = .returned (.bool (decide (ky z (a + t) = ky z (p + t)))) ∧ ∃ k, w' = w.drewN k := by
  have hzl := hz.1
  have h1 := fun (q : Nat) => ckey_any (w := w.drewN q) (A := A) (n := n) (m := m) (z := z) ((a + t : Nat) : Int) (hz.drewN q) hby hm (by omega)
  have h2 := fun (q : Nat) => ckey_any (w := w.drewN q) (A := A) (n := n) (m := m) (z := z) ((p + t : Nat) : Int) (hz.drewN q) hby hm (by omega)
  unfold KeyPost at h1 h2
  rw [hk_nat (by omega), if_pos rfl, Int.toNat_natCast] at h1 h2
  have hd : decide (ky z (a + t) = ky z (p + t)) = (ky z (a + t) == ky z (p + t)) := by rw [Bool.eq_iff_iff]; simp
  rw [hd]
  generalize ky z (a + t) = x at *
  generalize ky z (p + t) = y at *
  rw [show ((3 + t : Nat) : Int) = 3 + t by omega]
  rw [show ((a + t : Nat) : Int) = a + t by omega] at h1
  rw [show ((p + t : Nat) : Int) = p + t by omega] at h2
  have e1 : IntKind.i64.wrap ((3 : Int) + t + 1) = 3 + t + 1 := IntWalk.i64_in _ (by omega)
  have e2 : (3 : Int) + t + 1 - 4 = t := by omega
  have H1 := Lib.hid h1
  have H2 := Lib.hid h2
  clear h1 h2 hd hz hby hzl
  go_enter Tryz.func249, Tryz.ntmps249
  go_wp2_with fail
  refine (H1.out 0).mono ?_
  rintro e w1 ⟨rfl, q1, rfl⟩
  go_wp2_with fail
  refine (H2.out _).mono ?_
  rintro e w1 ⟨rfl, q2, rfl⟩
  clear e1 e2
  go_wp2
  go_ret
  exact ⟨rfl, q1 + q2, rfl⟩
end Go.Proofs.YtmiimjgfainclaaGreat.Cur
namespace Go.Proofs.YtmiimjgfainclaaGreat.Cur
open Go.RowKit Go.Shelf Mem
attribute [local go_sem] Oper.semAt_some
set_option linter.unusedVariables false
set_option maxRecDepth 100000
section
variable {α : Type} (val : α → Nat)
set_option maxHeartbeats 2000000 in
theorem vplaces1_in (F : Fence) (n : Nat) (hf : F.fn 253) (hro : F.round = none) (hn : 1 ≤ n) (l f p q c g o k : Nat) (i : Int) (L : List α) (J Jx : List α → World → Prop)
    (hY : ∀ pre x W, J pre W → pre.length < L.length → YieldAt F (n - 1) Tryz.prog l #[.int .i64 ((val x : Nat) : Int)] W fun e W' =>
      (e = .returned (.bool true) ∧ J (pre ++ [x]) W' ∧ KpT p q c g W W') ∨ (e = .returned (.bool false) ∧ Jx (pre ++ [x]) W'))
    (W : World) (hP : Pls W f p q c g o k i (L.map val)) (h0 : J [] W) (hi : -9223372036854775808 ≤ i ∧ i ≤ 9223372036854775807) (hk : k ≤ 100000) :
    CallsIn F n Tryz.prog 253 #[.func (.yield l) #[] #[], .pointer (some ⟨f, 0, none⟩), .pointer (some ⟨p, 0, none⟩), .pointer (some ⟨q, 0, none⟩)] W fun e W' => (∃ v, e = .returned v) ∧
      ((∃ ys, ys = L ∧ J ys W') ∨ (∃ pre, pre <+: L ∧ Jx pre W')) := by
  obtain ⟨c1, c2, c3, hL⟩ := hP
  refine callsIn_of_wp Tryz.func253 rfl hf ?_ hro
  simp only [Tryz.ntmps253, List.size_toArray, List.length_cons, List.length_nil, Nat.reduceAdd, Nat.reduceSub, Array.replicate_succ, Array.replicate_zero, List.push_toArray, List.append_toArray, List.nil_append, List.cons_append]
  have C2 := Lib.hid c2
  have C3 := Lib.hid c3
  have HL := Lib.hid hL
  clear c2 c3 hL
  gi_wp2
  clear c1
  gi_loopw [5] (fun v wr => ∃ (pre rest : List α), v = .int .i64 (nh (rest.map val)) ∧ L = pre ++ rest ∧ KpT p q c g W wr ∧ J pre wr) (fun v wr => (intOf v + 1).toNat)
  case atStart => exact ⟨[], L, rfl, rfl, KpT.refl _ _ _ _ _, h0⟩
  case round =>
    obtain ⟨pre, rest, rfl, hx, hkp, hJ⟩ := hrel
    cases rest with
    | nil =>
      rw [show nh (List.map val []) = -1 from rfl]
      gi_wp2
      refine ⟨fun _ h => (by cases h), ?_⟩
      gi_wp2
      go_end0
      exact ⟨⟨_, rfl⟩, .inl ⟨pre, by simp [hx], hJ⟩⟩
    | cons x r =>
      have hl := HL.out
      rw [hx, List.map_append, List.map_cons] at hl
      obtain ⟨b1, b2, b3, b4, b5, _⟩ := hl.drop
      rw [show nh (List.map val (x :: r)) = ((val x : Nat) : Int) from rfl]
      obtain ⟨cv, d1, d2⟩ := C3.out (by rw [hx]; simp)
      have m2 := (cell_kpt (o := 0) hkp (.inl rfl)).trans C2.out
      obtain ⟨fn, tmps, assign, body, hy, hR⟩ := hY pre x wr hJ (by rw [hx]; simp)
      have HX := Lib.hid hx
      clear hx hl
      generalize val x = x' at *
      have e1 : ((x' : Int) != -1) = true := by simp <;> omega
      have e2 : ¬ (x' : Int) = -1 := by omega
      have B4 := Lib.hid b4
      have B5 := Lib.hid b5
      have D1 := Lib.hid d1
      have D2 := Lib.hid d2
      clear b4 b5 d1 d2
      gi_wp2
      refine hR.mono ?_
      rintro e W3 (⟨rfl, hJ3, hk3⟩ | ⟨rfl, hJx3⟩)
      · have hkk := hkp.trans hk3
        have m3 := (cell_kpt (o := 0) hkk (.inr (.inl rfl))).trans D1.out
        have m4 := (cell_kpt (o := 2) hkk (.inr (.inr (.inl rfl)))).trans D2.out
        have m5 := (cell_kpt (o := o + x') hkk (.inr (.inr (.inr rfl)))).trans B5.out
        clear hy hR
        gi_wp2
        go_roundw
        case rel => exact ⟨pre ++ [x], r, rfl, by rw [HX.out]; simp, hkk, hJ3⟩
        case measure =>
          have := B4.out
          cases r with
          | nil => simp [intOf, nh] <;> omega
          | cons y s => have := this (val y) (s.map val) rfl; simp [intOf, nh] <;> omega
      · gi_wp2
        go_end0
        exact ⟨⟨_, rfl⟩, .inr ⟨pre ++ [x], ⟨r, by rw [HX.out]; simp⟩, hJx3⟩⟩
theorem vplaces_stops (F : Fence) (n : Nat) (hf : F.fn 253) (hro : F.round = none) (hn : 1 ≤ n) (f p q c g o k : Nat) (i : Int) (L : List α) (w : World) (hP : Pls w f p q c g o k i (L.map val)) (hi : -9223372036854775808 ≤ i ∧ i ≤ 9223372036854775807) (hk : k ≤ 100000)
    (n₀ : Nat) (hn₀ : ∀ b, PT p q c g b → b < n₀) (hlt : f < w.heap.size ∧ p < w.heap.size ∧ q < w.heap.size ∧ (L.map val ≠ [] → c < w.heap.size ∧ g < w.heap.size)) :
    SeqStopsK F n Tryz.prog 253 #[.pointer (some ⟨f, 0, none⟩), .pointer (some ⟨p, 0, none⟩), .pointer (some ⟨q, 0, none⟩)] (fun x : α => #[Value.int .i64 ((val x : Nat) : Int)]) (Below n₀) (fun ys => ys = L) (fun pre => pre <+: L) L.length w := fun l J Jx W hW _ _ hY h0 =>
  vplaces1_in val F n hf hro hn l f p q c g o k i L J Jx (fun pre x W1 h1 h2 => by
    obtain ⟨fn, tmps, assign, body, hy, hR⟩ := hY pre x W1 h1 h2
    refine ⟨fn, tmps, assign, body, hy, hR.mono ?_⟩
    rintro e W' (⟨h3, h4, h5⟩ | h3)
    · exact .inl ⟨h3, h4, fun b hb => h5.block b (hn₀ b hb)⟩
    · exact .inr h3) W
    ⟨(hW.cell (p := ⟨f, 0, none⟩) hlt.1).trans hP.1, (hW.cell (p := ⟨p, 0, none⟩) hlt.2.1).trans hP.2.1, fun h => by
      obtain ⟨cv, h1, h2⟩ := hP.2.2.1 h
      exact ⟨cv, (hW.cell (p := ⟨q, 0, none⟩) hlt.2.2.1).trans h1, (hW.cell (p := ⟨c, 2, none⟩) (hlt.2.2.2 h).1).trans h2⟩, by
      by_cases h : L.map val = []
      · rw [h]; trivial
      · exact Lnk.keep (hW.block g (hlt.2.2.2 h).2) hP.2.2.2⟩ h0 hi hk
end
end Go.Proofs.YtmiimjgfainclaaGreat.Cur
namespace Go.Proofs.YtmiimjgfainclaaGreat.Cur
open Go.RowKit Go.Shelf Mem
attribute [local go_sem] Oper.semAt_some
set_option linter.unusedVariables false
set_option maxRecDepth 100000
def sstp (z : List Int) (a : Int) (s : Int × Int) (p : Nat) : Int × Int := if s.2 < mt z a.toNat p ∨ ((mt z a.toNat p : Nat) : Int) = s.2 ∧ a - p < s.1 ∧ ky z (a.toNat + (s.2 - 3).toNat) = ky z (p + (s.2 - 3).toNat) then (a - p, mt z a.toNat p) else s
def fld (z : List Int) (a : Int) (L : List Nat) (s : Int × Int) : Int × Int := L.foldl (sstp z a) s
theorem fld_snoc (z : List Int) (a : Int) (L : List Nat) (p : Nat) (s : Int × Int) : fld z a (L ++ [p]) s = sstp z a (fld z a L s) p := by unfold fld; rw [List.foldl_append]; rfl
theorem stp_ge (z : List Int) (a : Int) (s : Int × Int) (p : Nat) : s.2 ≤ (sstp z a s p).2 := by
  unfold sstp
  split
  · rename_i h; show s.2 ≤ ((mt z a.toNat p : Nat) : Int); omega
  · exact Int.le_refl _
theorem fld_ge (z : List Int) (a : Int) : ∀ (L : List Nat) (s : Int × Int), s.2 ≤ (fld z a L s).2
  | [], s => Int.le_refl _
  | p :: L, s => Int.le_trans (stp_ge z a s p) (fld_ge z a L _)
theorem fld_bst {z : List Int} {a : Int} : ∀ (L : List Nat) (s : Int × Nat), L.Pairwise (· > ·) → (∀ p ∈ L, (p : Int) < a ∧ s.1 < a - p) → fld z a L (s.1, s.2) = ((bst z a L s).1, ((bst z a L s).2 : Int))
  | [], s, _, _ => rfl
  | p :: L, s, hs, hp => by
    obtain ⟨h1, h2⟩ := List.pairwise_cons.1 hs
    obtain ⟨p1, p2⟩ := hp p (by simp)
    show fld z a L (sstp z a (s.1, s.2) p) = _
    rw [bst]
    by_cases h : s.2 < mt z a.toNat p
    · have e : sstp z a (s.1, (s.2 : Int)) p = (a - p, ((mt z a.toNat p : Nat) : Int)) := by unfold sstp; rw [if_pos (.inl (by show (s.2 : Int) < _; omega))]
      rw [e, if_pos h]
      exact fld_bst L (a - p, mt z a.toNat p) h2 fun q hq => ⟨(hp q (by simp [hq])).1, by have := h1 q hq; show a - (p : Int) < a - q; omega⟩
    · have e : sstp z a (s.1, (s.2 : Int)) p = (s.1, (s.2 : Int)) := by
        unfold sstp
        rw [if_neg]
        show ¬ ((s.2 : Int) < _ ∨ _ ∧ a - (p : Int) < s.1 ∧ _)
        omega
      rw [e, if_neg h]
      exact fld_bst L s h2 fun q hq => hp q (by simp [hq])
abbrev PLt (a : Int) := {p : Nat // (p : Int) < a}
def BsI (w : World) (A : Option Addr) (n m : Nat) (z : List Int) (a : Int) (pre : List (PLt a)) (W : World) : Prop :=
  ((((((Boxed W w.heap.size 25 (.slice A n m) ∧ Boxed W (w.heap.size + 1) 3 (.int .i64 a)) ∧ Boxed W (w.heap.size + 1 + 1) 3 (.int .i64 (fld z a (pre.map Subtype.val) (0, 3)).1)) ∧ Boxed W (w.heap.size + 1 + 1 + 1) 3 (.int .i64 (fld z a (pre.map Subtype.val) (0, 3)).2)) ∧
    Boxed W (w.heap.size + 1 + 1 + 1 + 1) 3 (.int .i64 (pre.length : Nat))) ∧ Boxed W (w.heap.size + 1 + 1 + 1 + 1 + 1) 3 (.int .i64 (lim z a))) ∧ Below w.heap.size w W)
theorem BsI.own (w : World) (A : Option Addr) (n m : Nat) (z : List Int) (a : Int) {B : Nat} (h : w.heap.size ≤ B) : OwnFrom B (BsI w A n m z a) :=
  OwnFrom.and (OwnFrom.and (OwnFrom.and (OwnFrom.and (OwnFrom.and (OwnFrom.and (Own.from (boxed_own _ _ (fun _ => _)) _) (Own.from (boxed_own _ _ (fun _ => _)) _)) (Own.from (boxed_own _ _ (fun pre : List (PLt a) => .int .i64 (fld z a (pre.map Subtype.val) (0, 3)).1)) _)) (Own.from (boxed_own _ _ (fun pre : List (PLt a) => .int .i64 (fld z a (pre.map Subtype.val) (0, 3)).2)) _))
    (Own.from (boxed_own _ _ (fun pre : List (PLt a) => .int .i64 (pre.length : Nat))) _)) (Own.from (boxed_own _ _ (fun _ => _)) _)) (ownFrom_below (Nat.le_refl _) h)
def BsX (w : World) (A : Option Addr) (n m : Nat) (z : List Int) (a : Int) (cd : Code) (pre : List (PLt a)) (W : World) : Prop :=
  (cd = .exit 0 ∧ pre ≠ [] ∧ lim z a ≤ (fld z a (pre.dropLast.map Subtype.val) (0, 3)).2) ∧ BsI w A n m z a pre.dropLast W
theorem BsX.own (w : World) (A : Option Addr) (n m : Nat) (z : List Int) (a : Int) (cd : Code) {B : Nat} (h : w.heap.size ≤ B) : OwnFrom B (BsX w A n m z a cd) :=
  OwnFrom.and (ownFrom_pure _ _) (fun s X Y row hs hg hr => BsI.own w A n m z a h s.dropLast X Y row hs hg hr)
def BestPost (z : List Int) (a : Int) (L : List Nat) (w : World) (e : Ending) (w' : World) : Prop :=
  ∃ t : Nat, t ≤ L.length ∧ e = .returned (.tuple #[.int .i64 (bst z a L (0, 3)).1, .int .i64 (if (bst z a L (0, 3)).1 = 0 then 0 else ((bst z a L (0, 3)).2 : Int)), .int .i64 t]) ∧ Below w.heap.size w w'
theorem keepsOthers_drewN (W : World) (q : Nat) : KeepsOthers W (W.drewN q) := ⟨Nat.le_refl _, fun _ _ h _ => h⟩
theorem BsI.mk {w : World} {A : Option Addr} {n m : Nat} {z : List Int} {a : Int} {pre : List (PLt a)} {W : World} {u v k : Int} (b0 : Boxed W w.heap.size 25 (.slice A n m)) (b1 : Boxed W (w.heap.size + 1) 3 (.int .i64 a)) (b2 : Boxed W (w.heap.size + 1 + 1) 3 (.int .i64 u)) (b3 : Boxed W (w.heap.size + 1 + 1 + 1) 3 (.int .i64 v))
    (b4 : Boxed W (w.heap.size + 1 + 1 + 1 + 1) 3 (.int .i64 k)) (b5 : Boxed W (w.heap.size + 1 + 1 + 1 + 1 + 1) 3 (.int .i64 (lim z a))) (hB : Below w.heap.size w W) (hst : fld z a (pre.map Subtype.val) (0, 3) = (u, v)) (hk : k = ((pre.length : Nat) : Int)) : BsI w A n m z a pre W := by
  subst hk
  refine ⟨⟨⟨⟨⟨⟨b0, b1⟩, ?_⟩, ?_⟩, b4⟩, b5⟩, hB⟩
  · rw [hst]; exact b2
  · rw [hst]; exact b3
theorem results_int3 {fn : Func} {p q r : Tmp} (h : fn.results = #[.cell p 3, .cell q 3, .cell r 3]) (tmps : Array Value) (w : World) (x y z : Addr) (u v s : Int) (hp : tmps.getD p undef = .pointer (some x)) (hq : tmps.getD q undef = .pointer (some y)) (hr : tmps.getD r undef = .pointer (some z))
    (cx : w.cell? x = some (.int .i64 u)) (cy : w.cell? y = some (.int .i64 v)) (cz : w.cell? z = some (.int .i64 s)) : (results fn tmps).run Tryz.prog w = .ok (.tuple #[.int .i64 u, .int .i64 v, .int .i64 s]) w := by
  have hp' : tmps[p]?.getD undef = .pointer (some x) := by simpa using hp
  have hq' : tmps[q]?.getD undef = .pointer (some y) := by simpa using hq
  have hr' : tmps[r]?.getD undef = .pointer (some z) := by simpa using hr
  simp only [results, h]
  go_simp
theorem len_snoc {α : Type} (pre : List α) (x : α) : ((pre.length : Nat) : Int) + 1 = (((pre ++ [x]).length : Nat) : Int) := by simp
set_option maxHeartbeats 8000000 in
theorem best_any {w : World} {A : Option Addr} {n m : Nat} {z : List Int} (a : Int) (gf : Nat) (lb : Array Value) (Ls : List (PLt a)) (hz : Bs w A n z) (hby : ∀ x ∈ z, 0 ≤ x ∧ x < 256) (hm : n ≤ m) (hn : n ≤ 60000) (ha : -9223372036854775808 ≤ a ∧ a ≤ 9223372036854775807)
    (hLs : (Ls.map Subtype.val).Pairwise (· > ·)) (hlen : Ls.length ≤ 100000) (eg : ∀ args w, (callFunc gf args).run Tryz.prog w = .ok (.enter gf args) w)
    (hseq : SeqStopsK Fence.wide 2 Tryz.prog gf lb (fun x : PLt a => #[Value.int .i64 ((x.1 : Nat) : Int)]) (Below w.heap.size) (fun ys => ys = Ls) (fun pre => pre <+: Ls) Ls.length w) :
    Calls Tryz.prog 240 #[.slice A n m, .int .i64 a, .func (.func gf) #[] lb] w (BestPost z a (Ls.map Subtype.val) w) := by
  have hzl := hz.1
  refine (callsIn_wide (n := 3)).1 ?_
  refine callsIn_of_wp_marks Tryz.func240 rfl trivial ?_ rfl
  refine wpIn_wide.2 ?_
  simp only [Tryz.ntmps240, List.size_toArray, List.length_cons, List.length_nil, Nat.reduceAdd, Nat.reduceSub, Array.replicate_succ, Array.replicate_zero, List.push_toArray, List.append_toArray, List.nil_append, List.cons_append]
  have hmo := fun w => most_any (w := w) (A := A) (m := m) a hzl (by omega) ha
  have HZ := Lib.hid hz
  have HBY := Lib.hid hby
  clear hz hby
  go_wp2_with fail
  refine (hmo _).mono ?_
  rintro e w1 ⟨rfl, rfl⟩
  clear hmo
  go_wp2_with fail
  have b0 := (((((Boxed.new w 25 (.slice A n m)).alloc (.cells #[.int .i64 a] 3)).alloc (.cells #[.int .i64 0] 3)).alloc (.cells #[.int .i64 3] 3)).alloc (.cells #[.int .i64 0] 3)).alloc (.cells #[.int .i64 (lim z a)] 3)
  have b1 := ((((Boxed.new (w.alloc (.cells #[.slice A n m] 25)) 3 (.int .i64 a)).alloc (.cells #[.int .i64 0] 3)).alloc (.cells #[.int .i64 3] 3)).alloc (.cells #[.int .i64 0] 3)).alloc (.cells #[.int .i64 (lim z a)] 3)
  have b2 := (((Boxed.new ((w.alloc (.cells #[.slice A n m] 25)).alloc (.cells #[.int .i64 a] 3)) 3 (.int .i64 0)).alloc (.cells #[.int .i64 3] 3)).alloc (.cells #[.int .i64 0] 3)).alloc (.cells #[.int .i64 (lim z a)] 3)
  have b3 := ((Boxed.new (((w.alloc (.cells #[.slice A n m] 25)).alloc (.cells #[.int .i64 a] 3)).alloc (.cells #[.int .i64 0] 3)) 3 (.int .i64 3)).alloc (.cells #[.int .i64 0] 3)).alloc (.cells #[.int .i64 (lim z a)] 3)
  have b4 := (Boxed.new ((((w.alloc (.cells #[.slice A n m] 25)).alloc (.cells #[.int .i64 a] 3)).alloc (.cells #[.int .i64 0] 3)).alloc (.cells #[.int .i64 3] 3)) 3 (.int .i64 0)).alloc (.cells #[.int .i64 (lim z a)] 3)
  have b5 := Boxed.new (((((w.alloc (.cells #[.slice A n m] 25)).alloc (.cells #[.int .i64 a] 3)).alloc (.cells #[.int .i64 0] 3)).alloc (.cells #[.int .i64 3] 3)).alloc (.cells #[.int .i64 0] 3)) 3 (.int .i64 (lim z a))
  simp only [World.size_alloc] at b0 b1 b2 b3 b4 b5
  have hsz : ((((((w.alloc (.cells #[.slice A n m] 25)).alloc (.cells #[.int .i64 a] 3)).alloc (.cells #[.int .i64 0] 3)).alloc (.cells #[.int .i64 3] 3)).alloc (.cells #[.int .i64 0] 3)).alloc (.cells #[.int .i64 (lim z a)] 3)).heap.size = w.heap.size + 1 + 1 + 1 + 1 + 1 + 1 := by simp only [World.size_alloc]
  have hB0 : Below w.heap.size w ((((((w.alloc (.cells #[.slice A n m] 25)).alloc (.cells #[.int .i64 a] 3)).alloc (.cells #[.int .i64 0] 3)).alloc (.cells #[.int .i64 3] 3)).alloc (.cells #[.int .i64 0] 3)).alloc (.cells #[.int .i64 (lim z a)] 3)) :=
    ((((((Below.refl w.heap.size w).alloc (by simp) _).alloc (by simp) _).alloc (by simp <;> omega) _).alloc (by simp <;> omega) _).alloc (by simp <;> omega) _).alloc (by simp <;> omega) _
  generalize (((((w.alloc (.cells #[.slice A n m] 25)).alloc (.cells #[.int .i64 a] 3)).alloc (.cells #[.int .i64 0] 3)).alloc (.cells #[.int .i64 3] 3)).alloc (.cells #[.int .i64 0] 3)).alloc (.cells #[.int .i64 (lim z a)] 3) = W0 at *
  refine (wpIn_wide (n := 3)).1 ?_
  refine wpIn_rangeFunc_ownG rfl (by omega) (gf := gf) (lb := lb) rfl trivial eg hseq belowK_t (belowK_b (by omega)) hB0 (fun _ => rfl) (BsI w A n m z a) (BsX w A n m z a) (BsI.own w A n m z a (by omega)) (fun cd => BsX.own w A n m z a cd (by omega))
    ⟨⟨⟨⟨⟨⟨b0, b1⟩, b2⟩, b3⟩, b4⟩, b5⟩, hB0⟩ ?a1 ?assign ?body ?done ?stop
  case assign =>
    intro l x W K hK
    gi_wp2
    exact hK
  case body =>
    rintro l pre ⟨p, hp⟩ W ⟨⟨⟨⟨⟨⟨b0, b1⟩, b2⟩, b3⟩, b4⟩, b5⟩, hB⟩ hlt
    have hge := fld_ge z a (pre.map Subtype.val) (0, 3)
    obtain ⟨⟨off, k⟩, hs⟩ : ∃ s, fld z a (pre.map Subtype.val) (0, 3) = s := ⟨_, rfl⟩
    rw [hs] at b2 b3 hge
    dsimp only at b2 b3 hge
    have HS := Lib.hid hs
    have c0 := b0.cell
    have c1 := b1.cell
    have c2 := b2.cell
    have c3 := b3.cell
    have c4 := b4.cell
    have c5 := b5.cell
    have f2 := b2.frozen
    have f3 := b3.frozen
    have f4 := b4.frozen
    clear hs
    by_cases hfull : lim z a ≤ k
    · gi_wp2
      refine ⟨KeepsFrom.refl _ _, ⟨rfl, by simp, by rw [List.dropLast_concat, HS.out]; exact hfull⟩, ?_⟩
      rw [List.dropLast_concat]
      exact ⟨⟨⟨⟨⟨⟨b0, b1⟩, by rw [HS.out]; exact b2⟩, by rw [HS.out]; exact b3⟩, b4⟩, b5⟩, hB⟩
    · have hl : 0 ≤ a ∧ a ≤ n ∧ lim z a = n - a := by
        unfold lim at *
        rw [hzl] at *
        split at hfull <;> rename_i h
        · rw [if_pos h]; exact ⟨h.1, h.2, rfl⟩
        · omega
      obtain ⟨an, rfl⟩ : ∃ an : Nat, a = an := ⟨a.toNat, by omega⟩
      obtain ⟨t, rfl⟩ : ∃ t : Nat, k = 3 + (t : Int) := ⟨(k - 3).toNat, by omega⟩
      have hp' : p < an := by omega
      have hat : an + t + 4 ≤ n := by omega
      have hpl : pre.length ≤ 100000 := by omega
      have hll : ¬ lim z (an : Int) ≤ 3 + (t : Int) := hfull
      have hlt3 : (pre.length : Int) + 1 ≤ 200000 := by omega
      obtain ⟨W1, hW1⟩ : ∃ W1, W.setCell ⟨w.heap.size + 1 + 1 + 1 + 1, 0, none⟩ (.int .i64 ((pre.length : Int) + 1)) = W1 := ⟨_, rfl⟩
      have hB1 : Below w.heap.size w W1 := by rw [← hW1]; exact hB.setCell (p := ⟨w.heap.size + 1 + 1 + 1 + 1, 0, none⟩) (by show w.heap.size ≤ w.heap.size + 1 + 1 + 1 + 1; omega) _
      have hB1' : Below w.heap.size W W1 := by rw [← hW1]; exact (Below.refl _ W).setCell (p := ⟨w.heap.size + 1 + 1 + 1 + 1, 0, none⟩) (by show w.heap.size ≤ w.heap.size + 1 + 1 + 1 + 1; omega) _
      have hKo : KeepsOthers W W1 := by rw [← hW1]; exact KeepsOthers.setCell _ _ _
      have a0 : Boxed W1 w.heap.size 25 (.slice A n m) := by rw [← hW1]; exact b0.other (by omega) _
      have a1 : Boxed W1 (w.heap.size + 1) 3 (.int .i64 (an : Int)) := by rw [← hW1]; exact b1.other (by omega) _
      have a2 : Boxed W1 (w.heap.size + 1 + 1) 3 (.int .i64 off) := by rw [← hW1]; exact b2.other (by omega) _
      have a3 : Boxed W1 (w.heap.size + 1 + 1 + 1) 3 (.int .i64 (3 + (t : Int))) := by rw [← hW1]; exact b3.other (by omega) _
      have a4 : Boxed W1 (w.heap.size + 1 + 1 + 1 + 1) 3 (.int .i64 ((pre.length : Int) + 1)) := by rw [← hW1]; exact b4.set _
      have a5 : Boxed W1 (w.heap.size + 1 + 1 + 1 + 1 + 1) 3 (.int .i64 (lim z (an : Int))) := by rw [← hW1]; exact b5.other (by omega) _
      have hz1 := HZ.out.below hB1
      have hmay := may_any an p t hz1 HBY.out hm (by omega) (by omega) hat
      rw [show ((3 + t : Nat) : Int) = 3 + (t : Int) by omega] at hmay
      have hmv : mv z an ((an : Int) - p) = (mt z an p : Nat) := by
        unfold mv
        rw [if_pos (by omega), Int.toNat_natCast, show ((an : Int) - (an - p)).toNat = p by omega]
      have hma := fun q : Nat => match_any (w := W1.drewN q) (m := m) (an : Int) ((an : Int) - p) (hz1.drewN q) HBY.out hm (by omega) ha
      unfold MatchPost at hma
      rw [hmv] at hma
      have hst : fld z an (List.map Subtype.val (pre ++ [(⟨p, hp⟩ : PLt (an : Int))])) (0, 3) = sstp z an (off, 3 + (t : Int)) p := by rw [List.map_append, List.map_cons, List.map_nil, fld_snoc, HS.out]
      have hmtl := mt_le z an p
      have HST := Lib.hid hst
      have HMA := Lib.hid hma
      have HMAY := Lib.hid hmay
      clear hst hma hmay hmv hz1
      have d0 := a0.cell
      have d1 := a1.cell
      have d2 := a2.cell
      have d3 := a3.cell
      have g2 := a2.frozen
      have g3 := a3.frozen
      by_cases hkk : ky z (an + t) = ky z (p + t)
      · rw [decide_eq_true hkk] at HMAY
        obtain ⟨M, hM⟩ : ∃ M, mt z an p = M := ⟨_, rfl⟩
        rw [hM] at HMA hmtl
        by_cases hb : 3 + (t : Int) < M ∨ (M : Int) = 3 + (t : Int) ∧ (an : Int) - p < off
        · have hstp : sstp z an (off, 3 + (t : Int)) p = ((an : Int) - p, (M : Int)) := by
            unfold sstp
            rw [Int.toNat_natCast, hM, show (3 + (t : Int) - 3).toNat = t by omega, if_pos]
            rcases hb with h | ⟨h1, h2⟩
            · exact .inl h
            · exact .inr ⟨h1, h2, hkk⟩
          rw [hstp] at HST
          have HBE := Lib.hid (decide_eq_true hb)
          clear hkk hM hstp hb hl
          gi_wp2_with (first | (refine ⟨trivial, ?_⟩; gi_at_call 249; refine (CallsIn.inRound l (callsIn_wide.2 HMAY.out)).mono ?_; rintro e w' ⟨rfl, q1, rfl⟩) | (refine ⟨trivial, ?_⟩; gi_at_call 250; refine (CallsIn.inRound l (callsIn_wide.2 (HMA.out _))).mono ?_; rintro e w' ⟨rfl, q2, rfl⟩) | (refine ⟨trivial, ?_⟩; gi_at_call 251; refine (CallsIn.inRound l (callsIn_wide.2 (better_any _ _ _ _ _))).mono ?_; rintro e w' ⟨rfl, rfl⟩; rw [HBE.out]))
          refine ⟨((hKo.trans (keepsOthers_drewN _ _)).trans ((KeepsOthers.setCell _ _ _).trans (KeepsOthers.setCell _ _ _))).from _, ?_, ?_⟩
          · exact ((below_drewN hB1' _).setCell (p := ⟨w.heap.size + 1 + 1, 0, none⟩) (by show w.heap.size ≤ w.heap.size + 1 + 1; omega) _).setCell (p := ⟨w.heap.size + 1 + 1 + 1, 0, none⟩) (by show w.heap.size ≤ w.heap.size + 1 + 1 + 1; omega) _
          · have e0 : Boxed (W1.drewN (q1 + q2)) w.heap.size 25 (.slice A n m) := a0
            have e1 : Boxed (W1.drewN (q1 + q2)) (w.heap.size + 1) 3 (.int .i64 (an : Int)) := a1
            have e2 : Boxed (W1.drewN (q1 + q2)) (w.heap.size + 1 + 1) 3 (.int .i64 off) := a2
            have e3 : Boxed (W1.drewN (q1 + q2)) (w.heap.size + 1 + 1 + 1) 3 (.int .i64 (3 + (t : Int))) := a3
            have e4 : Boxed (W1.drewN (q1 + q2)) (w.heap.size + 1 + 1 + 1 + 1) 3 (.int .i64 ((pre.length : Int) + 1)) := a4
            have e5 : Boxed (W1.drewN (q1 + q2)) (w.heap.size + 1 + 1 + 1 + 1 + 1) 3 (.int .i64 (lim z (an : Int))) := a5
            exact BsI.mk ((e0.other (by omega) _).other (by omega) _) ((e1.other (by omega) _).other (by omega) _) ((e2.set _).other (by omega) _) ((e3.other (by omega) _).set _) ((e4.other (by omega) _).other (by omega) _) ((e5.other (by omega) _).other (by omega) _)
              (((below_drewN hB1 _).setCell (p := ⟨w.heap.size + 1 + 1, 0, none⟩) (by show w.heap.size ≤ w.heap.size + 1 + 1; omega) _).setCell (p := ⟨w.heap.size + 1 + 1 + 1, 0, none⟩) (by show w.heap.size ≤ w.heap.size + 1 + 1 + 1; omega) _) HST.out (len_snoc _ _)
        · have hstp : sstp z an (off, 3 + (t : Int)) p = (off, 3 + (t : Int)) := by
            unfold sstp
            rw [Int.toNat_natCast, hM, show (3 + (t : Int) - 3).toNat = t by omega, if_neg]
            exact fun h => hb (h.imp (fun h => h) fun h => ⟨h.1, h.2.1⟩)
          rw [hstp] at HST
          have HBE := Lib.hid (decide_eq_false hb)
          clear hkk hM hstp hb hl
          gi_wp2_with (first | (refine ⟨trivial, ?_⟩; gi_at_call 249; refine (CallsIn.inRound l (callsIn_wide.2 HMAY.out)).mono ?_; rintro e w' ⟨rfl, q1, rfl⟩) | (refine ⟨trivial, ?_⟩; gi_at_call 250; refine (CallsIn.inRound l (callsIn_wide.2 (HMA.out _))).mono ?_; rintro e w' ⟨rfl, q2, rfl⟩) | (refine ⟨trivial, ?_⟩; gi_at_call 251; refine (CallsIn.inRound l (callsIn_wide.2 (better_any _ _ _ _ _))).mono ?_; rintro e w' ⟨rfl, rfl⟩; rw [HBE.out]))
          refine ⟨(hKo.trans (keepsOthers_drewN _ _)).from _, below_drewN hB1' _, ?_⟩
          exact BsI.mk a0 a1 a2 a3 a4 a5 (below_drewN hB1 _) HST.out (len_snoc _ _)
      · rw [decide_eq_false hkk] at HMAY
        have hstp : sstp z an (off, 3 + (t : Int)) p = (off, 3 + (t : Int)) := by
          have hk := mt_key (z := z) (a := an) (p := p) (t := t) (by omega) hkk
          unfold sstp
          rw [Int.toNat_natCast, show (3 + (t : Int) - 3).toNat = t by omega, if_neg]
          rintro (h | ⟨_, _, h⟩)
          · have h : 3 + (t : Int) < (mt z an p : Nat) := h
            omega
          · exact hkk h
        rw [hstp] at HST
        clear hkk hstp hl
        gi_wp2_with (first | (refine ⟨trivial, ?_⟩; gi_at_call 249; refine (CallsIn.inRound l (callsIn_wide.2 HMAY.out)).mono ?_; rintro e w' ⟨rfl, q1, rfl⟩) | (refine ⟨trivial, ?_⟩; gi_at_call 250; refine (CallsIn.inRound l (callsIn_wide.2 (HMA.out _))).mono ?_; rintro e w' ⟨rfl, q2, rfl⟩) | (refine ⟨trivial, ?_⟩; gi_at_call 251; refine (CallsIn.inRound l (callsIn_wide.2 (better_any _ _ _ _ _))).mono ?_; rintro e w' ⟨rfl, rfl⟩; rw [HBE.out]))
        refine ⟨(hKo.trans (keepsOthers_drewN _ _)).from _, below_drewN hB1' _, ?_⟩
        exact BsI.mk a0 a1 a2 a3 a4 a5 (below_drewN hB1 _) HST.out (len_snoc _ _)
  case done =>
    rintro D ys W hD rfl hI hK
    have hB := hI.2
    have hfl : fld z a (ys.map Subtype.val) (0, 3) = ((bst z a (ys.map Subtype.val) (0, 3)).1, (((bst z a (ys.map Subtype.val) (0, 3)).2 : Nat) : Int)) :=
      fld_bst (ys.map Subtype.val) (0, 3) hLs fun p hp => by
        rw [List.mem_map] at hp
        obtain ⟨q, _, rfl⟩ := hp
        have := q.2
        exact ⟨this, by show 0 < a - _; omega⟩
    obtain ⟨⟨⟨⟨⟨⟨b0, b1⟩, b2⟩, b3⟩, b4⟩, b5⟩, _⟩ := hI
    rw [hfl] at b2 b3
    have ht : ys.length ≤ (ys.map Subtype.val).length := by rw [List.length_map]; exact Nat.le_refl _
    have ht2 : ys.length ≤ 100000 := hlen
    generalize ys.length = t at b4 ht ht2
    obtain ⟨⟨u, v⟩, hR⟩ : ∃ s, bst z a (ys.map Subtype.val) (0, 3) = s := ⟨_, rfl⟩
    rw [hR] at b2 b3
    have HR := Lib.hid hR
    have HT := Lib.hid ht
    clear hfl hR ht b0 b1 b5 hlen hLs
    have hDl : D < W.heap.size := (Array.getElem?_eq_some_iff.1 hK).1
    have c2 := b2.cell
    have c3 := b3.cell
    have c4 := b4.cell
    have f2 := b2.frozen
    have f3 := b3.frozen
    have f4 := b4.frozen
    by_cases h0 : u = 0
    · subst h0
      dsimp only
      go_wp2
      clear hseq HZ HBY eg
      go_region
      go_wp2
      have e2 := ((b2.set (.int .i64 0)).other (B' := w.heap.size + 1 + 1 + 1) (by omega) (.int .i64 0)).other (B' := w.heap.size + 1 + 1 + 1 + 1) (by omega) (.int .i64 (t : Int))
      have e3 := ((b3.other (B' := w.heap.size + 1 + 1) (by omega) (.int .i64 0)).set (.int .i64 0)).other (B' := w.heap.size + 1 + 1 + 1 + 1) (by omega) (.int .i64 (t : Int))
      have e4 := ((b4.other (B' := w.heap.size + 1 + 1) (by omega) (.int .i64 0)).other (B' := w.heap.size + 1 + 1 + 1) (by omega) (.int .i64 0)).set (.int .i64 (t : Int))
      have hBe := ((hB.setCell (p := ⟨w.heap.size + 1 + 1, 0, none⟩) (by show w.heap.size ≤ w.heap.size + 1 + 1; omega) (.int .i64 0)).setCell (p := ⟨w.heap.size + 1 + 1 + 1, 0, none⟩) (by show w.heap.size ≤ w.heap.size + 1 + 1 + 1; omega) (.int .i64 0)).setCell (p := ⟨w.heap.size + 1 + 1 + 1 + 1, 0, none⟩) (by show w.heap.size ≤ w.heap.size + 1 + 1 + 1 + 1; omega) (.int .i64 (t : Int))
      have hKe : (((W.setCell ⟨w.heap.size + 1 + 1, 0, none⟩ (.int .i64 0)).setCell ⟨w.heap.size + 1 + 1 + 1, 0, none⟩ (.int .i64 0)).setCell ⟨w.heap.size + 1 + 1 + 1 + 1, 0, none⟩ (.int .i64 (t : Int))).heap[D]? = some (.deferred (some [])) :=
        (Below.heap_setCell _ _ _ D (by show D ≠ w.heap.size + 1 + 1 + 1 + 1; omega)).trans ((Below.heap_setCell _ _ _ D (by show D ≠ w.heap.size + 1 + 1 + 1; omega)).trans ((Below.heap_setCell _ _ _ D (by show D ≠ w.heap.size + 1 + 1; omega)).trans hK))
      generalize ((W.setCell ⟨w.heap.size + 1 + 1, 0, none⟩ (.int .i64 0)).setCell ⟨w.heap.size + 1 + 1 + 1, 0, none⟩ (.int .i64 0)).setCell ⟨w.heap.size + 1 + 1 + 1 + 1, 0, none⟩ (.int .i64 (t : Int)) = We at *
      refine ⟨by simp, .inl ⟨_, _, rfl, run_takeDeferred hKe, ?_⟩⟩
      have k2 := cell_kept (W := We.drew) (W' := We.drew.putObj D (.deferred none)) e2.cell (grownBy_putObj' _ D (.deferred none)) (fun r e => by cases e; exact ⟨_, hKe, rfl⟩)
      have k3 := cell_kept (W := We.drew) (W' := We.drew.putObj D (.deferred none)) e3.cell (grownBy_putObj' _ D (.deferred none)) (fun r e => by cases e; exact ⟨_, hKe, rfl⟩)
      have k4 := cell_kept (W := We.drew) (W' := We.drew.putObj D (.deferred none)) e4.cell (grownBy_putObj' _ D (.deferred none)) (fun r e => by cases e; exact ⟨_, hKe, rfl⟩)
      have hBD : Below w.heap.size w (We.drew.putObj D (.deferred none)) := (hBe.trans (Below.mono (below_one' We) hBe.size)).trans (belowK_b (w := w) (Nat.le_refl _) We.drew D _ _ (by omega) hKe rfl rfl)
      refine ⟨_, results_int3 rfl _ _ _ _ _ _ _ _ rfl rfl rfl k2 k3 k4, t, HT.out, ?_, hBD⟩
      rw [HR.out]
      rfl
    · dsimp only
      go_wp2
      clear hseq HZ HBY eg
      go_region
      go_wp2
      have e2 := ((b2.set (.int .i64 u)).other (B' := w.heap.size + 1 + 1 + 1) (by omega) (.int .i64 (v : Int))).other (B' := w.heap.size + 1 + 1 + 1 + 1) (by omega) (.int .i64 (t : Int))
      have e3 := ((b3.other (B' := w.heap.size + 1 + 1) (by omega) (.int .i64 u)).set (.int .i64 (v : Int))).other (B' := w.heap.size + 1 + 1 + 1 + 1) (by omega) (.int .i64 (t : Int))
      have e4 := ((b4.other (B' := w.heap.size + 1 + 1) (by omega) (.int .i64 u)).other (B' := w.heap.size + 1 + 1 + 1) (by omega) (.int .i64 (v : Int))).set (.int .i64 (t : Int))
      have hBe := ((hB.setCell (p := ⟨w.heap.size + 1 + 1, 0, none⟩) (by show w.heap.size ≤ w.heap.size + 1 + 1; omega) (.int .i64 u)).setCell (p := ⟨w.heap.size + 1 + 1 + 1, 0, none⟩) (by show w.heap.size ≤ w.heap.size + 1 + 1 + 1; omega) (.int .i64 (v : Int))).setCell (p := ⟨w.heap.size + 1 + 1 + 1 + 1, 0, none⟩) (by show w.heap.size ≤ w.heap.size + 1 + 1 + 1 + 1; omega) (.int .i64 (t : Int))
      have hKe : (((W.setCell ⟨w.heap.size + 1 + 1, 0, none⟩ (.int .i64 u)).setCell ⟨w.heap.size + 1 + 1 + 1, 0, none⟩ (.int .i64 (v : Int))).setCell ⟨w.heap.size + 1 + 1 + 1 + 1, 0, none⟩ (.int .i64 (t : Int))).heap[D]? = some (.deferred (some [])) :=
        (Below.heap_setCell _ _ _ D (by show D ≠ w.heap.size + 1 + 1 + 1 + 1; omega)).trans ((Below.heap_setCell _ _ _ D (by show D ≠ w.heap.size + 1 + 1 + 1; omega)).trans ((Below.heap_setCell _ _ _ D (by show D ≠ w.heap.size + 1 + 1; omega)).trans hK))
      generalize ((W.setCell ⟨w.heap.size + 1 + 1, 0, none⟩ (.int .i64 u)).setCell ⟨w.heap.size + 1 + 1 + 1, 0, none⟩ (.int .i64 (v : Int))).setCell ⟨w.heap.size + 1 + 1 + 1 + 1, 0, none⟩ (.int .i64 (t : Int)) = We at *
      refine ⟨by simp, .inl ⟨_, _, rfl, run_takeDeferred hKe, ?_⟩⟩
      have k2 := cell_kept (W := We.drew) (W' := We.drew.putObj D (.deferred none)) e2.cell (grownBy_putObj' _ D (.deferred none)) (fun r e => by cases e; exact ⟨_, hKe, rfl⟩)
      have k3 := cell_kept (W := We.drew) (W' := We.drew.putObj D (.deferred none)) e3.cell (grownBy_putObj' _ D (.deferred none)) (fun r e => by cases e; exact ⟨_, hKe, rfl⟩)
      have k4 := cell_kept (W := We.drew) (W' := We.drew.putObj D (.deferred none)) e4.cell (grownBy_putObj' _ D (.deferred none)) (fun r e => by cases e; exact ⟨_, hKe, rfl⟩)
      have hBD : Below w.heap.size w (We.drew.putObj D (.deferred none)) := (hBe.trans (Below.mono (below_one' We) hBe.size)).trans (belowK_b (w := w) (Nat.le_refl _) We.drew D _ _ (by omega) hKe rfl rfl)
      refine ⟨_, results_int3 rfl _ _ _ _ _ _ _ _ rfl rfl rfl k2 k3 k4, t, HT.out, ?_, hBD⟩
      rw [HR.out]
      rw [if_neg h0]
  case stop =>
    rintro D cd pre W hD hpre ⟨⟨rfl, hne, hfull⟩, hI⟩ hK
    obtain ⟨ys, q, rfl⟩ : ∃ ys q, pre = ys ++ [q] := ⟨pre.dropLast, pre.getLast hne, (List.dropLast_concat_getLast hne).symm⟩
    rw [List.dropLast_concat] at hfull hI
    obtain ⟨rest, hrest⟩ := hpre
    rw [List.append_assoc] at hrest
    have hB := hI.2
    have hqa := q.2
    have hfl : fld z a (ys.map Subtype.val) (0, 3) = ((bst z a (ys.map Subtype.val) (0, 3)).1, (((bst z a (ys.map Subtype.val) (0, 3)).2 : Nat) : Int)) :=
      fld_bst (ys.map Subtype.val) (0, 3) (by rw [← hrest, List.map_append] at hLs; exact (List.pairwise_append.1 hLs).1) fun p hp => by
        rw [List.mem_map] at hp
        obtain ⟨q, _, rfl⟩ := hp
        have := q.2
        exact ⟨this, by show 0 < a - _; omega⟩
    obtain ⟨⟨⟨⟨⟨⟨b0, b1⟩, b2⟩, b3⟩, b4⟩, b5⟩, _⟩ := hI
    rw [hfl] at b2 b3 hfull
    have hall : bst z a (Ls.map Subtype.val) (0, 3) = bst z a (ys.map Subtype.val) (0, 3) := by
      rw [← hrest, List.map_append, bst_append]
      refine bst_full ?_ _
      unfold lim at hfull
      dsimp only at hfull
      split at hfull <;> omega
    have ht : ys.length ≤ (Ls.map Subtype.val).length := by rw [← hrest]; simp
    have ht2 : ys.length ≤ 100000 := by rw [List.length_map] at ht; omega
    generalize ys.length = t at b4 ht ht2
    obtain ⟨⟨u, v⟩, hR⟩ : ∃ s, bst z a (ys.map Subtype.val) (0, 3) = s := ⟨_, rfl⟩
    rw [hR] at b2 b3 hall
    have HR := Lib.hid hall
    have HT := Lib.hid ht
    clear hfl hR ht b0 b1 b5 hlen hLs hfull hall hrest hne
    refine wpIn_wide.2 ?_
    have hDl : D < W.heap.size := (Array.getElem?_eq_some_iff.1 hK).1
    have c2 := b2.cell
    have c3 := b3.cell
    have c4 := b4.cell
    have f2 := b2.frozen
    have f3 := b3.frozen
    have f4 := b4.frozen
    by_cases h0 : u = 0
    · subst h0
      dsimp only
      go_wp2
      clear hseq HZ HBY eg
      go_region
      go_wp2
      have e2 := ((b2.set (.int .i64 0)).other (B' := w.heap.size + 1 + 1 + 1) (by omega) (.int .i64 0)).other (B' := w.heap.size + 1 + 1 + 1 + 1) (by omega) (.int .i64 (t : Int))
      have e3 := ((b3.other (B' := w.heap.size + 1 + 1) (by omega) (.int .i64 0)).set (.int .i64 0)).other (B' := w.heap.size + 1 + 1 + 1 + 1) (by omega) (.int .i64 (t : Int))
      have e4 := ((b4.other (B' := w.heap.size + 1 + 1) (by omega) (.int .i64 0)).other (B' := w.heap.size + 1 + 1 + 1) (by omega) (.int .i64 0)).set (.int .i64 (t : Int))
      have hBe := ((hB.setCell (p := ⟨w.heap.size + 1 + 1, 0, none⟩) (by show w.heap.size ≤ w.heap.size + 1 + 1; omega) (.int .i64 0)).setCell (p := ⟨w.heap.size + 1 + 1 + 1, 0, none⟩) (by show w.heap.size ≤ w.heap.size + 1 + 1 + 1; omega) (.int .i64 0)).setCell (p := ⟨w.heap.size + 1 + 1 + 1 + 1, 0, none⟩) (by show w.heap.size ≤ w.heap.size + 1 + 1 + 1 + 1; omega) (.int .i64 (t : Int))
      have hKe : (((W.setCell ⟨w.heap.size + 1 + 1, 0, none⟩ (.int .i64 0)).setCell ⟨w.heap.size + 1 + 1 + 1, 0, none⟩ (.int .i64 0)).setCell ⟨w.heap.size + 1 + 1 + 1 + 1, 0, none⟩ (.int .i64 (t : Int))).heap[D]? = some (.deferred (some [])) :=
        (Below.heap_setCell _ _ _ D (by show D ≠ w.heap.size + 1 + 1 + 1 + 1; omega)).trans ((Below.heap_setCell _ _ _ D (by show D ≠ w.heap.size + 1 + 1 + 1; omega)).trans ((Below.heap_setCell _ _ _ D (by show D ≠ w.heap.size + 1 + 1; omega)).trans hK))
      generalize ((W.setCell ⟨w.heap.size + 1 + 1, 0, none⟩ (.int .i64 0)).setCell ⟨w.heap.size + 1 + 1 + 1, 0, none⟩ (.int .i64 0)).setCell ⟨w.heap.size + 1 + 1 + 1 + 1, 0, none⟩ (.int .i64 (t : Int)) = We at *
      refine ⟨by simp, .inl ⟨_, _, rfl, run_takeDeferred hKe, ?_⟩⟩
      have k2 := cell_kept (W := We.drew) (W' := We.drew.putObj D (.deferred none)) e2.cell (grownBy_putObj' _ D (.deferred none)) (fun r e => by cases e; exact ⟨_, hKe, rfl⟩)
      have k3 := cell_kept (W := We.drew) (W' := We.drew.putObj D (.deferred none)) e3.cell (grownBy_putObj' _ D (.deferred none)) (fun r e => by cases e; exact ⟨_, hKe, rfl⟩)
      have k4 := cell_kept (W := We.drew) (W' := We.drew.putObj D (.deferred none)) e4.cell (grownBy_putObj' _ D (.deferred none)) (fun r e => by cases e; exact ⟨_, hKe, rfl⟩)
      have hBD : Below w.heap.size w (We.drew.putObj D (.deferred none)) := (hBe.trans (Below.mono (below_one' We) hBe.size)).trans (belowK_b (w := w) (Nat.le_refl _) We.drew D _ _ (by omega) hKe rfl rfl)
      refine ⟨_, results_int3 rfl _ _ _ _ _ _ _ _ rfl rfl rfl k2 k3 k4, t, HT.out, ?_, hBD⟩
      rw [HR.out]
      rfl
    · dsimp only
      go_wp2
      clear hseq HZ HBY eg
      go_region
      go_wp2
      have e2 := ((b2.set (.int .i64 u)).other (B' := w.heap.size + 1 + 1 + 1) (by omega) (.int .i64 (v : Int))).other (B' := w.heap.size + 1 + 1 + 1 + 1) (by omega) (.int .i64 (t : Int))
      have e3 := ((b3.other (B' := w.heap.size + 1 + 1) (by omega) (.int .i64 u)).set (.int .i64 (v : Int))).other (B' := w.heap.size + 1 + 1 + 1 + 1) (by omega) (.int .i64 (t : Int))
      have e4 := ((b4.other (B' := w.heap.size + 1 + 1) (by omega) (.int .i64 u)).other (B' := w.heap.size + 1 + 1 + 1) (by omega) (.int .i64 (v : Int))).set (.int .i64 (t : Int))
      have hBe := ((hB.setCell (p := ⟨w.heap.size + 1 + 1, 0, none⟩) (by show w.heap.size ≤ w.heap.size + 1 + 1; omega) (.int .i64 u)).setCell (p := ⟨w.heap.size + 1 + 1 + 1, 0, none⟩) (by show w.heap.size ≤ w.heap.size + 1 + 1 + 1; omega) (.int .i64 (v : Int))).setCell (p := ⟨w.heap.size + 1 + 1 + 1 + 1, 0, none⟩) (by show w.heap.size ≤ w.heap.size + 1 + 1 + 1 + 1; omega) (.int .i64 (t : Int))
      have hKe : (((W.setCell ⟨w.heap.size + 1 + 1, 0, none⟩ (.int .i64 u)).setCell ⟨w.heap.size + 1 + 1 + 1, 0, none⟩ (.int .i64 (v : Int))).setCell ⟨w.heap.size + 1 + 1 + 1 + 1, 0, none⟩ (.int .i64 (t : Int))).heap[D]? = some (.deferred (some [])) :=
        (Below.heap_setCell _ _ _ D (by show D ≠ w.heap.size + 1 + 1 + 1 + 1; omega)).trans ((Below.heap_setCell _ _ _ D (by show D ≠ w.heap.size + 1 + 1 + 1; omega)).trans ((Below.heap_setCell _ _ _ D (by show D ≠ w.heap.size + 1 + 1; omega)).trans hK))
      generalize ((W.setCell ⟨w.heap.size + 1 + 1, 0, none⟩ (.int .i64 u)).setCell ⟨w.heap.size + 1 + 1 + 1, 0, none⟩ (.int .i64 (v : Int))).setCell ⟨w.heap.size + 1 + 1 + 1 + 1, 0, none⟩ (.int .i64 (t : Int)) = We at *
      refine ⟨by simp, .inl ⟨_, _, rfl, run_takeDeferred hKe, ?_⟩⟩
      have k2 := cell_kept (W := We.drew) (W' := We.drew.putObj D (.deferred none)) e2.cell (grownBy_putObj' _ D (.deferred none)) (fun r e => by cases e; exact ⟨_, hKe, rfl⟩)
      have k3 := cell_kept (W := We.drew) (W' := We.drew.putObj D (.deferred none)) e3.cell (grownBy_putObj' _ D (.deferred none)) (fun r e => by cases e; exact ⟨_, hKe, rfl⟩)
      have k4 := cell_kept (W := We.drew) (W' := We.drew.putObj D (.deferred none)) e4.cell (grownBy_putObj' _ D (.deferred none)) (fun r e => by cases e; exact ⟨_, hKe, rfl⟩)
      have hBD : Below w.heap.size w (We.drew.putObj D (.deferred none)) := (hBe.trans (Below.mono (below_one' We) hBe.size)).trans (belowK_b (w := w) (Nat.le_refl _) We.drew D _ _ (by omega) hKe rfl rfl)
      refine ⟨_, results_int3 rfl _ _ _ _ _ _ _ _ rfl rfl rfl k2 k3 k4, t, HT.out, ?_, hBD⟩
      rw [HR.out]
      rw [if_neg h0]
end Go.Proofs.YtmiimjgfainclaaGreat.Cur
namespace Go.Proofs.YtmiimjgfainclaaGreat.Cur
open Go.RowKit Go.Shelf Mem
attribute [local go_sem] Oper.semAt_some
set_option linter.unusedVariables false
set_option maxRecDepth 100000
def ofL {a : Int} (L : List Nat) (h : ∀ p ∈ L, (p : Int) < a) : List (PLt a) := L.attach.map fun p => ⟨p.1, h p.1 p.2⟩
theorem ofL_map {a : Int} (L : List Nat) (h : ∀ p ∈ L, (p : Int) < a) : (ofL L h).map Subtype.val = L := by
  unfold ofL
  rw [List.map_map]
  exact List.attach_map_subtype_val L
theorem ofL_len {a : Int} (L : List Nat) (h : ∀ p ∈ L, (p : Int) < a) : (ofL L h).length = L.length := by unfold ofL; simp
theorem nrs_lt {z : List Int} {a : Nat} {i : Int} {p : Nat} (h : p ∈ nrs z a i) : (p : Int) < i := by
  unfold nrs at h
  split at h
  · have := (pls_mem.1 h).1; omega
  · simp at h
theorem nrs_sorted (z : List Int) (a : Nat) (i : Int) : (nrs z a i).Pairwise (· > ·) := by
  unfold nrs
  split
  · exact pls_sorted
  · exact .nil
def bof (z : List Int) (a : Int) (L : List Nat) : Int := (bst z a L (0, 3)).1
def bnf (z : List Int) (a : Int) (L : List Nat) : Int := if (bst z a L (0, 3)).1 = 0 then 0 else ((bst z a L (0, 3)).2 : Int)
def BestPost' (z : List Int) (a : Int) (L : List Nat) (w : World) (e : Ending) (w' : World) : Prop :=
  ∃ t : Nat, t ≤ L.length ∧ e = .returned (.tuple #[.int .i64 (bof z a L), .int .i64 (bnf z a L), .int .i64 t]) ∧ Below w.heap.size w w'
theorem chn_lts {w : World} {B c mb : Nat} {r : Option Nat} {A : Option Addr} {n m : Nat} {z : List Int} {a : Nat} (h : Chn w B c mb r A n m z a) : (∀ k, CS c mb r k → k < w.heap.size) ∧ ∀ k, (Value.slice A n m).ownBlock = some k → k < w.heap.size := by
  obtain ⟨v, D, rfl, h2, h3, h4, h5, _⟩ := h
  refine ⟨?_, own_ltg h3⟩
  rintro k (rfl | rfl | e)
  · exact h2.lt
  · exact World.ownsMap.lt h5
  · exact own_ltg h4 k e
def FnI (w3 : World) (B : Nat) (pre : List Nat) (W : World) : Prop :=
  (∃ v, Boxed W B 250 v ∧ W.ownsRow w3.heap.size 3 1 v pre.length (nv' pre) ∧ True) ∧ Ks (fun k => k = B) w3 W
theorem FnI.own (w3 : World) (B : Nat) : OwnFrom w3.heap.size (FnI w3 B) :=
  OwnFrom.and (Own.from (holdsRow_own w3.heap.size B 250 3 1 (fun pre : List Nat => pre.length) (fun pre => nv' pre) (fun _ _ => True)) _)
    (fun s X Y row hs hg hr => hs.trans' (Ks.of_grown (S := fun k => row = some k) hg (fun k hk => hk)) fun i hi h => by have := (hr i h).1; omega)
end Go.Proofs.YtmiimjgfainclaaGreat.Cur
namespace Go.Proofs.YtmiimjgfainclaaGreat.Cur
open Go.RowKit Go.Shelf Mem
attribute [local go_sem] Oper.semAt_some
set_option linter.unusedVariables false
set_option maxRecDepth 100000
theorem mt_step {z : List Int} {a p : Nat} (hp : p ≤ a) : ∀ {j : Nat}, j ≤ mt z a p → mt z (a + j) (p + j) = mt z a p - j
  | 0, _ => rfl
  | j + 1, h => by
    have h1 := mt_step (z := z) hp (j := j) (by omega)
    have h2 := mt_next (z := z) (a := a + j) (p := p + j) (by omega) (by omega)
    rw [show a + (j + 1) = a + j + 1 by omega, show p + (j + 1) = p + j + 1 by omega, h2, h1]
    omega
theorem mt_more {z : List Int} {a p j : Nat} (hp : p ≤ a) (h : j ≤ mt z a p) : decide (a + j + 1 ≤ z.length ∧ 1 ≤ mt z (a + j) (p + j)) = decide (j < mt z a p) := by
  rw [mt_step hp h]
  have := mt_le z a p
  by_cases e : j < mt z a p
  · rw [decide_eq_true e, decide_eq_true (by omega)]
  · rw [decide_eq_false e, decide_eq_false (by omega)]
set_option maxHeartbeats 4000000 in
theorem rsame_any {w : World} {A : Option Addr} {n m : Nat} {z : List Int} (a p k : Nat) (hz : Bs w A n z) (hby : ∀ x ∈ z, 0 ≤ x ∧ x < 256) (hm : n ≤ m) (hn : n ≤ 1000000) (hp : p ≤ a) (ha : a ≤ 2000000) (hk : k ≤ 2000000) :
    Calls Tryz.prog 233 #[.slice A n m, .int .i64 (a : Int), .int .i64 (p : Int), .int .i64 (k : Int)] w fun e w' => e = .returned (.bool (decide (a + k ≤ z.length ∧ k ≤ mt z a p))) ∧ ∃ q, w' = w.drewN q := by
  have hzl := hz.1
  by_cases hl : a + k ≤ n
  · have HZ := Lib.hid (fun j (hj : j < n) => hz.at_ hj)
    have hle := mt_le z a p
    have n1 : decide ((n : Int) < (a : Int) + k) = false := decide_eq_false (by omega)
    have n2 : decide ((n : Int) < (p : Int) + k) = false := decide_eq_false (by omega)
    clear hz
    go_enter Tryz.func233, Tryz.ntmps233
    go_wp2
    go_loopw [9] (fun v wr => ∃ j q : Nat, j ≤ k ∧ j ≤ mt z a p ∧ v = .int .i64 j ∧ wr = w.drewN q) (fun v _ => k - (intOf v).toNat)
    case atStart => exact ⟨0, 0, by omega, by omega, rfl, rfl⟩
    case round =>
      obtain ⟨j, q, hj, hjm, rfl, rfl⟩ := hrel
      by_cases hlt : j < k
      · obtain ⟨g, o, rfl, hcx⟩ := HZ.out (a + j) (by omega)
        obtain ⟨g', o', hA, hcy⟩ := HZ.out (p + j) (by omega)
        injection hA with hA
        injection hA with hg ho
        subst hg ho
        have HT := Lib.hid (fun h : z.getD (a + j) 0 = z.getD (p + j) 0 => (show j + 1 ≤ mt z a p from le_mt hp (by omega) (fun i hi => by
          by_cases e : i = j
          · subst e; exact h
          · exact mt_eq (by omega))))
        have HF := Lib.hid (fun h : ¬ z.getD (a + j) 0 = z.getD (p + j) 0 => (show mt z a p = j from mt_is hp (by omega) (fun i hi => mt_eq (by omega)) (.inr h)))
        generalize z.getD (a + j) 0 = u at *
        generalize z.getD (p + j) 0 = v at *
        have L : ∀ w', (∃ j, w' = w.drewN j) → w'.cell? ⟨g, o + (a + j), none⟩ = some (.int .u8 u) ∧ w'.cell? ⟨g, o + (p + j), none⟩ = some (.int .u8 v) := fun w' h => by
          obtain ⟨j, rfl⟩ := h
          exact ⟨hcx, hcy⟩
        have e1 : ((a : Int) + j).toNat = a + j := by omega
        have e2 : ((p : Int) + j).toNat = p + j := by omega
        have e3 : IntKind.i64.wrap ((a : Int) + j) = (a : Int) + j := IntWalk.i64_in _ (by omega)
        have e4 : IntKind.i64.wrap ((p : Int) + j) = (p : Int) + j := IntWalk.i64_in _ (by omega)
        have b1 : (a : Int) + j < n := by omega
        have b2 : (p : Int) + j < n := by omega
        have b3 : 0 ≤ (a : Int) + j := by omega
        have b4 : 0 ≤ (p : Int) + j := by omega
        clear hcx hcy
        by_cases huv : u = v
        · have hjm' := HT.out huv
          subst huv
          clear HF HT
          go_wp2
          refine Seq.wp_region_seq (fun w' => ∃ j, w' = w.drewN j) (by kernel_rfl) (by kernel_rfl) ⟨q + 1, rfl⟩ ?_
          repeat (first | (refine Seq.Seq.skip (by rfl) ?_; (try simp only [Act.put, List.setIfInBounds_toArray, List.set_cons_zero, List.set_cons_succ])) | (refine Seq.Seq.det ?_ (by rfl) (fun w hS => ?_) ?_; rotate_left; ((try dsimp only at hS); go_simp; (try rw [if_pos (by omega)]); with_reducible rfl); (try simp only [Act.put, List.setIfInBounds_toArray, List.set_cons_zero, List.set_cons_succ])))
          refine Seq.Seq.nil ?_
          clear L
          go_wp2
          go_roundw
          case rel => exact ⟨j + 1, q + 1, by omega, hjm', by go_num, rfl⟩
          case measure => simp [intOf]; omega
        · have e := HF.out huv
          have hd : decide (a + k ≤ z.length ∧ k ≤ mt z a p) = false := decide_eq_false (by omega)
          have hb : (u == v) = false := by simpa using huv
          have hb' : (u != v) = true := by simpa using huv
          have HD := Lib.hid hd
          clear HF HT hd e
          go_wp2
          refine Seq.wp_region_seq (fun w' => ∃ j, w' = w.drewN j) (by kernel_rfl) (by kernel_rfl) ⟨q + 1, rfl⟩ ?_
          repeat (first | (refine Seq.Seq.skip (by rfl) ?_; (try simp only [Act.put, List.setIfInBounds_toArray, List.set_cons_zero, List.set_cons_succ])) | (refine Seq.Seq.det ?_ (by rfl) (fun w hS => ?_) ?_; rotate_left; ((try dsimp only at hS); go_simp; (try rw [if_pos (by omega)]); with_reducible rfl); (try simp only [Act.put, List.setIfInBounds_toArray, List.set_cons_zero, List.set_cons_succ])))
          refine Seq.Seq.nil ?_
          clear L
          go_wp2
          go_ret
          exact ⟨by rw [HD.out]; rfl, q + 1, rfl⟩
      · have hd : decide (a + k ≤ z.length ∧ k ≤ mt z a p) = true := decide_eq_true (by omega)
        have HD := Lib.hid hd
        clear hd
        go_wp2
        go_ret
        exact ⟨by rw [HD.out]; rfl, q, rfl⟩
  · have hd : decide (a + k ≤ z.length ∧ k ≤ mt z a p) = false := decide_eq_false (by omega)
    rw [hd]
    clear hd hz
    go_enter Tryz.func233, Tryz.ntmps233
    go_wp2
    go_ret
    exact ⟨rfl, 0, rfl⟩
set_option maxHeartbeats 4000000 in
theorem rmatch_any {w : World} {A : Option Addr} {n m : Nat} {z : List Int} (a off : Int) (hz : Bs w A n z) (hby : ∀ x ∈ z, 0 ≤ x ∧ x < 256) (hm : n ≤ m) (hn : n ≤ 100000) :
    Calls Tryz.prog 221 #[.slice A n m, .int .i64 a, .int .i64 off] w (MatchPost z a off w) := by
  unfold MatchPost
  have hzl := hz.1
  by_cases h1 : a < 0
  · have e : mv z a off = 0 := by unfold mv; rw [if_neg (by omega)]
    rw [e]
    clear e hz hby
    go_enter Tryz.func221, Tryz.ntmps221
    go_wp2
    go_ret
    exact ⟨rfl, 0, rfl⟩
  · by_cases h2 : (n : Int) ≤ a
    · have e : mv z a off = 0 := by unfold mv; rw [if_neg (by omega)]
      rw [e]
      clear e hz hby
      go_enter Tryz.func221, Tryz.ntmps221
      go_wp2
      go_ret
      exact ⟨rfl, 0, rfl⟩
    · by_cases h3 : off < 1
      · have e : mv z a off = 0 := by unfold mv; rw [if_neg (by omega)]
        rw [e]
        clear e hz hby
        go_enter Tryz.func221, Tryz.ntmps221
        go_wp2
        go_ret
        exact ⟨rfl, 0, rfl⟩
      · by_cases h4 : a < off
        · have e : mv z a off = 0 := by unfold mv; rw [if_neg (by omega)]
          rw [e]
          clear e hz hby
          go_enter Tryz.func221, Tryz.ntmps221
          go_wp2
          go_ret
          exact ⟨rfl, 0, rfl⟩
        · obtain ⟨k, rfl⟩ : ∃ k : Nat, a = k := ⟨a.toNat, by omega⟩
          obtain ⟨p, hp⟩ : ∃ p : Nat, (k : Int) - off = p := ⟨((k : Int) - off).toNat, by omega⟩
          obtain rfl : off = (k : Int) - p := by omega
          have e : mv z k ((k : Int) - p) = mt z k p := by
            unfold mv
            rw [if_pos (by omega), Int.toNat_natCast, show ((k : Int) - (k - p)).toNat = p by omega]
          rw [e]
          have hpk : p ≤ k := by omega
          have hle := mt_le z k p
          have HZ := Lib.hid hz
          have HBY := Lib.hid hby
          have g1 : decide ((k : Int) < 0) = false := decide_eq_false (by omega)
          have g2 : decide ((n : Int) ≤ k) = false := decide_eq_false (by omega)
          have g3 : decide ((k : Int) - p < 1) = false := decide_eq_false (by omega)
          have g4 : decide ((k : Int) < (k : Int) - p) = false := decide_eq_false (by omega)
          have HMORE := Lib.hid (fun (j : Nat) (h : j ≤ mt z k p) => mt_more (z := z) hpk h)
          obtain ⟨M, hM⟩ : ∃ M, mt z k p = M := ⟨_, rfl⟩
          rw [hM] at HMORE hle ⊢
          clear e hz hby hp hM
          go_enter Tryz.func221, Tryz.ntmps221
          go_wp2
          go_loopw [7] (fun v wr => ∃ j q : Nat, j ≤ M ∧ v = .int .i64 j ∧ wr = w.drewN q) (fun v _ => M - (intOf v).toNat)
          case atStart => exact ⟨0, 0, by omega, rfl, rfl⟩
          case round =>
            obtain ⟨j, q, hj, rfl, rfl⟩ := hrel
            have hS := rsame_any (w := w.drewN q) (m := m) (k + j) (p + j) 1 (HZ.out.drewN q) HBY.out hm (by omega) (by omega) (by omega) (by omega)
            rw [HMORE.out j hj] at hS
            rw [show ((k + j : Nat) : Int) = (k : Int) + j by omega, show ((p + j : Nat) : Int) = (k : Int) + j - ((k : Int) - p) by omega, show ((1 : Nat) : Int) = 1 from rfl] at hS
            have e1 : IntKind.i64.wrap ((k : Int) + j) = (k : Int) + j := IntWalk.i64_in _ (by omega)
            have e2 : IntKind.i64.wrap ((k : Int) + j - ((k : Int) - p)) = (k : Int) + j - ((k : Int) - p) := IntWalk.i64_in _ (by omega)
            have b1 : (j : Int) < 1048576 := by omega
            have HS := Lib.hid hS
            clear hS
            by_cases hlt : j < M
            · rw [decide_eq_true hlt] at HS
              go_wp2_with fail
              with_reducible refine HS.out.mono ?_
              rintro e w2 ⟨rfl, q2, rfl⟩
              clear HS
              go_wp2
              go_roundw
              case rel => exact ⟨j + 1, q + q2, by omega, by go_num, rfl⟩
              case measure => simp [intOf]; omega
            · rw [decide_eq_false hlt] at HS
              go_wp2_with fail
              with_reducible refine HS.out.mono ?_
              rintro e w2 ⟨rfl, q2, rfl⟩
              clear HS
              go_wp2
              go_ret
              have hjM : j = M := by omega
              exact ⟨by rw [hjM]; rfl, q + q2, rfl⟩
theorem best_cases (z : List Int) (a : Int) : (bof z a (alls a) = 0 ∧ bnf z a (alls a) = 0 ∧ ∀ q ∈ alls a, mt z a.toNat q ≤ 3) ∨
    ∃ p : Nat, p ∈ alls a ∧ bof z a (alls a) = a - p ∧ bnf z a (alls a) = (mt z a.toNat p : Nat) ∧ 4 ≤ mt z a.toNat p ∧ (∀ q ∈ alls a, mt z a.toNat q ≤ mt z a.toNat p) ∧ ∀ q ∈ alls a, p < q → mt z a.toNat q < mt z a.toNat p := by
  have hmax : ∀ q ∈ alls a, mt z a.toNat q ≤ (bst z a (alls a) (0, 3)).2 := fun q hq => bst_max hq
  rcases bst_is (z := z) (a := a) (alls a) (0, 3) with ⟨h1, h2⟩ | ⟨x, p, y, h1, h2, h3, h4⟩
  · exact .inl ⟨by unfold bof; rw [h1], by unfold bnf; rw [h1]; rfl, h2⟩
  · have hp : p ∈ alls a := by rw [h1]; simp
    have hpa := (alls_mem.1 hp).1
    rw [h2] at hmax
    refine .inr ⟨p, hp, by unfold bof; rw [h2], by unfold bnf; rw [h2, if_neg (by show ¬ a - (p : Int) = 0; omega)], h3, hmax, fun q hq hlt => ?_⟩
    have hs := alls_sorted a
    rw [h1] at hq hs
    rcases List.mem_append.1 hq with hq | hq
    · exact h4 q hq
    · rcases List.mem_cons.1 hq with rfl | hq
      · omega
      · have := (List.pairwise_cons.1 (List.pairwise_append.1 hs).2.1).1 q hq
        omega
end Go.Proofs.YtmiimjgfainclaaGreat.Cur
