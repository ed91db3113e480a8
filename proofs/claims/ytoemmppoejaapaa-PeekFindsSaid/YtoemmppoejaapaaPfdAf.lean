/- As the seat's text, without what nothing here names. -/
import Derived.Test.YtoemmppoejaapaaPekOf
import Derived.Test.YtoemmppoejaapaaLocJf
import Derived.Test.YtoemmppoejaapaaK36f
import Derived.BigQuiet
namespace Go.Proofs.Ytoemmppoejaapaa.Cur
open Go.RowKit Mem
set_option linter.unusedVariables false
set_option maxRecDepth 100000
theorem inc_eq : ∀ {A B : List Int}, A.Pairwise (· < ·) → B.Pairwise (· < ·) → (∀ x, x ∈ A ↔ x ∈ B) → A = B
  | [], [], _, _, _ => rfl
  | [], y :: B, _, _, h => absurd ((h y).2 (by simp)) (by simp)
  | x :: A, [], _, _, h => absurd ((h x).1 (by simp)) (by simp)
  | x :: A, y :: B, ha, hb, h => by
    obtain ⟨a1, a2⟩ := List.pairwise_cons.1 ha
    obtain ⟨b1, b2⟩ := List.pairwise_cons.1 hb
    have e : x = y := by
      rcases List.mem_cons.1 ((h x).1 (by simp)) with e | h1
      · exact e
      · rcases List.mem_cons.1 ((h y).2 (by simp)) with e | h2
        · exact e.symm
        · have := a1 y h2
          have := b1 x h1
          omega
    subst e
    rw [inc_eq a2 b2 fun z => ?_]
    have hz := h z
    rw [List.mem_cons, List.mem_cons] at hz
    constructor
    · intro h1
      rcases hz.1 (.inr h1) with e | h2
      · have := a1 z h1; omega
      · exact h2
    · intro h1
      rcases hz.2 (.inr h1) with e | h2
      · have := b1 z h1; omega
      · exact h2
def acE (h : Nat → Lk → List Int) (L : List En) (k i : Nat) : List Int := ((List.range k).flatMap fun j => (L.getD j en0).1.flatMap (h j)) ++ ((L.getD k en0).1.take i).flatMap (h k)
theorem acE_next {h : Nat → Lk → List Int} {L : List En} {k i : Nat} (hi : i < (L.getD k en0).1.length) : acE h L k (i + 1) = acE h L k i ++ h k ((L.getD k en0).1.getD i lk0) := by
  unfold acE
  rw [tk_one hi, List.flatMap_append, List.append_assoc]
  simp
theorem acE_up (h : Nat → Lk → List Int) (L : List En) (k : Nat) : acE h L k (L.getD k en0).1.length = acE h L (k + 1) 0 := by
  unfold acE
  rw [List.take_length, List.range_succ, List.flatMap_append]
  simp
theorem acE_mem {h : Nat → Lk → List Int} {L : List En} {k : Nat} {x : Int} : x ∈ acE h L k 0 ↔ ∃ j, j < k ∧ ∃ y ∈ (L.getD j en0).1, x ∈ h j y := by
  unfold acE
  rw [List.take_zero, List.flatMap_nil, List.append_nil, List.mem_flatMap]
  constructor
  · rintro ⟨j, hj, hx⟩
    obtain ⟨y, hy, hx⟩ := List.mem_flatMap.1 hx
    exact ⟨j, List.mem_range.1 hj, y, hy, hx⟩
  · rintro ⟨j, hj, y, hy, hx⟩
    exact ⟨j, List.mem_range.2 hj, List.mem_flatMap.2 ⟨y, hy, hx⟩⟩
theorem acE_ind {h : Nat → Lk → List Int} {L : List En} (P : Nat → Nat → List Int → Prop) (h0 : P 0 0 []) (h1 : ∀ k i, i < (L.getD k en0).1.length → P k i (acE h L k i) → P k (i + 1) (acE h L k i ++ h k ((L.getD k en0).1.getD i lk0)))
    (h2 : ∀ k z, P k (L.getD k en0).1.length z → P (k + 1) 0 z) : ∀ k i, i ≤ (L.getD k en0).1.length → P k i (acE h L k i)
  | 0, 0, _ => h0
  | k, i + 1, hi => by
    rw [acE_next (by omega)]
    exact h1 k i (by omega) (acE_ind P h0 h1 h2 k i (by omega))
  | k + 1, 0, _ => by
    rw [← acE_up]
    exact h2 k _ (acE_ind P h0 h1 h2 k _ (Nat.le_refl _))
termination_by k i => (k, i)
theorem acE_len {h : Nat → Lk → List Int} {L : List En} (h1 : ∀ j y, (h j y).length ≤ 1) (hs : esm L) (k i : Nat) (hi : i ≤ (L.getD k en0).1.length) : (acE h L k i).length ≤ k * 50 + i :=
  acE_ind (fun k i z => z.length ≤ k * 50 + i) (Nat.zero_le _) (fun k i _ hz => by rw [List.length_append]; have := h1 k ((L.getD k en0).1.getD i lk0); omega) (fun k z hz => by have := (hs k).1; rw [Nat.succ_mul]; omega) k i hi
def hOf (b s : Int) (j : Nat) (y : Lk) : List Int := if y.1 = s then [b + j] else []
def hSt (j : Nat) (y : Lk) : List Int := [y.1]
theorem acE_rise {b s : Int} {L : List En} (k i : Nat) (hi : i ≤ (L.getD k en0).1.length) : (acE (hOf b s) L k i).Pairwise (· ≤ ·) ∧ ∀ x ∈ acE (hOf b s) L k i, x ≤ b + k :=
  acE_ind (fun k i z => z.Pairwise (· ≤ ·) ∧ ∀ x ∈ z, x ≤ b + k) ⟨List.Pairwise.nil, fun x hx => by cases hx⟩ (fun k i _ hz => by
    have he : ∀ x ∈ hOf b s k ((L.getD k en0).1.getD i lk0), x = b + k := fun x hx => by
      unfold hOf at hx
      split at hx
      · exact List.mem_singleton.1 hx
      · cases hx
    refine ⟨List.pairwise_append.2 ⟨hz.1, ?_, fun x hx y hy => by rw [he y hy]; exact hz.2 x hx⟩, fun x hx => ?_⟩
    · unfold hOf
      split
      · exact List.pairwise_singleton _ _
      · exact List.Pairwise.nil
    · rcases List.mem_append.1 hx with h1 | h1
      · exact hz.2 x h1
      · rw [he x h1]; exact Int.le_refl _) (fun k z hz => ⟨hz.1, fun x hx => by have := hz.2 x hx; omega⟩) k i hi
theorem arr_at {z : List Int} {i : Nat} (hi : i < z.length) : z.toArray[i]! = z[i] := by
  rw [getElem!_pos z.toArray i (by simpa using hi)]; simp
theorem cpn_list {z : List Int} (h : z.Pairwise (· ≤ ·)) : (cpn (fun i => z.toArray[i]!) z.length).Pairwise (· < ·) ∧ ∀ x, x ∈ cpn (fun i => z.toArray[i]!) z.length ↔ x ∈ z := by
  refine ⟨(cpn_pw z.length fun i h0 h1 => ?_).1, fun x => ?_⟩
  · rw [arr_at (by omega), arr_at h1]
    exact List.pairwise_iff_getElem.1 h (i - 1) i (by omega) h1 (by omega)
  · rw [cpn_mem, List.mem_iff_getElem]
    constructor
    · rintro ⟨i, hi, e⟩
      exact ⟨i, hi, by rw [← arr_at hi]; exact e⟩
    · rintro ⟨i, hi, e⟩
      exact ⟨i, hi, by rw [arr_at hi]; exact e⟩
theorem sortf26 {z : List Int} {d : Array Int} (h : d.toList = z.mergeSort (fun x y => decide (x ≤ y))) : d.toList.Pairwise (· ≤ ·) ∧ d.toList.length = z.length ∧ ∀ x, x ∈ d.toList ↔ x ∈ z := by
  have h2 : (z.mergeSort fun x y => decide (x ≤ y)).Pairwise (fun x y => decide (x ≤ y) = true) := List.pairwise_mergeSort (fun a b c h1 h2 => by simp at *; omega) (fun a b => by simp; omega) _
  rw [← h] at h2
  refine ⟨h2.imp fun h => of_decide_eq_true h, by rw [h, List.length_mergeSort], fun x => ?_⟩
  rw [h]
  exact (List.mergeSort_perm z (fun x y => decide (x ≤ y))).mem_iff
def rofz (b s : Int) (L : List En) (n : Nat) : List Int := ((List.range n).filter fun j => decide (0 ≤ fnl (L.getD j en0).1 s)).map fun (j : Nat) => b + j
theorem fnl_has {L : List Lk} {s : Int} : 0 ≤ fnl L s ↔ ∃ y ∈ L, y.1 = s := by
  constructor
  · intro h
    have h2 := fl_found26 h
    exact h2
  · rintro ⟨y, hy, e⟩
    rcases Int.lt_or_le (fnl L s) 0 with h | h
    · exact absurd e (fnl_none26 h y hy)
    · exact h
where
  fl_found26 {L : List Lk} {s : Int} (h : 0 ≤ fnl L s) : ∃ y ∈ L, y.1 = s := by
    induction L with
    | nil => exact absurd h (by show ¬ (0 : Int) ≤ -1; decide)
    | cons x L ih =>
      unfold fnl at h
      by_cases e : x.1 = s
      · exact ⟨x, by simp, e⟩
      · rw [if_neg e] at h
        by_cases e2 : fnl L s < 0
        · rw [if_pos e2] at h; exact absurd h (by decide)
        · obtain ⟨y, hy, e3⟩ := ih (by omega)
          exact ⟨y, by simp [hy], e3⟩
  fnl_none26 {L : List Lk} {s : Int} (h : fnl L s < 0) : ∀ x ∈ L, x.1 ≠ s := by
    induction L with
    | nil => intro x hx; cases hx
    | cons x L ih =>
      unfold fnl at h
      by_cases e : x.1 = s
      · rw [if_pos e] at h; exact absurd h (by decide)
      · rw [if_neg e] at h
        by_cases e2 : fnl L s < 0
        · intro y hy
          rcases List.mem_cons.1 hy with rfl | hy
          · exact e
          · exact ih e2 y hy
        · rw [if_neg e2] at h; omega
theorem rofz_mem {b s : Int} {L : List En} {n : Nat} {x : Int} : x ∈ rofz b s L n ↔ ∃ j : Nat, j < n ∧ (∃ y ∈ (L.getD j en0).1, y.1 = s) ∧ x = b + j := by
  unfold rofz
  rw [List.mem_map]
  constructor
  · rintro ⟨j, hj, rfl⟩
    obtain ⟨h1, h2⟩ := List.mem_filter.1 hj
    exact ⟨j, List.mem_range.1 h1, fnl_has.1 (of_decide_eq_true h2), rfl⟩
  · rintro ⟨j, hj, h2, rfl⟩
    exact ⟨j, List.mem_filter.2 ⟨List.mem_range.2 hj, decide_eq_true (fnl_has.2 h2)⟩, rfl⟩
theorem rofz_pw (b s : Int) (L : List En) (n : Nat) : (rofz b s L n).Pairwise (· < ·) := by
  unfold rofz
  rw [List.pairwise_map]
  have h : (List.range n).Pairwise (· < ·) := List.pairwise_lt_range
  exact (h.filter _).imp fun h => by omega
theorem rofz_next (b s : Int) (L : List En) (n : Nat) : rofz b s L (n + 1) = if 0 ≤ fnl (L.getD n en0).1 s then rofz b s L n ++ [b + n] else rofz b s L n := by
  unfold rofz
  rw [List.range_succ, List.filter_append, List.map_append]
  by_cases h : 0 ≤ fnl (L.getD n en0).1 s
  · rw [if_pos h, List.filter_cons_of_pos (by simpa using h)]; rfl
  · rw [if_neg h, List.filter_cons_of_neg (by simpa using h)]; simp
theorem of_is {b s : Int} {L : List En} (n : Nat) : cpn (fun i => (acE (hOf b s) L n 0).toArray[i]!) (acE (hOf b s) L n 0).length = rofz b s L n := by
  obtain ⟨h1, h2⟩ := cpn_list (acE_rise (b := b) (s := s) (L := L) n 0 (Nat.zero_le _)).1
  refine inc_eq h1 (rofz_pw _ _ _ _) fun x => ?_
  rw [h2, acE_mem, rofz_mem]
  constructor
  · rintro ⟨j, hj, y, hy, hx⟩
    unfold hOf at hx
    split at hx
    · rename_i e
      exact ⟨j, hj, ⟨y, hy, e⟩, List.mem_singleton.1 hx⟩
    · cases hx
  · rintro ⟨j, hj, ⟨y, hy, e⟩, rfl⟩
    exact ⟨j, hj, y, hy, by unfold hOf; rw [if_pos e]; simp⟩
def AcI (bx V : Nat) (acc : List Int) (w : World) : Prop := ∃ Av cv, Blk w bx #[.slice Av acc.length cv] 34 ∧ OwnU w (V + 1) (.slice Av acc.length cv) acc ∧ V ≤ w.heap.size
def AcS (bx V x : Nat) : Prop := x = bx ∨ V < x
theorem AcI.below {bx V : Nat} {acc : List Int} {w w' : World} (h : AcI bx V acc w) (hb : Below w.heap.size w w') : AcI bx V acc w' := by
  obtain ⟨Av, cv, h1, h2, h3⟩ := h
  exact ⟨Av, cv, h1.below hb, own_below h2 hb, Nat.le_trans h3 hb.size⟩
def HdS (w : World) (bx V : Nat) (n : Nat) (L : List En) (hd : Hdr) : Prop :=
  ∀ k i, k < n → i < (hd k).2.1 → (hd k).2.1 = (L.getD k en0).1.length ∧ ∀ g o, (hd k).1 = some ⟨g, o, none⟩ → ¬ AcS bx V g ∧ g < w.heap.size ∧ w.cell? ⟨g, o + i * 2, none⟩ = some (.int .u64 ((L.getD k en0).1.getD i lk0).1)
set_option maxHeartbeats 2000000 in
theorem streams_step {bx V n : Nat} {b : Int} {L : List En} {hd : Hdr} (w : World) (hs : esm L) (hn : n ≤ 30) (hVB : bx < V) (hh : HdS w bx V n L hd) :
    VisStep 27 #[.pointer (some ⟨bx, 0, none⟩)] b n hd (AcS bx V) (fun k i w => AcI bx V (acE hSt L k i) w) w := by
  intro hbn k i g o wr hk hi hA hks hI
  obtain ⟨hlen, hcc⟩ := hh k i hk hi
  obtain ⟨hgS, hg, hc⟩ := hcc g o hA
  have hi2 : i < (L.getD k en0).1.length := by rw [← hlen]; exact hi
  have hnx := acE_next (h := hSt) hi2
  have hal := acE_len (h := hSt) (L := L) (fun _ _ => Nat.le_refl _) hs k i (by omega)
  have hl50 := (hs k).1
  replace hnx : acE hSt L k (i + 1) = acE hSt L k i ++ [((L.getD k en0).1.getD i lk0).1] := hnx
  obtain ⟨s, hs0⟩ : ∃ s, s = ((L.getD k en0).1.getD i lk0).1 := ⟨_, rfl⟩
  rw [← hs0] at hc hnx
  dsimp only at hI ⊢
  rw [hnx]
  generalize acE hSt L k i = acc at *
  have hal2 : acc.length + 1 ≤ 1000000 := by omega
  obtain ⟨Av, cv, hX, ho, hV⟩ := hI
  have hcr := (ks_cell hks hg hgS).trans hc
  have HSS : Hid (∀ w' w'', (w'.cell? ⟨g, o + i * 2, none⟩ = some (.int .u64 s) ∧ Blk w' bx #[.slice Av acc.length cv] 34) → Ks (AcS bx V) w' w'' → Blk w'' bx #[.slice Av acc.length cv] 34 → (w''.cell? ⟨g, o + i * 2, none⟩ = some (.int .u64 s) ∧ Blk w'' bx #[.slice Av acc.length cv] 34)) :=
    Lib.hid (fun w' w'' h hk' hb' => ⟨(ks_cell hk' (lt_of_cell h.1) hgS).trans h.1, hb'⟩)
  have hS0 : wr.drew.cell? ⟨g, o + i * 2, none⟩ = some (.int .u64 s) ∧ Blk wr.drew bx #[.slice Av acc.length cv] 34 := ⟨hcr, hX⟩
  have hoD0 : OwnU wr.drew (V + 1) (.slice Av acc.length cv) acc := ho
  have HKD0 : Hid (Ks (AcS bx V) wr wr.drew) := Lib.hid (Ks.of_below (below_one' wr))
  have hVd0 : V ≤ wr.drew.heap.size := hV
  have L1 : ∀ w', (w'.cell? ⟨g, o + i * 2, none⟩ = some (.int .u64 s) ∧ Blk w' bx #[.slice Av acc.length cv] 34) → w'.cell? ⟨g, o + i * 2, none⟩ = some (.int .u64 s) ∧ w'.cell? ⟨bx, 0, none⟩ = some (.slice Av acc.length cv) := fun w' h => ⟨h.1, h.2.c1⟩
  clear hh hlen hcc hgS hg hc hnx hal hl50 hs0 hX ho hcr hks hA hi hi2 hs hbn hd
  simp only [List.append_toArray, List.cons_append, List.nil_append]
  generalize hp : b + (k : Int) = p at *
  go_enter Try.func27, Try.ntmps27
  go_wp2
  refine Seq.wp_region_last (fun w' => w'.cell? ⟨g, o + i * 2, none⟩ = some (.int .u64 s) ∧ Blk w' bx #[.slice Av acc.length cv] 34) (by kernel_rfl) (by kernel_rfl) (by kernel_rfl) hS0 ?_
  have hS := hS0
  have hoD := hoD0
  have HKD := HKD0
  have hVd := hVd0
  clear hS0 hoD0 HKD0 hVd0
  generalize wr.drew = wd at *
  repeat (first | (refine Seq.SeqE.skip (by rfl) ?_; (try simp only [Act.put, List.setIfInBounds_toArray, List.set_cons_zero, List.set_cons_succ])) | (refine Seq.SeqE.det ?_ (by rfl) (fun w hS => ?_) ?_; rotate_left; ((try dsimp only at hS); go_simp; (try rw [if_pos (by omega)]); with_reducible rfl); (try simp only [Act.put, List.setIfInBounds_toArray, List.set_cons_zero, List.set_cons_succ])))
  refine Seq.SeqE.make (by rfl) (by rfl) (fun K Q' hK => ?_)
  go_simp
  have hb5 := below_one wd (.cells #[.int .u64 (s)] 22)
  have hS5 := HSS.out _ _ hS (Ks.of_below (S := AcS bx V) hb5) (hS.2.below hb5)
  have ho5 : OwnU (wd.alloc (.cells #[.int .u64 (s)] 22)) (V + 1) (.slice Av acc.length cv) acc := own_below hoD hb5
  have hrw5 := rw_new wd (uv [s]) 22
  have hge5 := own_ge ho5
  have hB5 : V + 1 ≤ (wd.alloc (.cells #[.int .u64 (s)] 22)).heap.size := by have := hVd; simp; omega
  refine hK.out _ _ (hS5) ?_
  clear hK K
  try simp only [Act.put, List.setIfInBounds_toArray, List.set_cons_zero, List.set_cons_succ]
  repeat (first | (refine Seq.SeqE.skip (by rfl) ?_; (try simp only [Act.put, List.setIfInBounds_toArray, List.set_cons_zero, List.set_cons_succ])) | (refine Seq.SeqE.det ?_ (by rfl) (fun w hS => ?_) ?_; rotate_left; ((try dsimp only at hS); go_simp; (try rw [if_pos (by omega)]); with_reducible rfl); (try simp only [Act.put, List.setIfInBounds_toArray, List.set_cons_zero, List.set_cons_succ])))
  refine Seq.SeqE.make (by rfl) (by rfl) (fun K Q' hK => ?_)
  refine oper_append_rwl kindU (.tmp 5) (.tmp 10) rfl (V + 1) _ _ (uv acc) rfl ho5 _ 1 1 (uv [s]) rfl rfl hrw5 (fun e => by cases e) (uv_one _) (by omega) (by omega) hB5 ?_
  intro v' w9 ho9 hg9 hgr9
  have hk9 := Ks.of_grown (S := AcS bx V) hg9 (fun q hq => .inr (by have := hge5 q hq; omega))
  have hbx9 : (Value.slice Av acc.length cv).ownBlock ≠ some bx := fun e => by have := hge5 bx e; omega
  have hX9 : Blk w9 bx #[.slice Av acc.length cv] 34 := (hg9.block bx hS5.2.lt (fun e => hbx9 e.symm)).trans hS5.2
  have hS9 := HSS.out _ _ hS5 hk9 hX9
  have hV9 : V ≤ w9.heap.size := by have := hg9.size; omega
  have ho9' : OwnU w9 (V + 1) v' (acc ++ [s]) := by
    unfold OwnU
    rw [List.length_append, uv, List.map_append]
    exact ho9
  have hge9 := own_ge ho9'
  obtain ⟨Z2, hZ2⟩ : ∃ Z2, Z2 = acc ++ [s] := ⟨_, rfl⟩
  have HZ2 := Lib.hid hZ2
  rw [← hZ2] at ho9'
  clear hZ2
  obtain ⟨A9, c9, hv9⟩ := ho9'.slice
  subst hv9
  have q1 := hX9.c1
  have q2 := hX9.free 0
  have HX10 := Lib.hid (hX9.set 0 (.slice A9 Z2.length c9))
  have HO10 : Hid (OwnU (w9.setCell ⟨bx, 0, none⟩ (.slice A9 Z2.length c9)) (V + 1) (.slice A9 Z2.length c9) Z2) := Lib.hid (own_block ho9' (fun q hq => Below.heap_setCell _ _ _ _ (by have := hge9 q hq; show q ≠ bx; omega)))
  have HK10 := Lib.hid (((HKD.out.trans (Ks.of_below (S := AcS bx V) hb5)).trans hk9).trans (Ks.setCell (S := AcS bx V) w9 bx 0 (.slice A9 Z2.length c9) (.inl rfl)))
  have HV10 : Hid (V ≤ (w9.setCell ⟨bx, 0, none⟩ (.slice A9 Z2.length c9)).heap.size) := Lib.hid (by rw [World.size_setCell]; exact hV9)
  clear hS5 ho5 hrw5 hge5 hb5 hg9 hgr9 ho9 hk9 hX9 hge9 ho9' hbx9 hV9 hoD
  refine hK.out _ _ (hS9) ?_
  clear hK K
  try simp only [Act.put, List.setIfInBounds_toArray, List.set_cons_zero, List.set_cons_succ]
  repeat (first | (refine Seq.SeqE.skip (by rfl) ?_; (try simp only [Act.put, List.setIfInBounds_toArray, List.set_cons_zero, List.set_cons_succ])) | (refine Seq.SeqE.det ?_ (by rfl) (fun w hS => ?_) ?_; rotate_left; ((try dsimp only at hS); go_simp; (try rw [if_pos (by omega)]); with_reducible rfl); (try simp only [Act.put, List.setIfInBounds_toArray, List.set_cons_zero, List.set_cons_succ])))
  refine Seq.SeqE.last (by rfl) (by rfl) (fun K Q' hK => ?_)
  go_simp
  refine hK.out _ _ ?_
  clear hK K
  try simp only [Act.put, List.setIfInBounds_toArray, List.set_cons_zero, List.set_cons_succ]
  clear q1 q2 hS9
  clear L1 hS
  go_wp2
  go_end0
  exact ⟨rfl, by rw [← HZ2.out]; exact ⟨A9, c9, HX10.out, HO10.out, HV10.out⟩, HK10.out⟩
end Go.Proofs.Ytoemmppoejaapaa.Cur
