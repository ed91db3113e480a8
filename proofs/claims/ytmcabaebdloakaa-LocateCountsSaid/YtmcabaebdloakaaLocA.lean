/- Locate: which stripe has a position: the plain facts; the search, by the library's own function. -/
import Derived.Test.YtmcabaebdloakaaK26
import Derived.BigRegion
namespace Go.Proofs.Ytmcabaebdloakaa.Cur
open Go.RowKit Mem
set_option linter.unusedVariables false
set_option maxRecDepth 100000


/-- The first stripe that ends behind a position. -/
def wsi : List Stp → Int → Nat
  | [], _ => 0
  | s :: L, p => if p < s.2.1 then 0 else wsi L p + 1
theorem wsi_before : ∀ (L : List Stp) (p : Int) (j : Nat), j < wsi L p → j < L.length → ¬ p < (L.getD j stp0).2.1
  | [], _, _, h, _ => by simp [wsi] at h
  | s :: L, p, j, h, hj => by
    unfold wsi at h
    by_cases hc : p < s.2.1
    · rw [if_pos hc] at h; omega
    · rw [if_neg hc] at h
      rcases j with _ | j
      · exact hc
      · exact wsi_before L p j (by omega) (by simpa using hj)
theorem wsi_le : ∀ (L : List Stp) (p : Int), wsi L p ≤ L.length
  | [], _ => by simp [wsi]
  | s :: L, p => by
    unfold wsi
    split
    · omega
    · have := wsi_le L p; simp; omega
theorem wsi_at : ∀ (L : List Stp) (p : Int), wsi L p < L.length → p < (L.getD (wsi L p) stp0).2.1
  | [], _, h => by simp at h
  | s :: L, p, h => by
    unfold wsi at h ⊢
    by_cases hc : p < s.2.1
    · rw [if_pos hc]; exact hc
    · rw [if_neg hc] at h ⊢
      exact wsi_at L p (by simpa using h)
theorem wsi_eq {L : List Stp} {p : Int} {r : Nat} (h1 : r ≤ L.length) (h2 : ∀ j, j < r → ¬ p < (L.getD j stp0).2.1) (h3 : r < L.length → p < (L.getD r stp0).2.1) : wsi L p = r := by
  rcases Nat.lt_trichotomy (wsi L p) r with h | h | h
  · exact absurd (wsi_at L p (by omega)) (h2 _ h)
  · exact h
  · have := wsi_le L p
    exact absurd (h3 (by omega)) (wsi_before L p r h (by omega))
/-- In a valid projection. -/
structure Vd (L : List Stp) : Prop where
  pos : 1 ≤ L.length
  most : L.length ≤ 64
  ok : ∀ k, k < L.length → stok (L.getD k stp0) = true
  first : (L.getD 0 stp0).1 = 0
  next : ∀ k, k + 1 < L.length → (L.getD (k + 1) stp0).1 = (L.getD k stp0).2.1
  last : (L.getD (L.length - 1) stp0).2.1 = 4611686018427387904
theorem vd_of {e : Int} {L : List Stp} (h : prok (e, L) = true) : Vd L := by
  obtain ⟨_, h1, h2, h3⟩ := prok_parts h
  obtain ⟨h4, h5⟩ := (pch_iff L 0 4611686018427387904).1 h3
  replace h1 : 1 ≤ L.length := h1
  replace h2 : L.length ≤ 64 := h2
  refine ⟨h1, h2, fun k hk => (h4 k hk).2, ?_, fun k hk => ?_, ?_⟩
  · have := (h4 0 h1).1; rwa [pe_zero] at this
  · have := (h4 (k + 1) hk).1; rwa [pe_succ] at this
  · have e2 := pe_succ 0 L (L.length - 1)
    rw [show L.length - 1 + 1 = L.length by omega, h5] at e2
    exact e2.symm
theorem Vd.lt {L : List Stp} (h : Vd L) {k : Nat} (hk : k < L.length) : (L.getD k stp0).1 < (L.getD k stp0).2.1 := (stok_parts (h.ok k hk)).1
theorem Vd.to_mono {L : List Stp} (h : Vd L) : ∀ (i j : Nat), i ≤ j → j < L.length → (L.getD i stp0).2.1 ≤ (L.getD j stp0).2.1
  | i, 0, h1, _ => by rw [show i = 0 by omega]; exact Int.le_refl _
  | i, j + 1, h1, h2 => by
    rcases Nat.lt_or_ge i (j + 1) with h3 | h3
    · have a := Vd.to_mono h i j (by omega) (by omega)
      have b := h.next j h2
      have c := h.lt h2
      omega
    · rw [show i = j + 1 by omega]; exact Int.le_refl _
theorem Vd.from0 {L : List Stp} (h : Vd L) : ∀ k, k < L.length → 0 ≤ (L.getD k stp0).1
  | 0, _ => by rw [h.first]; exact Int.le_refl _
  | k + 1, hk => by
    have a := Vd.from0 h k (by omega)
    have b := h.lt (k := k) (by omega)
    have c := h.next k hk
    omega
theorem Vd.to_le {L : List Stp} (h : Vd L) {k : Nat} (hk : k < L.length) : (L.getD k stp0).2.1 ≤ 4611686018427387904 := (stok_parts (h.ok k hk)).2.1
/-- A position's stripe is there, and has it. -/
theorem Vd.wsi {L : List Stp} (h : Vd L) {p : Int} (h0 : 0 ≤ p) (h1 : p < 4611686018427387904) : wsi L p < L.length ∧ (L.getD (wsi L p) stp0).1 ≤ p ∧ p < (L.getD (wsi L p) stp0).2.1 := by
  have hl : Cur.wsi L p < L.length := by
    rcases Nat.lt_or_ge (Cur.wsi L p) L.length with h2 | h2
    · exact h2
    · have := wsi_before L p (L.length - 1) (by have := h.pos; omega) (by have := h.pos; omega)
      rw [h.last] at this
      omega
  refine ⟨hl, ?_, wsi_at L p hl⟩
  rcases hk : Cur.wsi L p with _ | k
  · rw [h.first]; exact h0
  · rw [h.next k (by omega)]
    have := wsi_before L p k (by omega) (by omega)
    omega
/-- It is the only one. -/
theorem Vd.only {L : List Stp} (h : Vd L) {p : Int} {k : Nat} (hk : k < L.length) (h0 : (L.getD k stp0).1 ≤ p) (h1 : p < (L.getD k stp0).2.1) : Cur.wsi L p = k := by
  refine wsi_eq (by omega) (fun j hj => ?_) (fun _ => h1)
  obtain ⟨i, rfl⟩ : ∃ i, k = i + 1 := ⟨k - 1, by omega⟩
  have := h.next i hk
  have := h.to_mono j i (by omega) (by omega)
  omega

/-- The search's own test. -/
def SrPost (n : Nat) (g : Nat → Bool) (w : World) (e : Ending) (w' : World) : Prop := ∃ r : Nat, e = .returned (.int .i64 r) ∧ r ≤ n ∧ (∀ j, j < r → g j = false) ∧ (r < n → g r = true) ∧ Below w.heap.size w w'
theorem half_u {i j : Nat} (h : i + j ≤ 2000000) : IntKind.i64.wrap (IntKind.u64.wrap (IntKind.i64.wrap ((i : Int) + (j : Int))) / 2) = (((i + j) / 2 : Nat) : Int) := by
  rw [show IntKind.i64.wrap ((i : Int) + (j : Int)) = ((i + j : Nat) : Int) from (IntWalk.i64_in _ (by omega)).trans (by push_cast; rfl), show IntKind.u64.wrap ((i + j : Nat) : Int) = ((i + j : Nat) : Int) from IntWalk.u64_in _ (by omega)]
  rw [show (((i + j : Nat) : Int) / 2) = (((i + j) / 2 : Nat) : Int) by push_cast; rfl]
  exact IntWalk.i64_in _ (by omega)
set_option maxHeartbeats 2000000 in
theorem searchc_any {w : World} {W : World} (b2 b3 : Nat) (P : Nat → Prop) (e p : Int) (A : Option Addr) (n m k : Nat) (L : List Stp) (hz : Pts w P A n L) (h2 : Blk w b2 (prc e A n m) 25) (h3 : Blk w b3 #[.int .u64 p] 22) (hk : k < n) (hn : n ≤ 1000000) :
    Calls Try.prog 43 #[.int .i64 k, .pointer (some ⟨b3, 0, none⟩), .pointer (some ⟨b2, 0, none⟩)] w (BPost (.bool (decide (p < (L.getD k stp0).2.1))) w) := by
  unfold BPost
  obtain ⟨g, o, rfl, _, hg, hc⟩ := hz.cells (by omega)
  obtain ⟨f, t, S, a, l, mm, he, _, _, _, _, _, _, hcell⟩ := hc k hk
  have L1 : ∀ w', Below w.heap.size w w' → w'.cell? ⟨g, o + k * 3 + 1, none⟩ = some (.int .u64 t) := fun w' h => (hcell w' h).2.1
  have L2 : ∀ w', Below w.heap.size w w' → w'.cell? ⟨b2, 1, none⟩ = some (.slice (some ⟨g, o, none⟩) n m) := fun w' h => ((h2.below h).c2).2
  have L3 : ∀ w', Below w.heap.size w w' → w'.cell? ⟨b3, 0, none⟩ = some (.int .u64 p) := fun w' h => (h3.below h).c1
  have e2 : (k : Int) < n := by omega
  rw [he]
  clear hz h2 h3 hc hcell he
  obtain ⟨V, hV⟩ : ∃ V, V = decide (p < t) := ⟨_, rfl⟩
  show Calls Try.prog _ _ _ (fun en w' => en = .returned (.bool (decide (p < t))) ∧ Below w.heap.size w w')
  go_enter Try.func43, Try.ntmps43
  go_wp2
  refine Seq.wp_region_seq (fun w' => Below w.heap.size w w') (by kernel_rfl) (by kernel_rfl) (below_one' w) ?_
  repeat (first | (refine Seq.Seq.skip (by rfl) ?_; (try simp only [Act.put, List.setIfInBounds_toArray, List.set_cons_zero, List.set_cons_succ])) | (refine Seq.Seq.det ?_ (by rfl) (fun w hS => ?_) ?_; rotate_left; ((try dsimp only at hS); go_simp; (try rw [if_pos (by omega)]); with_reducible rfl); (try simp only [Act.put, List.setIfInBounds_toArray, List.set_cons_zero, List.set_cons_succ])))
  refine Seq.Seq.nil ?_
  go_wp2
  go_ret
  exact ⟨rfl, below_one' w⟩

set_option maxHeartbeats 4000000 in
theorem ssearch_any (b2 b3 : Nat) (n : Nat) (g : Nat → Bool) (w : World) (hn : n ≤ 1000000)
    (hf : ∀ w', Below w.heap.size w w' → ∀ k, k < n → Calls Try.prog 43 #[.int .i64 k, .pointer (some ⟨b3, 0, none⟩), .pointer (some ⟨b2, 0, none⟩)] w' (BPost (.bool (g k)) w'))
    (hm : ∀ i j, i ≤ j → j < n → g i = true → g j = true) :
    Calls Try.prog 42 #[.int .i64 n, .func (.func 43) #[] #[.pointer (some ⟨b3, 0, none⟩), .pointer (some ⟨b2, 0, none⟩)]] w (SrPost n g w) := by
  have HF := Lib.hid hf
  have HM := Lib.hid hm
  clear hf hm
  go_enter Try.func42, Try.ntmps42
  go_wp2
  go_loopw [5, 6] (fun iv jv wr => ∃ i j : Nat, i ≤ j ∧ j ≤ n ∧ iv = .int .i64 i ∧ jv = .int .i64 j ∧ Hid ((∀ k, k < i → g k = false) ∧ (j < n → g j = true)) ∧ Below w.heap.size w wr) (fun iv jv _ => (intOf jv).toNat - (intOf iv).toNat)
  case atStart => exact ⟨0, n, by omega, by omega, rfl, rfl, Lib.hid ⟨by intro k hk; omega, fun h => absurd h (by omega)⟩, Below.refl _ _⟩
  case round =>
    obtain ⟨i, j, hij, hjn, rfl, rfl, H, hb⟩ := hrel
    by_cases hlt : i < j
    · obtain ⟨h, hh⟩ : ∃ h, h = (i + j) / 2 := ⟨_, rfl⟩
      have e1 := half_u (i := i) (j := j) (by omega)
      rw [← hh] at e1
      have e0 : ((i : Int) + (j : Int)) / 2 = (h : Int) := by rw [hh]; push_cast; rfl
      have hih : i ≤ h ∧ h < j := by omega
      have e3 : IntKind.i64.wrap ((h : Int) + 1) = ((h + 1 : Nat) : Int) := IntWalk.i64_in _ (by omega)
      have hcl := HF.out _ hb h (by omega)
      have HH := Lib.hid hih
      clear hh hih
      obtain ⟨gv, hgv⟩ : ∃ gv, gv = g h := ⟨_, rfl⟩
      rw [← hgv] at hcl
      have HG := Lib.hid hgv
      unfold BPost at hcl
      clear hgv
      go_wp2_with fail
      with_reducible refine hcl.mono ?_
      rintro e w1 ⟨rfl, hb1⟩
      have hb2 := hb.trans (hb1.mono hb.size)
      clear hcl hb hb1
      cases gv
      · go_wp2
        go_roundw
        case rel => exact ⟨h + 1, j, by have := HH.out; omega, hjn, by go_num, rfl, Lib.hid ⟨fun k hk => by
          cases hgk : g k with
          | false => rfl
          | true =>
            have := HM.out k h (by omega) (by have := HH.out; omega) hgk
            rw [← HG.out] at this
            exact Bool.noConfusion this, H.out.2⟩, hb2⟩
        case measure => have := HH.out; simp [intOf]; omega
      · go_wp2
        go_roundw
        case rel => exact ⟨i, h, by have := HH.out; omega, by have := HH.out; omega, rfl, rfl, Lib.hid ⟨H.out.1, fun _ => HG.out.symm⟩, hb2⟩
        case measure => have := HH.out; simp [intOf]; omega
    · have HE := Lib.hid (show i = j by omega)
      go_wp2
      go_ret
      exact ⟨i, rfl, by omega, H.out.1, fun h => by have := HE.out; subst this; exact H.out.2 h, hb⟩

set_option maxHeartbeats 2000000 in
theorem lsearch_any (P : Nat → Prop) (e : Int) (A : Option Addr) (n m : Nat) (L : List Stp) (p : Int) (w : World) (hz : Pts w P A n L) (hn : n ≤ 1000000) (hv : Vd L) :
    Calls Try.prog 27 #[pragg e A n m, .int .u64 p] w (BPost (.int .i64 (wsi L p)) w) := by
  unfold BPost
  have hX := (Blk.new w (prc e A n m) 25).alloc (.cells #[.int .u64 p] 22)
  have hY := Blk.new (w.alloc (.cells (prc e A n m) 25)) #[.int .u64 p] 22
  rw [World.size_alloc] at hY
  have hb := below_two w (.cells (prc e A n m) 25) (.cells #[.int .u64 p] 22)
  have HL := Lib.hid hz.1
  have hcon := ssearch_any w.heap.size (w.heap.size + 1) n (fun i => decide (p < (L.getD i stp0).2.1)) _ hn
    (fun w' h k hk => searchc_any (W := w) w.heap.size (w.heap.size + 1) P e p A n m k L ((hz.below hb).below h) (hX.below h) (hY.below h) hk hn)
    (fun i j hij hj hg => by
      have := hv.to_mono i j hij (by rw [hz.1]; exact hj)
      have := of_decide_eq_true hg
      exact decide_eq_true (by omega))
  obtain ⟨x0, x1⟩ := hX.c2
  clear hz hX hY
  go_enter Try.func27, Try.ntmps27
  go_wp2_with fail
  refine hcon.mono ?_
  rintro en w1 ⟨r, rfl, h1, h2, h3, hb1⟩
  have HE : Hid (wsi L p = r) := Lib.hid (wsi_eq (by rw [HL.out]; exact h1) (fun j hj => by have := h2 j hj; exact of_decide_eq_false this) (fun hr => of_decide_eq_true (h3 (by rw [← HL.out]; exact hr))))
  have hbd := hb.trans (hb1.mono hb.size)
  clear hcon hb1 x0 x1 h1 h2 h3
  go_wp2
  go_ret
  exact ⟨by rw [HE.out]; rfl, hbd⟩
end Go.Proofs.Ytmcabaebdloakaa.Cur
