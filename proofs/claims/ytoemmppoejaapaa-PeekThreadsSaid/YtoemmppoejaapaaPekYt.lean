/- As the seat's text, without what nothing here names. -/
import Derived.Test.YtoemmppoejaapaaPekTt
import Derived.Test.YtoemmppoejaapaaK36t
namespace Go.Proofs.Ytoemmppoejaapaa.Cur
open Go.RowKit Mem
set_option linter.unusedVariables false
set_option maxRecDepth 100000
def lpw (l : List Lk) : Prop := l.Pairwise (fun x y => x.1 < y.1)
theorem lpw_of_rise {L : List Lk} (h : lrise L L.length) : lpw L := by
  refine List.pairwise_iff_getElem.2 fun i j hi hj hij => ?_
  have h2 := lrise_lt (lrise_le h (j := j + 1) (by omega)) (j := i) (by omega)
  rw [Nat.add_sub_cancel] at h2
  rwa [List.getD_eq_getElem?_getD, List.getElem?_eq_getElem hi, List.getD_eq_getElem?_getD, List.getElem?_eq_getElem hj] at h2
theorem getD_of {L : List Lk} {i : Nat} (hi : i < L.length) : L.getD i lk0 = L[i] := by
  rw [List.getD_eq_getElem?_getD, List.getElem?_eq_getElem hi]; rfl
theorem fl_mem {L : List Lk} {s : Int} {z : List Int} (h : fl L s = some z) : ∃ x ∈ L, x.1 = s := by
  unfold fl at h
  rcases hf : L.find? (fun x => x.1 == s) with _ | x
  · rw [hf] at h; cases h
  · exact ⟨x, List.mem_of_find?_eq_some hf, by have := List.find?_some hf; simpa using this⟩
theorem fl_lt {L : List Lk} {s : Int} (h : ∀ x ∈ L, s < x.1) : fl L s = none := fl_none fun x hx e => by have := h x hx; omega
theorem lpw_eq : ∀ {A B : List Lk}, lpw A → lpw B → (∀ s, fl A s = fl B s) → A = B
  | [], [], _, _, _ => rfl
  | [], y :: B, _, _, h => by
    have := h y.1
    rw [fl_cons, if_pos rfl] at this
    cases this
  | x :: A, [], _, _, h => by
    have := h x.1
    rw [fl_cons, if_pos rfl] at this
    cases this
  | x :: A, y :: B, ha, hb, h => by
    obtain ⟨a1, a2⟩ := List.pairwise_cons.1 ha
    obtain ⟨b1, b2⟩ := List.pairwise_cons.1 hb
    have hx := h x.1
    have hy := h y.1
    rw [fl_cons, if_pos rfl, fl_cons] at hx
    rw [fl_cons, fl_cons (x := y), if_pos rfl] at hy
    have e : y.1 = x.1 := by
      by_cases e : y.1 = x.1
      · exact e
      · rw [if_neg e] at hx
        rw [if_neg (fun e2 => e e2.symm)] at hy
        obtain ⟨u, hu, hu2⟩ := fl_mem hx.symm
        obtain ⟨v, hv, hv2⟩ := fl_mem hy
        have := a1 v hv
        have := b1 u hu
        omega
    rw [if_pos e] at hx
    injection hx with hx
    have exy : x = y := Prod.ext e.symm hx
    subst exy
    rw [lpw_eq a2 b2 fun s => ?_]
    have hs := h s
    rw [fl_cons, fl_cons] at hs
    by_cases e : x.1 = s
    · subst e
      rw [fl_lt a1, fl_lt b1]
    · rwa [if_neg e, if_neg e] at hs
theorem lkOf_pw {T : TL} {ss : List Int} (h : ss.Pairwise (· < ·)) : lpw (lkOf T ss) := by
  unfold lpw lkOf
  rw [List.pairwise_map]
  exact h
theorem lkOf_fl {T : TL} : ∀ {ss : List Int} (s : Int), fl (lkOf T ss) s = if s ∈ ss then some ((T s).getD []) else none
  | [], s => by rw [if_neg (by simp)]; rfl
  | x :: ss, s => by
    show fl ((x, (T x).getD []) :: lkOf T ss) s = _
    rw [fl_cons, lkOf_fl s]
    by_cases h : x = s
    · subst h; rw [if_pos rfl, if_pos (by simp)]
    · rw [if_neg h]
      by_cases h2 : s ∈ ss
      · rw [if_pos h2, if_pos (by simp [h2])]
      · rw [if_neg h2, if_neg (by simp [h2]; exact fun e => h e.symm)]
theorem lkOf_tl {T : TL} {ss : List Int} (h : ∀ s, s ∈ ss ↔ T s ≠ none) (s : Int) : fl (lkOf T ss) s = T s := by
  rw [lkOf_fl]
  by_cases h2 : s ∈ ss
  · rw [if_pos h2]
    have := (h s).1 h2
    rcases hT : T s with _ | z
    · exact absurd hT this
    · rfl
  · rw [if_neg h2]
    rcases hT : T s with _ | z
    · rfl
    · exact absurd ((h s).2 (by rw [hT]; simp)) h2
theorem gtl_ge {L : List Lk} (h : lpw L) {s : Int} {j : Nat} (hj : j < L.length) (hg : gtl L s ≤ j) : s < L[j].1 := by
  have h2 := (gtl_spec L s).2 (by omega)
  rw [getD_of (by omega)] at h2
  rcases Nat.lt_or_ge (gtl L s) j with h3 | h3
  · have := List.pairwise_iff_getElem.1 h (gtl L s) j (by omega) hj h3
    omega
  · have e : gtl L s = j := by omega
    subst e
    exact h2
theorem fnl_neg {L : List Lk} {s : Int} (h : fnl L s < 0) : ∀ x ∈ L, x.1 ≠ s := fun x hx e => by
  have h2 : fl L s = none := by rw [fl_fnl, if_neg (by omega)]
  unfold fl at h2
  rw [Option.map_eq_none_iff, List.find?_eq_none] at h2
  exact h2 x hx (by simpa using e)
theorem fnl_pos {L : List Lk} {s : Int} (h : 0 ≤ fnl L s) : (L.getD (fnl L s).toNat lk0).1 = s := by
  have h0 := fnl_pcx L s
  have h1 := fnl_lt L s
  induction L with
  | nil => exact absurd h (by show ¬ (0 : Int) ≤ -1; decide)
  | cons x L ih =>
    unfold fnl at h ⊢
    by_cases e : x.1 = s
    · rw [if_pos e]; exact e
    · rw [if_neg e] at h ⊢
      by_cases e2 : fnl L s < 0
      · rw [if_pos e2] at h; exact absurd h (by decide)
      · rw [if_neg e2] at h ⊢
        have e3 : (fnl L s + 1).toNat = (fnl L s).toNat + 1 := by omega
        rw [e3]
        exact ih (by omega) (fnl_pcx L s) (fnl_lt L s)
theorem wth_pw {L : List Lk} {x : Lk} (h : lpw L) : lpw (wth L x) := by
  unfold wth
  by_cases hf : 0 ≤ fnl L x.1
  · rw [if_pos hf]
    have h1 := fnl_lt L x.1
    have h2 := fnl_pos hf
    have hk : (fnl L x.1).toNat < L.length := by omega
    generalize (fnl L x.1).toNat = k at *
    rw [getD_of hk] at h2
    refine List.pairwise_iff_getElem.2 fun i j hi hj hij => ?_
    rw [List.length_set] at hi hj
    have h3 := List.pairwise_iff_getElem.1 h i j hi hj hij
    rw [List.getElem_set, List.getElem_set]
    by_cases e : k = i
    · subst e
      rw [if_pos rfl, if_neg (by omega)]
      omega
    · rw [if_neg e]
      by_cases e2 : k = j
      · subst e2
        rw [if_pos rfl]
        omega
      · rw [if_neg e2]; exact h3
  · rw [if_neg hf]
    have hn := fnl_neg (show fnl L x.1 < 0 by omega)
    refine List.pairwise_append.2 ⟨h.sublist (List.take_sublist _ _), List.pairwise_cons.2 ⟨fun y hy => ?_, h.sublist (List.drop_sublist _ _)⟩, fun y hy u hu => ?_⟩
    · obtain ⟨j, hj, rfl⟩ := List.mem_iff_getElem.1 hy
      rw [List.length_drop] at hj
      rw [List.getElem_drop]
      exact gtl_ge h _ (Nat.le_add_right _ _)
    · obtain ⟨j, hj, rfl⟩ := List.mem_iff_getElem.1 hy
      rw [List.length_take] at hj
      rw [List.getElem_take]
      have h1 : ¬ x.1 < L[j].1 := by
        have := (gtl_spec L x.1).1 j (by omega)
        rwa [getD_of (by omega)] at this
      have h2 := hn L[j] (List.getElem_mem _)
      have h3 : L[j].1 < x.1 := by omega
      rcases List.mem_cons.1 hu with rfl | hu
      · exact h3
      · obtain ⟨i, hi, rfl⟩ := List.mem_iff_getElem.1 hu
        rw [List.length_drop] at hi
        rw [List.getElem_drop]
        have := gtl_ge h (s := x.1) (j := gtl L x.1 + i) (by omega) (Nat.le_add_right _ _)
        omega
def tls (p : Int) (l ts : List Lk) : Nat → List Lk
  | 0 => ts
  | i + 1 => wth (tls p l ts i) (ext p (nwl p l (fl ts) i))
def tes (b : Int) (Ls : List (List Lk)) (ts : List Lk) : Nat → List Lk
  | 0 => ts
  | k + 1 => tls (b + k) (Ls.getD k []) (tes b Ls ts k) (Ls.getD k []).length
theorem tls_fl (p : Int) (l ts : List Lk) : ∀ i, fl (tls p l ts i) = TT p l (fl ts) i
  | 0 => rfl
  | i + 1 => funext fun s => by
    show fl (wth (tls p l ts i) (ext p (nwl p l (fl ts) i))) s = if s = (l.getD i lk0).1 then some (p :: ((TT p l (fl ts) i (l.getD i lk0).1).getD []).take 3) else TT p l (fl ts) i s
    rw [fl_wth, tls_fl p l ts i]
    rfl
theorem tes_fl (b : Int) (Ls : List (List Lk)) (ts : List Lk) : ∀ k, fl (tes b Ls ts k) = TE b Ls (fl ts) k
  | 0 => rfl
  | k + 1 => by
    show fl (tls (b + k) (Ls.getD k []) (tes b Ls ts k) _) = TT (b + k) (Ls.getD k []) (TE b Ls (fl ts) k) _
    rw [tls_fl, tes_fl b Ls ts k]
theorem tls_pw {p : Int} {l ts : List Lk} (h : lpw ts) : ∀ i, lpw (tls p l ts i)
  | 0 => h
  | i + 1 => wth_pw (tls_pw h i)
theorem tes_pw {b : Int} {Ls : List (List Lk)} {ts : List Lk} (h : lpw ts) : ∀ k, lpw (tes b Ls ts k)
  | 0 => h
  | k + 1 => tls_pw (tes_pw h k) _
theorem tls_len {p : Int} {l ts : List Lk} : ∀ i, (tls p l ts i).length ≤ ts.length + i
  | 0 => Nat.le_refl _
  | i + 1 => by
    have := tls_len (p := p) (l := l) (ts := ts) i
    have := (wth_len (tls p l ts i) (ext p (nwl p l (fl ts) i))).1
    show (wth _ _).length ≤ _
    omega
theorem tes_len {b : Int} {Ls : List (List Lk)} {ts : List Lk} {m : Nat} (h : ∀ k, (Ls.getD k []).length ≤ m) : ∀ k, (tes b Ls ts k).length ≤ ts.length + k * m
  | 0 => by rw [Nat.zero_mul]; exact Nat.le_refl _
  | k + 1 => by
    have := tes_len (b := b) (ts := ts) h k
    have h2 := tls_len (p := b + k) (l := Ls.getD k []) (ts := tes b Ls ts k) (Ls.getD k []).length
    have := h k
    rw [Nat.succ_mul]
    show (tls _ _ _ _).length ≤ _
    omega
theorem tes_is {b : Int} {Ls : List (List Lk)} {ts : List Lk} {ss : List Int} (k : Nat) (h : lpw ts) (hp : ss.Pairwise (· < ·)) (hm : ∀ s, s ∈ ss ↔ TE b Ls (fl ts) k s ≠ none) : lkOf (TE b Ls (fl ts) k) ss = tes b Ls ts k :=
  lpw_eq (lkOf_pw hp) (tes_pw h k) fun s => by rw [lkOf_tl hm, tes_fl]
theorem TT_str (p : Int) (l l' : List Lk) (T : TL) : ∀ i, (∀ j, j < i → (l.getD j lk0).1 = (l'.getD j lk0).1) → TT p l T i = TT p l' T i
  | 0, _ => rfl
  | i + 1, h => funext fun s => by
    show (if s = (l.getD i lk0).1 then some (p :: ((TT p l T i (l.getD i lk0).1).getD []).take 3) else TT p l T i s) = if s = (l'.getD i lk0).1 then some (p :: ((TT p l' T i (l'.getD i lk0).1).getD []).take 3) else TT p l' T i s
    rw [TT_str p l l' T i fun j hj => h j (by omega), h i (by omega)]
theorem TE_str (b : Int) (A B : List (List Lk)) (T : TL) : ∀ k, (∀ j, j < k → (A.getD j []).length = (B.getD j []).length ∧ ∀ i, i < (A.getD j []).length → ((A.getD j []).getD i lk0).1 = ((B.getD j []).getD i lk0).1) → TE b A T k = TE b B T k
  | 0, _ => rfl
  | k + 1, h => by
    show TT (b + k) (A.getD k []) (TE b A T k) (A.getD k []).length = TT (b + k) (B.getD k []) (TE b B T k) (B.getD k []).length
    rw [TE_str b A B T k fun j hj => h j (by omega), ← (h k (by omega)).1]
    exact TT_str _ _ _ _ _ (h k (by omega)).2
def alike (A B : List En) : Prop := A.length = B.length ∧ ∀ k, k < A.length → (A.getD k en0).1.length = (B.getD k en0).1.length ∧ (A.getD k en0).2 = (B.getD k en0).2 ∧ ∀ i, i < (A.getD k en0).1.length → ((A.getD k en0).1.getD i lk0).1 = ((B.getD k en0).1.getD i lk0).1
theorem alike_TE {A B : List En} (h : alike A B) (b : Int) (T : TL) (k : Nat) (hk : k ≤ A.length) : TE b (lksOf A) T k = TE b (lksOf B) T k := TE_str b _ _ T k fun j hj => by
  rw [lksOf_at, lksOf_at]
  have := h.2 j (by omega)
  exact ⟨this.1, this.2.2⟩
theorem alike_thEn {A B : List En} (h : alike A B) (b : Int) (T : TL) : thEn b A T = thEn b B T := by
  unfold thEn
  rw [← h.1]
  refine List.map_congr_left fun k hk => ?_
  have hk := List.mem_range.1 hk
  obtain ⟨h1, h2, h3⟩ := h.2 k hk
  rw [h2]
  congr 1
  unfold thL
  rw [← h1, alike_TE h b T k (by omega)]
  refine List.map_congr_left fun i hi => ?_
  have hi := List.mem_range.1 hi
  unfold nwl
  rw [h3 i hi, TT_str _ _ _ _ i fun j hj => h3 j (by omega)]
theorem alike_th (b : Int) (L : List En) (T : TL) : alike (thEn b L T) L := by
  refine ⟨thEn_len b L T, fun k hk => ?_⟩
  rw [thEn_len] at hk
  rw [thEn_at b L T hk]
  exact ⟨thL_len b L T k, rfl, fun i hi => by
    dsimp only at hi ⊢
    rw [thL_len] at hi
    rw [thL_at b L T hi]; rfl⟩
theorem th_th (b : Int) (L : List En) (T : TL) : thEn b (thEn b L T) T = thEn b L T := alike_thEn (alike_th b L T) b T
theorem te_th (b : Int) (L : List En) (T : TL) (k : Nat) (hk : k ≤ L.length) : TE b (lksOf (thEn b L T)) T k = TE b (lksOf L) T k := alike_TE (alike_th b L T) b T k (by rw [thEn_len]; exact hk)
theorem ct_le {p : Int} {l l' : List Lk} {T Tc : TL} (h : TLe Tc T) : ∀ i, (∀ j, j < i → l'.getD j lk0 = nwl p l T j) → TLe (CT p l' Tc i) (TT p l T i)
  | 0, _ => h
  | i + 1, hl => fun s v hv => by
    have hv : (if s = (l'.getD i lk0).1 then some (p :: (l'.getD i lk0).2.take 3) else CT p l' Tc i s) = some v := hv
    show (if s = (l.getD i lk0).1 then some (p :: ((TT p l T i (l.getD i lk0).1).getD []).take 3) else TT p l T i s) = some v
    rw [hl i (by omega)] at hv
    by_cases e : s = (l.getD i lk0).1
    · rw [if_pos e]
      rw [if_pos (show s = (nwl p l T i).1 from e)] at hv
      exact hv
    · rw [if_neg e]
      rw [if_neg (show ¬ s = (nwl p l T i).1 from e)] at hv
      exact ct_le h i (fun j hj => hl j (by omega)) s v hv
theorem cok_th {p : Int} {l l' : List Lk} {T Tc : TL} (h : TLe Tc T) : ∀ i, (∀ j, j < i → l'.getD j lk0 = nwl p l T j) → cok p l' Tc i = true
  | 0, _ => rfl
  | i + 1, hl => by
    have h1 := ct_le h i fun j hj => hl j (by omega)
    show (cok p l' Tc i && cgo (CT p l' Tc i) (l'.getD i lk0)) = true
    rw [cok_th h i fun j hj => hl j (by omega), Bool.true_and, cgo_iff, hl i (by omega)]
    rcases hc : CT p l' Tc i (nwl p l T i).1 with _ | z
    · exact .inl rfl
    · have h2 := h1 _ _ hc
      refine .inr ?_
      show some z = some ((TT p l T i (l.getD i lk0).1).getD [])
      rw [show TT p l T i (l.getD i lk0).1 = some z from h2]; rfl
theorem ce_le (b : Int) (L : List En) (T : TL) : ∀ k, k ≤ L.length → TLe (CE b (lksOf (thEn b L T)) tl0 k) (TE b (lksOf L) T k)
  | 0, _ => tle0 T
  | k + 1, hk => by
    show TLe (CT (b + k) _ (CE b (lksOf (thEn b L T)) tl0 k) _) (TT (b + k) _ (TE b (lksOf L) T k) _)
    rw [lksOf_at, lksOf_at, thEn_at b L T (by omega)]
    dsimp only
    rw [thL_len]
    exact ct_le (ce_le b L T k (by omega)) _ fun j hj => thL_at b L T hj
theorem coe_th (b : Int) (L : List En) (T : TL) : ∀ k, k ≤ L.length → coe b (lksOf (thEn b L T)) tl0 k = true
  | 0, _ => rfl
  | k + 1, hk => by
    show (coe b (lksOf (thEn b L T)) tl0 k && cok (b + k) _ (CE b (lksOf (thEn b L T)) tl0 k) _) = true
    rw [coe_th b L T k (by omega), Bool.true_and, lksOf_at, thEn_at b L T (by omega)]
    dsimp only
    rw [thL_len]
    exact cok_th (ce_le b L T k (by omega)) _ fun j hj => thL_at b L T hj
theorem chnb_th {e b : Int} {L : List En} {T : TL} (h : btk (e, b, thEn b L T) = true) : chnb e b (thEn b L T) = true := by
  unfold chnb
  rw [h, Bool.true_and, thEn_len]
  exact coe_th b L T _ (Nat.le_refl _)
def bareL (l : List Lk) : List Lk := l.map fun x => (x.1, [])
def bareEn (L : List En) : List En := L.map fun e => (bareL e.1, e.2)
theorem bareL_at (l : List Lk) {i : Nat} (hi : i < l.length) : (bareL l).getD i lk0 = ((l.getD i lk0).1, []) := by
  unfold bareL
  rw [List.getD_eq_getElem?_getD, List.getElem?_map, List.getElem?_eq_getElem hi, getD_of hi]; rfl
theorem bareEn_at (L : List En) (k : Nat) : (bareEn L).getD k en0 = (bareL (L.getD k en0).1, (L.getD k en0).2) := by
  unfold bareEn
  rw [List.getD_eq_getElem?_getD, List.getD_eq_getElem?_getD, List.getElem?_map]
  cases L[k]? <;> rfl
theorem bareEn_len (L : List En) : (bareEn L).length = L.length := by unfold bareEn; simp
theorem bareL_len (l : List Lk) : (bareL l).length = l.length := by unfold bareL; simp
theorem lks_bare {pos : Int} : ∀ {l l' : List Lk} {pr : Int}, lks pos pr l = true → l'.length = l.length → (∀ i, i < l.length → (l'.getD i lk0) = ((l.getD i lk0).1, [])) → lks pos pr l' = true
  | [], [], _, _, _, _ => rfl
  | [], y :: l', _, _, h, _ => by simp at h
  | x :: l, [], _, _, h, _ => by simp at h
  | x :: l, y :: l', pr, h, hl, ha => by
    obtain ⟨k1, k2, k3, k4⟩ := lks_parts h
    have h0 := ha 0 (by simp)
    have h0 : y = (x.1, []) := h0
    subst h0
    exact lks_mk k1 (Nat.zero_le _) rfl (lks_bare k4 (by simpa using hl) fun i hi => by
      have := ha (i + 1) (by simpa using hi)
      simpa using this)
theorem jn_alike : ∀ {A B : List En}, A.length = B.length → (∀ k, k < A.length → (A.getD k en0).2 = (B.getD k en0).2) → jn A = jn B
  | [], [], _, _ => rfl
  | [], y :: B, h, _ => by simp at h
  | x :: A, [], h, _ => by simp at h
  | x :: A, y :: B, h, ha => by
    have h0 : x.2 = y.2 := ha 0 (by simp)
    show x.2 ++ jn A = y.2 ++ jn B
    rw [h0, jn_alike (by simpa using h) fun k hk => by
      have := ha (k + 1) (by simpa using hk)
      simpa using this]
theorem btk_bare {e b : Int} {L L' : List En} (hA : alike L' L) (h : btk (e, b, L') = true) : btk (e, b, bareEn L) = true := by
  have hj : jn (bareEn L) = jn L' := jn_alike (by rw [bareEn_len, hA.1]) fun k hk => by
    rw [bareEn_len, ← hA.1] at hk
    rw [bareEn_at]
    exact (hA.2 k hk).2.1.symm
  unfold btk at h ⊢
  simp only [Bool.and_eq_true] at h ⊢
  obtain ⟨⟨⟨⟨h1, h2⟩, h3⟩, h4⟩, h5⟩ := h
  refine ⟨⟨⟨⟨h1, h2⟩, ?_⟩, ?_⟩, enall_of fun k hk => ?_⟩
  · rw [bareEn_len, ← hA.1]; exact h3
  · rw [hj]; exact h4
  · rw [bareEn_len, ← hA.1] at hk
    have h6 := enall_at h5 k hk
    obtain ⟨q1, q2, q3⟩ := hA.2 k hk
    rw [bareEn_at]
    unfold enok at h6 ⊢
    rw [Bool.and_eq_true] at h6 ⊢
    dsimp only
    rw [← q2]
    obtain ⟨r1, r2⟩ := lkok_parts h6.2
    exact ⟨h6.1, lkok_mk (by rw [bareL_len]; omega) (lks_bare r2 (by rw [bareL_len]; exact q1.symm) fun i hi => by
      rw [bareL_at _ (by omega), q3 i hi])⟩
theorem btk_th_bare {e b : Int} {L : List En} {T : TL} (h : btk (e, b, thEn b L T) = true) : btk (e, b, bareEn L) = true := btk_bare (alike_th b L T) h
theorem btk_ls {e b : Int} {L : List En} (h : btk (e, b, L) = true) (k : Nat) : ((lksOf L).getD k []).length ≤ 16 := by
  rw [lksOf_at]
  by_cases hk : k < L.length
  · unfold btk at h
    simp only [Bool.and_eq_true] at h
    have h2 := enall_at h.2 k hk
    unfold enok at h2
    rw [Bool.and_eq_true] at h2
    exact (lkok_parts h2.2).1
  · rw [List.getD_eq_getElem?_getD, List.getElem?_eq_none (by omega)]
    exact Nat.zero_le _
end Go.Proofs.Ytoemmppoejaapaa.Cur
