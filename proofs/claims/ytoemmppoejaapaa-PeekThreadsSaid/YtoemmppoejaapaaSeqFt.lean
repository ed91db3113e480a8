/- As the seat's text, without what nothing here names. -/
import Derived.Test.YtoemmppoejaapaaK1t
namespace Go.Proofs.Ytoemmppoejaapaa.SeqF
open Go.Proofs.Ytoemmppoejaapaa.Seq
set_option linter.unusedVariables false
section
variable {P : Program} {ops : Array Oper} {Q : Exit → Act → World → Prop} {S : World → Prop}
def Step (P : Program) (ops : Array Oper) (S : World → Prop) (o : Oper) (K : Act → World → Prop) (a : Act) (w : World) : Prop :=
  (∃ v, YieldsIf P ops S o v a ∧ K (a.put o.dst v) w) ∨
  (making o = true ∧ Region.wanted o (yielded ops a.tmps) = true ∧ o.wp P a w (fun a' w' => S w' ∧ K a' w') NoExit)
theorem Step.mono {o : Oper} {K K' : Act → World → Prop} {a : Act} {w : World} (hS : S w) (h : ∀ a w, S w → K a w → K' a w) (hh : Step P ops S o K a w) : Step P ops S o K' a w := by
  rcases hh with ⟨v, hy, hk⟩ | ⟨hm, hw, hk⟩
  · exact .inl ⟨v, hy, h _ _ hS hk⟩
  · exact .inr ⟨hm, hw, Seq.wp_mono (fun a' w' h' => ⟨h'.1, h _ _ h'.1 h'.2⟩) (fun _ _ _ h => h) (fun h => h) hk⟩
def wd (ops : Array Oper) (d o : Oper) : Bool := !(d.apart ops o && o.apart ops d)
def Float (P : Program) (ops : Array Oper) (S : World → Prop) (Q : Exit → Act → World → Prop) (d : Oper) : List Oper → Act → World → Prop
  | [], a, w => Seq P ops S Q [d] a w
  | o :: rest, a, w => (wd ops d o = true ∧ Seq P ops S Q (d :: o :: rest) a w) ∨ (wd ops d o = false ∧ (making o = true → Seq P ops S Q (d :: o :: rest) a w) ∧ Step P ops S o (Float P ops S Q d rest) a w)
def inFloat (md : Region.Mode) (l : List Oper) (D : Nat) (d : Oper) : Bool :=
  Region.noSelect l.toArray && making d && d.after.toList.all (fun e => !Region.binds md e) && go md l.toArray d D (masks md l []) l 0
where
  go (md : Region.Mode) (ops : Array Oper) (d : Oper) (D : Nat) (M : List Nat) : List Oper → Nat → Bool
    | [], _ => true
    | oj :: rest, j => oj.after.toList.all (fun e => !Region.binds md e || Nat.blt e.on j) && (j == D || ((Nat.testBit (M.getD j 0) D || !(wd ops d oj)) && goo ops d D oj (M.getD j 0) ops.toList 0 j)) && go md ops d D M rest (j + 1)
  goo (ops : Array Oper) (d : Oper) (D : Nat) (oj : Oper) (m : Nat) : List Oper → Nat → Nat → Bool
    | [], _, _ => true
    | oi :: rest, i, j => Nat.ble j i || ((i == D || (!(wd ops d oi) || wd ops d oj) && (Nat.testBit m i || (oi.apart ops oj && !(making oi && making oj)))) && goo ops d D oj m rest (i + 1) j)
theorem goo_spec {d oj : Oper} {m j D : Nat} : ∀ (l : List Oper) (k : Nat), inFloat.goo ops d D oj m l k j = true → ∀ i oi, l[i]? = some oi → k + i < j → k + i ≠ D →
    (wd ops d oi = true → wd ops d oj = true) ∧ (m.testBit (k + i) = true ∨ (oi.apart ops oj = true ∧ (making oi && making oj) = false))
  | [], _, _, i, oi, h, _, _ => by simp at h
  | o :: l, k, h, i, oi, hi, hlt, hD => by
    unfold inFloat.goo at h
    rw [Bool.or_eq_true, Bool.and_eq_true] at h
    rcases h with h | ⟨h1, h2⟩
    · have := Nat.le_of_ble_eq_true h; omega
    · cases i with
      | zero =>
        simp only [List.getElem?_cons_zero, Option.some.injEq] at hi
        subst hi
        have hD' : (k == D) = false := by simpa using hD
        rw [hD', Bool.false_or, Bool.and_eq_true, Bool.or_eq_true, Bool.or_eq_true] at h1
        refine ⟨fun hw => ?_, ?_⟩
        · rcases h1.1 with h | h
          · rw [hw] at h; cases h
          · exact h
        · rcases h1.2 with h1 | h1
          · exact .inl h1
          · simp only [Bool.and_eq_true, Bool.not_eq_true'] at h1
            exact .inr h1
      | succ i =>
        have := goo_spec l (k + 1) h2 i oi (by simpa using hi) (by omega) (by omega)
        rw [show k + (i + 1) = k + 1 + i by omega]
        exact this
theorem go_spec {md : Region.Mode} {d : Oper} {D : Nat} {M : List Nat} : ∀ (l : List Oper) (k : Nat), inFloat.go md ops d D M l k = true → ∀ j oj, l[j]? = some oj →
    (∀ e ∈ oj.after, Region.binds md e = true → e.on < k + j) ∧ (k + j ≠ D → ((M.getD (k + j) 0).testBit D = true ∨ wd ops d oj = false) ∧ ∀ i oi, i < k + j → i ≠ D → ops[i]? = some oi →
      (wd ops d oi = true → wd ops d oj = true) ∧ ((M.getD (k + j) 0).testBit i = true ∨ (oi.apart ops oj = true ∧ (making oi && making oj) = false)))
  | [], _, _, j, oj, h => by simp at h
  | o :: l, k, h, j, oj, hj => by
    unfold inFloat.go at h
    simp only [Bool.and_eq_true] at h
    obtain ⟨⟨h1, h2⟩, h3⟩ := h
    cases j with
    | zero =>
      simp only [List.getElem?_cons_zero, Option.some.injEq] at hj
      subst hj
      refine ⟨fun e he hb => ?_, fun hD => ?_⟩
      · have := List.all_eq_true.1 h1 e (by simpa using he)
        simp only [hb, Bool.not_true, Bool.false_or] at this
        rw [Nat.blt_eq] at this
        omega
      · have hD' : (k == D) = false := by simpa using hD
        rw [hD', Bool.false_or, Bool.and_eq_true, Bool.or_eq_true] at h2
        refine ⟨?_, fun i oi hi hiD hoi => ?_⟩
        · rcases h2.1 with h | h
          · exact .inl h
          · exact .inr (by simpa using h)
        · have := goo_spec ops.toList 0 h2.2 i oi (by simpa using hoi) (by omega) (by omega)
          simpa using this
    | succ j =>
      have := go_spec l (k + 1) h3 j oj (by simpa using hj)
      rw [show k + (j + 1) = k + 1 + j by omega]
      exact this
variable {md : Region.Mode} {D : Nat} {d : Oper}
structure Fits (md : Region.Mode) (ops : Array Oper) (D : Nat) (d : Oper) : Prop where
  hd : ops[D]? = some d
  ns : ∀ (j : Nat) (oj : Oper) cs b, ops[j]? = some oj → oj.op ≠ .select cs b
  mkd : making d = true
  free : ∀ e ∈ d.after, Region.binds md e = false
  back : ∀ (j : Nat) (oj : Oper), ops[j]? = some oj → ∀ e ∈ oj.after, Region.binds md e = true → e.on < j
  wait : ∀ (j : Nat) (oj : Oper), ops[j]? = some oj → j ≠ D → Waits md ops j D ∨ wd ops d oj = false
  late : ∀ (j : Nat) (oj : Oper), ops[j]? = some oj → j ≠ D → ∀ (i : Nat) (oi : Oper), i < j → i ≠ D → ops[i]? = some oi → wd ops d oi = true → wd ops d oj = true
  pair : ∀ (j : Nat) (oj : Oper), ops[j]? = some oj → j ≠ D → ∀ (i : Nat) (oi : Oper), i < j → i ≠ D → ops[i]? = some oi → Waits md ops j i ∨ (oi.apart ops oj = true ∧ (making oi && making oj) = false)
theorem wpAny_of_seq (G : Fits md ops D d) : ∀ (fuel : Nat) (listed : Array Bool) (a : Act) (w : World), listed.size = ops.size → listed.getD D true = true →
    (∀ k o, ops[k]? = some o → listed.getD k true = true → ∀ e ∈ o.after, Region.binds md e = true → listed.getD e.on false = true) → (rem ops listed (List.range ops.size)).length ≤ fuel → S w →
    Seq P ops S Q (rem ops listed (List.range ops.size)) a w → wpAny P md ops Q fuel listed a w := by
  have hns : ∀ (j : Nat) (oj : Oper) cs b, ops[j]? = some oj → oj.op ≠ .select cs b := G.ns
  intro fuel
  have hnone : ∀ (listed : Array Bool) (a : Act) (w : World), rem ops listed (List.range ops.size) = [] → Seq P ops S Q (rem ops listed (List.range ops.size)) a w → Region.ready md ops listed = [] ∧ Q .normal a w := by
    intro listed a w h0 h
    refine ⟨List.eq_nil_iff_forall_not_mem.2 fun j hj => ?_, by rw [h0] at h; exact h⟩
    obtain ⟨hl, o, ho, _⟩ := mem_ready.1 hj
    have : o ∈ rem ops listed (List.range ops.size) := List.mem_filterMap.2 ⟨j, List.mem_filter.2 ⟨List.mem_range.2 (Array.getElem?_eq_some_iff.1 ho).1, by simp [hl]⟩, ho⟩
    rw [h0] at this
    cases this
  induction fuel with
  | zero =>
    intro listed a w _ _ _ hle hS h
    exact hnone listed a w (List.eq_nil_of_length_eq_zero (by omega)) h
  | succ fuel ih =>
    intro listed a w hsz hDl hcl hle hS h
    refine ⟨fun hr => ?_, fun j hj => ?_⟩
    ·
      suffices h0 : rem ops listed (List.range ops.size) = [] from (hnone listed a w h0 h).2
      refine List.eq_nil_iff_forall_not_mem.2 fun o ho => ?_
      obtain ⟨i, hi, hl, hoi⟩ := mem_rem ho
      have : ∀ k, (∀ i < k, listed.getD i true = true ∨ ops[i]? = none) := by
        intro k
        induction k with
        | zero => intro i hi; omega
        | succ k ihk =>
          intro i hi
          rcases Nat.lt_or_ge i k with h' | h'
          · exact ihk i h'
          · obtain rfl : i = k := by omega
            cases hoi : ops[i]? with
            | none => exact .inr rfl
            | some oi =>
              refine .inl ?_
              by_cases hli : listed.getD i true = true
              · exact hli
              · exfalso
                have hmem : i ∈ Region.ready md ops listed := mem_ready.2 ⟨by simpa using hli, oi, hoi, fun e he hb => by
                  have hlt := G.back i oi hoi e he hb
                  have hsome : e.on < listed.size := by rw [hsz]; have := (Array.getElem?_eq_some_iff.1 hoi).1; omega
                  rcases ihk e.on hlt with h1 | h1
                  · simpa [hsome] using h1
                  · have := (Array.getElem?_eq_none_iff.1 h1); omega⟩
                rw [hr] at hmem
                cases hmem
      rcases this (i + 1) i (by omega) with h1 | h1
      · rw [hl] at h1; cases h1
      · rw [h1] at hoi; cases hoi
    · obtain ⟨hl, oj, hoj, hdeps⟩ := mem_ready.1 hj
      have hjn : j < ops.size := (Array.getElem?_eq_some_iff.1 hoj).1
      have hsplit : rem ops listed (List.range ops.size) = rem ops listed (List.range j) ++ oj :: rem ops listed (List.range' (j + 1) (ops.size - j - 1)) := by
        rw [range_split hjn, rem_append]
        congr 1
        unfold rem
        rw [List.filter_cons]
        simp [hl, hoj]
      have hsplit' : rem ops (listed.setIfInBounds j true) (List.range ops.size) = rem ops listed (List.range j) ++ rem ops listed (List.range' (j + 1) (ops.size - j - 1)) := by
        rw [range_split hjn, rem_append, rem_set _ (by simp)]
        congr 1
        have e1 : rem ops (listed.setIfInBounds j true) (j :: List.range' (j + 1) (ops.size - j - 1)) = rem ops (listed.setIfInBounds j true) (List.range' (j + 1) (ops.size - j - 1)) := by
          unfold rem
          rw [List.filter_cons, if_neg]
          have : j < listed.size := by rw [hsz]; exact hjn
          simp [this]
        rw [e1, rem_set _ (by simp [List.mem_range'_1]; omega)]
      have hp := pull (P := P) (Q := Q) (S := S) (fun cs b => hns j oj cs b hoj) (rem ops listed (List.range' (j + 1) (ops.size - j - 1))) (rem ops listed (List.range j)) a w (fun i hi => by
        obtain ⟨k, hk, hlk, hok⟩ := mem_rem hi
        have hk := List.mem_range.1 hk
        rcases G.pair j oj hoj (fun e => by subst e; rw [hDl] at hl; cases hl) k i hk (fun e => by subst e; rw [hDl] at hlk; cases hlk) hok with hwt | ⟨h1, h2⟩
        · exfalso
          have conv : ∀ m, m < ops.size → listed.getD m false = true → listed.getD m true = true := fun m hm h1 => by
            have hsome : m < listed.size := by rw [hsz]; exact hm
            simpa [hsome] using h1
          have path : ∀ x y, Waits md ops x y → y < ops.size → (∀ o, ops[x]? = some o → ∀ e ∈ o.after, Region.binds md e = true → listed.getD e.on false = true) → listed.getD y true = true := by
            intro x y hxy hy
            induction hxy with
            | one ho he hb => exact fun hd => conv _ hy (hd _ ho _ he hb)
            | more ho he hb hw ih =>
              intro hd
              refine ih hy fun o ho' e' he' hb' => ?_
              exact hcl _ o ho' (conv _ (Array.getElem?_eq_some_iff.1 ho').1 (hd _ ho _ he hb)) e' he' hb'
          have := path j k hwt (by omega) (fun o ho e he hb => by rw [hoj] at ho; cases ho; exact hdeps e he hb)
          rw [hlk] at this
          cases this
        · exact ⟨h1, h2, fun cs b => hns k i cs b hok⟩) hS (by rw [← hsplit]; exact h)
      have hle' : (rem ops (listed.setIfInBounds j true) (List.range ops.size)).length ≤ fuel := by
        rw [hsplit']
        rw [hsplit] at hle
        simp only [List.length_append, List.length_cons] at hle ⊢
        omega
      have hkeep : (listed.setIfInBounds j true).getD D true = true := by
        by_cases hjD : j = D
        · subst hjD
          have : j < listed.size := by rw [hsz]; exact hjn
          simp [this]
        · rw [getD_set_ne true hjD]; exact hDl
      have next : ∀ a' w', S w' → Seq P ops S Q (rem ops listed (List.range j) ++ rem ops listed (List.range' (j + 1) (ops.size - j - 1))) a' w' → wpAny P md ops Q fuel (listed.setIfInBounds j true) a' w' :=
        fun a' w' hS' h' => ih _ a' w' (by simpa using hsz) (hkeep) (fun k o ho hl e he hb => by
          have mono : ∀ m, listed.getD m false = true → (listed.setIfInBounds j true).getD m false = true := fun m hm => by
            by_cases hmj : j = m
            · subst hmj
              have : j < listed.size := by rw [hsz]; exact hjn
              simp [this]
            · rw [getD_set_ne false hmj]; exact hm
          by_cases hkj : j = k
          · subst hkj
            rw [hoj] at ho
            cases ho
            exact mono _ (hdeps e he hb)
          · rw [getD_set_ne true hkj] at hl
            exact mono _ (hcl k o ho hl e he hb)) hle' hS' (by rw [hsplit']; exact h')
      rcases hp with ⟨v, hy, hr⟩ | ⟨_, hw, hr⟩
      · exact hy.wpOp hoj hS (next _ _ hS hr)
      · unfold wpOp
        simp only [hoj, hw, if_true]
        exact .inl (Seq.wp_mono (fun a' w' h' => next a' w' h'.1 h'.2) (fun _ _ _ h => h.elim) (fun h => absurd h letsOut_no) hr)
theorem Float.nil {d : Oper} {a : Act} {w : World} (h : Seq P ops S Q [d] a w) : Float P ops S Q d [] a w := h
theorem Float.skip {d o : Oper} {rest : List Oper} {a : Act} {w : World} (h0 : wd ops d o = false) (hm : making o = false) (hw : Region.wanted o (yielded ops a.tmps) = false) (h : Float P ops S Q d rest (a.put o.dst undef) w) : Float P ops S Q d (o :: rest) a w :=
  .inr ⟨h0, fun h => (by rw [hm] at h; cases h), .inl ⟨undef, .inr ⟨hw, rfl⟩, h⟩⟩
theorem Float.det {d o : Oper} {rest : List Oper} {a : Act} {w : World} (v : Value) (h0 : wd ops d o = false) (hm : making o = false) (hw : Region.wanted o (yielded ops a.tmps) = true) (hv : ∀ w, S w → (execOp a.eval o).run P w = .ok (.value v) w)
    (h : Float P ops S Q d rest (a.put o.dst v) w) : Float P ops S Q d (o :: rest) a w := .inr ⟨h0, fun h => (by rw [hm] at h; cases h), .inl ⟨v, .inl ⟨hw, hv⟩, h⟩⟩
end
end Go.Proofs.Ytoemmppoejaapaa.SeqF
