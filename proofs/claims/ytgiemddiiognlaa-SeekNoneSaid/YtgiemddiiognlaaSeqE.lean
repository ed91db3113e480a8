/- A region that draws its order and whose last operation waits for all others: gone through in the order of its text, where the last one need not keep the condition. -/
import Derived.Test.YtgiemddiiognlaaK1
namespace Go.Proofs.Ytgiemddiiognlaa.Seq
set_option linter.unusedVariables false

section
variable {P : Program} {ops : Array Oper} {Q : Exit → Act → World → Prop} {S : World → Prop}

def SeqE (P : Program) (ops : Array Oper) (S : World → Prop) (Q : Exit → Act → World → Prop) : List Oper → Act → World → Prop
  | [], a, w => Q .normal a w
  | o :: rest, a, w =>
    (∃ v, YieldsIf P ops S o v a ∧ SeqE P ops S Q rest (a.put o.dst v) w) ∨
    (making o = true ∧ Region.wanted o (yielded ops a.tmps) = true ∧ o.wp P a w (fun a' w' => (S w' ∨ rest = []) ∧ SeqE P ops S Q rest a' w') NoExit)

def PulledE (P : Program) (ops : Array Oper) (S : World → Prop) (Q : Exit → Act → World → Prop) (j : Oper) (rest : List Oper) (a : Act) (w : World) : Prop :=
  (∃ v, YieldsIf P ops S j v a ∧ SeqE P ops S Q rest (a.put j.dst v) w) ∨
  (making j = true ∧ Region.wanted j (yielded ops a.tmps) = true ∧ j.wp P a w (fun a' w' => S w' ∧ SeqE P ops S Q rest a' w') NoExit)

theorem pullE {j : Oper} (hsj : ∀ cs b, j.op ≠ .select cs b) (post : List Oper) (hpost : post ≠ []) : ∀ (pre : List Oper) (a : Act) (w : World), (∀ i ∈ pre, i.apart ops j = true ∧ (making i && making j) = false ∧ ∀ cs b, i.op ≠ .select cs b) → S w →
    SeqE P ops S Q (pre ++ j :: post) a w → PulledE P ops S Q j (pre ++ post) a w
  | [], a, w, _, hS, h => by
    rcases h with h | ⟨h1, h2, h3⟩
    · exact .inl h
    · exact .inr ⟨h1, h2, wp_mono (fun a' w' h' => ⟨h'.1.resolve_right hpost, h'.2⟩) (fun _ _ _ h => h) (fun h => h) h3⟩
  | i :: pre, a, w, hpre, hS, h => by
    obtain ⟨hap, hmk, hsi⟩ := hpre i (List.mem_cons_self ..)
    obtain ⟨h1, h2, h3⟩ := Oper.apart_spec hap
    have h2' : ∀ d, j.dst = some d → i.dst ≠ some d := fun d hd he => h2 d he hd
    have ih := pullE hsj post hpost pre
    have hpre' : ∀ i ∈ pre, i.apart ops j = true ∧ (making i && making j) = false ∧ ∀ cs b, i.op ≠ .select cs b := fun k hk => hpre k (List.mem_cons_of_mem _ hk)
    rcases h with ⟨v, hy, h⟩ | ⟨hm, hw, h⟩
    · rcases ih (a.put i.dst v) w hpre' hS h with ⟨u, hyj, hr⟩ | ⟨hmj, hwj, hr⟩
      · refine .inl ⟨u, (yields_of_put hsj h1).1 hyj, .inl ⟨v, (yields_of_put hsi h3).2 hy, ?_⟩⟩
        rw [← Act.put_comm a v u h2]
        exact hr
      · refine .inr ⟨hmj, by rw [← wanted_put j a i.dst v h1]; exact hwj, ?_⟩
        refine wp_mono (fun a' w' h' => ?_) (fun _ _ _ h => h) (fun h => h) (wp_put hsj h1 h2 hr)
        exact ⟨h'.1.1, .inl ⟨v, (yields_of_after hsi h3 h'.2).2 hy, h'.1.2⟩⟩
    · have hmj : making j = false := by simpa [hm] using hmk
      have hne : pre ++ j :: post ≠ [] := by simp
      have key : i.wp P a w (fun a' w' => S w' ∧ ∃ v, YieldsIf P ops S j v a' ∧ SeqE P ops S Q (pre ++ post) (a'.put j.dst v) w') NoExit :=
        wp_mono (fun a' w' h' => ⟨h'.1.resolve_right hne, by
          rcases ih a' w' hpre' (h'.1.resolve_right hne) h'.2 with hh | ⟨hmj', _⟩
          · exact hh
          · rw [hmj] at hmj'; cases hmj'⟩) (fun _ _ _ h => h) (fun h => h) h
      obtain ⟨a1, w1, ⟨_, v, hyv, _⟩, ha1⟩ := wp_some key
      have hyv' : YieldsIf P ops S j v a := (yields_of_after hsj h1 ha1).1 hyv
      refine .inl ⟨v, hyv', .inr ⟨hm, by rw [wanted_put i a j.dst v h3]; exact hw, ?_⟩⟩
      refine wp_unput hsi h3 h2' (wp_mono (fun a' w' h' ha' => ?_) (fun _ _ _ h => h) (fun h => h) key)
      obtain ⟨hS', v', hy', hr'⟩ := h'
      obtain rfl := yields_one hS hyv' ((yields_of_after hsj h1 ha').1 hy')
      exact ⟨.inl hS', hr'⟩

/-- The last operation waits for all ahead of it. -/
def lastWaits (md : Region.Mode) (l : List Oper) : Bool := (List.range (l.length - 1)).all fun i => ((masks md l []).getD (l.length - 1) 0).testBit i

theorem wpAny_done {md : Region.Mode} {fuel : Nat} {listed : Array Bool} {a : Act} {w : World} (h0 : Region.ready md ops listed = []) (h : Q .normal a w) : wpAny P md ops Q fuel listed a w := by
  cases fuel with
  | zero => exact ⟨h0, h⟩
  | succ fuel => exact ⟨fun _ => h, fun j hj => by rw [h0] at hj; cases hj⟩

theorem wpAny_of_last {md : Region.Mode} {l : List Oper} (hops : ops = l.toArray) (hc : inText md l = true) (hlw : lastWaits md l = true) : ∀ (fuel : Nat) (listed : Array Bool) (a : Act) (w : World), listed.size = ops.size →
    (∀ k o, ops[k]? = some o → listed.getD k true = true → ∀ e ∈ o.after, Region.binds md e = true → listed.getD e.on false = true) → (rem ops listed (List.range ops.size)).length ≤ fuel → S w →
    SeqE P ops S Q (rem ops listed (List.range ops.size)) a w → wpAny P md ops Q fuel listed a w := by
  have hns := Region.noSelect_spec (ops := ops) (by rw [hops]; simp only [inText, Bool.and_eq_true] at hc; exact hc.1)
  have hall : ∀ j oj, ops[j]? = some oj → (∀ e ∈ oj.after, Region.binds md e = true → e.on < j) ∧ ∀ i oi, i < j → ops[i]? = some oi → Waits md ops j i ∨ (oi.apart ops oj = true ∧ (making oi && making oj) = false) := by
    intro j oj hj
    subst hops
    simp only [inText, Bool.and_eq_true] at hc
    have := go_spec l 0 hc.2 j oj (by simpa using hj)
    rw [Nat.zero_add] at this
    exact ⟨this.1, fun i oi hi hoi => (this.2 i oi hi hoi).imp_left fun h => masks_spec l [] (fun j o h => by simpa using h) (fun j i h => by simp at h) j i h⟩
  have hlast : ∀ i, i < ops.size - 1 → Waits md ops (ops.size - 1) i := by
    intro i hi
    subst hops
    have hi' : i < l.length - 1 := by simpa using hi
    have := List.all_eq_true.1 hlw i (List.mem_range.2 hi')
    have e : l.toArray.size - 1 = l.length - 1 := by simp
    rw [e]
    exact masks_spec l [] (fun j o h => by simpa using h) (fun j i h => by simp at h) _ i this
  intro fuel
  have hnone : ∀ (listed : Array Bool) (a : Act) (w : World), rem ops listed (List.range ops.size) = [] → SeqE P ops S Q (rem ops listed (List.range ops.size)) a w → Region.ready md ops listed = [] ∧ Q .normal a w := by
    intro listed a w h0 h
    refine ⟨List.eq_nil_iff_forall_not_mem.2 fun j hj => ?_, by rw [h0] at h; exact h⟩
    obtain ⟨hl, o, ho, _⟩ := mem_ready.1 hj
    have : o ∈ rem ops listed (List.range ops.size) := List.mem_filterMap.2 ⟨j, List.mem_filter.2 ⟨List.mem_range.2 (Array.getElem?_eq_some_iff.1 ho).1, by simp [hl]⟩, ho⟩
    rw [h0] at this
    cases this
  induction fuel with
  | zero =>
    intro listed a w _ _ hle hS h
    exact hnone listed a w (List.eq_nil_of_length_eq_zero (by omega)) h
  | succ fuel ih =>
    intro listed a w hsz hcl hle hS h
    refine ⟨fun hr => ?_, fun j hj => ?_⟩
    · -- nothing may come up: nothing is left
      suffices h0 : rem ops listed (List.range ops.size) = [] from (hnone listed a w h0 h).2
      refine List.eq_nil_iff_forall_not_mem.2 fun o ho => ?_
      obtain ⟨i, hi, hl, hoi⟩ := mem_rem ho
      -- the least one that is left may come up
      have : ∀ k, (∀ i < k, listed.getD i true = true ∨ ops[i]? = none) := by
        intro k
        induction k with
        | zero => intro i hi; omega
        | succ k ihk =>
          intro i hi
          rcases Nat.lt_or_ge i k with h' | h'
          · exact ihk i h'
          · obtain rfl : i = k := by omega
            cases hoi : ops[i]? with
            | none => exact .inr rfl
            | some oi =>
              refine .inl ?_
              by_cases hli : listed.getD i true = true
              · exact hli
              · exfalso
                have hmem : i ∈ Region.ready md ops listed := mem_ready.2 ⟨by simpa using hli, oi, hoi, fun e he hb => by
                  have hlt := (hall i oi hoi).1 e he hb
                  have hsome : e.on < listed.size := by rw [hsz]; have := (Array.getElem?_eq_some_iff.1 hoi).1; omega
                  rcases ihk e.on hlt with h1 | h1
                  · simpa [hsome] using h1
                  · have := (Array.getElem?_eq_none_iff.1 h1); omega⟩
                rw [hr] at hmem
                cases hmem
      rcases this (i + 1) i (by omega) with h1 | h1
      · rw [hl] at h1; cases h1
      · rw [h1] at hoi; cases hoi
    · obtain ⟨hl, oj, hoj, hdeps⟩ := mem_ready.1 hj
      have hjn : j < ops.size := (Array.getElem?_eq_some_iff.1 hoj).1
      have hsplit : rem ops listed (List.range ops.size) = rem ops listed (List.range j) ++ oj :: rem ops listed (List.range' (j + 1) (ops.size - j - 1)) := by
        rw [range_split hjn, rem_append]
        congr 1
        unfold rem
        rw [List.filter_cons]
        simp [hl, hoj]
      have hsplit' : rem ops (listed.setIfInBounds j true) (List.range ops.size) = rem ops listed (List.range j) ++ rem ops listed (List.range' (j + 1) (ops.size - j - 1)) := by
        rw [range_split hjn, rem_append, rem_set _ (by simp)]
        congr 1
        have e1 : rem ops (listed.setIfInBounds j true) (j :: List.range' (j + 1) (ops.size - j - 1)) = rem ops (listed.setIfInBounds j true) (List.range' (j + 1) (ops.size - j - 1)) := by
          unfold rem
          rw [List.filter_cons, if_neg]
          have : j < listed.size := by rw [hsz]; exact hjn
          simp [this]
        rw [e1, rem_set _ (by simp [List.mem_range'_1]; omega)]
      have conv : ∀ m, m < ops.size → listed.getD m false = true → listed.getD m true = true := fun m hm h1 => by
        have hsome : m < listed.size := by rw [hsz]; exact hm
        simpa [hsome] using h1
      have path : ∀ x y, Waits md ops x y → y < ops.size → (∀ o, ops[x]? = some o → ∀ e ∈ o.after, Region.binds md e = true → listed.getD e.on false = true) → listed.getD y true = true := by
        intro x y hxy hy
        induction hxy with
        | one ho he hb => exact fun hd => conv _ hy (hd _ ho _ he hb)
        | more ho he hb hw ih =>
          intro hd
          refine ih hy fun o ho' e' he' hb' => ?_
          exact hcl _ o ho' (conv _ (Array.getElem?_eq_some_iff.1 ho').1 (hd _ ho _ he hb)) e' he' hb'
      have hle' : (rem ops (listed.setIfInBounds j true) (List.range ops.size)).length ≤ fuel := by
        rw [hsplit']
        rw [hsplit] at hle
        simp only [List.length_append, List.length_cons] at hle ⊢
        omega
      have next : ∀ a' w', S w' → SeqE P ops S Q (rem ops listed (List.range j) ++ rem ops listed (List.range' (j + 1) (ops.size - j - 1))) a' w' → wpAny P md ops Q fuel (listed.setIfInBounds j true) a' w' :=
        fun a' w' hS' h' => ih _ a' w' (by simpa using hsz) (fun k o ho hl e he hb => by
          have mono : ∀ m, listed.getD m false = true → (listed.setIfInBounds j true).getD m false = true := fun m hm => by
            by_cases hmj : j = m
            · subst hmj
              have : j < listed.size := by rw [hsz]; exact hjn
              simp [this]
            · rw [getD_set_ne false hmj]; exact hm
          by_cases hkj : j = k
          · subst hkj
            rw [hoj] at ho
            cases ho
            exact mono _ (hdeps e he hb)
          · rw [getD_set_ne true hkj] at hl
            exact mono _ (hcl k o ho hl e he hb)) hle' hS' (by rw [hsplit']; exact h')
      by_cases hjl : j = ops.size - 1
      · -- the last one
        have hpre0 : rem ops listed (List.range j) = [] := by
          refine List.eq_nil_iff_forall_not_mem.2 fun o ho => ?_
          obtain ⟨k, hk, hlk, hok⟩ := mem_rem ho
          have hk := List.mem_range.1 hk
          have := path (ops.size - 1) k (hlast k (by omega)) (by omega) (fun o ho e he hb => by rw [← hjl, hoj] at ho; cases ho; exact hdeps e he hb)
          rw [hlk] at this
          cases this
        have hpost0 : rem ops listed (List.range' (j + 1) (ops.size - j - 1)) = [] := by
          rw [show ops.size - j - 1 = 0 by omega]; rfl
        rw [hsplit, hpre0, hpost0] at h
        rw [hpre0, hpost0] at hsplit'
        have hrd : Region.ready md ops (listed.setIfInBounds j true) = [] := by
          refine List.eq_nil_iff_forall_not_mem.2 fun k hk => ?_
          obtain ⟨hl', o, ho, _⟩ := mem_ready.1 hk
          have : o ∈ rem ops (listed.setIfInBounds j true) (List.range ops.size) := List.mem_filterMap.2 ⟨k, List.mem_filter.2 ⟨List.mem_range.2 (Array.getElem?_eq_some_iff.1 ho).1, by simp [hl']⟩, ho⟩
          rw [hsplit'] at this
          cases this
        rcases h with ⟨v, hy, hr⟩ | ⟨_, hw, hr⟩
        · exact hy.wpOp hoj hS (wpAny_done hrd hr)
        · unfold wpOp
          simp only [hoj, hw, if_true]
          exact .inl (wp_mono (fun a' w' h' => wpAny_done hrd h'.2) (fun _ _ _ h => h.elim) (fun h => absurd h letsOut_no) hr)
      · have hne : rem ops listed (List.range' (j + 1) (ops.size - j - 1)) ≠ [] := by
          intro h0
          obtain ⟨ol, hol⟩ : ∃ o, ops[ops.size - 1]? = some o := ⟨_, Array.getElem?_eq_getElem (by omega)⟩
          have hnl : listed.getD (ops.size - 1) true = false := by
            cases hx : listed.getD (ops.size - 1) true with
            | false => rfl
            | true =>
              have := path (ops.size - 1) j (hlast j (by omega)) hjn (fun o ho e he hb => hcl _ o ho hx e he hb)
              rw [hl] at this
              cases this
          have : ol ∈ rem ops listed (List.range' (j + 1) (ops.size - j - 1)) := List.mem_filterMap.2 ⟨ops.size - 1, List.mem_filter.2 ⟨by rw [List.mem_range'_1]; omega, by simp [hnl]⟩, hol⟩
          rw [h0] at this
          cases this
        have hp := pullE (P := P) (Q := Q) (S := S) (hns j oj · · hoj) (rem ops listed (List.range' (j + 1) (ops.size - j - 1))) hne (rem ops listed (List.range j)) a w (fun i hi => by
          obtain ⟨k, hk, hlk, hok⟩ := mem_rem hi
          have hk := List.mem_range.1 hk
          rcases (hall j oj hoj).2 k i hk hok with hwt | ⟨h1, h2⟩
          · exfalso
            have := path j k hwt (by omega) (fun o ho e he hb => by rw [hoj] at ho; cases ho; exact hdeps e he hb)
            rw [hlk] at this
            cases this
          · exact ⟨h1, h2, fun cs b => hns k i cs b hok⟩) hS (by rw [← hsplit]; exact h)
        rcases hp with ⟨v, hy, hr⟩ | ⟨_, hw, hr⟩
        · exact hy.wpOp hoj hS (next _ _ hS hr)
        · unfold wpOp
          simp only [hoj, hw, if_true]
          exact .inl (wp_mono (fun a' w' h' => next a' w' h'.1 h'.2) (fun _ _ _ h => h.elim) (fun h => absurd h letsOut_no) hr)

/-- THE LAW. -/
theorem wp_region_last {id : Nat} {l : List Oper} {a : Act} {w : World} (S : World → Prop) (hm : P.follows .mixedOrders = true) (hc : inText .any l = true) (hl : lastWaits .any l = true) (hS : S w.drew)
    (h : SeqE P l.toArray S Q l a w.drew) : (Code.region id l.toArray true).wp P Q a w :=
  wp_region_any hm (wpAny_of_last rfl hc hl _ _ a _ (by simp) (fun k o ho hl => by
    have hk : k < l.length := by simpa using (Array.getElem?_eq_some_iff.1 ho).1
    simp [hk] at hl) (by simp [rem_none]) hS (by
    have := rem_none l
    simpa [this] using h))

theorem SeqE.nil {a : Act} {w : World} (h : Q .normal a w) : SeqE P ops S Q [] a w := h
theorem SeqE.skip {o : Oper} {rest : List Oper} {a : Act} {w : World} (hw : Region.wanted o (yielded ops a.tmps) = false) (h : SeqE P ops S Q rest (a.put o.dst undef) w) : SeqE P ops S Q (o :: rest) a w :=
  .inl ⟨undef, .inr ⟨hw, rfl⟩, h⟩
theorem SeqE.det {o : Oper} {rest : List Oper} {a : Act} {w : World} (v : Value) (hw : Region.wanted o (yielded ops a.tmps) = true) (hv : ∀ w, S w → (execOp a.eval o).run P w = .ok (.value v) w) (h : SeqE P ops S Q rest (a.put o.dst v) w) :
    SeqE P ops S Q (o :: rest) a w := .inl ⟨v, .inl ⟨hw, hv⟩, h⟩
theorem SeqE.make {o : Oper} {rest : List Oper} {a : Act} {w : World} (hm : making o = true) (hw : Region.wanted o (yielded ops a.tmps) = true)
    (h : ∀ (K : Act → World → Prop) (Q' : Exit → Act → World → Prop), Shut (∀ a w, S w → SeqE P ops S Q rest a w → K a w) → o.wp P a w K Q') : SeqE P ops S Q (o :: rest) a w :=
  .inr ⟨hm, hw, h _ _ (fun a w h1 h2 => ⟨.inl h1, h2⟩)⟩
/-- The last one. -/
theorem SeqE.last {o : Oper} {a : Act} {w : World} (hm : making o = true) (hw : Region.wanted o (yielded ops a.tmps) = true)
    (h : ∀ (K : Act → World → Prop) (Q' : Exit → Act → World → Prop), Shut (∀ a w, Q .normal a w → K a w) → o.wp P a w K Q') : SeqE P ops S Q [o] a w :=
  .inr ⟨hm, hw, h _ _ (fun a w h2 => ⟨.inr rfl, h2⟩)⟩
end
end Go.Proofs.Ytgiemddiiognlaa.Seq
