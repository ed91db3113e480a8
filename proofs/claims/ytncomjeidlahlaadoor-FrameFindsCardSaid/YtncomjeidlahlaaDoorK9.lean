/- K9: SeqQ FrmS FrmT SeqF FrmN FrmU FrmV FrmW -/
import Derived.Test.YtncomjeidlahlaaDoorK1
import Derived.Test.YtncomjeidlahlaaDoorK8
import Derived.Deep.Cut
import Derived.Deep.CutRange
/- The order of the text, where one call that changes nothing (its value V goes to temporary q) may come at any time: a law of my own. -/
/- Frames that are looked for: the sums from the front on (search.ahead, search.between). -/
/- Frames that are looked for: the sum of a piece (search.between), a frame at a position (search.frame). -/
/- The order of the text, where one operation d that makes something (it waits for nothing) may come at any time: a law of my own. -/
/- Frames that are looked for: lists. -/
/- Frames that are looked for: a frame at a position (search.frame). -/
/- Frames that are looked for: the next one (search.next). -/
/- Frames that are looked for: Next. -/
namespace Go.Proofs.YtncomjeidlahlaaDoor.SeqQ
open Go.Proofs.YtncomjeidlahlaaDoor.Seq
set_option linter.unusedVariables false

section
variable {P : Program} {ops : Array Oper} {Q : Exit → Act → World → Prop} {S : World → Prop} {q : Tmp} {V : Value}

def mk (q : Tmp) (o : Oper) : Bool := making o && !(o.dst == some q)
/-- It yields v, by looking or by the call that changes nothing. -/
def YQ (P : Program) (ops : Array Oper) (S : World → Prop) (q : Tmp) (V : Value) (o : Oper) (v : Value) (a : Act) : Prop :=
  YieldsIf P ops S o v a ∨ (o.dst = some q ∧ v = V ∧ Region.wanted o (yielded ops a.tmps) = true ∧ ∀ w, S w → ∃ f args, (execOp a.eval o).run P w = .ok (.enter f args) w ∧ Calls P f args w fun e w' => e = .returned V ∧ w' = w)
/-- The order of the text. -/
def Seq (P : Program) (ops : Array Oper) (S : World → Prop) (q : Tmp) (V : Value) (Q : Exit → Act → World → Prop) : List Oper → Act → World → Prop
  | [], a, w => Q .normal a w
  | o :: rest, a, w =>
    (∃ v, YQ P ops S q V o v a ∧ Seq P ops S q V Q rest (a.put o.dst v) w) ∨
    (mk q o = true ∧ Region.wanted o (yielded ops a.tmps) = true ∧ o.wp P a w (fun a' w' => S w' ∧ Seq P ops S q V Q rest a' w') NoExit)

theorem yields_of_put {o : Oper} (hs : ∀ cs b, o.op ≠ .select cs b) {d : Option Tmp} {u v : Value} (h : ∀ t, d = some t → t ∉ o.looksAt ops) {a : Act} :
    YQ P ops S q V o v (a.put d u) ↔ YQ P ops S q V o v a := by
  unfold YQ
  rw [Seq.yields_of_put hs h, execOp_put o hs a d u h, wanted_put o a d u h]
theorem yields_of_defers {o : Oper} {v : Value} {a : Act} {x : Deferred} : YQ P ops S q V o v ({ a with defers := x :: a.defers } : Act) ↔ YQ P ops S q V o v a := Iff.rfl
theorem yields_of_after {o i : Oper} (hs : ∀ cs b, o.op ≠ .select cs b) {v : Value} (h : ∀ t, i.dst = some t → t ∉ o.looksAt ops) {a a' : Act}
    (ha : ∃ u, a' = a.put i.dst u ∨ ∃ x, a' = ({ a with defers := x :: a.defers } : Act).put i.dst u) : YQ P ops S q V o v a' ↔ YQ P ops S q V o v a := by
  obtain ⟨u, rfl | ⟨x, rfl⟩⟩ := ha
  · exact yields_of_put hs h
  · exact (yields_of_put hs h).trans yields_of_defers
theorem yields_one {o : Oper} {v v' : Value} {a : Act} {w : World} (hS : S w) (h : YQ P ops S q V o v a) (h' : YQ P ops S q V o v' a) : v = v' := by
  rcases h with h | ⟨_, rfl, hw, h⟩ <;> rcases h' with h' | ⟨_, rfl, hw', h'⟩
  · exact Seq.yields_one hS h h'
  · rcases h with ⟨_, hv⟩ | ⟨hn, _⟩
    · obtain ⟨f, args, he, _⟩ := h' w hS
      have := (hv w hS).symm.trans he
      injection this with this
      cases this
    · rw [hn] at hw'; cases hw'
  · rcases h' with ⟨_, hv⟩ | ⟨hn, _⟩
    · obtain ⟨f, args, he, _⟩ := h w hS
      have := (hv w hS).symm.trans he
      injection this with this
      cases this
    · rw [hn] at hw; cases hw
  · rfl
theorem YQ.wpOp {i : Nat} {o : Oper} {v : Value} {a : Act} (hi : ops[i]? = some o) (hy : YQ P ops S q V o v a)
    {K : Act → World → Prop} {w : World} (hS : S w) (h : K (a.put o.dst v) w) : wpOp P ops Q i K a w := by
  rcases hy with hy | ⟨_, rfl, hw, hv⟩
  · exact YieldsIf.wpOp hi hy hS h
  · obtain ⟨f, args, he, hc⟩ := hv w hS
    unfold Go.wpOp
    simp only [hi, hw, if_true, Oper.wp, he, Oper.upon]
    refine .inl (Calls.mono hc ?_)
    rintro e w' ⟨rfl, rfl⟩
    exact h

/-- Operation j, apart from all ahead of it, may come now. -/
def Pulled (P : Program) (ops : Array Oper) (S : World → Prop) (q : Tmp) (V : Value) (Q : Exit → Act → World → Prop) (j : Oper) (rest : List Oper) (a : Act) (w : World) : Prop :=
  (∃ v, YQ P ops S q V j v a ∧ Seq P ops S q V Q rest (a.put j.dst v) w) ∨
  (mk q j = true ∧ Region.wanted j (yielded ops a.tmps) = true ∧ j.wp P a w (fun a' w' => S w' ∧ Seq P ops S q V Q rest a' w') NoExit)

theorem pull {j : Oper} (hsj : ∀ cs b, j.op ≠ .select cs b) (post : List Oper) : ∀ (pre : List Oper) (a : Act) (w : World), (∀ i ∈ pre, i.apart ops j = true ∧ (mk q i && mk q j) = false ∧ ∀ cs b, i.op ≠ .select cs b) → S w →
    Seq P ops S q V Q (pre ++ j :: post) a w → Pulled P ops S q V Q j (pre ++ post) a w
  | [], a, w, _, hS, h => h
  | i :: pre, a, w, hpre, hS, h => by
    obtain ⟨hap, hmk, hsi⟩ := hpre i (List.mem_cons_self ..)
    obtain ⟨h1, h2, h3⟩ := Oper.apart_spec hap
    have h2' : ∀ d, j.dst = some d → i.dst ≠ some d := fun d hd he => h2 d he hd
    have ih := pull hsj post pre
    have hpre' : ∀ i ∈ pre, i.apart ops j = true ∧ (mk q i && mk q j) = false ∧ ∀ cs b, i.op ≠ .select cs b := fun k hk => hpre k (List.mem_cons_of_mem _ hk)
    rcases h with ⟨v, hy, h⟩ | ⟨hm, hw, h⟩
    · rcases ih (a.put i.dst v) w hpre' hS h with ⟨u, hyj, hr⟩ | ⟨hmj, hwj, hr⟩
      · refine .inl ⟨u, (yields_of_put hsj h1).1 hyj, .inl ⟨v, (yields_of_put hsi h3).2 hy, ?_⟩⟩
        rw [← Act.put_comm a v u h2]
        exact hr
      · refine .inr ⟨hmj, by rw [← wanted_put j a i.dst v h1]; exact hwj, ?_⟩
        refine Seq.wp_mono (fun a' w' h' => ?_) (fun _ _ _ h => h) (fun h => h) (Seq.wp_put hsj h1 h2 hr)
        exact ⟨h'.1.1, .inl ⟨v, (yields_of_after hsi h3 h'.2).2 hy, h'.1.2⟩⟩
    · have hmj : mk q j = false := by simpa [hm] using hmk
      have key : i.wp P a w (fun a' w' => S w' ∧ ∃ v, YQ P ops S q V j v a' ∧ Seq P ops S q V Q (pre ++ post) (a'.put j.dst v) w') NoExit :=
        Seq.wp_mono (fun a' w' h' => ⟨h'.1, by
          rcases ih a' w' hpre' h'.1 h'.2 with hh | ⟨hmj', _⟩
          · exact hh
          · rw [hmj] at hmj'; cases hmj'⟩) (fun _ _ _ h => h) (fun h => h) h
      obtain ⟨a1, w1, ⟨_, v, hyv, _⟩, ha1⟩ := wp_some key
      have hyv' : YQ P ops S q V j v a := (yields_of_after hsj h1 ha1).1 hyv
      refine .inl ⟨v, hyv', .inr ⟨hm, by rw [wanted_put i a j.dst v h3]; exact hw, ?_⟩⟩
      refine Seq.wp_unput hsi h3 h2' (Seq.wp_mono (fun a' w' h' ha' => ?_) (fun _ _ _ h => h) (fun h => h) key)
      obtain ⟨hS', v', hy', hr'⟩ := h'
      obtain rfl := yields_one hS hyv' ((yields_of_after hsj h1 ha').1 hy')
      exact ⟨hS', hr'⟩

/-- The check of the text: of two operations the later one waits for the earlier one, or they are apart and not both make something. -/
def inText (q : Tmp) (md : Region.Mode) (l : List Oper) : Bool :=
  Region.noSelect l.toArray && go q md l.toArray (masks md l []) l 0
where
  go (q : Tmp) (md : Region.Mode) (ops : Array Oper) (M : List Nat) : List Oper → Nat → Bool
    | [], _ => true
    | oj :: rest, j => oj.after.toList.all (fun e => !Region.binds md e || Nat.blt e.on j) && goo q ops oj ((M.getD j 0)) ops.toList 0 j && go q md ops M rest (j + 1)
  goo (q : Tmp) (ops : Array Oper) (oj : Oper) (m : Nat) : List Oper → Nat → Nat → Bool
    | [], _, _ => true
    | oi :: rest, i, j => Nat.ble j i || ((Nat.testBit m i || (oi.apart ops oj && !(mk q oi && mk q oj))) && goo q ops oj m rest (i + 1) j)

theorem goo_spec {oj : Oper} {m j : Nat} : ∀ (l : List Oper) (k : Nat), inText.goo q ops oj m l k j = true → ∀ i oi, l[i]? = some oi → k + i < j → m.testBit (k + i) = true ∨ (oi.apart ops oj = true ∧ (mk q oi && mk q oj) = false)
  | [], _, _, i, oi, h, _ => by simp at h
  | o :: l, k, h, i, oi, hi, hlt => by
    unfold inText.goo at h
    rw [Bool.or_eq_true, Bool.and_eq_true] at h
    rcases h with h | ⟨h1, h2⟩
    · have := Nat.le_of_ble_eq_true h; omega
    · cases i with
      | zero =>
        simp only [List.getElem?_cons_zero, Option.some.injEq] at hi
        subst hi
        rw [Bool.or_eq_true] at h1
        rcases h1 with h1 | h1
        · exact .inl h1
        · simp only [Bool.and_eq_true, Bool.not_eq_true'] at h1
          exact .inr h1
      | succ i =>
        have := goo_spec l (k + 1) h2 i oi (by simpa using hi) (by omega)
        rw [show k + (i + 1) = k + 1 + i by omega]
        exact this
theorem go_spec {md : Region.Mode} {M : List Nat} : ∀ (l : List Oper) (k : Nat), inText.go q md ops M l k = true → ∀ j oj, l[j]? = some oj →
    (∀ e ∈ oj.after, Region.binds md e = true → e.on < k + j) ∧ ∀ i oi, i < k + j → ops[i]? = some oi → (M.getD (k + j) 0).testBit i = true ∨ (oi.apart ops oj = true ∧ (mk q oi && mk q oj) = false)
  | [], _, _, j, oj, h => by simp at h
  | o :: l, k, h, j, oj, hj => by
    unfold inText.go at h
    simp only [Bool.and_eq_true] at h
    obtain ⟨⟨h1, h2⟩, h3⟩ := h
    cases j with
    | zero =>
      simp only [List.getElem?_cons_zero, Option.some.injEq] at hj
      subst hj
      refine ⟨fun e he hb => ?_, fun i oi hi hoi => ?_⟩
      · have := List.all_eq_true.1 h1 e (by simpa using he)
        simp only [hb, Bool.not_true, Bool.false_or] at this
        rw [Nat.blt_eq] at this
        omega
      · have := goo_spec ops.toList 0 h2 i oi (by simpa using hoi) (by omega)
        simpa using this
    | succ j =>
      have := go_spec l (k + 1) h3 j oj (by simpa using hj)
      rw [show k + (j + 1) = k + 1 + j by omega]
      exact this

theorem wpAny_of_seq {md : Region.Mode} {l : List Oper} (hops : ops = l.toArray) (hc : inText q md l = true) : ∀ (fuel : Nat) (listed : Array Bool) (a : Act) (w : World), listed.size = ops.size →
    (∀ k o, ops[k]? = some o → listed.getD k true = true → ∀ e ∈ o.after, Region.binds md e = true → listed.getD e.on false = true) → (rem ops listed (List.range ops.size)).length ≤ fuel → S w →
    Seq P ops S q V Q (rem ops listed (List.range ops.size)) a w → wpAny P md ops Q fuel listed a w := by
  have hns := Region.noSelect_spec (ops := ops) (by rw [hops]; simp only [inText, Bool.and_eq_true] at hc; exact hc.1)
  have hall : ∀ j oj, ops[j]? = some oj → (∀ e ∈ oj.after, Region.binds md e = true → e.on < j) ∧ ∀ i oi, i < j → ops[i]? = some oi → Waits md ops j i ∨ (oi.apart ops oj = true ∧ (mk q oi && mk q oj) = false) := by
    intro j oj hj
    subst hops
    simp only [inText, Bool.and_eq_true] at hc
    have := go_spec l 0 hc.2 j oj (by simpa using hj)
    rw [Nat.zero_add] at this
    exact ⟨this.1, fun i oi hi hoi => (this.2 i oi hi hoi).imp_left fun h => masks_spec l [] (fun j o h => by simpa using h) (fun j i h => by simp at h) j i h⟩
  intro fuel
  have hnone : ∀ (listed : Array Bool) (a : Act) (w : World), rem ops listed (List.range ops.size) = [] → Seq P ops S q V Q (rem ops listed (List.range ops.size)) a w → Region.ready md ops listed = [] ∧ Q .normal a w := by
    intro listed a w h0 h
    refine ⟨List.eq_nil_iff_forall_not_mem.2 fun j hj => ?_, by rw [h0] at h; exact h⟩
    obtain ⟨hl, o, ho, _⟩ := mem_ready.1 hj
    have : o ∈ rem ops listed (List.range ops.size) := List.mem_filterMap.2 ⟨j, List.mem_filter.2 ⟨List.mem_range.2 (Array.getElem?_eq_some_iff.1 ho).1, by simp [hl]⟩, ho⟩
    rw [h0] at this
    cases this
  induction fuel with
  | zero =>
    intro listed a w _ _ hle hS h
    exact hnone listed a w (List.eq_nil_of_length_eq_zero (by omega)) h
  | succ fuel ih =>
    intro listed a w hsz hcl hle hS h
    refine ⟨fun hr => ?_, fun j hj => ?_⟩
    · -- nothing may come up: nothing is left
      suffices h0 : rem ops listed (List.range ops.size) = [] from (hnone listed a w h0 h).2
      refine List.eq_nil_iff_forall_not_mem.2 fun o ho => ?_
      obtain ⟨i, hi, hl, hoi⟩ := mem_rem ho
      -- the least one that is left may come up
      have : ∀ k, (∀ i < k, listed.getD i true = true ∨ ops[i]? = none) := by
        intro k
        induction k with
        | zero => intro i hi; omega
        | succ k ihk =>
          intro i hi
          rcases Nat.lt_or_ge i k with h' | h'
          · exact ihk i h'
          · obtain rfl : i = k := by omega
            cases hoi : ops[i]? with
            | none => exact .inr rfl
            | some oi =>
              refine .inl ?_
              by_cases hli : listed.getD i true = true
              · exact hli
              · exfalso
                have hmem : i ∈ Region.ready md ops listed := mem_ready.2 ⟨by simpa using hli, oi, hoi, fun e he hb => by
                  have hlt := (hall i oi hoi).1 e he hb
                  have hsome : e.on < listed.size := by rw [hsz]; have := (Array.getElem?_eq_some_iff.1 hoi).1; omega
                  rcases ihk e.on hlt with h1 | h1
                  · simpa [hsome] using h1
                  · have := (Array.getElem?_eq_none_iff.1 h1); omega⟩
                rw [hr] at hmem
                cases hmem
      rcases this (i + 1) i (by omega) with h1 | h1
      · rw [hl] at h1; cases h1
      · rw [h1] at hoi; cases hoi
    · obtain ⟨hl, oj, hoj, hdeps⟩ := mem_ready.1 hj
      have hjn : j < ops.size := (Array.getElem?_eq_some_iff.1 hoj).1
      have hsplit : rem ops listed (List.range ops.size) = rem ops listed (List.range j) ++ oj :: rem ops listed (List.range' (j + 1) (ops.size - j - 1)) := by
        rw [range_split hjn, rem_append]
        congr 1
        unfold rem
        rw [List.filter_cons]
        simp [hl, hoj]
      have hsplit' : rem ops (listed.setIfInBounds j true) (List.range ops.size) = rem ops listed (List.range j) ++ rem ops listed (List.range' (j + 1) (ops.size - j - 1)) := by
        rw [range_split hjn, rem_append, rem_set _ (by simp)]
        congr 1
        have e1 : rem ops (listed.setIfInBounds j true) (j :: List.range' (j + 1) (ops.size - j - 1)) = rem ops (listed.setIfInBounds j true) (List.range' (j + 1) (ops.size - j - 1)) := by
          unfold rem
          rw [List.filter_cons, if_neg]
          have : j < listed.size := by rw [hsz]; exact hjn
          simp [this]
        rw [e1, rem_set _ (by simp [List.mem_range'_1]; omega)]
      have hp := pull (P := P) (Q := Q) (S := S) (q := q) (V := V) (hns j oj · · hoj) (rem ops listed (List.range' (j + 1) (ops.size - j - 1))) (rem ops listed (List.range j)) a w (fun i hi => by
        obtain ⟨k, hk, hlk, hok⟩ := mem_rem hi
        have hk := List.mem_range.1 hk
        rcases (hall j oj hoj).2 k i hk hok with hwt | ⟨h1, h2⟩
        · exfalso
          have conv : ∀ m, m < ops.size → listed.getD m false = true → listed.getD m true = true := fun m hm h1 => by
            have hsome : m < listed.size := by rw [hsz]; exact hm
            simpa [hsome] using h1
          have path : ∀ x y, Waits md ops x y → y < ops.size → (∀ o, ops[x]? = some o → ∀ e ∈ o.after, Region.binds md e = true → listed.getD e.on false = true) → listed.getD y true = true := by
            intro x y hxy hy
            induction hxy with
            | one ho he hb => exact fun hd => conv _ hy (hd _ ho _ he hb)
            | more ho he hb hw ih =>
              intro hd
              refine ih hy fun o ho' e' he' hb' => ?_
              exact hcl _ o ho' (conv _ (Array.getElem?_eq_some_iff.1 ho').1 (hd _ ho _ he hb)) e' he' hb'
          have := path j k hwt (by omega) (fun o ho e he hb => by rw [hoj] at ho; cases ho; exact hdeps e he hb)
          rw [hlk] at this
          cases this
        · exact ⟨h1, h2, fun cs b => hns k i cs b hok⟩) hS (by rw [← hsplit]; exact h)
      have hle' : (rem ops (listed.setIfInBounds j true) (List.range ops.size)).length ≤ fuel := by
        rw [hsplit']
        rw [hsplit] at hle
        simp only [List.length_append, List.length_cons] at hle ⊢
        omega
      have next : ∀ a' w', S w' → Seq P ops S q V Q (rem ops listed (List.range j) ++ rem ops listed (List.range' (j + 1) (ops.size - j - 1))) a' w' → wpAny P md ops Q fuel (listed.setIfInBounds j true) a' w' :=
        fun a' w' hS' h' => ih _ a' w' (by simpa using hsz) (fun k o ho hl e he hb => by
          have mono : ∀ m, listed.getD m false = true → (listed.setIfInBounds j true).getD m false = true := fun m hm => by
            by_cases hmj : j = m
            · subst hmj
              have : j < listed.size := by rw [hsz]; exact hjn
              simp [this]
            · rw [getD_set_ne false hmj]; exact hm
          by_cases hkj : j = k
          · subst hkj
            rw [hoj] at ho
            cases ho
            exact mono _ (hdeps e he hb)
          · rw [getD_set_ne true hkj] at hl
            exact mono _ (hcl k o ho hl e he hb)) hle' hS' (by rw [hsplit']; exact h')
      rcases hp with ⟨v, hy, hr⟩ | ⟨_, hw, hr⟩
      · exact hy.wpOp hoj hS (next _ _ hS hr)
      · unfold wpOp
        simp only [hoj, hw, if_true]
        exact .inl (Seq.wp_mono (fun a' w' h' => next a' w' h'.1 h'.2) (fun _ _ _ h => h.elim) (fun h => absurd h letsOut_no) hr)

/-- THE LAW: a region that draws its order, gone through in the order of its text. -/
theorem wp_region_seq {id : Nat} {l : List Oper} {a : Act} {w : World} (S : World → Prop) (q : Tmp) (V : Value) (hm : P.follows .mixedOrders = true) (hc : inText q .any l = true) (hS : S w.drew)
    (h : Seq P l.toArray S q V Q l a w.drew) : (Code.region id l.toArray true).wp P Q a w :=
  wp_region_any hm (wpAny_of_seq rfl hc _ _ a _ (by simp) (fun k o ho hl => by
    have hk : k < l.length := by simpa using (Array.getElem?_eq_some_iff.1 ho).1
    simp [hk] at hl) (by simp [rem_none]) hS (by
    have := rem_none l
    simpa [this] using h))

/-! ### The steps -/
theorem Seq.nil {a : Act} {w : World} (h : Q .normal a w) : Seq P ops S q V Q [] a w := h
theorem Seq.skip {o : Oper} {rest : List Oper} {a : Act} {w : World} (hw : Region.wanted o (yielded ops a.tmps) = false) (h : Seq P ops S q V Q rest (a.put o.dst undef) w) : Seq P ops S q V Q (o :: rest) a w :=
  .inl ⟨undef, .inl (.inr ⟨hw, rfl⟩), h⟩
theorem Seq.det {o : Oper} {rest : List Oper} {a : Act} {w : World} (v : Value) (hw : Region.wanted o (yielded ops a.tmps) = true) (hv : ∀ w, S w → (execOp a.eval o).run P w = .ok (.value v) w) (h : Seq P ops S q V Q rest (a.put o.dst v) w) :
    Seq P ops S q V Q (o :: rest) a w := .inl ⟨v, .inl (.inl ⟨hw, hv⟩), h⟩
theorem Seq.make {o : Oper} {rest : List Oper} {a : Act} {w : World} (hm : mk q o = true) (hw : Region.wanted o (yielded ops a.tmps) = true)
    (h : ∀ (K : Act → World → Prop) (Q' : Exit → Act → World → Prop), Shut (∀ a w, S w → Seq P ops S q V Q rest a w → K a w) → o.wp P a w K Q') : Seq P ops S q V Q (o :: rest) a w :=
  .inr ⟨hm, hw, h _ _ (fun a w h1 h2 => ⟨h1, h2⟩)⟩
theorem Seq.calm {o : Oper} {rest : List Oper} {a : Act} {w : World} (hd : o.dst = some q) (hw : Region.wanted o (yielded ops a.tmps) = true)
    (hv : ∀ w, S w → ∃ f args, (execOp a.eval o).run P w = .ok (.enter f args) w ∧ Calls P f args w fun e w' => e = .returned V ∧ w' = w) (h : Seq P ops S q V Q rest (a.put o.dst V) w) :
    Seq P ops S q V Q (o :: rest) a w := .inl ⟨V, .inr ⟨hd, rfl, hw, hv⟩, h⟩
end
end Go.Proofs.YtncomjeidlahlaaDoor.SeqQ

namespace Go.Proofs.YtncomjeidlahlaaDoor.Cur
open Go.RowKit Mem CrcM
set_option linter.unusedVariables false
set_option maxRecDepth 100000


theorem kind32 : Kind 91 55 (.int .u32 0) 1 4 := ⟨Tryd.underlying91, by kernel_rfl, rfl, by decide⟩
def SrV (z : List Int) (k : Nat) : List Value := (List.range k).map fun i => Value.int .u32 ((sm (z.take i) : Nat) : Int)
theorem SrV_succ (z : List Int) (k : Nat) : SrV z (k + 1) = SrV z k ++ [Value.int .u32 ((sm (z.take k) : Nat) : Int)] := by
  unfold SrV; rw [List.range_succ, List.map_append]; rfl
theorem SrV_get (z : List Int) {k i : Nat} (h : i < k) : (SrV z k)[i]? = some (Value.int .u32 ((sm (z.take i) : Nat) : Int)) := by
  unfold SrV; simp [h]
/-- A search at block sb, of the call's own from block B on: the first k sums are known. -/
def Sr (w : World) (B sb : Nat) (r : Option Nat) (s : Value) (lim : Int) (z : List Int) (k : Nat) : Prop :=
  ∃ v, v.ownBlock = r ∧ Blk w sb #[s, .int .i64 lim, v] 93 ∧ w.ownsRow B 55 1 v k (SrV z k) ∧ B ≤ sb
theorem Sr.below {w w' : World} {B sb : Nat} {r : Option Nat} {s : Value} {lim : Int} {z : List Int} {k : Nat} (h : Sr w B sb r s lim z k) (hb : Below w.heap.size w w') : Sr w' B sb r s lim z k := by
  obtain ⟨v, h1, h2, h3, h4⟩ := h
  exact ⟨v, h1, h2.below hb, own_below h3 hb, h4⟩
theorem Sr.ge {w : World} {B sb : Nat} {r : Option Nat} {s : Value} {lim : Int} {z : List Int} {k : Nat} (h : Sr w B sb r s lim z k) : ∀ g, WS sb r g → B ≤ g := by
  obtain ⟨v, rfl, _, h3, h4⟩ := h
  rintro g (rfl | e)
  · exact h4
  · exact (World.ownsRow.lt h3 g e).1
theorem Sr.ks {w w' : World} {S : Nat → Prop} {B sb : Nat} {r : Option Nat} {s : Value} {lim : Int} {z : List Int} {k : Nat} (h : Sr w B sb r s lim z k) (hk : Ks S w w') (hS : ∀ i, S i → ¬ WS sb r i) : Sr w' B sb r s lim z k := by
  obtain ⟨v, rfl, h2, h3, h4⟩ := h
  exact ⟨v, rfl, h2.ks hk (fun e => hS _ e (.inl rfl)), own_ks h3 hk (fun g hg e => hS _ e (.inr hg)), h4⟩
def APost (B sb : Nat) (r : Option Nat) (s : Value) (lim : Int) (z : List Int) (n : Nat) (v : Value) (w : World) (e : Ending) (w' : World) : Prop :=
  ∃ r' k', e = .returned v ∧ Ks (WS sb r) w w' ∧ Gr r r' w ∧ Sr w' B sb r' s lim z k' ∧ k' ≤ n + 1

theorem fd_one (z : List Int) (k : Nat) (h : k < z.length) : fd (fd 4294967295 (z.take k)) [z.getD k 0] = fd 4294967295 (z.take (k + 1)) := by
  rw [← fd_append]
  congr 1
  rw [List.take_succ_eq_append_getElem h]
  simp [List.getD_eq_getElem?_getD, List.getElem?_eq_getElem h]
theorem sm_back (y : List Int) : 4294967295 ^^^ sm y = fd 4294967295 y := by unfold sm; exact xor_self_left _ _

theorem bs_cells {w : World} {A : Option Addr} {n : Nat} {z : List Int} (h : Bs w A n z) (hn : 0 < n) : ∃ g o, A = some ⟨g, o, none⟩ ∧ ∀ w', Below w.heap.size w w' → ∀ k, k < n → w'.cell? ⟨g, o + k, none⟩ = some (.int .u8 (z.getD k 0)) := by
  obtain ⟨g, o, e, hc⟩ := h.2 hn
  refine ⟨g, o, e, fun w' hb k hk => ?_⟩
  have h1 : z[k]? = some (z.getD k 0) := by
    rw [List.getD_eq_getElem?_getD, List.getElem?_eq_getElem (by rw [h.1]; exact hk)]; rfl
  have h2 := hc k _ h1
  exact (hb.cell (lt_of_cell h2)).trans h2
/-- One more sum is put behind those that are known. -/
theorem Sr.push {w wA w2 : World} {B sb : Nat} {s v v' : Value} {lim : Int} {z : List Int} {q : Nat} (h1 : Blk w sb #[s, .int .i64 lim, v] 93) (ho : w.ownsRow B 55 1 v q (SrV z q)) (hB : B ≤ sb)
    (hA : Below w.heap.size w wA) (ho' : w2.ownsRow B 55 1 v' (q + 1) (SrV z q ++ [Value.int .u32 ((sm (z.take q) : Nat) : Int)])) (hg : wA.grownBy w2 v.ownBlock) (hgr : Gr v.ownBlock v'.ownBlock wA) :
    Sr (w2.setCell ⟨sb, 2, none⟩ v') B sb v'.ownBlock s lim z (q + 1) ∧ Ks (WS sb v.ownBlock) w (w2.setCell ⟨sb, 2, none⟩ v') ∧ Gr v.ownBlock v'.ownBlock w := by
  have hne : v.ownBlock ≠ some sb := own_ne_blk ho h1 (by decide)
  have hbA := h1.below hA
  have hb2 : Blk w2 sb #[s, .int .i64 lim, v] 93 := (hg.block sb hbA.lt (fun e => hne e.symm)).trans hbA
  have hne' : v'.ownBlock ≠ some sb := own_ne_blk ho' hb2 (by decide)
  refine ⟨⟨v', rfl, hb2.set 2 _, ?_, hB⟩, ?_, ?_⟩
  · rw [SrV_succ]
    exact own_block ho' fun k hk => Below.heap_setCell w2 _ _ k (fun e => hne' (by rw [hk, e]))
  · exact (Ks.of_below hA).trans ((Ks.of_grown hg fun k hk => .inr hk).trans (Ks.setCell _ _ _ _ (.inl rfl)))
  · rcases hgr with e | ⟨g, e, hg'⟩
    · exact .inl e
    · exact .inr ⟨g, e, Nat.le_trans hA.size hg'⟩


set_option maxHeartbeats 4000000 in
theorem ahead_any {w0 w : World} {sb : Nat} {r : Option Nat} {A : Option Addr} {n m : Nat} {z : List Int} {lim : Int} {k : Nat} (i : Nat) (h : Sr w w0.heap.size sb r (.slice A n m) lim z k) (hbd : Below w0.heap.size w0 w)
    (hz : Bs w0 A n z) (hby : ∀ x ∈ z, 0 ≤ x ∧ x < 256) (hT : Tbs w0) (hi : i ≤ n) (hk : k ≤ n + 1) (hn : n ≤ 100000) :
    Calls Tryd.prog 83 #[.pointer (some ⟨sb, 0, none⟩), .int .i64 (i : Int)] w (APost w0.heap.size sb r (.slice A n m) lim z n (.int .u32 (sm (z.take i) : Nat)) w) := by
  have HBY := Lib.hid hby
  have HT := Lib.hid hT
  have HL := Lib.hid hz.1
  have HZ := Lib.hid hz
  have HBD := Lib.hid hbd
  have HH := Lib.hid h
  obtain ⟨v, hr, hb, ho, hB⟩ := h
  obtain ⟨c0, c1, c2⟩ := hb.c3
  obtain ⟨Av, cv0, rfl, _, _⟩ := own_slice ho
  clear hby hT hz hbd hr hb ho
  go_enter Tryd.func83, Tryd.ntmps83
  go_wp2
  clear c0 c1 c2
  go_loopw [5] (fun kv wr => ∃ (q : Nat) (r' : Option Nat), q ≤ n + 1 ∧ kv = .int .i64 q ∧ Ks (WS sb r) w wr ∧ Gr r r' w ∧ Sr wr w0.heap.size sb r' (.slice A n m) lim z q) (fun kv _ => i + 1 - (intOf kv).toNat)
  case atStart => exact ⟨k, r, hk, rfl, Ks.refl _ _, Gr.refl _ _, HH.out⟩
  case round =>
    obtain ⟨q, r', hq, rfl, hks, hgr, hsr⟩ := hrel
    have hge := HH.out.ge
    have hbdr : Below w0.heap.size w0 wr := hks.below HBD.out (Nat.le_refl _) hge
    clear hge
    by_cases hlt : q ≤ i
    · have hqi : (q : Int) ≤ i := by omega
      have HQ := Lib.hid hq
      go_wp2_with fail
      refine (csum_any none 0 0 [] _ (Bs.none _) (by omega) (by simp) (HT.out.below hbdr)).mono ?_
      rintro e w1 ⟨rfl, k1, rfl⟩
      have hsz : Below wr.heap.size wr (wr.drewN k1) := below_drewN (Below.refl _ _) k1
      have hs1 := hsr.below hsz
      have hwsk : Ks (WS sb r) w (wr.drewN k1) := hks.trans (Ks.of_below hsz)
      have hbdr : Below w0.heap.size w0 (wr.drewN k1) := hbdr.trans (hsz.mono hbdr.size)
      have hwsg := hgr
      clear hsr hgr hks hsz
      generalize wr.drewN k1 = ws at *
      obtain ⟨y, hy⟩ : ∃ y, y = sm [] := ⟨_, rfl⟩
      rw [← hy]
      by_cases h0 : q = 0
      · subst h0
        have HY : Hid (y = sm (z.take 0)) := Lib.hid hy
        clear hy
        obtain ⟨v1, hv1, hb1, ho1, _⟩ := hs1
        obtain ⟨A1, cap1, rfl, _⟩ := own_slice ho1
        have HV := Lib.hid hv1
        obtain ⟨c0, c1, c2⟩ := hb1.c3
        have hA := below_one ws (.cells #[.int .u32 (y : Int)] 55)
        have hoA := own_below ho1 hA
        have hrwA := rw_new ws [Value.int .u32 (y : Int)] 55
        have hB9 : w0.heap.size ≤ (ws.alloc (.cells #[.int .u32 (y : Int)] 55)).heap.size := Nat.le_trans hB (Nat.le_trans (Nat.le_of_lt hb1.lt) hA.size)
        have HLEN : Hid (0 + 1 ≤ 1000000) := Lib.hid (by omega)
        have HB1 := Lib.hid hb1
        have HO1 := Lib.hid ho1
        have HA1 := Lib.hid hA
        clear hb1 ho1 hA hv1 c0 c1
        go_wp2_with (at_builtin; go_must (refine list_append_rw kind32 rfl (.tmp 44) (.tmp 46) rfl w0.heap.size _ _ _ rfl hoA _ 1 _ [Value.int .u32 (y : Int)] rfl rfl hrwA (by simp) (by simp [Value.oneCell']) HLEN.out (by omega) hB9 ?_; intro v' w10 ho' hg' hgr'; obtain ⟨A2, cap2, hv2, _, _⟩ := own_slice ho'; subst hv2; have hne : (Value.slice A1 0 cap1).ownBlock ≠ some sb := own_ne_blk HO1.out HB1.out (by decide); have hb10 : Blk w10 sb #[_, .int .i64 lim, .slice A1 0 cap1] 93 := (hg'.block sb (HB1.out.below HA1.out).lt (fun e => hne e.symm)).trans (HB1.out.below HA1.out); have c2' := hb10.c3.2.2; have f2' := hb10.free 2; rw [HY.out] at ho'; obtain ⟨hp1, hp2, hp3⟩ := Sr.push HB1.out HO1.out hB HA1.out ho' hg' hgr'; have HP1 := Lib.hid hp1; have HP2 := Lib.hid hp2; have HP3 := Lib.hid hp3; clear c2 hp1 hp2 hp3 hb10 hne ho' hoA hrwA hB9))
        go_roundw
        case rel => exact ⟨0 + 1, _, Nat.succ_le_succ (Nat.le_trans hlt hi), by first | rfl | go_num, Ks.wr hwsk hwsg (HV.out ▸ HP2.out), hwsg.trans (HV.out ▸ HP3.out) hwsk.size, HP1.out⟩
        case measure => simp [intOf] <;> omega
      · obtain ⟨j, rfl⟩ : ∃ j, q = j + 1 := ⟨q - 1, by omega⟩
        have hjn : j < n := by omega
        have HS1 := Lib.hid hs1
        obtain ⟨g2, o2, rfl, hc2⟩ := bs_cells HZ.out (by omega)
        obtain ⟨v1, hv1, hb1, ho1, _⟩ := hs1
        obtain ⟨A1, cap1, rfl, _⟩ := own_slice ho1
        obtain ⟨_, _, _, hrw⟩ := own_rw ho1 rfl
        obtain ⟨g1, o1, rfl, hc1⟩ := hrw (by simp [SrV])
        have s1 := hc1 j _ (SrV_get z (Nat.lt_succ_self j))
        have hbt : ∀ x ∈ z.take j, 0 ≤ x ∧ x < 256 := fun x hx => HBY.out x (List.mem_of_mem_take hx)
        have hxb := HBY.out _ (getD_mem (z := z) (k := j) (by rw [HL.out]; exact hjn))
        have hone := fd_one z j (by rw [HL.out]; exact hjn)
        have hback := sm_back (z.take j)
        have halt := sm_lt hbt
        have hFlt := fd_lt (s := 4294967295) (by decide) hbt
        have HYE := Lib.hid (show sm (z.take (j + 1)) = 4294967295 ^^^ fd 4294967295 (z.take (j + 1)) from rfl)
        rw [← hone] at HYE
        have hx := hc2
        generalize hX : z.getD j 0 = x at *
        generalize hA' : sm (z.take j) = a at *
        generalize hF : fd 4294967295 (z.take j) = F at *
        have hxm : ∀ u ∈ [x], 0 ≤ u ∧ u < 256 := by intro u hu; simp at hu; subst hu; exact hxb
        have hGlt := fd_lt hFlt hxm
        generalize hG : fd F [x] = G at *
        have hend1 : ∀ w, Calls Tryd.prog 57 #[.int .u32 (a : Int)] w fun e w' => e = .returned (.int .u32 (F : Int)) ∧ w = w' := fun w => by
          have := cend_any a w halt
          rw [hback] at this
          exact this
        have hadd1 : ∀ (w : World) (A : Option Addr) (m : Nat), Bs w A 1 [x] → Tbs w → Calls Tryd.prog 58 #[.int .u32 (F : Int), .slice A 1 m] w fun e w' => e = .returned (.int .u32 (G : Int)) ∧ ∃ k, w' = w.drewN k := fun w A m hb ht => by
          have := cadd_any F A 1 m [x] w hFlt hb (by omega) hxm ht
          rw [hG] at this
          exact this
        obtain ⟨y2, hy2⟩ : ∃ y2 : Nat, y2 = 4294967295 ^^^ G := ⟨_, rfl⟩
        have hend2 : ∀ w, Calls Tryd.prog 57 #[.int .u32 (G : Int)] w fun e w' => e = .returned (.int .u32 (y2 : Int)) ∧ w = w' := fun w => by
          rw [hy2]
          exact cend_any G w hGlt
        have HY : Hid (y2 = sm (z.take (j + 1))) := Lib.hid (by rw [HYE.out, hy2])
        have C0 : ∀ w', Below ws.heap.size ws w' → w'.cell? ⟨sb, 0, none⟩ = some (.slice (some ⟨g2, o2, none⟩) n m) := fun w' h => (hb1.below h).c3.1
        have C2 : ∀ w', Below ws.heap.size ws w' → w'.cell? ⟨sb, 2, none⟩ = some (.slice (some ⟨g1, o1, none⟩) (j + 1) cap1) := fun w' h => (hb1.below h).c3.2.2
        have S1 : ∀ w', Below ws.heap.size ws w' → w'.cell? ⟨g1, o1 + j, none⟩ = some (.int .u32 (a : Int)) := fun w' h => (h.cell (lt_of_cell s1)).trans s1
        have X1 : ∀ w', Below ws.heap.size ws w' → w'.cell? ⟨g2, o2 + j, none⟩ = some (.int .u8 x) := fun w' h => by
          have := hc2 w' (hbdr.trans (h.mono hbdr.size)) j hjn
          rw [hX] at this
          exact this
        have HE1 := Lib.hid hend1
        have HE2 := Lib.hid hend2
        have HA2 := Lib.hid hadd1
        have HTS : Hid (∀ w', Below ws.heap.size ws w' → Tbs w') := Lib.hid fun w' h => HT.out.below (hbdr.trans (h.mono hbdr.size))
        clear hv1 hb1 ho1 hrw hc1 s1 hc2 hx hX hA' hF hG hbt hone hback halt hFlt HYE hxm hGlt hend1 hend2 hadd1 hy2 hy hxb
        have e1 : ((j + 1 : Nat) : Int) = (j : Int) + 1 := by omega
        rw [e1]
        clear e1 h0
        have e0 : (0 : Int) < (j : Int) + 1 := by omega
        have e2 : (j : Int) < n := by omega
        have e5 : (j : Int) < (j : Int) + 1 := by omega
        have e3 : (0 : Int) ≤ j := by omega
        have e4 : IntKind.i64.wrap ((j : Int) + 1 - 1) = (j : Int) := by rw [show (j : Int) + 1 - 1 = j by omega]; exact IntWalk.i64_in _ (by omega)
        have e10 : IntKind.i64.wrap (j : Int) = (j : Int) := IntWalk.i64_in _ (by omega)
        go_wp2
        have hS : Below ws.heap.size ws ws.drew := below_one' ws
        refine SeqQ.wp_region_seq (fun w' => Below ws.heap.size ws w') 28 (.int .u32 (F : Int)) (by kernel_rfl) (by kernel_rfl) hS ?_
        generalize ws.drew = wd at *
        repeat (first | (refine SeqQ.Seq.skip (by rfl) ?_; (try simp only [Act.put, List.setIfInBounds_toArray, List.set_cons_zero, List.set_cons_succ])) | (refine SeqQ.Seq.det ?_ (by rfl) (fun w hS => ?_) ?_; rotate_left; ((try dsimp only at hS); go_simp; (try rw [if_pos (by omega)]); with_reducible rfl); (try simp only [Act.put, List.setIfInBounds_toArray, List.set_cons_zero, List.set_cons_succ])))
        refine SeqQ.Seq.calm rfl (by rfl) (fun w' hS => ⟨57, #[.int .u32 (a : Int)], by (first | (simp [execOp, resolve, invoke]; done) | (simp [execOp, resolve, invoke]; rfl) | (go_simp; done) | (go_simp; rfl) | (simp [execOp, resolve, invoke]; trace_state; done)), (HE1.out w').mono (by rintro e w1 ⟨rfl, rfl⟩; exact ⟨rfl, rfl⟩)⟩) ?_
        try simp only [Act.put, List.setIfInBounds_toArray, List.set_cons_zero, List.set_cons_succ]
        repeat (first | (refine SeqQ.Seq.skip (by rfl) ?_; (try simp only [Act.put, List.setIfInBounds_toArray, List.set_cons_zero, List.set_cons_succ])) | (refine SeqQ.Seq.det ?_ (by rfl) (fun w hS => ?_) ?_; rotate_left; ((try dsimp only at hS); go_simp; (try rw [if_pos (by omega)]); with_reducible rfl); (try simp only [Act.put, List.setIfInBounds_toArray, List.set_cons_zero, List.set_cons_succ])))
        refine SeqQ.Seq.make (by rfl) (by rfl) (fun K Q' hK => ?_)
        go_simp
        have hA := below_one wd (.cells #[.int .u8 x] 5)
        have hS2 := hS.trans (hA.mono hS.size)
        have hbs3 : Bs (wd.alloc (.cells #[.int .u8 x] 5)) (some ⟨wd.heap.size, 0, none⟩) 1 [x] := Bs.of_block (z := [x]) (heap_alloc_new _ _)
        refine hK.out _ _ (hS2) ?_
        clear hK K
        try simp only [Act.put, List.setIfInBounds_toArray, List.set_cons_zero, List.set_cons_succ]
        clear hA
        have hT2 := HTS.out _ hS2
        generalize wd.alloc (.cells #[.int .u8 x] 5) = we at *
        clear hS
        have hS := hS2
        clear hS2
        repeat (first | (refine SeqQ.Seq.skip (by rfl) ?_; (try simp only [Act.put, List.setIfInBounds_toArray, List.set_cons_zero, List.set_cons_succ])) | (refine SeqQ.Seq.det ?_ (by rfl) (fun w hS => ?_) ?_; rotate_left; ((try dsimp only at hS); go_simp; (try rw [if_pos (by omega)]); with_reducible rfl); (try simp only [Act.put, List.setIfInBounds_toArray, List.set_cons_zero, List.set_cons_succ])))
        refine SeqQ.Seq.make (by rfl) (by rfl) (fun K Q' hK => ?_)
        go_simp
        go_at_call 58
        with_reducible refine (HA2.out _ _ _ hbs3 hT2).mono ?_
        rintro e w1 ⟨rfl, k2, rfl⟩
        have hS3 := below_drewN hS k2
        refine hK.out _ _ (hS3) ?_
        clear hK K
        try simp only [Act.put, List.setIfInBounds_toArray, List.set_cons_zero, List.set_cons_succ]
        clear hS hbs3 hT2
        generalize we.drewN k2 = wf at *
        have hS := hS3
        clear hS3
        repeat (first | (refine SeqQ.Seq.skip (by rfl) ?_; (try simp only [Act.put, List.setIfInBounds_toArray, List.set_cons_zero, List.set_cons_succ])) | (refine SeqQ.Seq.det ?_ (by rfl) (fun w hS => ?_) ?_; rotate_left; ((try dsimp only at hS); go_simp; (try rw [if_pos (by omega)]); with_reducible rfl); (try simp only [Act.put, List.setIfInBounds_toArray, List.set_cons_zero, List.set_cons_succ])))
        refine SeqQ.Seq.make (by rfl) (by rfl) (fun K Q' hK => ?_)
        go_simp
        go_at_call 57
        with_reducible refine (HE2.out _).mono ?_
        rintro e w1 ⟨rfl, rfl⟩
        refine hK.out _ _ (hS) ?_
        clear hK K
        try simp only [Act.put, List.setIfInBounds_toArray, List.set_cons_zero, List.set_cons_succ]
        repeat (first | (refine SeqQ.Seq.skip (by rfl) ?_; (try simp only [Act.put, List.setIfInBounds_toArray, List.set_cons_zero, List.set_cons_succ])) | (refine SeqQ.Seq.det ?_ (by rfl) (fun w hS => ?_) ?_; rotate_left; ((try dsimp only at hS); go_simp; (try rw [if_pos (by omega)]); with_reducible rfl); (try simp only [Act.put, List.setIfInBounds_toArray, List.set_cons_zero, List.set_cons_succ])))
        refine SeqQ.Seq.nil ?_
        have hs1 := HS1.out.below hS
        have hwsk := hwsk.trans (Ks.of_below hS)
        clear C0 C2 S1 X1 HTS hS HS1
        obtain ⟨v1, hv1, hb1, ho1, _⟩ := hs1
        obtain ⟨A1, cap1, rfl, _⟩ := own_slice ho1
        have HV := Lib.hid hv1
        obtain ⟨c0, c1, c2⟩ := hb1.c3
        have hA := below_one wf (.cells #[.int .u32 (y2 : Int)] 55)
        have hoA := own_below ho1 hA
        have hrwA := rw_new wf [Value.int .u32 (y2 : Int)] 55
        have hB9 : w0.heap.size ≤ (wf.alloc (.cells #[.int .u32 (y2 : Int)] 55)).heap.size := Nat.le_trans hB (Nat.le_trans (Nat.le_of_lt hb1.lt) hA.size)
        have HLEN : Hid ((j + 1) + 1 ≤ 1000000) := Lib.hid (by omega)
        have HB1 := Lib.hid hb1
        have HO1 := Lib.hid ho1
        have HA1 := Lib.hid hA
        clear hb1 ho1 hA hv1 c0 c1
        go_wp2_with (at_builtin; go_must (refine list_append_rw kind32 rfl (.tmp 44) (.tmp 46) rfl w0.heap.size _ _ _ rfl hoA _ 1 _ [Value.int .u32 (y2 : Int)] rfl rfl hrwA (by simp) (by simp [Value.oneCell']) HLEN.out (by omega) hB9 ?_; intro v' w10 ho' hg' hgr'; obtain ⟨A2, cap2, hv2, _, _⟩ := own_slice ho'; subst hv2; have hne : (Value.slice A1 (j + 1) cap1).ownBlock ≠ some sb := own_ne_blk HO1.out HB1.out (by decide); have hb10 : Blk w10 sb #[_, .int .i64 lim, .slice A1 (j + 1) cap1] 93 := (hg'.block sb (HB1.out.below HA1.out).lt (fun e => hne e.symm)).trans (HB1.out.below HA1.out); have c2' := hb10.c3.2.2; have f2' := hb10.free 2; rw [HY.out] at ho'; obtain ⟨hp1, hp2, hp3⟩ := Sr.push HB1.out HO1.out hB HA1.out ho' hg' hgr'; have HP1 := Lib.hid hp1; have HP2 := Lib.hid hp2; have HP3 := Lib.hid hp3; clear c2 hp1 hp2 hp3 hb10 hne ho' hoA hrwA hB9))
        go_roundw
        case rel => exact ⟨(j + 1) + 1, _, Nat.succ_le_succ (Nat.le_trans hlt hi), by first | rfl | go_num, Ks.wr hwsk hwsg (HV.out ▸ HP2.out), hwsg.trans (HV.out ▸ HP3.out) hwsk.size, HP1.out⟩
        case measure => simp [intOf] <;> omega
    · have hqi : ¬ ((q : Int) ≤ i) := by omega
      have HS1 := Lib.hid hsr
      have HKS := Lib.hid hks
      have HGR := Lib.hid hgr
      have HQ := Lib.hid hq
      obtain ⟨v1, hv1, hb1, ho1, _⟩ := hsr
      obtain ⟨A1, cap1, rfl, _⟩ := own_slice ho1
      obtain ⟨_, _, _, hrw⟩ := own_rw ho1 rfl
      obtain ⟨g1, o1, rfl, hc1⟩ := hrw (by simp [SrV]; omega)
      have s1 := hc1 i _ (SrV_get z (by omega))
      obtain ⟨c0, c1, c2⟩ := hb1.c3
      have e5 : (i : Int) < q := by omega
      have e6 : (0 : Int) ≤ i := by omega
      clear hv1 hb1 ho1 hrw hc1 hks hgr
      go_wp2
      go_ret
      exact ⟨r', q, rfl, HKS.out, HGR.out, HS1.out, HQ.out⟩
end Go.Proofs.YtncomjeidlahlaaDoor.Cur

namespace Go.Proofs.YtncomjeidlahlaaDoor.Cur
open Go.RowKit Mem CrcM
set_option linter.unusedVariables false
set_option maxRecDepth 100000


theorem sm_piece (z : List Int) {p q : Nat} (h : p ≤ q) (hq : q ≤ z.length) : csn (8 * (q - p)) (sm (z.take p)) ^^^ sm (z.take q) = sm ((z.take q).drop p) := by
  have e : z.take q = z.take p ++ (z.take q).drop p := by
    have := (List.take_append_drop p (z.take q)).symm
    rwa [List.take_take, Nat.min_eq_left h] at this
  have hl : ((z.take q).drop p).length = q - p := by rw [List.length_drop, List.length_take, Nat.min_eq_left hq]
  have h2 := sm_append (z.take p) ((z.take q).drop p)
  rw [← e, hl] at h2
  rw [h2]
  exact xor_self_left _ _
theorem APost.sum {B sb : Nat} {r : Option Nat} {s v : Value} {lim : Int} {z : List Int} {n : Nat} {w w' : World} {e : Ending} (h : APost B sb r s lim z n v w e w') : True := trivial

set_option maxHeartbeats 4000000 in
theorem between_any {w0 w : World} {sb : Nat} {r : Option Nat} {A : Option Addr} {n m : Nat} {z : List Int} {lim : Int} {k : Nat} (p q : Nat) (h : Sr w w0.heap.size sb r (.slice A n m) lim z k) (hbd : Below w0.heap.size w0 w)
    (hz : Bs w0 A n z) (hby : ∀ x ∈ z, 0 ≤ x ∧ x < 256) (hT : Tbs w0) (hp : p ≤ q) (hq : q ≤ n) (hk : k ≤ n + 1) (hn : n ≤ 100000) :
    Calls Tryd.prog 78 #[.pointer (some ⟨sb, 0, none⟩), .int .i64 (p : Int), .int .i64 (q : Int)] w (APost w0.heap.size sb r (.slice A n m) lim z n (.int .u32 (sm ((z.take q).drop p) : Nat)) w) := by
  have hbt : ∀ (i : Nat), ∀ x ∈ z.take i, 0 ≤ x ∧ x < 256 := fun i x hx => hby x (List.mem_of_mem_take hx)
  have hv := sm_piece z hp (by rw [hz.1]; exact hq)
  have ha := sm_lt (hbt p)
  have hb := sm_lt (hbt q)
  have a1 := ahead_any p h hbd hz hby hT (Nat.le_trans hp hq) hk hn
  have a2 : ∀ {w1 : World} {r1 : Option Nat} {k1 : Nat}, Sr w1 w0.heap.size sb r1 (.slice A n m) lim z k1 → Below w0.heap.size w0 w1 → k1 ≤ n + 1 → _ := fun h1 hb1 hk1 => ahead_any q h1 hb1 hz hby hT hq hk1 hn
  have hge := h.ge
  clear hz hby hT hbt
  generalize sm (z.take p) = a at *
  generalize sm (z.take q) = b at *
  generalize sm ((z.take q).drop p) = c at *
  have HH := Lib.hid h
  have HBD := Lib.hid hbd
  have HV := Lib.hid hv
  have HGE := Lib.hid hge
  have HK := Lib.hid hk
  have e1 : IntKind.i64.wrap ((q : Int) - p) = ((q - p : Nat) : Int) := by rw [show (q : Int) - p = ((q - p : Nat) : Int) by omega]; exact IntWalk.i64_in _ (by omega)
  clear h hbd hv hge hk
  go_enter Tryd.func78, Tryd.ntmps78
  go_wp2_with fail
  with_reducible refine a1.mono ?_
  rintro e w1 ⟨r1, k1, rfl, hk1, hg1, hs1, hl1⟩
  have hb1 := hk1.below HBD.out (Nat.le_refl _) HGE.out
  go_wp2_with fail
  with_reducible refine (a2 hs1 hb1 hl1).mono ?_
  rintro e w2 ⟨r2, k2, rfl, hk2, hg2, hs2, hl2⟩
  have hj := cjoin_any a b ((q - p : Nat) : Int) w2 ha hb (by omega)
  rw [Int.toNat_natCast, HV.out] at hj
  go_wp2_with fail
  with_reducible refine hj.mono ?_
  rintro e w3 ⟨rfl, hb3⟩
  go_wp2
  go_ret
  exact ⟨r2, k2, rfl, (Ks.wr hk1 hg1 hk2).trans (Ks.of_below hb3), hg1.trans hg2 hk1.size, hs2.below hb3, hl2⟩
end Go.Proofs.YtncomjeidlahlaaDoor.Cur

namespace Go.Proofs.YtncomjeidlahlaaDoor.SeqF
open Go.Proofs.YtncomjeidlahlaaDoor.Seq
set_option linter.unusedVariables false

section
variable {P : Program} {ops : Array Oper} {Q : Exit → Act → World → Prop} {S : World → Prop}

/-- One operation, and K behind it. -/
def Step (P : Program) (ops : Array Oper) (S : World → Prop) (o : Oper) (K : Act → World → Prop) (a : Act) (w : World) : Prop :=
  (∃ v, YieldsIf P ops S o v a ∧ K (a.put o.dst v) w) ∨
  (making o = true ∧ Region.wanted o (yielded ops a.tmps) = true ∧ o.wp P a w (fun a' w' => S w' ∧ K a' w') NoExit)
theorem Step.mono {o : Oper} {K K' : Act → World → Prop} {a : Act} {w : World} (hS : S w) (h : ∀ a w, S w → K a w → K' a w) (hh : Step P ops S o K a w) : Step P ops S o K' a w := by
  rcases hh with ⟨v, hy, hk⟩ | ⟨hm, hw, hk⟩
  · exact .inl ⟨v, hy, h _ _ hS hk⟩
  · exact .inr ⟨hm, hw, Seq.wp_mono (fun a' w' h' => ⟨h'.1, h _ _ h'.1 h'.2⟩) (fun _ _ _ h => h) (fun h => h) hk⟩
theorem comm {i j : Oper} (hap : i.apart ops j = true) (hmk : (making i && making j) = false) (hsi : ∀ cs b, i.op ≠ .select cs b) (hsj : ∀ cs b, j.op ≠ .select cs b) {K : Act → World → Prop} {a : Act} {w : World} (hS : S w)
    (h : Step P ops S i (Step P ops S j K) a w) : Step P ops S j (Step P ops S i K) a w := by
  obtain ⟨h1, h2, h3⟩ := Oper.apart_spec hap
  have h2' : ∀ d, j.dst = some d → i.dst ≠ some d := fun d hd he => h2 d he hd
  rcases h with ⟨v, hy, h⟩ | ⟨hm, hw, h⟩
  · rcases h with ⟨u, hyj, hr⟩ | ⟨hmj, hwj, hr⟩
    · refine .inl ⟨u, (yields_of_put hsj h1).1 hyj, .inl ⟨v, (yields_of_put hsi h3).2 hy, ?_⟩⟩
      rw [← Act.put_comm a v u h2]
      exact hr
    · refine .inr ⟨hmj, by rw [← wanted_put j a i.dst v h1]; exact hwj, ?_⟩
      refine Seq.wp_mono (fun a' w' h' => ?_) (fun _ _ _ h => h) (fun h => h) (Seq.wp_put hsj h1 h2 hr)
      exact ⟨h'.1.1, .inl ⟨v, (yields_of_after hsi h3 h'.2).2 hy, h'.1.2⟩⟩
  · have hmj : making j = false := by simpa [hm] using hmk
    have key : i.wp P a w (fun a' w' => S w' ∧ ∃ v, YieldsIf P ops S j v a' ∧ K (a'.put j.dst v) w') NoExit :=
      Seq.wp_mono (fun a' w' h' => ⟨h'.1, by
        rcases h'.2 with hh | ⟨hmj', _⟩
        · exact hh
        · rw [hmj] at hmj'; cases hmj'⟩) (fun _ _ _ h => h) (fun h => h) h
    obtain ⟨a1, w1, ⟨_, v, hyv, _⟩, ha1⟩ := Seq.wp_some key
    have hyv' : YieldsIf P ops S j v a := (yields_of_after hsj h1 ha1).1 hyv
    refine .inl ⟨v, hyv', .inr ⟨hm, by rw [wanted_put i a j.dst v h3]; exact hw, ?_⟩⟩
    refine Seq.wp_unput hsi h3 h2' (Seq.wp_mono (fun a' w' h' ha' => ?_) (fun _ _ _ h => h) (fun h => h) key)
    obtain ⟨hS', v', hy', hr'⟩ := h'
    obtain rfl := yields_one hS hyv' ((yields_of_after hsj h1 ha').1 hy')
    exact ⟨hS', hr'⟩

/-- It has to do with d. -/
def wd (ops : Array Oper) (d o : Oper) : Bool := !(d.apart ops o && o.apart ops d)
/-- The order of the text, d being still to come. -/
def Float (P : Program) (ops : Array Oper) (S : World → Prop) (Q : Exit → Act → World → Prop) (d : Oper) : List Oper → Act → World → Prop
  | [], a, w => Seq P ops S Q [d] a w
  | o :: rest, a, w => (wd ops d o = true ∧ Seq P ops S Q (d :: o :: rest) a w) ∨ (wd ops d o = false ∧ (making o = true → Seq P ops S Q (d :: o :: rest) a w) ∧ Step P ops S o (Float P ops S Q d rest) a w)

theorem now {d : Oper} (hsd : ∀ cs b, d.op ≠ .select cs b) : ∀ (l : List Oper) (a : Act) (w : World), (∀ o ∈ l, ∀ cs b, o.op ≠ .select cs b) → S w → Float P ops S Q d l a w → Step P ops S d (Seq P ops S Q l) a w
  | [], a, w, _, _, h => h
  | o :: rest, a, w, hl, hS, h => by
    rcases h with ⟨_, h⟩ | ⟨h0, h1, h2⟩
    · exact h
    · by_cases hm : making o = true
      · exact h1 hm
      · have hap : o.apart ops d = true := by unfold wd at h0; simp at h0; exact h0.2
        exact comm hap (by simp [hm]) (hl o (List.mem_cons_self ..)) hsd hS (h2.mono hS fun a w hS h => now hsd rest a w (fun o ho => hl o (List.mem_cons_of_mem _ ho)) hS h)

theorem pullF {d j : Oper} (hsd : ∀ cs b, d.op ≠ .select cs b) (hsj : ∀ cs b, j.op ≠ .select cs b) (hwj : wd ops d j = false) (post : List Oper) : ∀ (pre : List Oper) (a : Act) (w : World),
    (∀ i ∈ pre, i.apart ops j = true ∧ (making i && making j) = false ∧ (∀ cs b, i.op ≠ .select cs b) ∧ wd ops d i = false) → S w →
    Float P ops S Q d (pre ++ j :: post) a w → Step P ops S j (Float P ops S Q d (pre ++ post)) a w
  | [], a, w, _, hS, h => by
    rcases h with ⟨h0, _⟩ | ⟨_, _, h⟩
    · rw [hwj] at h0; cases h0
    · exact h
  | i :: pre, a, w, hpre, hS, h => by
    obtain ⟨hap, hmk, hsi, hwi⟩ := hpre i (List.mem_cons_self ..)
    have hpre' := fun k hk => hpre k (List.mem_cons_of_mem _ hk)
    rcases h with ⟨h0, _⟩ | ⟨_, h1, h2⟩
    · rw [hwi] at h0; cases h0
    · have hB : Step P ops S j (Step P ops S i (Float P ops S Q d (pre ++ post))) a w := comm hap hmk hsi hsj hS (h2.mono hS fun a w hS h => pullF hsd hsj hwj post pre a w hpre' hS h)
      by_cases hm : making i = true
      · have hmj : making j = false := by simpa [hm] using hmk
        have hdj : d.apart ops j = true := by unfold wd at hwj; simp at hwj; exact hwj.1
        have hA := pull (P := P) (Q := Q) (S := S) hsj post (d :: i :: pre) a w (fun k hk => by
          rcases List.mem_cons.1 hk with rfl | hk
          · exact ⟨hdj, by simp [hmj], hsd⟩
          · obtain ⟨k1, k2, k3, _⟩ := hpre k hk
            exact ⟨k1, k2, k3⟩) hS (h1 hm)
        rcases hA with ⟨v, hv, hA⟩ | ⟨hx, _⟩
        · rcases hB with ⟨v', hv', hB⟩ | ⟨hx, _⟩
          · obtain rfl := yields_one hS hv hv'
            exact .inl ⟨v, hv, .inr ⟨hwi, fun _ => hA, hB⟩⟩
          · rw [hmj] at hx; cases hx
        · rw [hmj] at hx; cases hx
      · exact hB.mono hS fun a w hS h => .inr ⟨hwi, fun h => absurd h hm, h⟩

/-- The check of the text, operation D apart. -/
def inFloat (md : Region.Mode) (l : List Oper) (D : Nat) (d : Oper) : Bool :=
  Region.noSelect l.toArray && making d && d.after.toList.all (fun e => !Region.binds md e) && go md l.toArray d D (masks md l []) l 0
where
  go (md : Region.Mode) (ops : Array Oper) (d : Oper) (D : Nat) (M : List Nat) : List Oper → Nat → Bool
    | [], _ => true
    | oj :: rest, j => oj.after.toList.all (fun e => !Region.binds md e || Nat.blt e.on j) && (j == D || ((Nat.testBit (M.getD j 0) D || !(wd ops d oj)) && goo ops d D oj (M.getD j 0) ops.toList 0 j)) && go md ops d D M rest (j + 1)
  goo (ops : Array Oper) (d : Oper) (D : Nat) (oj : Oper) (m : Nat) : List Oper → Nat → Nat → Bool
    | [], _, _ => true
    | oi :: rest, i, j => Nat.ble j i || ((i == D || (!(wd ops d oi) || wd ops d oj) && (Nat.testBit m i || (oi.apart ops oj && !(making oi && making oj)))) && goo ops d D oj m rest (i + 1) j)

theorem goo_spec {d oj : Oper} {m j D : Nat} : ∀ (l : List Oper) (k : Nat), inFloat.goo ops d D oj m l k j = true → ∀ i oi, l[i]? = some oi → k + i < j → k + i ≠ D →
    (wd ops d oi = true → wd ops d oj = true) ∧ (m.testBit (k + i) = true ∨ (oi.apart ops oj = true ∧ (making oi && making oj) = false))
  | [], _, _, i, oi, h, _, _ => by simp at h
  | o :: l, k, h, i, oi, hi, hlt, hD => by
    unfold inFloat.goo at h
    rw [Bool.or_eq_true, Bool.and_eq_true] at h
    rcases h with h | ⟨h1, h2⟩
    · have := Nat.le_of_ble_eq_true h; omega
    · cases i with
      | zero =>
        simp only [List.getElem?_cons_zero, Option.some.injEq] at hi
        subst hi
        have hD' : (k == D) = false := by simpa using hD
        rw [hD', Bool.false_or, Bool.and_eq_true, Bool.or_eq_true, Bool.or_eq_true] at h1
        refine ⟨fun hw => ?_, ?_⟩
        · rcases h1.1 with h | h
          · rw [hw] at h; cases h
          · exact h
        · rcases h1.2 with h1 | h1
          · exact .inl h1
          · simp only [Bool.and_eq_true, Bool.not_eq_true'] at h1
            exact .inr h1
      | succ i =>
        have := goo_spec l (k + 1) h2 i oi (by simpa using hi) (by omega) (by omega)
        rw [show k + (i + 1) = k + 1 + i by omega]
        exact this
theorem go_spec {md : Region.Mode} {d : Oper} {D : Nat} {M : List Nat} : ∀ (l : List Oper) (k : Nat), inFloat.go md ops d D M l k = true → ∀ j oj, l[j]? = some oj →
    (∀ e ∈ oj.after, Region.binds md e = true → e.on < k + j) ∧ (k + j ≠ D → ((M.getD (k + j) 0).testBit D = true ∨ wd ops d oj = false) ∧ ∀ i oi, i < k + j → i ≠ D → ops[i]? = some oi →
      (wd ops d oi = true → wd ops d oj = true) ∧ ((M.getD (k + j) 0).testBit i = true ∨ (oi.apart ops oj = true ∧ (making oi && making oj) = false)))
  | [], _, _, j, oj, h => by simp at h
  | o :: l, k, h, j, oj, hj => by
    unfold inFloat.go at h
    simp only [Bool.and_eq_true] at h
    obtain ⟨⟨h1, h2⟩, h3⟩ := h
    cases j with
    | zero =>
      simp only [List.getElem?_cons_zero, Option.some.injEq] at hj
      subst hj
      refine ⟨fun e he hb => ?_, fun hD => ?_⟩
      · have := List.all_eq_true.1 h1 e (by simpa using he)
        simp only [hb, Bool.not_true, Bool.false_or] at this
        rw [Nat.blt_eq] at this
        omega
      · have hD' : (k == D) = false := by simpa using hD
        rw [hD', Bool.false_or, Bool.and_eq_true, Bool.or_eq_true] at h2
        refine ⟨?_, fun i oi hi hiD hoi => ?_⟩
        · rcases h2.1 with h | h
          · exact .inl h
          · exact .inr (by simpa using h)
        · have := goo_spec ops.toList 0 h2.2 i oi (by simpa using hoi) (by omega) (by omega)
          simpa using this
    | succ j =>
      have := go_spec l (k + 1) h3 j oj (by simpa using hj)
      rw [show k + (j + 1) = k + 1 + j by omega]
      exact this

variable {md : Region.Mode} {D : Nat} {d : Oper}
/-- What the check says. -/
structure Fits (md : Region.Mode) (ops : Array Oper) (D : Nat) (d : Oper) : Prop where
  hd : ops[D]? = some d
  ns : ∀ (j : Nat) (oj : Oper) cs b, ops[j]? = some oj → oj.op ≠ .select cs b
  mkd : making d = true
  free : ∀ e ∈ d.after, Region.binds md e = false
  back : ∀ (j : Nat) (oj : Oper), ops[j]? = some oj → ∀ e ∈ oj.after, Region.binds md e = true → e.on < j
  wait : ∀ (j : Nat) (oj : Oper), ops[j]? = some oj → j ≠ D → Waits md ops j D ∨ wd ops d oj = false
  late : ∀ (j : Nat) (oj : Oper), ops[j]? = some oj → j ≠ D → ∀ (i : Nat) (oi : Oper), i < j → i ≠ D → ops[i]? = some oi → wd ops d oi = true → wd ops d oj = true
  pair : ∀ (j : Nat) (oj : Oper), ops[j]? = some oj → j ≠ D → ∀ (i : Nat) (oi : Oper), i < j → i ≠ D → ops[i]? = some oi → Waits md ops j i ∨ (oi.apart ops oj = true ∧ (making oi && making oj) = false)
theorem good_of {l : List Oper} (hops : ops = l.toArray) (hd : l[D]? = some d) (hc : inFloat md l D d = true) : Fits md ops D d := by
  subst hops
  simp only [inFloat, Bool.and_eq_true] at hc
  obtain ⟨⟨⟨h1, h2⟩, h3⟩, h4⟩ := hc
  have hns := Region.noSelect_spec (ops := l.toArray) h1
  have key := fun (j : Nat) (oj : Oper) (hj : l.toArray[j]? = some oj) => by
    have := go_spec l 0 h4 j oj (by simpa using hj)
    rw [Nat.zero_add] at this
    exact this
  have conv : ∀ j i, ((masks md l []).getD j 0).testBit i = true → Waits md l.toArray j i := fun j i h => masks_spec l [] (fun j o h => by simpa using h) (fun j i h => by simp at h) j i h
  refine ⟨by simpa using hd, fun j oj cs b h => hns j oj cs b h, h2, fun e he => ?_, fun j oj hj => (key j oj hj).1, fun j oj hj hD => ((key j oj hj).2 hD).1.imp_left (conv _ _), fun j oj hj hD i oi hi hiD hoi => (((key j oj hj).2 hD).2 i oi hi hiD hoi).1, fun j oj hj hD i oi hi hiD hoi => (((key j oj hj).2 hD).2 i oi hi hiD hoi).2.imp_left (conv _ _)⟩
  have := List.all_eq_true.1 h3 e (by simpa using he)
  simpa using this

theorem wpAny_of_seq (G : Fits md ops D d) : ∀ (fuel : Nat) (listed : Array Bool) (a : Act) (w : World), listed.size = ops.size → listed.getD D true = true →
    (∀ k o, ops[k]? = some o → listed.getD k true = true → ∀ e ∈ o.after, Region.binds md e = true → listed.getD e.on false = true) → (rem ops listed (List.range ops.size)).length ≤ fuel → S w →
    Seq P ops S Q (rem ops listed (List.range ops.size)) a w → wpAny P md ops Q fuel listed a w := by
  have hns : ∀ (j : Nat) (oj : Oper) cs b, ops[j]? = some oj → oj.op ≠ .select cs b := G.ns
  intro fuel
  have hnone : ∀ (listed : Array Bool) (a : Act) (w : World), rem ops listed (List.range ops.size) = [] → Seq P ops S Q (rem ops listed (List.range ops.size)) a w → Region.ready md ops listed = [] ∧ Q .normal a w := by
    intro listed a w h0 h
    refine ⟨List.eq_nil_iff_forall_not_mem.2 fun j hj => ?_, by rw [h0] at h; exact h⟩
    obtain ⟨hl, o, ho, _⟩ := mem_ready.1 hj
    have : o ∈ rem ops listed (List.range ops.size) := List.mem_filterMap.2 ⟨j, List.mem_filter.2 ⟨List.mem_range.2 (Array.getElem?_eq_some_iff.1 ho).1, by simp [hl]⟩, ho⟩
    rw [h0] at this
    cases this
  induction fuel with
  | zero =>
    intro listed a w _ _ _ hle hS h
    exact hnone listed a w (List.eq_nil_of_length_eq_zero (by omega)) h
  | succ fuel ih =>
    intro listed a w hsz hDl hcl hle hS h
    refine ⟨fun hr => ?_, fun j hj => ?_⟩
    · -- nothing may come up: nothing is left
      suffices h0 : rem ops listed (List.range ops.size) = [] from (hnone listed a w h0 h).2
      refine List.eq_nil_iff_forall_not_mem.2 fun o ho => ?_
      obtain ⟨i, hi, hl, hoi⟩ := mem_rem ho
      -- the least one that is left may come up
      have : ∀ k, (∀ i < k, listed.getD i true = true ∨ ops[i]? = none) := by
        intro k
        induction k with
        | zero => intro i hi; omega
        | succ k ihk =>
          intro i hi
          rcases Nat.lt_or_ge i k with h' | h'
          · exact ihk i h'
          · obtain rfl : i = k := by omega
            cases hoi : ops[i]? with
            | none => exact .inr rfl
            | some oi =>
              refine .inl ?_
              by_cases hli : listed.getD i true = true
              · exact hli
              · exfalso
                have hmem : i ∈ Region.ready md ops listed := mem_ready.2 ⟨by simpa using hli, oi, hoi, fun e he hb => by
                  have hlt := G.back i oi hoi e he hb
                  have hsome : e.on < listed.size := by rw [hsz]; have := (Array.getElem?_eq_some_iff.1 hoi).1; omega
                  rcases ihk e.on hlt with h1 | h1
                  · simpa [hsome] using h1
                  · have := (Array.getElem?_eq_none_iff.1 h1); omega⟩
                rw [hr] at hmem
                cases hmem
      rcases this (i + 1) i (by omega) with h1 | h1
      · rw [hl] at h1; cases h1
      · rw [h1] at hoi; cases hoi
    · obtain ⟨hl, oj, hoj, hdeps⟩ := mem_ready.1 hj
      have hjn : j < ops.size := (Array.getElem?_eq_some_iff.1 hoj).1
      have hsplit : rem ops listed (List.range ops.size) = rem ops listed (List.range j) ++ oj :: rem ops listed (List.range' (j + 1) (ops.size - j - 1)) := by
        rw [range_split hjn, rem_append]
        congr 1
        unfold rem
        rw [List.filter_cons]
        simp [hl, hoj]
      have hsplit' : rem ops (listed.setIfInBounds j true) (List.range ops.size) = rem ops listed (List.range j) ++ rem ops listed (List.range' (j + 1) (ops.size - j - 1)) := by
        rw [range_split hjn, rem_append, rem_set _ (by simp)]
        congr 1
        have e1 : rem ops (listed.setIfInBounds j true) (j :: List.range' (j + 1) (ops.size - j - 1)) = rem ops (listed.setIfInBounds j true) (List.range' (j + 1) (ops.size - j - 1)) := by
          unfold rem
          rw [List.filter_cons, if_neg]
          have : j < listed.size := by rw [hsz]; exact hjn
          simp [this]
        rw [e1, rem_set _ (by simp [List.mem_range'_1]; omega)]
      have hp := pull (P := P) (Q := Q) (S := S) (fun cs b => hns j oj cs b hoj) (rem ops listed (List.range' (j + 1) (ops.size - j - 1))) (rem ops listed (List.range j)) a w (fun i hi => by
        obtain ⟨k, hk, hlk, hok⟩ := mem_rem hi
        have hk := List.mem_range.1 hk
        rcases G.pair j oj hoj (fun e => by subst e; rw [hDl] at hl; cases hl) k i hk (fun e => by subst e; rw [hDl] at hlk; cases hlk) hok with hwt | ⟨h1, h2⟩
        · exfalso
          have conv : ∀ m, m < ops.size → listed.getD m false = true → listed.getD m true = true := fun m hm h1 => by
            have hsome : m < listed.size := by rw [hsz]; exact hm
            simpa [hsome] using h1
          have path : ∀ x y, Waits md ops x y → y < ops.size → (∀ o, ops[x]? = some o → ∀ e ∈ o.after, Region.binds md e = true → listed.getD e.on false = true) → listed.getD y true = true := by
            intro x y hxy hy
            induction hxy with
            | one ho he hb => exact fun hd => conv _ hy (hd _ ho _ he hb)
            | more ho he hb hw ih =>
              intro hd
              refine ih hy fun o ho' e' he' hb' => ?_
              exact hcl _ o ho' (conv _ (Array.getElem?_eq_some_iff.1 ho').1 (hd _ ho _ he hb)) e' he' hb'
          have := path j k hwt (by omega) (fun o ho e he hb => by rw [hoj] at ho; cases ho; exact hdeps e he hb)
          rw [hlk] at this
          cases this
        · exact ⟨h1, h2, fun cs b => hns k i cs b hok⟩) hS (by rw [← hsplit]; exact h)
      have hle' : (rem ops (listed.setIfInBounds j true) (List.range ops.size)).length ≤ fuel := by
        rw [hsplit']
        rw [hsplit] at hle
        simp only [List.length_append, List.length_cons] at hle ⊢
        omega
      have hkeep : (listed.setIfInBounds j true).getD D true = true := by
        by_cases hjD : j = D
        · subst hjD
          have : j < listed.size := by rw [hsz]; exact hjn
          simp [this]
        · rw [getD_set_ne true hjD]; exact hDl
      have next : ∀ a' w', S w' → Seq P ops S Q (rem ops listed (List.range j) ++ rem ops listed (List.range' (j + 1) (ops.size - j - 1))) a' w' → wpAny P md ops Q fuel (listed.setIfInBounds j true) a' w' :=
        fun a' w' hS' h' => ih _ a' w' (by simpa using hsz) (hkeep) (fun k o ho hl e he hb => by
          have mono : ∀ m, listed.getD m false = true → (listed.setIfInBounds j true).getD m false = true := fun m hm => by
            by_cases hmj : j = m
            · subst hmj
              have : j < listed.size := by rw [hsz]; exact hjn
              simp [this]
            · rw [getD_set_ne false hmj]; exact hm
          by_cases hkj : j = k
          · subst hkj
            rw [hoj] at ho
            cases ho
            exact mono _ (hdeps e he hb)
          · rw [getD_set_ne true hkj] at hl
            exact mono _ (hcl k o ho hl e he hb)) hle' hS' (by rw [hsplit']; exact h')
      rcases hp with ⟨v, hy, hr⟩ | ⟨_, hw, hr⟩
      · exact hy.wpOp hoj hS (next _ _ hS hr)
      · unfold wpOp
        simp only [hoj, hw, if_true]
        exact .inl (Seq.wp_mono (fun a' w' h' => next a' w' h'.1 h'.2) (fun _ _ _ h => h.elim) (fun h => absurd h letsOut_no) hr)


theorem wpAny_of_float (G : Fits md ops D d) : ∀ (fuel : Nat) (listed : Array Bool) (a : Act) (w : World), listed.size = ops.size → listed.getD D true = false →
    (∀ k o, ops[k]? = some o → listed.getD k true = true → ∀ e ∈ o.after, Region.binds md e = true → listed.getD e.on false = true) → (rem ops (listed.setIfInBounds D true) (List.range ops.size)).length + 1 ≤ fuel → S w →
    Float P ops S Q d (rem ops (listed.setIfInBounds D true) (List.range ops.size)) a w → wpAny P md ops Q fuel listed a w := by
  have hns : ∀ (j : Nat) (oj : Oper) cs b, ops[j]? = some oj → oj.op ≠ .select cs b := G.ns
  have hDn : D < ops.size := (Array.getElem?_eq_some_iff.1 G.hd).1
  intro fuel
  induction fuel with
  | zero =>
    intro listed a w _ _ _ hle
    omega
  | succ fuel ih =>
    intro listed a w hsz hDl hcl hle hS h
    have hLD : (listed.setIfInBounds D true).getD D true = true := by
      have : D < listed.size := by rw [hsz]; exact hDn
      simp [this]
    have conv : ∀ m, m < ops.size → listed.getD m false = true → listed.getD m true = true := fun m hm h1 => by
      have hsome : m < listed.size := by rw [hsz]; exact hm
      simpa [hsome] using h1
    have closed : ∀ j oj, j < ops.size → listed.size = ops.size → ops[j]? = some oj → (∀ e ∈ oj.after, Region.binds md e = true → listed.getD e.on false = true) →
        ∀ k o, ops[k]? = some o → (listed.setIfInBounds j true).getD k true = true → ∀ e ∈ o.after, Region.binds md e = true → (listed.setIfInBounds j true).getD e.on false = true := fun j oj hjn hsz hoj hdeps k o ho hl e he hb => by
      have mono : ∀ m, listed.getD m false = true → (listed.setIfInBounds j true).getD m false = true := fun m hm => by
        by_cases hmj : j = m
        · subst hmj
          have : j < listed.size := by rw [hsz]; exact hjn
          simp [this]
        · rw [getD_set_ne false hmj]; exact hm
      by_cases hkj : j = k
      · subst hkj
        rw [hoj] at ho
        cases ho
        exact mono _ (hdeps e he hb)
      · rw [getD_set_ne true hkj] at hl
        exact mono _ (hcl k o ho hl e he hb)
    refine ⟨fun hr => ?_, fun j hj => ?_⟩
    · exfalso
      have hmem : D ∈ Region.ready md ops listed := mem_ready.2 ⟨hDl, d, G.hd, fun e he hb => by rw [G.free e he] at hb; cases hb⟩
      rw [hr] at hmem
      cases hmem
    · obtain ⟨hl, oj, hoj, hdeps⟩ := mem_ready.1 hj
      have hjn : j < ops.size := (Array.getElem?_eq_some_iff.1 hoj).1
      have path : ∀ x y, Waits md ops x y → y < ops.size → (∀ o, ops[x]? = some o → ∀ e ∈ o.after, Region.binds md e = true → listed.getD e.on false = true) → listed.getD y true = true := by
        intro x y hxy hy
        induction hxy with
        | one ho he hb => exact fun hd => conv _ hy (hd _ ho _ he hb)
        | more ho he hb hw ih =>
          intro hd
          refine ih hy fun o ho' e' he' hb' => ?_
          exact hcl _ o ho' (conv _ (Array.getElem?_eq_some_iff.1 ho').1 (hd _ ho _ he hb)) e' he' hb'
      by_cases hjD : j = D
      · subst hjD
        have hdo : oj = d := by have := G.hd; rw [hoj] at this; exact Option.some.inj this
        subst hdo
        have next : ∀ a' w', S w' → Seq P ops S Q (rem ops (listed.setIfInBounds j true) (List.range ops.size)) a' w' → wpAny P md ops Q fuel (listed.setIfInBounds j true) a' w' :=
          fun a' w' hS' h' => wpAny_of_seq G fuel _ a' w' (by simpa using hsz) hLD (closed j oj hjn hsz hoj hdeps) (by omega) hS' h'
        have hp := now (P := P) (Q := Q) (S := S) (fun cs b => hns j oj cs b hoj) _ a w (fun o ho => by
          obtain ⟨k, _, _, hok⟩ := mem_rem ho
          exact fun cs b => hns k o cs b hok) hS h
        rcases hp with ⟨v, hy, hr⟩ | ⟨_, hw, hr⟩
        · exact hy.wpOp hoj hS (next _ _ hS hr)
        · unfold wpOp
          simp only [hoj, hw, if_true]
          exact .inl (Seq.wp_mono (fun a' w' h' => next a' w' h'.1 h'.2) (fun _ _ _ h => h.elim) (fun h => absurd h letsOut_no) hr)
      · have hlL : (listed.setIfInBounds D true).getD j true = false := by rw [getD_set_ne true (fun e => hjD e.symm)]; exact hl
        have hwj : wd ops d oj = false := by
          rcases G.wait j oj hoj hjD with hwt | h0
          · exfalso
            have := path j D hwt hDn (fun o ho e he hb => by rw [hoj] at ho; cases ho; exact hdeps e he hb)
            rw [hDl] at this
            cases this
          · exact h0
        have hsplit : rem ops (listed.setIfInBounds D true) (List.range ops.size) = rem ops (listed.setIfInBounds D true) (List.range j) ++ oj :: rem ops (listed.setIfInBounds D true) (List.range' (j + 1) (ops.size - j - 1)) := by
          rw [range_split hjn, rem_append]
          congr 1
          unfold rem
          rw [List.filter_cons]
          simp [hlL, hoj]
        have hcomm : (listed.setIfInBounds j true).setIfInBounds D true = (listed.setIfInBounds D true).setIfInBounds j true := by
          rw [Array.setIfInBounds_comm]
          exact hjD
        have hsplit' : rem ops ((listed.setIfInBounds j true).setIfInBounds D true) (List.range ops.size) = rem ops (listed.setIfInBounds D true) (List.range j) ++ rem ops (listed.setIfInBounds D true) (List.range' (j + 1) (ops.size - j - 1)) := by
          rw [hcomm, range_split hjn, rem_append, rem_set _ (by simp)]
          congr 1
          have e1 : rem ops ((listed.setIfInBounds D true).setIfInBounds j true) (j :: List.range' (j + 1) (ops.size - j - 1)) = rem ops ((listed.setIfInBounds D true).setIfInBounds j true) (List.range' (j + 1) (ops.size - j - 1)) := by
            unfold rem
            rw [List.filter_cons, if_neg]
            have : j < listed.size := by rw [hsz]; exact hjn
            simp [this]
          rw [e1, rem_set _ (by simp [List.mem_range'_1]; omega)]
        have hp := pullF (P := P) (Q := Q) (S := S) (fun cs b => hns D d cs b G.hd) (fun cs b => hns j oj cs b hoj) hwj (rem ops (listed.setIfInBounds D true) (List.range' (j + 1) (ops.size - j - 1))) (rem ops (listed.setIfInBounds D true) (List.range j)) a w (fun i hi => by
          obtain ⟨k, hk, hlk, hok⟩ := mem_rem hi
          have hk := List.mem_range.1 hk
          have hkD : k ≠ D := fun e => by subst e; rw [hLD] at hlk; cases hlk
          have hlk' : listed.getD k true = false := by rw [getD_set_ne true (fun e => hkD e.symm)] at hlk; exact hlk
          have hwi : wd ops d i = false := by
            cases hwi : wd ops d i with
            | false => rfl
            | true =>
              have := G.late j oj hoj hjD k i hk hkD hok hwi
              rw [hwj] at this
              cases this
          rcases G.pair j oj hoj hjD k i hk hkD hok with hwt | ⟨h1, h2⟩
          · exfalso
            have := path j k hwt (by omega) (fun o ho e he hb => by rw [hoj] at ho; cases ho; exact hdeps e he hb)
            rw [hlk'] at this
            cases this
          · exact ⟨h1, h2, fun cs b => hns k i cs b hok, hwi⟩) hS (by rw [← hsplit]; exact h)
        have next : ∀ a' w', S w' → Float P ops S Q d (rem ops (listed.setIfInBounds D true) (List.range j) ++ rem ops (listed.setIfInBounds D true) (List.range' (j + 1) (ops.size - j - 1))) a' w' → wpAny P md ops Q fuel (listed.setIfInBounds j true) a' w' :=
          fun a' w' hS' h' => ih _ a' w' (by simpa using hsz) (by rw [getD_set_ne true hjD]; exact hDl) (closed j oj hjn hsz hoj hdeps) (by
            rw [hsplit']
            rw [hsplit] at hle
            simp only [List.length_append, List.length_cons] at hle ⊢
            omega) hS' (by rw [hsplit']; exact h')
        rcases hp with ⟨v, hy, hr⟩ | ⟨_, hw, hr⟩
        · exact hy.wpOp hoj hS (next _ _ hS hr)
        · unfold wpOp
          simp only [hoj, hw, if_true]
          exact .inl (Seq.wp_mono (fun a' w' h' => next a' w' h'.1 h'.2) (fun _ _ _ h => h.elim) (fun h => absurd h letsOut_no) hr)

theorem take_range (l : List Oper) : ∀ D, D ≤ l.length → (List.range D).filterMap (fun i => l[i]?) = l.take D
  | 0, _ => rfl
  | D + 1, h => by
    rw [List.range_succ, List.filterMap_append, take_range l D (by omega), List.take_succ_eq_append_getElem (by omega)]
    congr 1
    rw [List.filterMap_cons, List.getElem?_eq_getElem (by omega)]
    rfl
theorem rem_erase (l : List Oper) {D : Nat} {d : Oper} (hd : l[D]? = some d) : rem l.toArray ((Array.replicate l.length false).setIfInBounds D true) (List.range l.length) = l.eraseIdx D := by
  have hD : D < l.length := (List.getElem?_eq_some_iff.1 hd).1
  have h0 := rem_none l
  rw [range_split hD, rem_append] at h0 ⊢
  have hA : rem l.toArray (Array.replicate l.length false) (List.range D) = l.take D := by
    unfold rem
    rw [List.filter_eq_self.2 (fun i hi => by
      have := List.mem_range.1 hi
      have h2 : i < l.length := by omega
      simp [h2])]
    have := take_range l D (by omega)
    simpa using this
  have hB : ∀ r, rem l.toArray (Array.replicate l.length false) (D :: r) = d :: rem l.toArray (Array.replicate l.length false) r := by
    intro r
    unfold rem
    rw [List.filter_cons]
    simp [hD]
    exact (List.getElem?_eq_some_iff.1 hd).2
  rw [hA, hB] at h0
  have hC : ∀ r, rem l.toArray ((Array.replicate l.length false).setIfInBounds D true) (D :: r) = rem l.toArray ((Array.replicate l.length false).setIfInBounds D true) r := by
    intro r
    unfold rem
    rw [List.filter_cons, if_neg]
    simp [hD]
  rw [hC, rem_set _ (by simp), rem_set _ (by simp [List.mem_range'_1]; omega), hA]
  rw [List.eraseIdx_eq_take_drop_succ]
  congr 1
  have e : l.take D ++ l.drop D = l := List.take_append_drop D l
  have e2 : l.drop D = d :: l.drop (D + 1) := by
    rw [List.drop_eq_getElem_cons hD, (List.getElem?_eq_some_iff.1 hd).2]
  rw [e2] at e
  have := List.append_cancel_left (h0.trans e.symm)
  injection this

/-- THE LAW: a region that draws its order, gone through in the order of its text, operation d apart. -/
theorem wp_region_float {id : Nat} {l : List Oper} {a : Act} {w : World} (S : World → Prop) (D : Nat) {d : Oper} (hm : P.follows .mixedOrders = true) (hd : l[D]? = some d) (hc : inFloat .any l D d = true) (hS : S w.drew)
    (h : Float P l.toArray S Q d (l.eraseIdx D) a w.drew) : (Code.region id l.toArray true).wp P Q a w := by
  have hD : D < l.length := (List.getElem?_eq_some_iff.1 hd).1
  have he := rem_erase l hd
  refine wp_region_any hm (wpAny_of_float (good_of rfl hd hc) _ _ a _ (by simp) (by simp [hD]) (fun k o ho hl => by
    have hk : k < l.length := by simpa using (Array.getElem?_eq_some_iff.1 ho).1
    simp [hk] at hl) ?_ hS ?_)
  · have : (rem l.toArray ((Array.replicate l.length false).setIfInBounds D true) (List.range l.length)).length + 1 ≤ l.length := by
      rw [he, List.length_eraseIdx, if_pos hD]; omega
    simpa using this
  · simpa [he] using h

/-! ### The steps -/
theorem Float.nil {d : Oper} {a : Act} {w : World} (h : Seq P ops S Q [d] a w) : Float P ops S Q d [] a w := h
theorem Float.skip {d o : Oper} {rest : List Oper} {a : Act} {w : World} (h0 : wd ops d o = false) (hm : making o = false) (hw : Region.wanted o (yielded ops a.tmps) = false) (h : Float P ops S Q d rest (a.put o.dst undef) w) : Float P ops S Q d (o :: rest) a w :=
  .inr ⟨h0, fun h => (by rw [hm] at h; cases h), .inl ⟨undef, .inr ⟨hw, rfl⟩, h⟩⟩
theorem Float.det {d o : Oper} {rest : List Oper} {a : Act} {w : World} (v : Value) (h0 : wd ops d o = false) (hm : making o = false) (hw : Region.wanted o (yielded ops a.tmps) = true) (hv : ∀ w, S w → (execOp a.eval o).run P w = .ok (.value v) w)
    (h : Float P ops S Q d rest (a.put o.dst v) w) : Float P ops S Q d (o :: rest) a w := .inr ⟨h0, fun h => (by rw [hm] at h; cases h), .inl ⟨v, .inl ⟨hw, hv⟩, h⟩⟩
theorem Float.fork {d o : Oper} {rest : List Oper} {a : Act} {w : World} (h0 : wd ops d o = false) (hm : making o = true) (hw : Region.wanted o (yielded ops a.tmps) = true) (h1 : Seq P ops S Q (d :: o :: rest) a w)
    (h : ∀ (K : Act → World → Prop) (Q' : Exit → Act → World → Prop), Shut (∀ a w, S w → Float P ops S Q d rest a w → K a w) → o.wp P a w K Q') : Float P ops S Q d (o :: rest) a w :=
  .inr ⟨h0, fun _ => h1, .inr ⟨hm, hw, h _ _ (fun a w h1 h2 => ⟨h1, h2⟩)⟩⟩
theorem Float.stop {d o : Oper} {rest : List Oper} {a : Act} {w : World} (h0 : wd ops d o = true) (h : Seq P ops S Q (d :: o :: rest) a w) : Float P ops S Q d (o :: rest) a w := .inl ⟨h0, h⟩
end
end Go.Proofs.YtncomjeidlahlaaDoor.SeqF

namespace Go.Proofs.YtncomjeidlahlaaDoor.Cur
open Go.RowKit Mem CrcM
set_option linter.unusedVariables false

/-- A frame begins there. -/
def fao (z : List Int) (lim : Int) : Bool := decide ((fr z lim 0).2.2.1 = 0)
/-- How many bytes it has. -/
def fas (z : List Int) (lim : Int) : Int := if (fr z lim 0).2.2.1 = 0 then (fr z lim 0).2.1 else 0
theorem tk_good {z : List Int} {x p : Int} (h : (tk z x p).2.2.1 = 0) : 0 ≤ x ∧ p + x ≤ z.length ∧ tk z x p = (piece z p.toNat (p + x).toNat, p + x, 0, 0) := by
  unfold tk at h ⊢
  split at h
  · exact absurd h (by show ¬ (17 : Int) = 0; decide)
  · rename_i h1
    split at h
    · exact absurd h (by show ¬ (1 : Int) = 0; decide)
    · rename_i h2
      rw [if_neg h1, if_neg h2]
      exact ⟨by omega, by omega, rfl⟩
theorem tk_is {z : List Int} {x p : Int} (h0 : 0 ≤ x) (h1 : p + x ≤ z.length) : tk z x p = (piece z p.toNat (p + x).toNat, p + x, 0, 0) := by
  unfold tk; rw [if_neg (by omega), if_neg (by omega)]
theorem vm_nat {z : List Int} {lim : Int} (hby : ∀ x ∈ z, 0 ≤ x ∧ x < 256) (g0 : (vm z lim 0).2.2.1 = 0) : ∃ l u : Nat, vm z lim 0 = ((l : Int), (u : Int), 0, 0) ∧ u = vsz l ∧ u ≤ z.length ∧ (l : Int) ≤ lim := by
  obtain ⟨h1, h2, h3⟩ := vm_ok g0
  obtain ⟨a1, a2, a3, a4, a5⟩ := vg_once hby (Int.le_refl 0) (by omega) h1
  have s := vg_shape h1
  refine ⟨(vg z 0).1.toNat, (vg z 0).2.1.toNat, ?_, ?_, by omega, by omega⟩
  · rw [h3, Int.toNat_of_nonneg a2, Int.toNat_of_nonneg (by omega)]; exact s
  · have := congrArg List.length a1
    rw [vz_length] at this
    unfold piece at this
    rw [List.length_take, List.length_drop] at this
    rw [Int.toNat_of_nonneg a2, this]
    have h0 : (0 : Int).toNat = 0 := rfl
    omega
theorem fr_novm {z : List Int} {lim : Int} (h : (vm z lim 0).2.2.1 ≠ 0) : (fr z lim 0).2.2.1 ≠ 0 := by
  intro h0
  unfold fr at h0
  obtain ⟨g0, _⟩ := Rs.bind_ok h0
  unfold bl at g0
  exact h (Rs.bind_ok g0).1
theorem fr_short {z : List Int} {lim : Int} {l u : Nat} (e : vm z lim 0 = ((l : Int), (u : Int), 0, 0)) (h : z.length < u + l + 4) : (fr z lim 0).2.2.1 ≠ 0 := by
  intro h0
  unfold fr at h0
  obtain ⟨g0, e1⟩ := Rs.bind_ok h0
  rw [e1] at h0
  have eb : bl z lim 0 = tk z l u := by unfold bl; exact Rs.bind_of e
  rw [eb] at g0 h0
  obtain ⟨_, t1, t2⟩ := tk_good g0
  rw [t2] at h0
  unfold fr2 at h0
  obtain ⟨g1, _⟩ := Rs.bind_ok h0
  obtain ⟨_, t3, _⟩ := tk_good (z := z) (x := 4) (p := (u : Int) + l) g1
  omega
theorem fr_long {z : List Int} {lim : Int} {l u : Nat} (e : vm z lim 0 = ((l : Int), (u : Int), 0, 0)) (h : u + l + 4 ≤ z.length) :
    fr z lim 0 = frs z (piece z u (u + l)) ((u : Int) + l) (lev (piece z (u + l) (u + l + 4))) ((u : Int) + l + 4) := by
  have eb : bl z lim 0 = tk z l u := by unfold bl; exact Rs.bind_of e
  have t1 := tk_is (z := z) (x := l) (p := u) (by omega) (by omega)
  have t2 := tk_is (z := z) (x := 4) (p := (u : Int) + l) (by omega) (by omega)
  have n1 : ((u : Int) + l).toNat = u + l := by omega
  have n2 : ((u : Int) + l + 4).toNat = u + l + 4 := by omega
  rw [n1, Int.toNat_natCast] at t1
  rw [n1, n2] at t2
  unfold fr
  rw [Rs.bind_of (eb.trans t1)]
  unfold fr2
  have e2 : fx z 4 ((u : Int) + l) = (lev (piece z (u + l) (u + l + 4)), (u : Int) + l + 4, 0, 0) := by unfold fx Rs.map; rw [t2]
  rw [Rs.bind_of e2]
/-- What becomes of the comparison. -/
theorem fa_long {z : List Int} {lim : Int} {l u : Nat} (e : vm z lim 0 = ((l : Int), (u : Int), 0, 0)) (h : u + l + 4 ≤ z.length) :
    (lev (piece z (u + l) (u + l + 4)) = ((sm (piece z u (u + l)) : Nat) : Int) → fao z lim = true ∧ fas z lim = (u : Int) + l + 4) ∧ (lev (piece z (u + l) (u + l + 4)) ≠ ((sm (piece z u (u + l)) : Nat) : Int) → fao z lim = false ∧ fas z lim = 0) := by
  have hf := fr_long e h
  constructor
  · intro h1
    unfold frs at hf
    rw [if_pos h1] at hf
    unfold fao fas
    rw [hf]
    exact ⟨rfl, rfl⟩
  · intro h1
    unfold frs at hf
    rw [if_neg h1] at hf
    unfold fao fas
    rw [hf]
    exact ⟨rfl, rfl⟩
theorem fa_bad {z : List Int} {lim : Int} (h : (fr z lim 0).2.2.1 ≠ 0) : fao z lim = false ∧ fas z lim = 0 := by
  unfold fao fas
  rw [if_neg h]
  exact ⟨by simpa using h, rfl⟩
end Go.Proofs.YtncomjeidlahlaaDoor.Cur

namespace Go.Proofs.YtncomjeidlahlaaDoor.Cur
open Go.RowKit Mem CrcM
set_option linter.unusedVariables false
set_option maxRecDepth 100000


def SFRel (z : List Int) (lim : Int) (w : World) (v6 v7 v8 : Value) (wx : World) : Prop :=
  ∃ l nn c q fb, v6 = .int .i64 l ∧ v7 = .int .i64 nn ∧ v8 = .pointer (some ⟨fb, 0, none⟩) ∧ Blk wx fb #[.int .i64 c, .int .i64 q] 42 ∧ Below w.heap.size w wx ∧ w.heap.size ≤ fb ∧ GetSt 0 (vm z lim 0) l nn c q

set_option maxHeartbeats 4000000 in
theorem sframe_any {w0 w : World} {sb : Nat} {r : Option Nat} {A : Option Addr} {n m : Nat} {z : List Int} {lim : Int} {k : Nat} (p : Nat) (h : Sr w w0.heap.size sb r (.slice A n m) lim z k) (hbd : Below w0.heap.size w0 w)
    (hz : Bs w0 A n z) (hby : ∀ x ∈ z, 0 ≤ x ∧ x < 256) (hT : Tbs w0) (hp : p ≤ n) (hm : n ≤ m) (hk : k ≤ n + 1) (hn : n ≤ 100000) (hl : lim ≤ 2097152) :
    Calls Tryd.prog 71 #[.pointer (some ⟨sb, 0, none⟩), .int .i64 (p : Int)] w (APost w0.heap.size sb r (.slice A n m) lim z n (.tuple #[.int .i64 (fas (z.drop p) lim), .bool (fao (z.drop p) lim)]) w) := by
  have HBY := Lib.hid hby
  have hbp : ∀ x ∈ z.drop p, 0 ≤ x ∧ x < 256 := fun x hx => hby x (List.mem_of_mem_drop hx)
  have HBP := Lib.hid hbp
  have HT := Lib.hid hT
  have HH := Lib.hid h
  have HGE := Lib.hid h.ge
  have hzw : Bs w A n z := hz.below hbd
  have HZ := Lib.hid hz
  have HBD := Lib.hid hbd
  have HL : Hid (lim ≤ 9223372036854775807) := Lib.hid (by omega)
  have HL2 := Lib.hid hl
  have HK := Lib.hid hk
  have hzl : (z.drop p).length = n - p := by rw [List.length_drop, hz.1]
  have HZL := Lib.hid hzl
  obtain ⟨v, hv, hb, ho, hB⟩ := h
  have C0 : ∀ w', Below w.heap.size w w' → w'.cell? ⟨sb, 0, none⟩ = some (.slice A n m) := fun w' h => (hb.below h).c3.1
  have C1 : ∀ w', Below w.heap.size w w' → w'.cell? ⟨sb, 1, none⟩ = some (.int .i64 lim) := fun w' h => (hb.below h).c3.2.1
  have e1 : (p : Int) ≤ n := by omega
  have e2 : (0 : Int) ≤ p := by omega
  obtain ⟨A', M, hsl, hbs, hM⟩ := slice_l hzw m (p : Int) e2 e1 hm
  rw [Int.toNat_natCast] at hbs
  have HBS := Lib.hid hbs
  have hn' : ((n : Int) - p).toNat ≤ 1000000 := by omega
  generalize ((n : Int) - p).toNat = n' at *
  clear hby hbp hT hv hb ho hz hbd hzw hbs hl hzl hk
  go_enter Tryd.func71, Tryd.ntmps71
  go_wp2
  go_cut [6, 7, 8] from 11 to 26 (fun v6 v7 v8 wx => SFRel (z.drop p) lim w v6 v7 v8 wx)
  case first =>
    have hS : Below w.heap.size w w.drew := below_one' w
    refine SeqF.wp_region_float (fun w' => Below w.heap.size w w') 16 (by kernel_rfl) rfl (by kernel_rfl) hS ?_
    generalize w.drew = wd at *
    simp only [List.eraseIdx]
    repeat (first | (refine SeqF.Float.skip (by rfl) (by rfl) (by rfl) ?_; (try simp only [Act.put, List.setIfInBounds_toArray, List.set_cons_zero, List.set_cons_succ])) | (refine SeqF.Float.det ?_ (by rfl) (by rfl) (by rfl) (fun w hS => ?_) ?_; rotate_left; ((try dsimp only at hS); go_simp; (try rw [if_pos (by omega)]); with_reducible rfl); (try simp only [Act.put, List.setIfInBounds_toArray, List.set_cons_zero, List.set_cons_succ])))
    refine SeqF.Float.fork (by rfl) (by rfl) (by rfl) ?_ (fun K Q' hK => ?_)
    · refine Seq.Seq.make (by rfl) (by rfl) (fun K Q' hK => ?_)
      go_simp
      have hA := below_one wd (.cells #[.int .i64 0, .int .i64 0] 42)
      have hS2 := hS.trans (hA.mono hS.size)
      have hX := Blk.new wd #[.int .i64 0, .int .i64 0] 42
      refine hK.out _ _ (hS2) ?_
      clear hK K
      try simp only [Act.put, List.setIfInBounds_toArray, List.set_cons_zero, List.set_cons_succ]
      have hfb : w.heap.size ≤ wd.heap.size := hS.size
      clear hA hS
      generalize wd.heap.size = fb at *
      generalize wd.alloc (.cells #[.int .i64 0, .int .i64 0] 42) = wa at *
      have hS := hS2
      clear hS2
      refine Seq.Seq.make (by rfl) (by rfl) (fun K Q' hK => ?_)
      go_simp
      go_at_call 49
      with_reducible refine (frontlen_any _ _ _ _ _ _ (HBS.out.below hS) hM hn' HBP.out HL.out).mono ?_
      rintro e w1 ⟨l, nn, c, q, rfl, hb1, hst⟩
      have hX1 := hX.below hb1
      have hS3 := hS.trans (hb1.mono hS.size)
      have HST := Lib.hid hst
      clear hst
      refine hK.out _ _ (hS3) ?_
      clear hK K
      try simp only [Act.put, List.setIfInBounds_toArray, List.set_cons_zero, List.set_cons_succ]
      repeat (first | (refine Seq.Seq.skip (by rfl) ?_; (try simp only [Act.put, List.setIfInBounds_toArray, List.set_cons_zero, List.set_cons_succ])) | (refine Seq.Seq.det ?_ (by rfl) (fun w hS => ?_) ?_; rotate_left; ((try dsimp only at hS); go_simp; (try rw [if_pos (by omega)]); with_reducible rfl); (try simp only [Act.put, List.setIfInBounds_toArray, List.set_cons_zero, List.set_cons_succ])))
      obtain ⟨x0, x1⟩ := hX1.c2
      obtain ⟨g0, g1⟩ := hX1.f2
      obtain ⟨hXS, hkS⟩ := blk_set2 hX1 (.int .i64 c) (.int .i64 q)
      have hS4 := Kp.below hS3 (Nat.le_refl _) hkS hfb
      refine Seq.Seq.make (by rfl) (by rfl) (fun K Q' hK => ?_)
      go_simp
      refine hK.out _ _ (hS4) ?_
      clear hK K
      try simp only [Act.put, List.setIfInBounds_toArray, List.set_cons_zero, List.set_cons_succ]
      refine Seq.Seq.nil ?_
      go_wp2
      go_meet
      case rel => exact ⟨l, nn, c, q, fb, rfl, rfl, rfl, hXS, hS4, hfb, HST.out⟩
    · go_simp
      go_at_call 49
      with_reducible refine (frontlen_any _ _ _ _ _ _ (HBS.out.below hS) hM hn' HBP.out HL.out).mono ?_
      rintro e w1 ⟨l, nn, c, q, rfl, hb1, hst⟩
      have hS3 := hS.trans (hb1.mono hS.size)
      have HST := Lib.hid hst
      clear hst
      refine hK.out _ _ (hS3) ?_
      clear hK K
      try simp only [Act.put, List.setIfInBounds_toArray, List.set_cons_zero, List.set_cons_succ]
      clear hS
      have hS := hS3
      repeat (first | (refine SeqF.Float.skip (by rfl) (by rfl) (by rfl) ?_; (try simp only [Act.put, List.setIfInBounds_toArray, List.set_cons_zero, List.set_cons_succ])) | (refine SeqF.Float.det ?_ (by rfl) (by rfl) (by rfl) (fun w hS => ?_) ?_; rotate_left; ((try dsimp only at hS); go_simp; (try rw [if_pos (by omega)]); with_reducible rfl); (try simp only [Act.put, List.setIfInBounds_toArray, List.set_cons_zero, List.set_cons_succ])))
      refine SeqF.Float.stop (by rfl) ?_
      refine Seq.Seq.make (by rfl) (by rfl) (fun K Q' hK => ?_)
      go_simp
      have hA := below_one w1 (.cells #[.int .i64 0, .int .i64 0] 42)
      have hS2 := hS.trans (hA.mono hS.size)
      have hX := Blk.new w1 #[.int .i64 0, .int .i64 0] 42
      refine hK.out _ _ (hS2) ?_
      clear hK K
      try simp only [Act.put, List.setIfInBounds_toArray, List.set_cons_zero, List.set_cons_succ]
      have hfb : w.heap.size ≤ w1.heap.size := hS.size
      clear hA hS hS3 hb1
      generalize w1.heap.size = fb at *
      generalize w1.alloc (.cells #[.int .i64 0, .int .i64 0] 42) = wa at *
      obtain ⟨x0, x1⟩ := hX.c2
      obtain ⟨g0, g1⟩ := hX.f2
      obtain ⟨hXS, hkS⟩ := blk_set2 hX (.int .i64 c) (.int .i64 q)
      have hS4 := Kp.below hS2 (Nat.le_refl _) hkS hfb
      refine Seq.Seq.make (by rfl) (by rfl) (fun K Q' hK => ?_)
      go_simp
      refine hK.out _ _ (hS4) ?_
      clear hK K
      try simp only [Act.put, List.setIfInBounds_toArray, List.set_cons_zero, List.set_cons_succ]
      refine Seq.Seq.nil ?_
      go_wp2
      go_meet
      case rel => exact ⟨l, nn, c, q, fb, rfl, rfl, rfl, hXS, hS4, hfb, HST.out⟩
  case rest =>
    obtain ⟨l0, nn, c, q, fb, rfl, rfl, rfl, hX, hbx, hfb, hst⟩ := hcut
    obtain ⟨x0, x1⟩ := hX.c2
    have HFIN : ∀ w', _ → Below w.heap.size w w' := fun w' h => hbx.trans (Below.mono h hbx.size)
    have HF := Lib.hid HFIN
    have HC0 := Lib.hid C0
    clear HFIN C0 C1 hsl
    rcases hst with ⟨g0, rfl, rfl, rfl, rfl⟩ | ⟨g0, rfl, rfl, rfl, rfl⟩
    · obtain ⟨l, u, hvm, hu, hul, hll⟩ := vm_nat HBP.out g0
      have l2 := HL2.out
      have l3 : (l : Int) ≤ 2097152 := by omega
      have u3 : p + u ≤ n := by have := HZL.out; omega
      have HVM := Lib.hid hvm
      rw [show (vm (z.drop p) lim 0).1 = (l : Int) by rw [hvm], show (vm (z.drop p) lim 0).2.1 = (u : Int) by rw [hvm]]
      have HU := Lib.hid hu
      clear g0 hvm hu l2 hul hll
      by_cases hs : p + u + l + 4 ≤ n
      · have hlen : u + l + 4 ≤ (z.drop p).length := by rw [HZL.out]; omega
        obtain ⟨hyes, hno⟩ := fa_long HVM.out hlen
        have hq : (z.take (p + u + l)).drop (p + u) = piece (z.drop p) u (u + l) := by
          unfold piece
          rw [List.drop_drop, List.drop_take]
          congr 1
          omega
        have h4 : piece (z.drop (p + u + l)) 0 4 = piece (z.drop p) (u + l) (u + l + 4) := by
          unfold piece
          rw [List.drop_zero, List.drop_drop, show p + (u + l) = p + u + l by omega, show u + l + 4 - (u + l) = 4 by omega]
        have hL2 : (z.drop (p + u + l)).length = n - (p + u + l) := by rw [List.length_drop, HZ.out.1]
        have hfx : fx (z.drop (p + u + l)) 4 0 = (lev (piece (z.drop p) (u + l) (u + l + 4)), 4, 0, 0) := by
          unfold fx Rs.map
          rw [tk_is (by omega) (by rw [hL2]; omega), ← h4]
          rfl
        have hsm : sm (piece (z.drop p) u (u + l)) < 2 ^ 32 := sm_lt fun x hx => HBP.out x (List.mem_of_mem_drop (List.mem_of_mem_take hx))
        obtain ⟨A2, M2, hsl2, hbs2, hM2⟩ := slice_l HZ.out m ((p : Int) + u + l) (by omega) (by omega) hm
        rw [show ((p : Int) + u + l).toNat = p + u + l by omega] at hbs2
        have hby2 : Hid (∀ x ∈ z.drop (p + u + l), 0 ≤ x ∧ x < 256) := Lib.hid fun x hx => HBY.out x (List.mem_of_mem_drop hx)
        have hn3 : ((n : Int) - ((p : Int) + u + l)).toNat ≤ 1000000 := by omega
        have hbt : ∀ (w1 : World), Below w.heap.size w w1 → _ := fun w1 h1 => between_any (p + u) (p + u + l) (HH.out.below h1) (HBD.out.trans (h1.mono HBD.out.size)) HZ.out HBY.out HT.out (by omega) (by omega) HK.out hn
        rw [hq] at hbt
        rw [show ((p + u : Nat) : Int) = (p : Int) + u by omega, show ((p + u + l : Nat) : Int) = (p : Int) + u + l by omega] at hbt
        have hsz : ∀ w, Calls Tryd.prog 18 #[.int .i64 (l : Int)] w fun e w' => e = .returned (.int .i64 ((u : Int) + l + 4)) ∧ w = w' := fun w => by
          have := fsize_any (l : Int) w (by omega)
          rw [show max (l : Int) 0 = l by omega, ← HU.out] at this
          exact this
        generalize ((n : Int) - ((p : Int) + u + l)).toNat = n2 at *
        have s0 : (0 : Int) ≤ ((sm (piece (z.drop p) u (u + l)) : Nat) : Int) := by omega
        have s1 : ((sm (piece (z.drop p) u (u + l)) : Nat) : Int) < 4294967296 := by omega
        clear hsm
        generalize ((sm (piece (z.drop p) u (u + l)) : Nat) : Int) = y at *
        generalize lev (piece (z.drop p) (u + l) (u + l + 4)) = x at *
        have HYES := Lib.hid hyes
        have HNO := Lib.hid hno
        have HFX := Lib.hid hfx
        have HSZ := Lib.hid hsz
        have HBT := Lib.hid hbt
        have HB2 := Lib.hid hbs2
        have h1 : (p : Int) + u + l + 4 ≤ n := by omega
        clear hyes hno hfx hsz hbs2 hq h4 hL2 hlen hbt hs
        go_wp2_with fail
        refine (fgood_any _ _ _).mono ?_
        rintro e w2 ⟨rfl, hb2⟩
        rw [show ((0 : Int) == 0) = true from rfl]
        have c0 := HC0.out _ (HF.out _ hb2)
        have HBE := Lib.hid (HF.out _ hb2)
        clear x0 x1 hb2
        go_wp2_with fail
        refine (new_some _ _ _ _ hM2).mono ?_
        rintro e w3 ⟨b, rfl, hbb, hb3, hr3⟩
        have hbd3 := HBE.out.trans (hb3.mono HBE.out.size)
        have hbb' : w.heap.size ≤ b := Nat.le_trans HBE.out.size hbb
        have hb03 := HBD.out.trans (hbd3.mono HBD.out.size)
        clear c0
        have c0 := HC0.out _ hbd3
        go_wp2_with fail
        refine (bfixed_any _ _ _ _ _ _ _ _ 4 _ hr3 (HB2.out.below hb03) (by omega) (by omega) (Nat.le_refl _) hn3 hby2.out).mono ?_
        rw [min4]
        rintro e w4 ⟨v, p', c', q', rfl, hk4, hr4, hs4, v0, v1⟩
        have hv : v = x := by
          rw [HFX.out] at hs4
          obtain ⟨_, _, ⟨h, _⟩ | ⟨_, _, h, _⟩ | ⟨_, h, _⟩⟩ := hs4
          · exact absurd rfl h
          · exact h
          · exact absurd rfl h
        subst hv
        have hbd4 : Below w.heap.size w w4 := Kp.below hbd3 (Nat.le_refl _) hk4 hbb'
        have bt := HBT.out _ hbd4
        clear hs4 hk4 hr4 hr3 hb3 hb03 c0
        have HBD4 := Lib.hid hbd4
        clear hbd3 hbd4
        go_wp2_with fail
        with_reducible refine bt.mono ?_
        rintro e w5 ⟨r5, k5, rfl, hk5, hg5, hs5, hl5⟩
        have HKS := Lib.hid ((Ks.of_below (S := WS sb r) HBD4.out).trans hk5)
        have HGR := Lib.hid ((Gr.refl r w).trans hg5 HBD4.out.size)
        have HS5 := Lib.hid hs5
        have HL5 := Lib.hid hl5
        clear bt hk5 hg5 hs5 hl5
        by_cases hx : v = y
        · have hb : (v != y) = false := by simp [hx]
          obtain ⟨f1, f2⟩ := HYES.out hx
          have F1 := Lib.hid f1
          have F2 := Lib.hid f2
          clear hx f1 f2
          go_wp2_with fail
          refine (HSZ.out _).mono ?_
          rintro e w6 ⟨rfl, rfl⟩
          go_wp2
          go_ret2
          rw [F1.out, F2.out]
          exact ⟨r5, k5, rfl, HKS.out, HGR.out, HS5.out, HL5.out⟩
        · have hb : (v != y) = true := by simpa using hx
          obtain ⟨f1, f2⟩ := HNO.out hx
          have F1 := Lib.hid f1
          have F2 := Lib.hid f2
          clear hx f1 f2
          go_wp2
          go_ret2
          rw [F1.out, F2.out]
          exact ⟨r5, k5, rfl, HKS.out, HGR.out, HS5.out, HL5.out⟩
      · obtain ⟨f1, f2⟩ := fa_bad (fr_short HVM.out (by rw [HZL.out]; omega))
        have F1 := Lib.hid f1
        have F2 := Lib.hid f2
        have h1 : (n : Int) < (p : Int) + u + l + 4 := by omega
        clear f1 f2
        go_wp2_with fail
        refine (fgood_any _ _ _).mono ?_
        rintro e w2 ⟨rfl, hb2⟩
        rw [show ((0 : Int) == 0) = true from rfl]
        have c0 := HC0.out _ (HF.out _ hb2)
        have hbe := Lib.hid (HF.out _ hb2)
        clear x0 x1 hb2
        go_wp2
        go_ret2
        rw [F1.out, F2.out]
        exact ⟨r, k, rfl, Ks.of_below hbe.out, Gr.refl _ _, HH.out.below hbe.out, HK.out⟩
    · obtain ⟨f1, f2⟩ := fa_bad (fr_novm g0)
      have F1 := Lib.hid f1
      have F2 := Lib.hid f2
      have hc : ((vm (z.drop p) lim 0).2.2.1 == 0) = false := by simpa using g0
      clear g0 f1 f2
      generalize (vm (z.drop p) lim 0).2.2.1 = c at *
      generalize (vm (z.drop p) lim 0).2.2.2 = q at *
      go_wp2_with fail
      refine (fgood_any _ _ _).mono ?_
      rintro e w2 ⟨rfl, hb2⟩
      rw [hc]
      have hbe := Lib.hid (HF.out _ hb2)
      clear x0 x1 hb2 hc
      go_wp2
      go_ret2
      rw [F1.out, F2.out]
      exact ⟨r, k, rfl, Ks.of_below hbe.out, Gr.refl _ _, HH.out.below hbe.out, HK.out⟩
end Go.Proofs.YtncomjeidlahlaaDoor.Cur

namespace Go.Proofs.YtncomjeidlahlaaDoor.Cur
open Go.RowKit Mem CrcM
set_option linter.unusedVariables false
set_option maxRecDepth 100000


/-- The first of k positions from p on at which a frame begins. -/
def nxo (z : List Int) (lim : Int) : Nat → Nat → Option Nat
  | 0, _ => none
  | k + 1, p => if fao (z.drop p) lim = true then some p else nxo z lim k (p + 1)
def nx (z : List Int) (lim : Int) (p : Nat) : Option Nat := nxo z lim (z.length - p) p
theorem nx_yes {z : List Int} {lim : Int} {p : Nat} (h : p < z.length) (hf : fao (z.drop p) lim = true) : nx z lim p = some p := by
  unfold nx
  rw [show z.length - p = (z.length - (p + 1)) + 1 by omega, nxo, if_pos hf]
theorem nx_no {z : List Int} {lim : Int} {p : Nat} (h : p < z.length) (hf : fao (z.drop p) lim = false) : nx z lim p = nx z lim (p + 1) := by
  unfold nx
  rw [show z.length - p = (z.length - (p + 1)) + 1 by omega, nxo, if_neg (by simp [hf])]
theorem nx_end {z : List Int} {lim : Int} {p : Nat} (h : z.length ≤ p) : nx z lim p = none := by
  unfold nx
  rw [show z.length - p = 0 by omega, nxo]
/-- What search.next gives. -/
def nv (z : List Int) (lim : Int) (p : Nat) : Value :=
  match nx z lim p with
  | some q => .tuple #[.int .i64 (q : Int), .int .i64 (fas (z.drop q) lim), .bool true]
  | none => .tuple #[.int .i64 0, .int .i64 0, .bool false]

set_option maxHeartbeats 4000000 in
theorem snext_any {w0 w : World} {sb : Nat} {r : Option Nat} {A : Option Addr} {n m : Nat} {z : List Int} {lim : Int} {k : Nat} (p : Nat) (h : Sr w w0.heap.size sb r (.slice A n m) lim z k) (hbd : Below w0.heap.size w0 w)
    (hz : Bs w0 A n z) (hby : ∀ x ∈ z, 0 ≤ x ∧ x < 256) (hT : Tbs w0) (hp : p ≤ n) (hm : n ≤ m) (hk : k ≤ n + 1) (hn : n ≤ 100000) (hl : lim ≤ 2097152) :
    Calls Tryd.prog 53 #[.pointer (some ⟨sb, 0, none⟩), .int .i64 (p : Int)] w (APost w0.heap.size sb r (.slice A n m) lim z n (nv z lim p) w) := by
  have HBY := Lib.hid hby
  have HT := Lib.hid hT
  have HZ := Lib.hid hz
  have HZL := Lib.hid hz.1
  have HBD := Lib.hid hbd
  have HH := Lib.hid h
  have HK := Lib.hid hk
  have HL := Lib.hid hl
  clear hby hT hz hbd h hk hl
  go_enter Tryd.func53, Tryd.ntmps53
  go_wp2
  go_loopw [7] (fun kv wr => ∃ (q : Nat) (r' : Option Nat) (k' : Nat), q ≤ n ∧ kv = .int .i64 q ∧ Ks (WS sb r) w wr ∧ Gr r r' w ∧ Sr wr w0.heap.size sb r' (.slice A n m) lim z k' ∧ k' ≤ n + 1 ∧ Hid (nx z lim p = nx z lim q)) (fun kv _ => n - (intOf kv).toNat)
  case atStart => exact ⟨p, r, k, hp, rfl, Ks.refl _ _, Gr.refl _ _, HH.out, HK.out, Lib.hid rfl⟩
  case round =>
    obtain ⟨q, r', k', hq, rfl, hks, hgr, hsr, hk', HN⟩ := hrel
    have hbdr : Below w0.heap.size w0 wr := hks.below HBD.out (Nat.le_refl _) HH.out.ge
    have HKS := Lib.hid hks
    have HGR := Lib.hid hgr
    have HSR := Lib.hid hsr
    have HBR := Lib.hid hbdr
    have HK' := Lib.hid hk'
    obtain ⟨v, hv, hb, ho, hB⟩ := hsr
    have c0 := hb.c3.1
    clear hks hgr hv hb ho hbdr hk'
    by_cases hlt : q < n
    · have hqi : (q : Int) < n := by omega
      have hc := sframe_any q HSR.out HBR.out HZ.out HBY.out HT.out (by omega) hm HK'.out hn HL.out
      cases hf : fao (z.drop q) lim
      · rw [hf] at hc
        have HF := Lib.hid hf
        clear hf
        go_wp2_with fail
        with_reducible refine hc.mono ?_
        rintro e w1 ⟨r1, k1, rfl, hk1, hg1, hs1, hl1⟩
        clear c0 hc
        go_wp2
        go_roundw
        case rel => exact ⟨q + 1, r1, k1, by omega, by go_num, Ks.wr HKS.out HGR.out hk1, HGR.out.trans hg1 HKS.out.size, hs1, hl1, Lib.hid (HN.out.trans (nx_no (by rw [HZL.out]; exact hlt) HF.out))⟩
        case measure => simp [intOf]; omega
      · rw [hf] at hc
        have HV : Hid (nv z lim p = .tuple #[.int .i64 (q : Int), .int .i64 (fas (z.drop q) lim), .bool true]) := Lib.hid (by unfold nv; rw [HN.out, nx_yes (by rw [HZL.out]; exact hlt) hf])
        clear hf
        generalize fas (z.drop q) lim = sz at *
        go_wp2_with fail
        with_reducible refine hc.mono ?_
        rintro e w1 ⟨r1, k1, rfl, hk1, hg1, hs1, hl1⟩
        have H1 := Lib.hid (Ks.wr HKS.out HGR.out hk1)
        have H2 := Lib.hid (HGR.out.trans hg1 HKS.out.size)
        clear c0 hc hk1 hg1
        go_wp2
        refine bodyPost_ret (v := .tuple #[.int .i64 (q : Int), .int .i64 sz, .bool true]) (by simp [results, Tryd.results53, go_sem]) rfl ?_
        rw [HV.out]
        exact ⟨r1, k1, rfl, H1.out, H2.out, hs1, hl1⟩
    · obtain rfl : q = n := by omega
      have HV : Hid (nv z lim p = .tuple #[.int .i64 0, .int .i64 0, .bool false]) := Lib.hid (by unfold nv; rw [HN.out, nx_end (by rw [HZL.out]; exact Nat.le_refl _)])
      go_wp2
      refine bodyPost_ret (v := .tuple #[.int .i64 0, .int .i64 0, .bool false]) (by simp [results, Tryd.results53, go_sem]) rfl ?_
      rw [HV.out]
      exact ⟨r', k', rfl, HKS.out, HGR.out, HSR.out, HK'.out⟩
end Go.Proofs.YtncomjeidlahlaaDoor.Cur

namespace Go.Proofs.YtncomjeidlahlaaDoor.Cur
open Go.RowKit Mem CrcM
set_option linter.unusedVariables false
set_option maxRecDepth 100000


theorem blk_set3 {w : World} {b : Nat} {v0 v1 v2 : Value} {t : Nat} (h : Blk w b #[v0, v1, v2] t) (u0 u1 u2 : Value) : Blk (((w.setCell ⟨b, 0, none⟩ u0).setCell ⟨b, 1, none⟩ u1).setCell ⟨b, 2, none⟩ u2) b #[u0, u1, u2] t ∧ Kp b w (((w.setCell ⟨b, 0, none⟩ u0).setCell ⟨b, 1, none⟩ u1).setCell ⟨b, 2, none⟩ u2) :=
  ⟨((h.set 0 u0).set 1 u1).set 2 u2, ((Kp.setCell _ _ _ _).trans (Kp.setCell _ _ _ _)).trans (Kp.setCell _ _ _ _)⟩
/-- A search begins. -/
theorem Sr.new {w w1 : World} {sb B : Nat} {s : Value} {lim : Int} (z : List Int) (h : Blk w1 sb #[s, .int .i64 lim, .slice none 0 0] 93) (hB : B ≤ sb) : Sr w1 B sb none s lim z 0 :=
  ⟨.slice none 0 0, rfl, h, ⟨by simp [SrV], .inl ⟨rfl, rfl⟩⟩, hB⟩
/-- What Next gives. -/
def nvN (z : List Int) (lim : Int) (f : Nat) : Value :=
  match nx (z.drop f) lim 0 with
  | some q => .tuple #[.int .i64 ((f : Int) + q), .bool true]
  | none => .tuple #[.int .i64 0, .bool false]
theorem nxo_lt {z : List Int} {lim : Int} {q : Nat} : ∀ (k p : Nat), nxo z lim k p = some q → p ≤ q ∧ q < p + k
  | 0, p, h => by cases h
  | k + 1, p, h => by
    unfold nxo at h
    split at h
    · cases h; omega
    · have := nxo_lt k (p + 1) h; omega
theorem nx_lt {z : List Int} {lim : Int} {p q : Nat} (h : nx z lim p = some q) : p ≤ q ∧ q < z.length := by
  have := nxo_lt _ _ h
  omega

set_option maxHeartbeats 4000000 in
theorem fnext_any {w : World} {A : Option Addr} {n m : Nat} {z : List Int} (fr mo : Int) (F : Nat) (hz : Bs w A n z) (hby : ∀ x ∈ z, 0 ≤ x ∧ x < 256) (hT : Tbs w) (hm : n ≤ m) (hn : n ≤ 100000) (hF : min (max fr 0) (n : Int) = F) :
    Calls Tryd.prog 29 #[.slice A n m, .int .i64 fr, .int .i64 mo] w fun e w' => e = .returned (nvN z (min mo 2097152) F) ∧ Below w.heap.size w w' := by
  have HBY := Lib.hid hby
  have HT := Lib.hid hT
  have hFn : F ≤ n := by omega
  have e1 : (F : Int) ≤ n := by omega
  have e2 : (0 : Int) ≤ F := by omega
  obtain ⟨A', M, hsl, hbs, hM⟩ := slice_l hz m (F : Int) e2 e1 hm
  rw [Int.toNat_natCast] at hbs
  have hdl : (z.drop F).length = n - F := by rw [List.length_drop, hz.1]
  have hbp : Hid (∀ x ∈ z.drop F, 0 ≤ x ∧ x < 256) := Lib.hid fun x hx => hby x (List.mem_of_mem_drop hx)
  have hli := fun w => limited_any mo w
  have hlim : Hid (min mo 2097152 ≤ 2097152) := Lib.hid (by omega)
  have hn' : Hid (((n : Int) - F).toNat ≤ 100000) := Lib.hid (by omega)
  generalize ((n : Int) - F).toNat = n' at *
  generalize min mo 2097152 = lim at *
  have HLI := Lib.hid hli
  have HBS := Lib.hid hbs
  have HDL := Lib.hid hdl
  have HZ := Lib.hid hz
  clear hby hT hli hbs hz hdl
  go_enter Tryd.func29, Tryd.ntmps29
  go_wp2
  have hS : Below w.heap.size w w.drew := below_one' w
  refine SeqQ.wp_region_seq (fun w' => Below w.heap.size w w') 21 (.int .i64 lim) (by kernel_rfl) (by kernel_rfl) hS ?_
  generalize w.drew = wd at *
  repeat (first | (refine SeqQ.Seq.skip (by rfl) ?_; (try simp only [Act.put, List.setIfInBounds_toArray, List.set_cons_zero, List.set_cons_succ])) | (refine SeqQ.Seq.det ?_ (by rfl) (fun w hS => ?_) ?_; rotate_left; ((try dsimp only at hS); go_simp; (try rw [if_pos (by omega)]); with_reducible rfl); (try simp only [Act.put, List.setIfInBounds_toArray, List.set_cons_zero, List.set_cons_succ])))
  refine SeqQ.Seq.calm rfl (by rfl) (fun w' hS => ⟨42, #[.int .i64 mo], by (first | (simp [execOp, resolve, invoke]; done) | (simp [execOp, resolve, invoke]; rfl)), (HLI.out w').mono (by rintro e w1 ⟨rfl, rfl⟩; exact ⟨rfl, rfl⟩)⟩) ?_
  try simp only [Act.put, List.setIfInBounds_toArray, List.set_cons_zero, List.set_cons_succ]
  repeat (first | (refine SeqQ.Seq.skip (by rfl) ?_; (try simp only [Act.put, List.setIfInBounds_toArray, List.set_cons_zero, List.set_cons_succ])) | (refine SeqQ.Seq.det ?_ (by rfl) (fun w hS => ?_) ?_; rotate_left; ((try dsimp only at hS); go_simp; (try rw [if_pos (by omega)]); with_reducible rfl); (try simp only [Act.put, List.setIfInBounds_toArray, List.set_cons_zero, List.set_cons_succ])))
  refine SeqQ.Seq.make (by rfl) (by rfl) (fun K Q' hK => ?_)
  go_simp
  have hA := below_one wd (.cells #[.slice none 0 0, .int .i64 0, .slice none 0 0] 93)
  have hS2 := hS.trans (hA.mono hS.size)
  have hX := Blk.new wd #[.slice none 0 0, .int .i64 0, .slice none 0 0] 93
  refine hK.out _ _ (hS2) ?_
  clear hK K
  try simp only [Act.put, List.setIfInBounds_toArray, List.set_cons_zero, List.set_cons_succ]
  have hsb : w.heap.size ≤ wd.heap.size := hS.size
  clear hA hS
  generalize wd.heap.size = sb at *
  generalize wd.alloc (.cells #[.slice none 0 0, .int .i64 0, .slice none 0 0] 93) = wa at *
  obtain ⟨x0, x1, x2⟩ := hX.c3
  have g0 := hX.free 0
  have g1 := hX.free 1
  have g2 := hX.free 2
  obtain ⟨hXS, hkS⟩ := blk_set3 hX (.slice A' n' M) (.int .i64 lim) (.slice none 0 0)
  have hS4 := Kp.below hS2 (Nat.le_refl _) hkS hsb
  refine SeqQ.Seq.make (by rfl) (by rfl) (fun K Q' hK => ?_)
  go_simp
  refine hK.out _ _ (hS4) ?_
  clear hK K
  try simp only [Act.put, List.setIfInBounds_toArray, List.set_cons_zero, List.set_cons_succ]
  refine SeqQ.Seq.nil ?_
  clear x0 x1 x2 g0 g1 g2 hX hkS hS2
  generalize ((wa.setCell ⟨sb, 0, none⟩ (.slice A' n' M)).setCell ⟨sb, 1, none⟩ (.int .i64 lim)).setCell ⟨sb, 2, none⟩ (.slice none 0 0) = wc at *
  have hsr := Sr.new (w := w) (B := w.heap.size) (z.drop F) hXS hsb
  have hc := snext_any 0 hsr hS4 HBS.out hbp.out HT.out (Nat.zero_le _) hM (Nat.zero_le _) hn'.out hlim.out
  rw [show ((0 : Nat) : Int) = 0 from rfl] at hc
  have HGE := Lib.hid hsr.ge
  have HS4 := Lib.hid hS4
  have HNX : Hid (∀ q, nx (z.drop F) lim 0 = some q → q < n) := Lib.hid fun q h => by have := nx_lt h; rw [HDL.out] at this; omega
  clear hsr hXS hS4
  cases h : nx (z.drop F) lim 0 with
  | none =>
    have HV : Hid (nvN z lim F = .tuple #[.int .i64 0, .bool false]) := Lib.hid (by unfold nvN; rw [h])
    rw [show nv (z.drop F) lim 0 = .tuple #[.int .i64 0, .int .i64 0, .bool false] by unfold nv; rw [h]] at hc
    clear h
    go_wp2_with fail
    with_reducible refine hc.mono ?_
    rintro e w1 ⟨r1, k1, rfl, hk1, hg1, hs1, hl1⟩
    have HB := Lib.hid (hk1.below HS4.out (Nat.le_refl _) HGE.out)
    clear hc hk1 hg1 hs1 hl1
    go_wp2
    go_ret2
    exact ⟨by rw [HV.out]; rfl, HB.out⟩
  | some q =>
    have HV : Hid (nvN z lim F = .tuple #[.int .i64 ((F : Int) + q), .bool true]) := Lib.hid (by unfold nvN; rw [h])
    rw [show nv (z.drop F) lim 0 = .tuple #[.int .i64 (q : Int), .int .i64 (fas ((z.drop F).drop q) lim), .bool true] by unfold nv; rw [h]] at hc
    have hq := HNX.out q h
    clear h
    generalize fas ((z.drop F).drop q) lim = sz at *
    go_wp2_with fail
    with_reducible refine hc.mono ?_
    rintro e w1 ⟨r1, k1, rfl, hk1, hg1, hs1, hl1⟩
    have HB := Lib.hid (hk1.below HS4.out (Nat.le_refl _) HGE.out)
    clear hc hk1 hg1 hs1 hl1
    go_wp2
    go_ret2
    exact ⟨by rw [HV.out]; rfl, HB.out⟩
end Go.Proofs.YtncomjeidlahlaaDoor.Cur
