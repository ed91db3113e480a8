/- A region that draws its order, gone through in the order of its text: a law of my own. What only looks may come at any time; what makes or changes something comes in one order. -/
import Derived.Test.YtkedmhopajpkhaaMem
import Derived.OrdersHeld
import Derived.Deep.RegionHeld
import Derived.Deep.RegionHeld3
namespace Go.Proofs.Ytkedmhopajpkhaa.Seq
set_option linter.unusedVariables false

section
variable {P : Program} {ops : Array Oper} {Q : Exit → Act → World → Prop} {S : World → Prop}

def NoExit : Exit → Act → World → Prop := fun _ _ _ => False
/-- Calls of a Go function, and what writes. -/
def making (o : Oper) : Bool :=
  match o.op with
  | .call c => match c.callee with
    | .builtin .append | .builtin .make | .builtin .new | .builtin .copy | .builtin .clear | .builtin .delete | .value _ | .invoke .. => true
    | _ => false
  | .store .. | .alloc .. | .go _ | .defer _ => true
  | _ => false

/-- The order of the text. -/
def Seq (P : Program) (ops : Array Oper) (S : World → Prop) (Q : Exit → Act → World → Prop) : List Oper → Act → World → Prop
  | [], a, w => Q .normal a w
  | o :: rest, a, w =>
    (∃ v, YieldsIf P ops S o v a ∧ Seq P ops S Q rest (a.put o.dst v) w) ∨
    (making o = true ∧ Region.wanted o (yielded ops a.tmps) = true ∧ o.wp P a w (fun a' w' => S w' ∧ Seq P ops S Q rest a' w') NoExit)

theorem wp_mono {o : Oper} {a : Act} {w : World} {K K' : Act → World → Prop} {Q Q' : Exit → Act → World → Prop} (h : ∀ a w, K a w → K' a w) (hQ : ∀ c a w, Q (.panic c) a w → Q' (.panic c) a w) (hl : LetsOut Q → LetsOut Q')
    (hh : o.wp P a w K Q) : o.wp P a w K' Q' := by
  unfold Oper.wp at *
  generalize (execOp a.eval o).run P w = r at *
  cases r with
  | ok n w' =>
    cases n <;> simp only [Oper.upon] at hh ⊢
    case value => exact h _ _ hh
    case skip => exact h _ _ hh
    case defer => exact h _ _ hh
    case enter => exact Calls.mono hh (fun e w'' he => by cases e <;> first | exact h _ _ he | exact hQ _ _ _ he | exact hl he)
    case row => exact Rows.mono hh (fun _ _ he => h _ _ he)
  | halt x w' => cases x <;> simp only [Oper.upon] at hh ⊢; exact hQ _ _ _ hh
theorem letsOut_no : ¬ LetsOut NoExit := fun ⟨_, _, h⟩ => h

/-- Something comes of it. -/
theorem wp_some {o : Oper} {a : Act} {w : World} {K : Act → World → Prop} (hh : o.wp P a w K NoExit) : ∃ a' w', K a' w' ∧ ∃ u, a' = a.put o.dst u ∨ ∃ d, a' = ({ a with defers := d :: a.defers } : Act).put o.dst u := by
  unfold Oper.wp at hh
  generalize (execOp a.eval o).run P w = r at *
  cases r with
  | ok n w' =>
    cases n <;> simp only [Oper.upon] at hh
    case value u => exact ⟨_, _, hh, u, .inl rfl⟩
    case skip => exact ⟨_, _, hh, undef, .inl rfl⟩
    case defer d => exact ⟨_, _, hh, undef, .inr ⟨d, rfl⟩⟩
    case enter f args =>
      obtain ⟨e, w'', _, he, _⟩ := hh []
      cases e with
      | returned u => exact ⟨_, _, he, u, .inl rfl⟩
      | panicked c => exact absurd he (fun h => h)
      | outgrown => exact absurd he letsOut_no
    case row row args =>
      obtain ⟨u, w'', he, _⟩ := hh (Frame.ofRow P row args .normal) []
      exact ⟨_, _, he, u, .inl rfl⟩
  | halt x w' => cases x <;> simp only [Oper.upon] at hh; exact absurd hh (fun h => h)

/-- What holds behind o, o's frame being turned at a temporary that o does not look at. -/
theorem wp_put {o : Oper} (hs : ∀ cs b, o.op ≠ .select cs b) {d : Option Tmp} {v : Value} (h1 : ∀ t, d = some t → t ∉ o.looksAt ops) (h2 : ∀ t, d = some t → o.dst ≠ some t)
    {a : Act} {w : World} {K : Act → World → Prop} (h : o.wp P (a.put d v) w K NoExit) : o.wp P a w (fun a' w' => K (a'.put d v) w' ∧ ∃ u, a' = a.put o.dst u ∨ ∃ x, a' = ({ a with defers := x :: a.defers } : Act).put o.dst u) NoExit := by
  unfold Oper.wp at *
  rw [execOp_put o hs a d v h1] at h
  generalize (execOp a.eval o).run P w = r at *
  cases r with
  | ok n w' =>
    cases n <;> simp only [Oper.upon] at h ⊢
    case value u => exact ⟨by rw [← Act.put_comm a v u h2]; exact h, u, .inl rfl⟩
    case skip => exact ⟨by rw [← Act.put_comm a v undef h2]; exact h, undef, .inl rfl⟩
    case defer x => exact ⟨by rw [← Act.put_comm _ v undef h2, ← Act.put_defers]; exact h, undef, .inr ⟨x, rfl⟩⟩
    case enter f args =>
      refine Calls.mono h fun e w'' he => ?_
      cases e with
      | returned u => exact ⟨by rw [← Act.put_comm a v u h2]; exact he, u, .inl rfl⟩
      | panicked c => exact he
      | outgrown => exact he
    case row row args => exact Rows.mono h fun u w'' he => ⟨by rw [← Act.put_comm a v u h2]; exact he, u, .inl rfl⟩
  | halt x w' => cases x <;> simp only [Oper.upon] at h ⊢; exact h
/-- The other way round. -/
theorem wp_unput {o : Oper} (hs : ∀ cs b, o.op ≠ .select cs b) {d : Option Tmp} {v : Value} (h1 : ∀ t, d = some t → t ∉ o.looksAt ops) (h2 : ∀ t, d = some t → o.dst ≠ some t)
    {a : Act} {w : World} {K : Act → World → Prop} (h : o.wp P a w (fun a' w' => (∃ u, a' = a.put o.dst u ∨ ∃ x, a' = ({ a with defers := x :: a.defers } : Act).put o.dst u) → K (a'.put d v) w') NoExit) : o.wp P (a.put d v) w K NoExit := by
  unfold Oper.wp at *
  rw [execOp_put o hs a d v h1]
  generalize (execOp a.eval o).run P w = r at *
  cases r with
  | ok n w' =>
    cases n <;> simp only [Oper.upon] at h ⊢
    case value u => rw [Act.put_comm a v u h2]; exact h ⟨u, .inl rfl⟩
    case skip => rw [Act.put_comm a v undef h2]; exact h ⟨undef, .inl rfl⟩
    case defer x => rw [Act.put_defers, Act.put_comm _ v undef h2]; exact h ⟨undef, .inr ⟨x, rfl⟩⟩
    case enter f args =>
      refine Calls.mono h fun e w'' he => ?_
      cases e with
      | returned u => show K _ _; rw [Act.put_comm a v u h2]; exact he ⟨u, .inl rfl⟩
      | panicked c => exact he
      | outgrown => exact he
    case row row args => exact Rows.mono h fun u w'' he => by rw [Act.put_comm a v u h2]; exact he ⟨u, .inl rfl⟩
  | halt x w' => cases x <;> simp only [Oper.upon] at h ⊢; exact h

theorem yields_of_put {o : Oper} (hs : ∀ cs b, o.op ≠ .select cs b) {d : Option Tmp} {u v : Value} (h : ∀ t, d = some t → t ∉ o.looksAt ops) {a : Act} :
    YieldsIf P ops S o v (a.put d u) ↔ YieldsIf P ops S o v a := by
  unfold YieldsIf
  rw [execOp_put o hs a d u h, wanted_put o a d u h]
theorem yields_of_defers {o : Oper} {v : Value} {a : Act} {x : Deferred} : YieldsIf P ops S o v ({ a with defers := x :: a.defers } : Act) ↔ YieldsIf P ops S o v a := Iff.rfl
theorem yields_of_after {o i : Oper} (hs : ∀ cs b, o.op ≠ .select cs b) {v : Value} (h : ∀ t, i.dst = some t → t ∉ o.looksAt ops) {a a' : Act}
    (ha : ∃ u, a' = a.put i.dst u ∨ ∃ x, a' = ({ a with defers := x :: a.defers } : Act).put i.dst u) : YieldsIf P ops S o v a' ↔ YieldsIf P ops S o v a := by
  obtain ⟨u, rfl | ⟨x, rfl⟩⟩ := ha
  · exact yields_of_put hs h
  · exact (yields_of_put hs h).trans yields_of_defers
theorem yields_one {o : Oper} {v v' : Value} {a : Act} {w : World} (hS : S w) (h : YieldsIf P ops S o v a) (h' : YieldsIf P ops S o v' a) : v = v' := by
  rcases h with ⟨hw, hv⟩ | ⟨hw, rfl⟩ <;> rcases h' with ⟨hw', hv'⟩ | ⟨hw', rfl⟩
  · have := (hv w hS).symm.trans (hv' w hS)
    injection this with this
    injection this
  · rw [hw] at hw'; cases hw'
  · rw [hw] at hw'; cases hw'
  · rfl

/-- Operation j, apart from all ahead of it, may come now. -/
def Pulled (P : Program) (ops : Array Oper) (S : World → Prop) (Q : Exit → Act → World → Prop) (j : Oper) (rest : List Oper) (a : Act) (w : World) : Prop :=
  (∃ v, YieldsIf P ops S j v a ∧ Seq P ops S Q rest (a.put j.dst v) w) ∨
  (making j = true ∧ Region.wanted j (yielded ops a.tmps) = true ∧ j.wp P a w (fun a' w' => S w' ∧ Seq P ops S Q rest a' w') NoExit)

theorem pull {j : Oper} (hsj : ∀ cs b, j.op ≠ .select cs b) (post : List Oper) : ∀ (pre : List Oper) (a : Act) (w : World), (∀ i ∈ pre, i.apart ops j = true ∧ (making i && making j) = false ∧ ∀ cs b, i.op ≠ .select cs b) → S w →
    Seq P ops S Q (pre ++ j :: post) a w → Pulled P ops S Q j (pre ++ post) a w
  | [], a, w, _, hS, h => h
  | i :: pre, a, w, hpre, hS, h => by
    obtain ⟨hap, hmk, hsi⟩ := hpre i (List.mem_cons_self ..)
    obtain ⟨h1, h2, h3⟩ := Oper.apart_spec hap
    have h2' : ∀ d, j.dst = some d → i.dst ≠ some d := fun d hd he => h2 d he hd
    have ih := pull hsj post pre
    have hpre' : ∀ i ∈ pre, i.apart ops j = true ∧ (making i && making j) = false ∧ ∀ cs b, i.op ≠ .select cs b := fun k hk => hpre k (List.mem_cons_of_mem _ hk)
    rcases h with ⟨v, hy, h⟩ | ⟨hm, hw, h⟩
    · rcases ih (a.put i.dst v) w hpre' hS h with ⟨u, hyj, hr⟩ | ⟨hmj, hwj, hr⟩
      · refine .inl ⟨u, (yields_of_put hsj h1).1 hyj, .inl ⟨v, (yields_of_put hsi h3).2 hy, ?_⟩⟩
        rw [← Act.put_comm a v u h2]
        exact hr
      · refine .inr ⟨hmj, by rw [← wanted_put j a i.dst v h1]; exact hwj, ?_⟩
        refine wp_mono (fun a' w' h' => ?_) (fun _ _ _ h => h) (fun h => h) (wp_put hsj h1 h2 hr)
        exact ⟨h'.1.1, .inl ⟨v, (yields_of_after hsi h3 h'.2).2 hy, h'.1.2⟩⟩
    · have hmj : making j = false := by simpa [hm] using hmk
      have key : i.wp P a w (fun a' w' => S w' ∧ ∃ v, YieldsIf P ops S j v a' ∧ Seq P ops S Q (pre ++ post) (a'.put j.dst v) w') NoExit :=
        wp_mono (fun a' w' h' => ⟨h'.1, by
          rcases ih a' w' hpre' h'.1 h'.2 with hh | ⟨hmj', _⟩
          · exact hh
          · rw [hmj] at hmj'; cases hmj'⟩) (fun _ _ _ h => h) (fun h => h) h
      obtain ⟨a1, w1, ⟨_, v, hyv, _⟩, ha1⟩ := wp_some key
      have hyv' : YieldsIf P ops S j v a := (yields_of_after hsj h1 ha1).1 hyv
      refine .inl ⟨v, hyv', .inr ⟨hm, by rw [wanted_put i a j.dst v h3]; exact hw, ?_⟩⟩
      refine wp_unput hsi h3 h2' (wp_mono (fun a' w' h' ha' => ?_) (fun _ _ _ h => h) (fun h => h) key)
      obtain ⟨hS', v', hy', hr'⟩ := h'
      obtain rfl := yields_one hS hyv' ((yields_of_after hsj h1 ha').1 hy')
      exact ⟨hS', hr'⟩

/-- Operation j waits for operation i, at once or by others. -/
inductive Waits (md : Region.Mode) (ops : Array Oper) : Nat → Nat → Prop where
  | one {j : Nat} {o : Oper} {e : Edge} (ho : ops[j]? = some o) (he : e ∈ o.after) (hb : Region.binds md e = true) : Waits md ops j e.on
  | more {j i : Nat} {o : Oper} {e : Edge} (ho : ops[j]? = some o) (he : e ∈ o.after) (hb : Region.binds md e = true) (h : Waits md ops e.on i) : Waits md ops j i
/-- Those for which an operation waits, as digits of a number. -/
def maskOf (md : Region.Mode) (M : List Nat) : List Edge → Nat → Nat
  | [], m => m
  | e :: l, m => maskOf md M l (match Region.binds md e with | true => Nat.lor (Nat.lor m (Nat.shiftLeft 1 e.on)) (M.getD e.on 0) | false => m)
def masks (md : Region.Mode) : List Oper → List Nat → List Nat
  | [], M => M
  | o :: l, M => masks md l (M ++ [maskOf md M o.after.toList 0])
theorem maskOf_spec {md : Region.Mode} {M : List Nat} {i : Nat} : ∀ (l : List Edge) (m : Nat), (maskOf md M l m).testBit i = true → m.testBit i = true ∨ ∃ e ∈ l, Region.binds md e = true ∧ (e.on = i ∨ (M.getD e.on 0).testBit i = true)
  | [], m, h => .inl h
  | e :: l, m, h => by
    unfold maskOf at h
    rcases maskOf_spec l _ h with h | ⟨x, hx, hb, h⟩
    · cases hb : Region.binds md e with
      | true =>
        simp only [hb] at h
        rw [show Nat.lor (Nat.lor m (Nat.shiftLeft 1 e.on)) (M.getD e.on 0) = (m ||| (1 <<< e.on)) ||| M.getD e.on 0 from rfl, Nat.testBit_or, Nat.testBit_or, Bool.or_eq_true, Bool.or_eq_true] at h
        rcases h with (h | h) | h
        · exact .inl h
        · refine .inr ⟨e, List.mem_cons_self .., hb, .inl ?_⟩
          rw [Nat.testBit_shiftLeft] at h
          simp only [Bool.and_eq_true, decide_eq_true_eq] at h
          have h2 := h.2
          rcases Nat.eq_zero_or_pos (i - e.on) with h3 | h3
          · omega
          · rw [show i - e.on = (i - e.on - 1) + 1 by omega, Nat.testBit_succ] at h2
            simp at h2
        · exact .inr ⟨e, List.mem_cons_self .., hb, .inr h⟩
      | false =>
        simp only [hb] at h
        exact .inl h
    · exact .inr ⟨x, List.mem_cons_of_mem _ hx, hb, h⟩
theorem masks_spec {md : Region.Mode} : ∀ (l : List Oper) (M : List Nat), (∀ j o, l[j]? = some o → ops[M.length + j]? = some o) → (∀ j i, (M.getD j 0).testBit i = true → Waits md ops j i) →
    ∀ j i, ((masks md l M).getD j 0).testBit i = true → Waits md ops j i
  | [], M, _, h => h
  | o :: l, M, hl, h => by
    refine masks_spec l _ (fun j o' ho => ?_) (fun j i hji => ?_)
    · have := hl (j + 1) o' (by simpa using ho)
      rw [List.length_append, List.length_cons, List.length_nil]
      rw [← this]
      congr 1
      omega
    · rcases Nat.lt_trichotomy j M.length with hj | rfl | hj
      · refine h j i ?_
        simpa [List.getD_eq_getElem?_getD, List.getElem?_append_left hj] using hji
      · have : (maskOf md M o.after.toList 0).testBit i = true := by simpa [List.getD_eq_getElem?_getD] using hji
        rcases maskOf_spec _ _ this with h0 | ⟨e, he, hb, h1⟩
        · simp at h0
        · have ho : ops[M.length]? = some o := by have := hl 0 o (by simp); simpa using this
          rcases h1 with rfl | h1
          · exact .one ho (by simpa using he) hb
          · exact .more ho (by simpa using he) hb (h _ _ h1)
      · have : (M ++ [maskOf md M o.after.toList 0]).getD j 0 = 0 := by
          rw [List.getD_eq_getElem?_getD, List.getElem?_eq_none (by simp; omega)]
          rfl
        rw [this] at hji
        simp at hji
/-- The check of the text: of two operations the later one waits for the earlier one, or they are apart and not both make something. -/
def inText (md : Region.Mode) (l : List Oper) : Bool :=
  Region.noSelect l.toArray && go md l.toArray (masks md l []) l 0
where
  go (md : Region.Mode) (ops : Array Oper) (M : List Nat) : List Oper → Nat → Bool
    | [], _ => true
    | oj :: rest, j => oj.after.toList.all (fun e => !Region.binds md e || Nat.blt e.on j) && goo ops oj ((M.getD j 0)) ops.toList 0 j && go md ops M rest (j + 1)
  goo (ops : Array Oper) (oj : Oper) (m : Nat) : List Oper → Nat → Nat → Bool
    | [], _, _ => true
    | oi :: rest, i, j => Nat.ble j i || ((Nat.testBit m i || (oi.apart ops oj && !(making oi && making oj))) && goo ops oj m rest (i + 1) j)

theorem goo_spec {oj : Oper} {m j : Nat} : ∀ (l : List Oper) (k : Nat), inText.goo ops oj m l k j = true → ∀ i oi, l[i]? = some oi → k + i < j → m.testBit (k + i) = true ∨ (oi.apart ops oj = true ∧ (making oi && making oj) = false)
  | [], _, _, i, oi, h, _ => by simp at h
  | o :: l, k, h, i, oi, hi, hlt => by
    unfold inText.goo at h
    rw [Bool.or_eq_true, Bool.and_eq_true] at h
    rcases h with h | ⟨h1, h2⟩
    · have := Nat.le_of_ble_eq_true h; omega
    · cases i with
      | zero =>
        simp only [List.getElem?_cons_zero, Option.some.injEq] at hi
        subst hi
        rw [Bool.or_eq_true] at h1
        rcases h1 with h1 | h1
        · exact .inl h1
        · simp only [Bool.and_eq_true, Bool.not_eq_true'] at h1
          exact .inr h1
      | succ i =>
        have := goo_spec l (k + 1) h2 i oi (by simpa using hi) (by omega)
        rw [show k + (i + 1) = k + 1 + i by omega]
        exact this
theorem go_spec {md : Region.Mode} {M : List Nat} : ∀ (l : List Oper) (k : Nat), inText.go md ops M l k = true → ∀ j oj, l[j]? = some oj →
    (∀ e ∈ oj.after, Region.binds md e = true → e.on < k + j) ∧ ∀ i oi, i < k + j → ops[i]? = some oi → (M.getD (k + j) 0).testBit i = true ∨ (oi.apart ops oj = true ∧ (making oi && making oj) = false)
  | [], _, _, j, oj, h => by simp at h
  | o :: l, k, h, j, oj, hj => by
    unfold inText.go at h
    simp only [Bool.and_eq_true] at h
    obtain ⟨⟨h1, h2⟩, h3⟩ := h
    cases j with
    | zero =>
      simp only [List.getElem?_cons_zero, Option.some.injEq] at hj
      subst hj
      refine ⟨fun e he hb => ?_, fun i oi hi hoi => ?_⟩
      · have := List.all_eq_true.1 h1 e (by simpa using he)
        simp only [hb, Bool.not_true, Bool.false_or] at this
        rw [Nat.blt_eq] at this
        omega
      · have := goo_spec ops.toList 0 h2 i oi (by simpa using hoi) (by omega)
        simpa using this
    | succ j =>
      have := go_spec l (k + 1) h3 j oj (by simpa using hj)
      rw [show k + (j + 1) = k + 1 + j by omega]
      exact this

def rem (ops : Array Oper) (listed : Array Bool) (l : List Nat) : List Oper := (l.filter fun i => !listed.getD i true).filterMap fun i => ops[i]?

theorem rem_append (listed : Array Bool) (l k : List Nat) : rem ops listed (l ++ k) = rem ops listed l ++ rem ops listed k := by
  simp [rem, List.filter_append, List.filterMap_append]
theorem rem_set {listed : Array Bool} {j : Nat} : ∀ (l : List Nat), j ∉ l → rem ops (listed.setIfInBounds j true) l = rem ops listed l
  | [], _ => rfl
  | i :: l, h => by
    have hne : j ≠ i := fun e => h (by simp [e])
    have := rem_set (listed := listed) l (fun e => h (List.mem_cons_of_mem _ e))
    unfold rem at *
    simp only [List.filter_cons, getD_set_ne true hne]
    split
    · simp only [List.filterMap_cons]; split <;> simp_all
    · exact this

theorem range_split {n j : Nat} (h : j < n) : List.range n = List.range j ++ j :: (List.range' (j + 1) (n - j - 1)) := by
  rw [List.range_eq_range', List.range_eq_range', show j :: List.range' (j + 1) (n - j - 1) = List.range' j (n - j) by
    rw [show n - j = (n - j - 1) + 1 by omega, List.range'_succ]; simp]
  have := List.range'_append_1 (s := 0) (m := j) (n := n - j)
  rw [Nat.zero_add] at this
  rw [this]
  congr 1
  omega

theorem mem_rem {listed : Array Bool} {l : List Nat} {o : Oper} (h : o ∈ rem ops listed l) : ∃ i ∈ l, listed.getD i true = false ∧ ops[i]? = some o := by
  unfold rem at h
  obtain ⟨i, hi, ho⟩ := List.mem_filterMap.1 h
  obtain ⟨hi, hl⟩ := List.mem_filter.1 hi
  exact ⟨i, hi, by simpa using hl, ho⟩

theorem wpAny_of_seq {md : Region.Mode} {l : List Oper} (hops : ops = l.toArray) (hc : inText md l = true) : ∀ (fuel : Nat) (listed : Array Bool) (a : Act) (w : World), listed.size = ops.size →
    (∀ k o, ops[k]? = some o → listed.getD k true = true → ∀ e ∈ o.after, Region.binds md e = true → listed.getD e.on false = true) → (rem ops listed (List.range ops.size)).length ≤ fuel → S w →
    Seq P ops S Q (rem ops listed (List.range ops.size)) a w → wpAny P md ops Q fuel listed a w := by
  have hns := Region.noSelect_spec (ops := ops) (by rw [hops]; simp only [inText, Bool.and_eq_true] at hc; exact hc.1)
  have hall : ∀ j oj, ops[j]? = some oj → (∀ e ∈ oj.after, Region.binds md e = true → e.on < j) ∧ ∀ i oi, i < j → ops[i]? = some oi → Waits md ops j i ∨ (oi.apart ops oj = true ∧ (making oi && making oj) = false) := by
    intro j oj hj
    subst hops
    simp only [inText, Bool.and_eq_true] at hc
    have := go_spec l 0 hc.2 j oj (by simpa using hj)
    rw [Nat.zero_add] at this
    exact ⟨this.1, fun i oi hi hoi => (this.2 i oi hi hoi).imp_left fun h => masks_spec l [] (fun j o h => by simpa using h) (fun j i h => by simp at h) j i h⟩
  intro fuel
  have hnone : ∀ (listed : Array Bool) (a : Act) (w : World), rem ops listed (List.range ops.size) = [] → Seq P ops S Q (rem ops listed (List.range ops.size)) a w → Region.ready md ops listed = [] ∧ Q .normal a w := by
    intro listed a w h0 h
    refine ⟨List.eq_nil_iff_forall_not_mem.2 fun j hj => ?_, by rw [h0] at h; exact h⟩
    obtain ⟨hl, o, ho, _⟩ := mem_ready.1 hj
    have : o ∈ rem ops listed (List.range ops.size) := List.mem_filterMap.2 ⟨j, List.mem_filter.2 ⟨List.mem_range.2 (Array.getElem?_eq_some_iff.1 ho).1, by simp [hl]⟩, ho⟩
    rw [h0] at this
    cases this
  induction fuel with
  | zero =>
    intro listed a w _ _ hle hS h
    exact hnone listed a w (List.eq_nil_of_length_eq_zero (by omega)) h
  | succ fuel ih =>
    intro listed a w hsz hcl hle hS h
    refine ⟨fun hr => ?_, fun j hj => ?_⟩
    · -- nothing may come up: nothing is left
      suffices h0 : rem ops listed (List.range ops.size) = [] from (hnone listed a w h0 h).2
      refine List.eq_nil_iff_forall_not_mem.2 fun o ho => ?_
      obtain ⟨i, hi, hl, hoi⟩ := mem_rem ho
      -- the least one that is left may come up
      have : ∀ k, (∀ i < k, listed.getD i true = true ∨ ops[i]? = none) := by
        intro k
        induction k with
        | zero => intro i hi; omega
        | succ k ihk =>
          intro i hi
          rcases Nat.lt_or_ge i k with h' | h'
          · exact ihk i h'
          · obtain rfl : i = k := by omega
            cases hoi : ops[i]? with
            | none => exact .inr rfl
            | some oi =>
              refine .inl ?_
              by_cases hli : listed.getD i true = true
              · exact hli
              · exfalso
                have hmem : i ∈ Region.ready md ops listed := mem_ready.2 ⟨by simpa using hli, oi, hoi, fun e he hb => by
                  have hlt := (hall i oi hoi).1 e he hb
                  have hsome : e.on < listed.size := by rw [hsz]; have := (Array.getElem?_eq_some_iff.1 hoi).1; omega
                  rcases ihk e.on hlt with h1 | h1
                  · simpa [hsome] using h1
                  · have := (Array.getElem?_eq_none_iff.1 h1); omega⟩
                rw [hr] at hmem
                cases hmem
      rcases this (i + 1) i (by omega) with h1 | h1
      · rw [hl] at h1; cases h1
      · rw [h1] at hoi; cases hoi
    · obtain ⟨hl, oj, hoj, hdeps⟩ := mem_ready.1 hj
      have hjn : j < ops.size := (Array.getElem?_eq_some_iff.1 hoj).1
      have hsplit : rem ops listed (List.range ops.size) = rem ops listed (List.range j) ++ oj :: rem ops listed (List.range' (j + 1) (ops.size - j - 1)) := by
        rw [range_split hjn, rem_append]
        congr 1
        unfold rem
        rw [List.filter_cons]
        simp [hl, hoj]
      have hsplit' : rem ops (listed.setIfInBounds j true) (List.range ops.size) = rem ops listed (List.range j) ++ rem ops listed (List.range' (j + 1) (ops.size - j - 1)) := by
        rw [range_split hjn, rem_append, rem_set _ (by simp)]
        congr 1
        have e1 : rem ops (listed.setIfInBounds j true) (j :: List.range' (j + 1) (ops.size - j - 1)) = rem ops (listed.setIfInBounds j true) (List.range' (j + 1) (ops.size - j - 1)) := by
          unfold rem
          rw [List.filter_cons, if_neg]
          have : j < listed.size := by rw [hsz]; exact hjn
          simp [this]
        rw [e1, rem_set _ (by simp [List.mem_range'_1]; omega)]
      have hp := pull (P := P) (Q := Q) (S := S) (hns j oj · · hoj) (rem ops listed (List.range' (j + 1) (ops.size - j - 1))) (rem ops listed (List.range j)) a w (fun i hi => by
        obtain ⟨k, hk, hlk, hok⟩ := mem_rem hi
        have hk := List.mem_range.1 hk
        rcases (hall j oj hoj).2 k i hk hok with hwt | ⟨h1, h2⟩
        · exfalso
          have conv : ∀ m, m < ops.size → listed.getD m false = true → listed.getD m true = true := fun m hm h1 => by
            have hsome : m < listed.size := by rw [hsz]; exact hm
            simpa [hsome] using h1
          have path : ∀ x y, Waits md ops x y → y < ops.size → (∀ o, ops[x]? = some o → ∀ e ∈ o.after, Region.binds md e = true → listed.getD e.on false = true) → listed.getD y true = true := by
            intro x y hxy hy
            induction hxy with
            | one ho he hb => exact fun hd => conv _ hy (hd _ ho _ he hb)
            | more ho he hb hw ih =>
              intro hd
              refine ih hy fun o ho' e' he' hb' => ?_
              exact hcl _ o ho' (conv _ (Array.getElem?_eq_some_iff.1 ho').1 (hd _ ho _ he hb)) e' he' hb'
          have := path j k hwt (by omega) (fun o ho e he hb => by rw [hoj] at ho; cases ho; exact hdeps e he hb)
          rw [hlk] at this
          cases this
        · exact ⟨h1, h2, fun cs b => hns k i cs b hok⟩) hS (by rw [← hsplit]; exact h)
      have hle' : (rem ops (listed.setIfInBounds j true) (List.range ops.size)).length ≤ fuel := by
        rw [hsplit']
        rw [hsplit] at hle
        simp only [List.length_append, List.length_cons] at hle ⊢
        omega
      have next : ∀ a' w', S w' → Seq P ops S Q (rem ops listed (List.range j) ++ rem ops listed (List.range' (j + 1) (ops.size - j - 1))) a' w' → wpAny P md ops Q fuel (listed.setIfInBounds j true) a' w' :=
        fun a' w' hS' h' => ih _ a' w' (by simpa using hsz) (fun k o ho hl e he hb => by
          have mono : ∀ m, listed.getD m false = true → (listed.setIfInBounds j true).getD m false = true := fun m hm => by
            by_cases hmj : j = m
            · subst hmj
              have : j < listed.size := by rw [hsz]; exact hjn
              simp [this]
            · rw [getD_set_ne false hmj]; exact hm
          by_cases hkj : j = k
          · subst hkj
            rw [hoj] at ho
            cases ho
            exact mono _ (hdeps e he hb)
          · rw [getD_set_ne true hkj] at hl
            exact mono _ (hcl k o ho hl e he hb)) hle' hS' (by rw [hsplit']; exact h')
      rcases hp with ⟨v, hy, hr⟩ | ⟨_, hw, hr⟩
      · exact hy.wpOp hoj hS (next _ _ hS hr)
      · unfold wpOp
        simp only [hoj, hw, if_true]
        exact .inl (wp_mono (fun a' w' h' => next a' w' h'.1 h'.2) (fun _ _ _ h => h.elim) (fun h => absurd h letsOut_no) hr)

theorem rem_none (l : List Oper) : rem l.toArray (Array.replicate l.length false) (List.range l.length) = l := by
  unfold rem
  have h1 : (List.range l.length).filter (fun i => !(Array.replicate l.length false).getD i true) = List.range l.length := by
    refine List.filter_eq_self.2 fun i hi => ?_
    have := List.mem_range.1 hi
    simp [this]
  rw [h1]
  have h2 : ∀ (k l : List Oper), (List.range' k.length l.length).filterMap (fun i => (k ++ l)[i]?) = l := by
    intro k l
    induction l generalizing k with
    | nil => rfl
    | cons o l ih =>
      have := ih (k ++ [o])
      simp only [List.length_append, List.length_cons, List.length_nil, List.append_assoc, List.cons_append, List.nil_append] at this
      rw [List.length_cons, List.range'_succ, List.filterMap_cons]
      simp only [List.getElem?_append_right (Nat.le_refl _), Nat.sub_self, List.getElem?_cons_zero]
      rw [this]
  have := h2 [] l
  simpa [List.range_eq_range'] using this

/-- THE LAW: a region that draws its order, gone through in the order of its text. -/
theorem wp_region_seq {id : Nat} {l : List Oper} {a : Act} {w : World} (S : World → Prop) (hm : P.follows .mixedOrders = true) (hc : inText .any l = true) (hS : S w.drew)
    (h : Seq P l.toArray S Q l a w.drew) : (Code.region id l.toArray true).wp P Q a w :=
  wp_region_any hm (wpAny_of_seq rfl hc _ _ a _ (by simp) (fun k o ho hl => by
    have hk : k < l.length := by simpa using (Array.getElem?_eq_some_iff.1 ho).1
    simp [hk] at hl) (by simp [rem_none]) hS (by
    have := rem_none l
    simpa [this] using h))

/-! ### The steps -/
theorem Seq.nil {a : Act} {w : World} (h : Q .normal a w) : Seq P ops S Q [] a w := h
theorem Seq.skip {o : Oper} {rest : List Oper} {a : Act} {w : World} (hw : Region.wanted o (yielded ops a.tmps) = false) (h : Seq P ops S Q rest (a.put o.dst undef) w) : Seq P ops S Q (o :: rest) a w :=
  .inl ⟨undef, .inr ⟨hw, rfl⟩, h⟩
theorem Seq.det {o : Oper} {rest : List Oper} {a : Act} {w : World} (v : Value) (hw : Region.wanted o (yielded ops a.tmps) = true) (hv : ∀ w, S w → (execOp a.eval o).run P w = .ok (.value v) w) (h : Seq P ops S Q rest (a.put o.dst v) w) :
    Seq P ops S Q (o :: rest) a w := .inl ⟨v, .inl ⟨hw, hv⟩, h⟩
theorem Seq.make {o : Oper} {rest : List Oper} {a : Act} {w : World} (hm : making o = true) (hw : Region.wanted o (yielded ops a.tmps) = true)
    (h : ∀ (K : Act → World → Prop) (Q' : Exit → Act → World → Prop), Shut (∀ a w, S w → Seq P ops S Q rest a w → K a w) → o.wp P a w K Q') : Seq P ops S Q (o :: rest) a w :=
  .inr ⟨hm, hw, h _ _ (fun a w h1 h2 => ⟨h1, h2⟩)⟩
end
end Go.Proofs.Ytkedmhopajpkhaa.Seq
