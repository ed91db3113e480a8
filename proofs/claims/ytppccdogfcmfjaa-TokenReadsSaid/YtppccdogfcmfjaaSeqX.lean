/- A region that draws its order in which two operations that make something (two composite values) are in no order: gone through in the order of the text; at the first of the two, also with both exchanged. -/
import Derived.Test.YtppccdogfcmfjaaK1
namespace Go.Proofs.Ytppccdogfcmfjaa.Seq
set_option linter.unusedVariables false

section
variable {P : Program} {ops : Array Oper} {Q : Exit → Act → World → Prop} {S : World → Prop} {fl : Oper → Bool}

/-- o behind the first that makes something. -/
def swp (o : Oper) : List Oper → List Oper
  | [] => [o]
  | i :: r => if making i = true then i :: o :: r else i :: swp o r
def SeqX (P : Program) (ops : Array Oper) (S : World → Prop) (Q : Exit → Act → World → Prop) (fl : Oper → Bool) : List Oper → Act → World → Prop
  | [], a, w => Q .normal a w
  | o :: rest, a, w =>
    (fl o = false ∧ ∃ v, YieldsIf P ops S o v a ∧ SeqX P ops S Q fl rest (a.put o.dst v) w) ∨
    (making o = true ∧ Region.wanted o (yielded ops a.tmps) = true ∧ o.wp P a w (fun a' w' => S w' ∧ SeqX P ops S Q fl rest a' w') NoExit ∧ (fl o = true → Seq P ops S Q (swp o rest) a w))

theorem seq_of_x : ∀ (l : List Oper) (a : Act) (w : World), (∀ o ∈ l, fl o = false) → SeqX P ops S Q fl l a w → Seq P ops S Q l a w
  | [], _, _, _, h => h
  | o :: l, a, w, hf, h => by
    rcases h with ⟨_, v, hy, h⟩ | ⟨h1, h2, h3, _⟩
    · exact .inl ⟨v, hy, seq_of_x l _ _ (fun i hi => hf i (List.mem_cons_of_mem _ hi)) h⟩
    · exact .inr ⟨h1, h2, wp_mono (fun a' w' h' => ⟨h'.1, seq_of_x l _ _ (fun i hi => hf i (List.mem_cons_of_mem _ hi)) h'.2⟩) (fun _ _ _ h => h) (fun h => h) h3⟩

theorem swp_with {o j : Oper} (hj : making j = false) (post : List Oper) : ∀ (pre : List Oper), ∃ X Y, swp o (pre ++ j :: post) = X ++ j :: Y ∧ swp o (pre ++ post) = X ++ Y ∧ ∀ i ∈ X, i = o ∨ i ∈ pre
  | [] => ⟨[], swp o post, by simp [swp, hj], rfl, fun i hi => by cases hi⟩
  | i :: pre => by
    by_cases hm : making i = true
    · exact ⟨i :: o :: pre, post, by simp [swp, hm], by simp [swp, hm], fun k hk => by simp at hk ⊢; rcases hk with h | h | h <;> simp [h]⟩
    · obtain ⟨X, Y, h1, h2, h3⟩ := swp_with (o := o) hj post pre
      exact ⟨i :: X, Y, by simp [swp, hm, h1], by simp [swp, hm, h2], fun k hk => by
        rcases List.mem_cons.1 hk with h | h
        · exact .inr (by simp [h])
        · rcases h3 k h with h | h
          · exact .inl h
          · exact .inr (List.mem_cons_of_mem _ h)⟩
theorem swp_at {o y : Oper} (hy : making y = true) (post : List Oper) : ∀ (pre : List Oper), (∀ i ∈ pre, making i = false) → swp o (pre ++ y :: post) = pre ++ y :: o :: post
  | [], _ => by simp [swp, hy]
  | i :: pre, h => by
    have := swp_at (o := o) hy post pre (fun k hk => h k (List.mem_cons_of_mem _ hk))
    simp [swp, h i (List.mem_cons_self ..), this]

def PulledX (P : Program) (ops : Array Oper) (S : World → Prop) (Q : Exit → Act → World → Prop) (fl : Oper → Bool) (j : Oper) (rest : List Oper) (a : Act) (w : World) : Prop :=
  (∃ v, YieldsIf P ops S j v a ∧ SeqX P ops S Q fl rest (a.put j.dst v) w) ∨
  (making j = true ∧ Region.wanted j (yielded ops a.tmps) = true ∧ j.wp P a w (fun a' w' => S w' ∧ SeqX P ops S Q fl rest a' w') NoExit)

/-- An operation that is neither of both. -/
theorem pullX {j : Oper} (hsj : ∀ cs b, j.op ≠ .select cs b) (post : List Oper) : ∀ (pre : List Oper) (a : Act) (w : World), (∀ i ∈ pre, i.apart ops j = true ∧ (making i && making j) = false ∧ ∀ cs b, i.op ≠ .select cs b) → S w →
    SeqX P ops S Q fl (pre ++ j :: post) a w → PulledX P ops S Q fl j (pre ++ post) a w
  | [], a, w, _, hS, h => by
    rcases h with ⟨_, v, hy, h⟩ | ⟨h1, h2, h3, _⟩
    · exact .inl ⟨v, hy, h⟩
    · exact .inr ⟨h1, h2, h3⟩
  | i :: pre, a, w, hpre, hS, h => by
    obtain ⟨hap, hmk, hsi⟩ := hpre i (List.mem_cons_self ..)
    obtain ⟨h1, h2, h3⟩ := Oper.apart_spec hap
    have h2' : ∀ d, j.dst = some d → i.dst ≠ some d := fun d hd he => h2 d he hd
    have ih := pullX hsj post pre
    have hpre' : ∀ i ∈ pre, i.apart ops j = true ∧ (making i && making j) = false ∧ ∀ cs b, i.op ≠ .select cs b := fun k hk => hpre k (List.mem_cons_of_mem _ hk)
    rcases h with ⟨hf, v, hy, h⟩ | ⟨hm, hw, h, hsw⟩
    · rcases ih (a.put i.dst v) w hpre' hS h with ⟨u, hyj, hr⟩ | ⟨hmj, hwj, hr⟩
      · refine .inl ⟨u, (yields_of_put hsj h1).1 hyj, .inl ⟨hf, v, (yields_of_put hsi h3).2 hy, ?_⟩⟩
        rw [← Act.put_comm a v u h2]
        exact hr
      · refine .inr ⟨hmj, by rw [← wanted_put j a i.dst v h1]; exact hwj, ?_⟩
        refine wp_mono (fun a' w' h' => ?_) (fun _ _ _ h => h) (fun h => h) (wp_put hsj h1 h2 hr)
        exact ⟨h'.1.1, .inl ⟨hf, v, (yields_of_after hsi h3 h'.2).2 hy, h'.1.2⟩⟩
    · have hmj : making j = false := by simpa [hm] using hmk
      have key : i.wp P a w (fun a' w' => S w' ∧ ∃ v, YieldsIf P ops S j v a' ∧ SeqX P ops S Q fl (pre ++ post) (a'.put j.dst v) w') NoExit :=
        wp_mono (fun a' w' h' => ⟨h'.1, by
          rcases ih a' w' hpre' h'.1 h'.2 with hh | ⟨hmj', _⟩
          · exact hh
          · rw [hmj] at hmj'; cases hmj'⟩) (fun _ _ _ h => h) (fun h => h) h
      obtain ⟨a1, w1, ⟨_, v, hyv, _⟩, ha1⟩ := wp_some key
      have hyv' : YieldsIf P ops S j v a := (yields_of_after hsj h1 ha1).1 hyv
      refine .inl ⟨v, hyv', .inr ⟨hm, by rw [wanted_put i a j.dst v h3]; exact hw, ?_, fun hf => ?_⟩⟩
      · refine wp_unput hsi h3 h2' (wp_mono (fun a' w' h' ha' => ?_) (fun _ _ _ h => h) (fun h => h) key)
        obtain ⟨hS', v', hy', hr'⟩ := h'
        obtain rfl := yields_one hS hyv' ((yields_of_after hsj h1 ha').1 hy')
        exact ⟨hS', hr'⟩
      · obtain ⟨X, Y, e1, e2, e3⟩ := swp_with (o := i) hmj post pre
        have hs : Seq P ops S Q (swp i (pre ++ j :: post)) a w := hsw hf
        rw [e1] at hs
        show Seq P ops S Q (swp i (pre ++ post)) (a.put j.dst v) w
        rw [e2]
        rcases pull hsj Y X a w (fun k hk => by
          rcases e3 k hk with h | h
          · subst h; exact ⟨hap, hmk, hsi⟩
          · exact hpre' k h) hS hs with ⟨u, hu, hr⟩ | ⟨hmj', _⟩
        · obtain rfl := yields_one hS hyv' hu
          exact hr
        · rw [hmj] at hmj'; cases hmj'

/-- The second of both, ahead of the first. -/
theorem pullY {o y : Oper} (hsy : ∀ cs b, y.op ≠ .select cs b) (hmy : making y = true) (hfo : fl o = true) (B C : List Oper) (hB : ∀ i ∈ B, i.apart ops y = true ∧ making i = false ∧ ∀ cs b, i.op ≠ .select cs b) :
    ∀ (A : List Oper) (a : Act) (w : World), (∀ i ∈ A, i.apart ops y = true ∧ making i = false ∧ ∀ cs b, i.op ≠ .select cs b) → S w →
    SeqX P ops S Q fl (A ++ o :: (B ++ y :: C)) a w → Pulled P ops S Q y (A ++ (B ++ o :: C)) a w
  | [], a, w, _, hS, h => by
    rcases h with ⟨hf, _⟩ | ⟨_, _, _, hsw⟩
    · rw [hfo] at hf; cases hf
    · have hs := hsw hfo
      rw [swp_at hmy C B (fun i hi => (hB i hi).2.1)] at hs
      exact pull hsy (o :: C) B a w (fun i hi => ⟨(hB i hi).1, by rw [(hB i hi).2.1]; rfl, (hB i hi).2.2⟩) hS hs
  | i :: A, a, w, hA, hS, h => by
    obtain ⟨hap, hmi, hsi⟩ := hA i (List.mem_cons_self ..)
    obtain ⟨h1, h2, h3⟩ := Oper.apart_spec hap
    rcases h with ⟨hf, v, hy, h⟩ | ⟨hm, _⟩
    · rcases pullY hsy hmy hfo B C hB A (a.put i.dst v) w (fun k hk => hA k (List.mem_cons_of_mem _ hk)) hS h with ⟨u, hyj, hr⟩ | ⟨hmj, hwj, hr⟩
      · refine .inl ⟨u, (yields_of_put hsy h1).1 hyj, .inl ⟨v, (yields_of_put hsi h3).2 hy, ?_⟩⟩
        rw [← Act.put_comm a v u h2]
        exact hr
      · refine .inr ⟨hmj, by rw [← wanted_put y a i.dst v h1]; exact hwj, ?_⟩
        refine wp_mono (fun a' w' h' => ?_) (fun _ _ _ h => h) (fun h => h) (wp_put hsy h1 h2 hr)
        exact ⟨h'.1.1, .inl ⟨v, (yields_of_after hsi h3 h'.2).2 hy, h'.1.2⟩⟩
    · rw [hmi] at hm; cases hm

theorem all_listed {md : Region.Mode} (hedge : ∀ (j : Nat) (oj : Oper), ops[j]? = some oj → ∀ e ∈ oj.after, Region.binds md e = true → e.on < j) {listed : Array Bool} (hsz : listed.size = ops.size) (hr : Region.ready md ops listed = []) :
    ∀ k, ∀ i < k, i < ops.size → listed.getD i true = true := by
  intro k
  induction k with
  | zero => intro i hi; omega
  | succ k ihk =>
    intro i hi hn
    rcases Nat.lt_or_ge i k with h' | h'
    · exact ihk i h' hn
    · obtain rfl : i = k := by omega
      obtain ⟨oi, hoi⟩ : ∃ o, ops[i]? = some o := ⟨_, Array.getElem?_eq_getElem hn⟩
      by_cases hli : listed.getD i true = true
      · exact hli
      · exfalso
        have hmem : i ∈ Region.ready md ops listed := mem_ready.2 ⟨by simpa using hli, oi, hoi, fun e he hb => by
          have hlt := hedge i oi hoi e he hb
          have hsome : e.on < listed.size := by omega
          have h1 := ihk e.on hlt (by omega)
          simpa [hsome] using h1⟩
        rw [hr] at hmem
        cases hmem
/-- All that an operation waits for has come up where it comes up. -/
theorem path_listed {md : Region.Mode} (hedge : ∀ (j : Nat) (oj : Oper), ops[j]? = some oj → ∀ e ∈ oj.after, Region.binds md e = true → e.on < j) {listed : Array Bool} (hsz : listed.size = ops.size)
    (hcl : ∀ k o, ops[k]? = some o → listed.getD k true = true → ∀ e ∈ o.after, Region.binds md e = true → listed.getD e.on false = true) :
    ∀ x y, Waits md ops x y → y < ops.size → (∀ o, ops[x]? = some o → ∀ e ∈ o.after, Region.binds md e = true → listed.getD e.on false = true) → listed.getD y true = true := by
  have conv : ∀ m, m < ops.size → listed.getD m false = true → listed.getD m true = true := fun m hm h1 => by
    have hsome : m < listed.size := by rw [hsz]; exact hm
    simpa [hsome] using h1
  intro x y hxy hy
  induction hxy with
  | one ho he hb => exact fun hd => conv _ hy (hd _ ho _ he hb)
  | more ho he hb hw ih =>
    intro hd
    refine ih hy fun o ho' e' he' hb' => ?_
    exact hcl _ o ho' (conv _ (by have := hedge _ _ ho _ he hb; have := (Array.getElem?_eq_some_iff.1 ho).1; omega) (hd _ ho _ he hb)) e' he' hb'
theorem closed_set {md : Region.Mode} {listed : Array Bool} {j : Nat} {oj : Oper} (hoj : ops[j]? = some oj) (hjn : j < listed.size) (hdeps : ∀ e ∈ oj.after, Region.binds md e = true → listed.getD e.on false = true)
    (hcl : ∀ k o, ops[k]? = some o → listed.getD k true = true → ∀ e ∈ o.after, Region.binds md e = true → listed.getD e.on false = true) :
    ∀ k o, ops[k]? = some o → (listed.setIfInBounds j true).getD k true = true → ∀ e ∈ o.after, Region.binds md e = true → (listed.setIfInBounds j true).getD e.on false = true := fun k o ho hl e he hb => by
  have mono : ∀ m, listed.getD m false = true → (listed.setIfInBounds j true).getD m false = true := fun m hm => by
    by_cases hmj : j = m
    · subst hmj
      simp [hjn]
    · rw [getD_set_ne false hmj]; exact hm
  by_cases hkj : j = k
  · subst hkj
    rw [hoj] at ho
    cases ho
    exact mono _ (hdeps e he hb)
  · rw [getD_set_ne true hkj] at hl
    exact mono _ (hcl k o ho hl e he hb)
theorem rem_at {listed : Array Bool} {j : Nat} {oj : Oper} (hl : listed.getD j true = false) (hoj : ops[j]? = some oj) (post : List Nat) : rem ops listed (j :: post) = oj :: rem ops listed post := by
  unfold rem
  rw [List.filter_cons]
  simp [hl, hoj]
theorem rem_over {listed : Array Bool} {j : Nat} (hl : listed.getD j true = true) (post : List Nat) : rem ops listed (j :: post) = rem ops listed post := by
  unfold rem
  rw [List.filter_cons]
  simp [hl]

theorem x_of_seq : ∀ (l : List Oper) (a : Act) (w : World), (∀ o ∈ l, fl o = false) → Seq P ops S Q l a w → SeqX P ops S Q fl l a w
  | [], _, _, _, h => h
  | o :: l, a, w, hf, h => by
    rcases h with ⟨v, hy, h⟩ | ⟨h1, h2, h3⟩
    · exact .inl ⟨hf o (List.mem_cons_self ..), v, hy, x_of_seq l _ _ (fun i hi => hf i (List.mem_cons_of_mem _ hi)) h⟩
    · exact .inr ⟨h1, h2, wp_mono (fun a' w' h' => ⟨h'.1, x_of_seq l _ _ (fun i hi => hf i (List.mem_cons_of_mem _ hi)) h'.2⟩) (fun _ _ _ h => h) (fun h => h) h3, fun e => by rw [hf o (List.mem_cons_self ..)] at e; cases e⟩

/-- In whatever order the list has. -/
theorem wpAny_of_ord {md : Region.Mode} (hns : ∀ (j : Nat) (o : Oper) cs b, ops[j]? = some o → o.op ≠ .select cs b) (hedge : ∀ (j : Nat) (oj : Oper), ops[j]? = some oj → ∀ e ∈ oj.after, Region.binds md e = true → e.on < j)
    (ord : List Nat) (hnd : ord.Nodup) (hmem : ∀ i, i ∈ ord ↔ i < ops.size) : ∀ (fuel : Nat) (listed : Array Bool) (a : Act) (w : World), listed.size = ops.size →
    (∀ k o, ops[k]? = some o → listed.getD k true = true → ∀ e ∈ o.after, Region.binds md e = true → listed.getD e.on false = true) →
    (∀ pre j post oj, ord = pre ++ j :: post → ops[j]? = some oj → ∀ i ∈ pre, ∀ oi, ops[i]? = some oi → listed.getD i true = true ∨ Waits md ops j i ∨ (oi.apart ops oj = true ∧ (making oi && making oj) = false)) →
    (rem ops listed ord).length ≤ fuel → S w → Seq P ops S Q (rem ops listed ord) a w → wpAny P md ops Q fuel listed a w := by
  intro fuel
  have hend : ∀ (listed : Array Bool) (a : Act) (w : World), listed.size = ops.size → Region.ready md ops listed = [] → Seq P ops S Q (rem ops listed ord) a w → Q .normal a w := by
    intro listed a w hsz hr h
    have h0 : rem ops listed ord = [] := by
      refine List.eq_nil_iff_forall_not_mem.2 fun o ho => ?_
      obtain ⟨i, hi, hl, hoi⟩ := mem_rem ho
      have hn := (hmem i).1 hi
      rw [all_listed hedge hsz hr (i + 1) i (by omega) hn] at hl
      cases hl
    rw [h0] at h
    exact h
  induction fuel with
  | zero =>
    intro listed a w hsz _ _ hle hS h
    have h0 : rem ops listed ord = [] := List.eq_nil_of_length_eq_zero (by omega)
    have hr : Region.ready md ops listed = [] := by
      refine List.eq_nil_iff_forall_not_mem.2 fun j hj => ?_
      obtain ⟨hl, o, ho, _⟩ := mem_ready.1 hj
      have : o ∈ rem ops listed ord := List.mem_filterMap.2 ⟨j, List.mem_filter.2 ⟨(hmem j).2 (Array.getElem?_eq_some_iff.1 ho).1, by simp [hl]⟩, ho⟩
      rw [h0] at this
      cases this
    exact ⟨hr, hend listed a w hsz hr h⟩
  | succ fuel ih =>
    intro listed a w hsz hcl hv hle hS h
    refine ⟨fun hr => hend listed a w hsz hr h, fun j hj => ?_⟩
    obtain ⟨hl, oj, hoj, hdeps⟩ := mem_ready.1 hj
    have hjn : j < ops.size := (Array.getElem?_eq_some_iff.1 hoj).1
    obtain ⟨pre, post, hord⟩ := List.append_of_mem ((hmem j).2 hjn)
    have hnd' := hnd
    rw [hord, List.nodup_append] at hnd'
    obtain ⟨_, hnd2, hnd3⟩ := hnd'
    have hj1 : j ∉ pre := fun hx => hnd3 j hx j (List.mem_cons_self ..) rfl
    have hj2 : j ∉ post := (List.nodup_cons.1 hnd2).1
    have hsplit : rem ops listed ord = rem ops listed pre ++ oj :: rem ops listed post := by
      rw [hord, rem_append, rem_at hl hoj]
    have hset : (listed.setIfInBounds j true).getD j true = true := by
      have : j < listed.size := by omega
      simp [this]
    have hsplit' : rem ops (listed.setIfInBounds j true) ord = rem ops listed pre ++ rem ops listed post := by
      rw [hord, rem_append, rem_set _ hj1, rem_over hset, rem_set _ hj2]
    have hp := pull (P := P) (Q := Q) (S := S) (hns j oj · · hoj) (rem ops listed post) (rem ops listed pre) a w (fun i hi => by
      obtain ⟨k, hk, hlk, hok⟩ := mem_rem hi
      rcases hv pre j post oj hord hoj k hk i hok with hx | hx | ⟨h1, h2⟩
      · rw [hlk] at hx; cases hx
      · have := path_listed hedge hsz hcl j k hx (Array.getElem?_eq_some_iff.1 hok).1 (fun o ho e he hb => by rw [hoj] at ho; cases ho; exact hdeps e he hb)
        rw [hlk] at this
        cases this
      · exact ⟨h1, h2, fun cs b => hns k i cs b hok⟩) hS (by rw [← hsplit]; exact h)
    have next : ∀ a' w', S w' → Seq P ops S Q (rem ops listed pre ++ rem ops listed post) a' w' → wpAny P md ops Q fuel (listed.setIfInBounds j true) a' w' := fun a' w' hS' h' => ih _ a' w' (by simpa using hsz) (closed_set hoj (by omega) hdeps hcl)
      (fun pre' j' post' oj' e1 e2 i hi oi e3 => by
        rcases hv pre' j' post' oj' e1 e2 i hi oi e3 with hx | hx
        · refine .inl ?_
          by_cases e : j = i
          · subst e; exact hset
          · rw [getD_set_ne true e]; exact hx
        · exact .inr hx) (by
        rw [hsplit']
        rw [hsplit] at hle
        simp only [List.length_append, List.length_cons] at hle ⊢
        omega) hS' (by rw [hsplit']; exact h')
    rcases hp with ⟨v, hy, hr⟩ | ⟨_, hw, hr⟩
    · exact hy.wpOp hoj hS (next _ _ hS hr)
    · unfold wpOp
      simp only [hoj, hw, if_true]
      exact .inl (wp_mono (fun a' w' h' => next a' w' h'.1 h'.2) (fun _ _ _ h => h.elim) (fun h => absurd h letsOut_no) hr)

/-- The check: as ever, but for the operations x and y, both of which make something, in no order; what stands between them makes nothing. -/
def inTextX (md : Region.Mode) (l : List Oper) (fl : Oper → Bool) (x y : Nat) : Bool :=
  Region.noSelect l.toArray && go md l.toArray (masks md l []) l 0 && (Nat.blt x y && Nat.blt y l.length && gy l 0)
where
  go (md : Region.Mode) (ops : Array Oper) (M : List Nat) : List Oper → Nat → Bool
    | [], _ => true
    | oj :: rest, j => (fl oj == Nat.beq j x) && oj.after.toList.all (fun e => !Region.binds md e || Nat.blt e.on j) && goo ops oj ((M.getD j 0)) ops.toList 0 j && go md ops M rest (j + 1)
  goo (ops : Array Oper) (oj : Oper) (m : Nat) : List Oper → Nat → Nat → Bool
    | [], _, _ => true
    | oi :: rest, i, j => Nat.ble j i || (((Nat.testBit m i && !(Nat.beq i x && Nat.blt j y)) || (Nat.beq i x && Nat.beq j y) || (oi.apart ops oj && !(making oi && making oj) && (!(Nat.beq i x && Nat.blt j y) || oj.apart ops oi))) && goo ops oj m rest (i + 1) j)
  gy : List Oper → Nat → Bool
    | [], _ => true
    | o :: rest, i => (!Nat.beq i y || making o) && (!(Nat.blt x i && Nat.blt i y) || !making o) && gy rest (i + 1)
theorem goox_spec {fl : Oper → Bool} {x y : Nat} {oj : Oper} {m j : Nat} : ∀ (l : List Oper) (k : Nat), inTextX.goo x y ops oj m l k j = true → ∀ i oi, l[i]? = some oi → k + i < j → (m.testBit (k + i) = true ∧ ¬ (k + i = x ∧ j < y)) ∨ (k + i = x ∧ j = y) ∨ (oi.apart ops oj = true ∧ (making oi && making oj) = false ∧ (k + i = x → j < y → oj.apart ops oi = true))
  | [], _, _, i, oi, h, _ => by simp at h
  | o :: l, k, h, i, oi, hi, hlt => by
    unfold inTextX.goo at h
    rw [Bool.or_eq_true, Bool.and_eq_true] at h
    rcases h with h | ⟨h1, h2⟩
    · have := Nat.le_of_ble_eq_true h; omega
    · cases i with
      | zero =>
        simp only [List.getElem?_cons_zero, Option.some.injEq] at hi
        subst hi
        rw [Bool.or_eq_true, Bool.or_eq_true] at h1
        rcases h1 with (h1 | h1) | h1
        · simp only [Bool.and_eq_true, Bool.not_eq_true'] at h1
          refine .inl ⟨h1.1, fun ⟨e1, e2⟩ => ?_⟩
          have hb : (Nat.beq k x && Nat.blt j y) = true := by simp only [Bool.and_eq_true, Nat.beq_eq, Nat.blt_eq]; omega
          rw [hb] at h1
          cases h1.2
        · simp only [Bool.and_eq_true, Nat.beq_eq] at h1
          exact .inr (.inl ⟨by omega, h1.2⟩)
        · simp only [Bool.and_eq_true, Bool.not_eq_true', Bool.or_eq_true] at h1
          obtain ⟨⟨h1, h3⟩, h4⟩ := h1
          refine .inr (.inr ⟨h1, h3, fun e1 e2 => ?_⟩)
          rcases h4 with h4 | h4
          · have hb : (Nat.beq k x && Nat.blt j y) = true := by simp only [Bool.and_eq_true, Nat.beq_eq, Nat.blt_eq]; omega
            rw [hb] at h4; cases h4
          · exact h4
      | succ i =>
        have := goox_spec (fl := fl) l (k + 1) h2 i oi (by simpa using hi) (by omega)
        rw [show k + (i + 1) = k + 1 + i by omega]
        exact this
theorem gox_spec {md : Region.Mode} {x y : Nat} {M : List Nat} : ∀ (l : List Oper) (k : Nat), inTextX.go fl x y md ops M l k = true → ∀ j oj, l[j]? = some oj →
    ((fl oj = true ↔ k + j = x) ∧ ∀ e ∈ oj.after, Region.binds md e = true → e.on < k + j) ∧ ∀ i oi, i < k + j → ops[i]? = some oi → ((M.getD (k + j) 0).testBit i = true ∧ ¬ (i = x ∧ k + j < y)) ∨ (i = x ∧ k + j = y) ∨ (oi.apart ops oj = true ∧ (making oi && making oj) = false ∧ (i = x → k + j < y → oj.apart ops oi = true))
  | [], _, _, j, oj, h => by simp at h
  | o :: l, k, h, j, oj, hj => by
    unfold inTextX.go at h
    simp only [Bool.and_eq_true] at h
    obtain ⟨⟨⟨h0, h1⟩, h2⟩, h3⟩ := h
    cases j with
    | zero =>
      simp only [List.getElem?_cons_zero, Option.some.injEq] at hj
      subst hj
      refine ⟨⟨?_, fun e he hb => ?_⟩, fun i oi hi hoi => ?_⟩
      · have h0 : fl o = Nat.beq k x := by simpa using h0
        rw [h0, Nat.beq_eq]
        rfl
      · have := List.all_eq_true.1 h1 e (by simpa using he)
        simp only [hb, Bool.not_true, Bool.false_or] at this
        rw [Nat.blt_eq] at this
        omega
      · have := goox_spec (fl := fl) ops.toList 0 h2 i oi (by simpa using hoi) (by omega)
        simpa using this
    | succ j =>
      have := gox_spec l (k + 1) h3 j oj (by simpa using hj)
      rw [show k + (j + 1) = k + 1 + j by omega]
      exact this
theorem gy_spec {x y : Nat} : ∀ (l : List Oper) (k : Nat), inTextX.gy x y l k = true → ∀ j oj, l[j]? = some oj → (k + j = y → making oj = true) ∧ (x < k + j → k + j < y → making oj = false)
  | [], _, _, j, oj, h => by simp at h
  | o :: l, k, h, j, oj, hj => by
    unfold inTextX.gy at h
    simp only [Bool.and_eq_true, Bool.or_eq_true, Bool.not_eq_true'] at h
    obtain ⟨⟨h0, h1⟩, h3⟩ := h
    cases j with
    | zero =>
      simp only [List.getElem?_cons_zero, Option.some.injEq] at hj
      subst hj
      refine ⟨fun e => ?_, fun e1 e2 => ?_⟩
      · rcases h0 with h0 | h0
        · have : Nat.beq k y = true := by rw [Nat.beq_eq]; exact e
          rw [this] at h0; cases h0
        · exact h0
      · rcases h1 with h1 | h1
        · have : (Nat.blt x k && Nat.blt k y) = true := by simp only [Bool.and_eq_true, Nat.blt_eq]; omega
          rw [this] at h1; cases h1
        · exact h1
    | succ j =>
      have := gy_spec l (k + 1) h3 j oj (by simpa using hj)
      rw [show k + (j + 1) = k + 1 + j by omega]
      exact this

theorem set_other {listed : Array Bool} {j i : Nat} (h : listed.getD i true = true) (hj : j < listed.size) : (listed.setIfInBounds j true).getD i true = true := by
  by_cases e : j = i
  · subst e; simp [hj]
  · rw [getD_set_ne true e]; exact h
theorem wpAny_of_x {md : Region.Mode} {x y : Nat} (hns : ∀ (j : Nat) (o : Oper) cs b, ops[j]? = some o → o.op ≠ .select cs b) (hedge : ∀ (j : Nat) (oj : Oper), ops[j]? = some oj → ∀ e ∈ oj.after, Region.binds md e = true → e.on < j)
    (hxy : x < y) (hyn : y < ops.size) (hfl : ∀ (j : Nat) (oj : Oper), ops[j]? = some oj → (fl oj = true ↔ j = x)) (hmy : ∀ (oj : Oper), ops[y]? = some oj → making oj = true) (hbt : ∀ (j : Nat) (oj : Oper), ops[j]? = some oj → x < j → j < y → making oj = false)
    (hall : ∀ (j : Nat) (oj : Oper), ops[j]? = some oj → ∀ (i : Nat) (oi : Oper), i < j → ops[i]? = some oi → (Waits md ops j i ∧ ¬ (i = x ∧ j < y)) ∨ (i = x ∧ j = y) ∨ (oi.apart ops oj = true ∧ (making oi && making oj) = false ∧ (i = x → j < y → oj.apart ops oi = true))) :
    ∀ (fuel : Nat) (listed : Array Bool) (a : Act) (w : World), listed.size = ops.size →
    (∀ k o, ops[k]? = some o → listed.getD k true = true → ∀ e ∈ o.after, Region.binds md e = true → listed.getD e.on false = true) →
    listed.getD x true = false → listed.getD y true = false → (rem ops listed (List.range ops.size)).length ≤ fuel → S w → SeqX P ops S Q fl (rem ops listed (List.range ops.size)) a w → wpAny P md ops Q fuel listed a w := by
  obtain ⟨ox, hox⟩ : ∃ o, ops[x]? = some o := ⟨_, Array.getElem?_eq_getElem (by omega)⟩
  obtain ⟨oy, hoy⟩ : ∃ o, ops[y]? = some o := ⟨_, Array.getElem?_eq_getElem hyn⟩
  have hfx := (hfl x ox hox).2 rfl
  have hmoy := hmy oy hoy
  intro fuel
  induction fuel with
  | zero =>
    intro listed a w hsz _ hlx _ hle
    have h0 : rem ops listed (List.range ops.size) = [] := List.eq_nil_of_length_eq_zero (by omega)
    have : ox ∈ rem ops listed (List.range ops.size) := List.mem_filterMap.2 ⟨x, List.mem_filter.2 ⟨List.mem_range.2 (by omega), by simp [hlx]⟩, hox⟩
    rw [h0] at this
    cases this
  | succ fuel ih =>
    intro listed a w hsz hcl hlx hly hle hS h
    refine ⟨fun hr => ?_, fun j hj => ?_⟩
    · rw [all_listed hedge hsz hr (x + 1) x (by omega) (by omega)] at hlx; cases hlx
    obtain ⟨hl, oj, hoj, hdeps⟩ := mem_ready.1 hj
    have hjn : j < ops.size := (Array.getElem?_eq_some_iff.1 hoj).1
    have hnw : ∀ i oi, i < ops.size → listed.getD i true = false → ops[i]? = some oi → ¬ Waits md ops j i := fun i oi hi hli _ hw => by
      have := path_listed hedge hsz hcl j i hw hi (fun o ho e he hb => by rw [hoj] at ho; cases ho; exact hdeps e he hb)
      rw [hli] at this
      cases this
    have hset : (listed.setIfInBounds j true).getD j true = true := by
      have : j < listed.size := by omega
      simp [this]
    have hsplit : rem ops listed (List.range ops.size) = rem ops listed (List.range j) ++ oj :: rem ops listed (List.range' (j + 1) (ops.size - j - 1)) := by
      rw [range_split hjn, rem_append, rem_at hl hoj]
    have hsplit' : rem ops (listed.setIfInBounds j true) (List.range ops.size) = rem ops listed (List.range j) ++ rem ops listed (List.range' (j + 1) (ops.size - j - 1)) := by
      rw [range_split hjn, rem_append, rem_set _ (by simp), rem_over hset, rem_set _ (by simp [List.mem_range'_1]; omega)]
    have hle' : (rem ops (listed.setIfInBounds j true) (List.range ops.size)).length ≤ fuel := by
      rw [hsplit']
      rw [hsplit] at hle
      simp only [List.length_append, List.length_cons] at hle ⊢
      omega
    have hcl' := closed_set hoj (by omega) hdeps hcl
    have hsz' : (listed.setIfInBounds j true).size = ops.size := by simpa using hsz
    by_cases hjy : j = y
    · -- the second of both
      subst hjy
      have hsA : List.range j = List.range x ++ x :: List.range' (x + 1) (j - x - 1) := range_split hxy
      have hrA : rem ops listed (List.range j) = rem ops listed (List.range x) ++ ox :: rem ops listed (List.range' (x + 1) (j - x - 1)) := by
        rw [hsA, rem_append, rem_at hlx hox]
      obtain rfl : oj = oy := by rw [hoj] at hoy; exact Option.some.inj hoy
      have good : ∀ i oi, i < j → i ≠ x → listed.getD i true = false → ops[i]? = some oi → oi.apart ops oj = true ∧ making oi = false ∧ ∀ cs b, oi.op ≠ .select cs b := fun i oi hi hne hli hoi => by
        rcases hall j oj hoj i oi hi hoi with ⟨h1, _⟩ | ⟨h1, _⟩ | ⟨h1, h2, _⟩
        · exact absurd h1 (hnw i oi (by omega) hli hoi)
        · exact absurd h1 hne
        · rw [hmoy, Bool.and_true] at h2
          exact ⟨h1, h2, fun cs b => hns i oi cs b hoi⟩
      have hp := pullY (P := P) (Q := Q) (S := S) (hns j oj · · hoj) hmoy hfx (rem ops listed (List.range' (x + 1) (j - x - 1))) (rem ops listed (List.range' (j + 1) (ops.size - j - 1))) (fun i hi => by
          obtain ⟨k, hk, hlk, hok⟩ := mem_rem hi
          rw [List.mem_range'_1] at hk
          exact good k i (by omega) (by omega) hlk hok) (rem ops listed (List.range x)) a w (fun i hi => by
          obtain ⟨k, hk, hlk, hok⟩ := mem_rem hi
          have hk := List.mem_range.1 hk
          exact good k i (by omega) (by omega) hlk hok) hS (by
          rw [hsplit, hrA, List.append_assoc, List.cons_append] at h
          exact h)
      -- the order from here on
      have hord : rem ops (listed.setIfInBounds j true) (List.range x ++ (List.range' (x + 1) (j - x - 1) ++ (j :: x :: List.range' (j + 1) (ops.size - j - 1)))) = rem ops listed (List.range x) ++ (rem ops listed (List.range' (x + 1) (j - x - 1)) ++ ox :: rem ops listed (List.range' (j + 1) (ops.size - j - 1))) := by
        rw [rem_append, rem_append, rem_over hset, rem_at (by rw [getD_set_ne true (by omega)]; exact hlx) hox, rem_set _ (by simp; omega), rem_set _ (by rw [List.mem_range'_1]; omega), rem_set _ (by rw [List.mem_range'_1]; omega)]
      have next : ∀ a' w', S w' → Seq P ops S Q (rem ops listed (List.range x) ++ (rem ops listed (List.range' (x + 1) (j - x - 1)) ++ ox :: rem ops listed (List.range' (j + 1) (ops.size - j - 1)))) a' w' → wpAny P md ops Q fuel (listed.setIfInBounds j true) a' w' := fun a' w' hS' h' => by
        refine wpAny_of_ord hns hedge (List.range x ++ (List.range' (x + 1) (j - x - 1) ++ (j :: x :: List.range' (j + 1) (ops.size - j - 1)))) ?_ ?_ fuel _ a' w' hsz' hcl' ?_ ?_ hS' (by rw [hord]; exact h')
        · refine List.nodup_append.2 ⟨List.nodup_range, List.nodup_append.2 ⟨List.nodup_range', List.nodup_cons.2 ⟨fun hm => ?_, List.nodup_cons.2 ⟨fun hm => ?_, List.nodup_range'⟩⟩, fun i hi k hk e => ?_⟩, fun i hi k hk e => ?_⟩
          · simp only [List.mem_cons, List.mem_range'_1] at hm; omega
          · simp only [List.mem_range'_1] at hm; omega
          · simp only [List.mem_cons, List.mem_range'_1] at hi hk; omega
          · simp only [List.mem_append, List.mem_cons, List.mem_range, List.mem_range'_1] at hi hk; omega
        · intro i
          simp only [List.mem_append, List.mem_cons, List.mem_range, List.mem_range'_1]
          omega
        · have hpw : List.Pairwise (fun i k => (i < k ∧ ¬ (i = x ∧ k ≤ j)) ∨ (k = x ∧ x < i ∧ i ≤ j)) (List.range x ++ (List.range' (x + 1) (j - x - 1) ++ (j :: x :: List.range' (j + 1) (ops.size - j - 1)))) := by
            refine List.pairwise_append.2 ⟨List.pairwise_lt_range.imp_of_mem (fun ha hb h => ?_), List.pairwise_append.2 ⟨List.Pairwise.imp_of_mem (fun ha hb h => ?_) (List.pairwise_lt_range' (step := 1) (by omega)), List.pairwise_cons.2 ⟨fun k hk => ?_, List.pairwise_cons.2 ⟨fun k hk => ?_, List.Pairwise.imp_of_mem (fun ha hb h => ?_) (List.pairwise_lt_range' (step := 1) (by omega))⟩⟩, fun i hi k hk => ?_⟩, fun i hi k hk => ?_⟩
            · simp only [List.mem_range] at ha hb; omega
            · simp only [List.mem_range'_1] at ha hb; omega
            · simp only [List.mem_cons, List.mem_range'_1] at hk; omega
            · simp only [List.mem_range'_1] at hk; omega
            · simp only [List.mem_range'_1] at ha hb; omega
            · simp only [List.mem_cons, List.mem_range'_1] at hi hk; omega
            · simp only [List.mem_append, List.mem_cons, List.mem_range, List.mem_range'_1] at hi hk; omega
          intro pre k post ok e1 e2 i hi oi e3
          rw [e1] at hpw
          have hR := (List.pairwise_append.1 hpw).2.2 i hi k (List.mem_cons_self ..)
          rcases hR with ⟨h1, h2⟩ | ⟨h1, h2, h3⟩
          · rcases hall k ok e2 i oi h1 e3 with ⟨h4, _⟩ | ⟨h4, h5⟩ | ⟨h4, h5, _⟩
            · exact .inr (.inl h4)
            · omega
            · exact .inr (.inr ⟨h4, h5⟩)
          · subst h1
            by_cases hij : i = j
            · subst hij; exact .inl hset
            · rcases hall i oi e3 k ok h2 e2 with ⟨_, h4⟩ | ⟨_, h4⟩ | ⟨_, h5, h6⟩
              · exact absurd ⟨rfl, by omega⟩ h4
              · exact absurd h4 hij
              · exact .inr (.inr ⟨h6 rfl (by omega), by rw [Bool.and_comm]; exact h5⟩)
        · rw [hord]
          rw [hsplit, hrA] at hle
          simp only [List.length_append, List.length_cons] at hle ⊢
          omega
      rcases hp with ⟨v, hy, hr⟩ | ⟨_, hw, hr⟩
      · exact hy.wpOp hoj hS (next _ _ hS hr)
      · unfold wpOp
        simp only [hoj, hw, if_true]
        exact .inl (wp_mono (fun a' w' h' => next a' w' h'.1 h'.2) (fun _ _ _ h => h.elim) (fun h => absurd h letsOut_no) hr)
    · have hp := pullX (P := P) (Q := Q) (S := S) (fl := fl) (hns j oj · · hoj) (rem ops listed (List.range' (j + 1) (ops.size - j - 1))) (rem ops listed (List.range j)) a w (fun i hi => by
        obtain ⟨k, hk, hlk, hok⟩ := mem_rem hi
        have hk := List.mem_range.1 hk
        rcases hall j oj hoj k i hk hok with ⟨h1, _⟩ | ⟨_, h1⟩ | ⟨h1, h2, _⟩
        · exact absurd h1 (hnw k i (by omega) hlk hok)
        · exact absurd h1 hjy
        · exact ⟨h1, h2, fun cs b => hns k i cs b hok⟩) hS (by rw [← hsplit]; exact h)
      have next : ∀ a' w', S w' → SeqX P ops S Q fl (rem ops listed (List.range j) ++ rem ops listed (List.range' (j + 1) (ops.size - j - 1))) a' w' → wpAny P md ops Q fuel (listed.setIfInBounds j true) a' w' := fun a' w' hS' h' => by
        by_cases hjx : j = x
        · -- the first of both
          subst hjx
          refine wpAny_of_ord hns hedge (List.range ops.size) List.nodup_range (fun i => List.mem_range) fuel _ a' w' hsz' hcl' ?_ hle' hS' ?_
          · intro pre k post ok e1 e2 i hi oi e3
            have hik : i < k := by
              have e4 : k = pre.length := by
                have := congrArg (fun l => l[pre.length]?) e1
                simp only [List.getElem?_append_right (Nat.le_refl _), Nat.sub_self, List.getElem?_cons_zero] at this
                rw [List.getElem?_range (by have := congrArg List.length e1; simp at this; omega)] at this
                injection this with this
                exact this.symm
              obtain ⟨m, hm, hmi⟩ := List.mem_iff_getElem.1 hi
              have : (List.range ops.size)[m]? = some i := by rw [e1, List.getElem?_append_left hm, List.getElem?_eq_getElem hm, hmi]
              rw [List.getElem?_range (by have := congrArg List.length e1; simp at this; omega)] at this
              injection this with this
              omega
            rcases hall k ok e2 i oi hik e3 with ⟨h1, _⟩ | ⟨h1, _⟩ | ⟨h1, h2, _⟩
            · exact .inr (.inl h1)
            · subst h1; exact .inl hset
            · exact .inr (.inr ⟨h1, h2⟩)
          · rw [hsplit']
            refine seq_of_x _ _ _ (fun o ho => ?_) h'
            obtain ⟨k, hk, hok⟩ : ∃ k, k ≠ j ∧ ops[k]? = some o := by
              rcases List.mem_append.1 ho with ho | ho
              · obtain ⟨k, hk, _, hok⟩ := mem_rem ho
                have := List.mem_range.1 hk
                exact ⟨k, by omega, hok⟩
              · obtain ⟨k, hk, _, hok⟩ := mem_rem ho
                rw [List.mem_range'_1] at hk
                exact ⟨k, by omega, hok⟩
            cases hf : fl o with
            | false => rfl
            | true => exact absurd ((hfl k o hok).1 hf) hk
        · exact ih _ a' w' hsz' hcl' (by rw [getD_set_ne true hjx]; exact hlx) (by rw [getD_set_ne true hjy]; exact hly) hle' hS' (by rw [hsplit']; exact h')
      rcases hp with ⟨v, hy, hr⟩ | ⟨_, hw, hr⟩
      · exact hy.wpOp hoj hS (next _ _ hS hr)
      · unfold wpOp
        simp only [hoj, hw, if_true]
        exact .inl (wp_mono (fun a' w' h' => next a' w' h'.1 h'.2) (fun _ _ _ h => h.elim) (fun h => absurd h letsOut_no) hr)

/-- THE LAW: two operations that make something, x and y, are in no order. -/
theorem wp_region_pair {id : Nat} {l : List Oper} {a : Act} {w : World} (fl : Oper → Bool) (x y : Nat) (S : World → Prop) (hm : P.follows .mixedOrders = true) (hc : inTextX .any l fl x y = true) (hS : S w.drew)
    (h : SeqX P l.toArray S Q fl l a w.drew) : (Code.region id l.toArray true).wp P Q a w := by
  have hc' := hc
  simp only [inTextX, Bool.and_eq_true, Nat.blt_eq] at hc'
  obtain ⟨⟨hc1, hc2⟩, ⟨hxy, hyn⟩, hgy⟩ := hc'
  have hgo := fun j oj (hj : l.toArray[j]? = some oj) => gox_spec (fl := fl) (ops := l.toArray) l 0 hc2 j oj (by simpa using hj)
  have hg := fun j oj (hj : l.toArray[j]? = some oj) => gy_spec l 0 hgy j oj (by simpa using hj)
  refine wp_region_any hm (wpAny_of_x (x := x) (y := y) (fl := fl) (Region.noSelect_spec hc1) ?_ hxy (by simpa using hyn) ?_ ?_ ?_ ?_ _ _ a _ (by simp) (fun k o ho hl => ?_) ?_ ?_ ?_ hS ?_)
  · intro j oj hj
    have := (hgo j oj hj).1.2
    rwa [Nat.zero_add] at this
  · intro j oj hj
    have := (hgo j oj hj).1.1
    rwa [Nat.zero_add] at this
  · intro oj hj
    exact (hg y oj hj).1 (Nat.zero_add y)
  · intro j oj hj h1 h2
    exact (hg j oj hj).2 (by omega) (by omega)
  · intro j oj hj i oi hi hoi
    have := (hgo j oj hj).2 i oi (by omega) hoi
    rw [Nat.zero_add] at this
    rcases this with ⟨h1, h2⟩ | h1 | h1
    · exact .inl ⟨masks_spec l [] (fun j o h => by simpa using h) (fun j i h => by simp at h) _ _ h1, h2⟩
    · exact .inr (.inl h1)
    · exact .inr (.inr h1)
  · have hk : k < l.length := by simpa using (Array.getElem?_eq_some_iff.1 ho).1
    simp [hk] at hl
  · have : x < l.length := by omega
    simp [this]
  · simp [hyn]
  · simp [rem_none]
  · have := rem_none l
    simpa [this] using h

theorem SeqX.nil {a : Act} {w : World} (h : Q .normal a w) : SeqX P ops S Q fl [] a w := h
theorem SeqX.skip {o : Oper} {rest : List Oper} {a : Act} {w : World} (hf : fl o = false) (hw : Region.wanted o (yielded ops a.tmps) = false) (h : SeqX P ops S Q fl rest (a.put o.dst undef) w) : SeqX P ops S Q fl (o :: rest) a w :=
  .inl ⟨hf, undef, .inr ⟨hw, rfl⟩, h⟩
theorem SeqX.det {o : Oper} {rest : List Oper} {a : Act} {w : World} (v : Value) (hf : fl o = false) (hw : Region.wanted o (yielded ops a.tmps) = true) (hv : ∀ w, S w → (execOp a.eval o).run P w = .ok (.value v) w) (h : SeqX P ops S Q fl rest (a.put o.dst v) w) :
    SeqX P ops S Q fl (o :: rest) a w := .inl ⟨hf, v, .inl ⟨hw, hv⟩, h⟩
theorem SeqX.make {o : Oper} {rest : List Oper} {a : Act} {w : World} (hm : making o = true) (hf : fl o = false) (hw : Region.wanted o (yielded ops a.tmps) = true)
    (h : ∀ (K : Act → World → Prop) (Q' : Exit → Act → World → Prop), Shut (∀ a w, S w → SeqX P ops S Q fl rest a w → K a w) → o.wp P a w K Q') : SeqX P ops S Q fl (o :: rest) a w :=
  .inr ⟨hm, hw, h _ _ (fun a w h1 h2 => ⟨h1, h2⟩), fun e => by rw [hf] at e; cases e⟩
/-- The first of both: as it stands, and behind the second. From here on it is a plain order. -/
theorem SeqX.pair {o : Oper} {rest : List Oper} {a : Act} {w : World} (hm : making o = true) (hr : rest.all (fun o => !fl o) = true) (hw : Region.wanted o (yielded ops a.tmps) = true)
    (h : ∀ (K : Act → World → Prop) (Q' : Exit → Act → World → Prop), Shut (∀ a w, S w → Seq P ops S Q rest a w → K a w) → o.wp P a w K Q') (hs : Seq P ops S Q (swp o rest) a w) : SeqX P ops S Q fl (o :: rest) a w :=
  .inr ⟨hm, hw, h _ _ (fun a w h1 h2 => ⟨h1, x_of_seq rest a w (fun i hi => by simpa using List.all_eq_true.1 hr i hi) h2⟩), fun _ => hs⟩
end
end Go.Proofs.Ytppccdogfcmfjaa.Seq
