/- As the seat's text, without what nothing here names. -/
import Derived.Test.YtlealkfkddhnnaaGreatK1v
namespace Go.Proofs.YtlealkfkddhnnaaGreat.SeqH
open Go.Proofs.YtlealkfkddhnnaaGreat.Seq
set_option linter.unusedVariables false
section
variable {P : Program} {ops : Array Oper} {Q : Exit → Act → World → Prop} {S : World → Prop} {T : World → World → Prop} {w0 : World} {hv : Oper → Bool} {G : Oper → Value → World → Prop} {D : Value → Value → Prop}
def vwp (P : Program) (o : Oper) (a : Act) (w : World) (R : Value → World → Prop) : Prop :=
  match (execOp a.eval o).run P w with
  | .ok (.value v) w' => R v w'
  | .ok .skip w' => R undef w'
  | .ok (.enter f args) w' => Calls P f args w' fun
      | .returned v, w'' => R v w''
      | _, _ => False
  | .ok (.row row args) w' => Rows P row args w' fun v w'' => R v w''
  | _ => False
theorem vwp_put {o : Oper} (hs : ∀ cs b, o.op ≠ .select cs b) {d : Option Tmp} {v : Value} (h1 : ∀ t, d = some t → t ∉ o.looksAt ops) {a : Act} {w : World} {R : Value → World → Prop} : vwp P o (a.put d v) w R ↔ vwp P o a w R := by
  unfold vwp
  rw [execOp_put o hs a d v h1]
theorem vwp_some {o : Oper} {a : Act} {w : World} {R : Value → World → Prop} (h : vwp P o a w R) : ∃ v w', R v w' := by
  unfold vwp at h
  generalize (execOp a.eval o).run P w = r at *
  cases r with
  | ok n w' =>
    cases n <;> simp only at h
    case value => exact ⟨_, _, h⟩
    case skip => exact ⟨_, _, h⟩
    case enter f args =>
      obtain ⟨e, w'', _, he, _⟩ := h []
      cases e with
      | returned u => exact ⟨_, _, he⟩
      | panicked c => exact he.elim
      | outgrown => exact he.elim
    case row row args =>
      obtain ⟨u, w'', he, _⟩ := h (Frame.ofRow P row args .normal) []
      exact ⟨_, _, he⟩
  | halt x w' => cases x <;> simp only at h
def Rl (P : Program) (ops : Array Oper) (S : World → Prop) (T : World → World → Prop) (w0 : World) (hv : Oper → Bool) (G : Oper → Value → World → Prop) (D : Value → Value → Prop) (Q : Exit → Act → World → Prop) : List Oper → (Value → Prop) → Act → World → Prop
  | [], _, a, w => Q .normal a w
  | o :: rest, H, a, w =>
    ((hv o = true → Region.wanted o (yielded ops a.tmps) = false) ∧ ∃ v, YieldsIf P ops S o v a ∧ Rl P ops S T w0 hv G D Q rest H (a.put o.dst v) w) ∨
    (hv o = true ∧ Region.wanted o (yielded ops a.tmps) = true ∧ (∀ w1, T w0 w1 → S w1 → vwp P o a w1 fun v w2 => T w1 w2 ∧ S w2 ∧ G o v w2 ∧ ∀ o' u, G o' u w1 → D v u) ∧ ∀ v w1, T w w1 → S w1 → G o v w1 → (∀ u, H u → D v u) → Rl P ops S T w0 hv G D Q rest (fun x => x = v ∨ H x) (a.put o.dst v) w1) ∨
    (making o = true ∧ hv o = false ∧ Region.wanted o (yielded ops a.tmps) = true ∧ o.wp P a w (fun a' w' => T w0 w' ∧ S w' ∧ Rl P ops S T w0 hv G D Q rest (fun _ => False) a' w') NoExit)
structure Fit (T : World → World → Prop) (G : Oper → Value → World → Prop) (D : Value → Value → Prop) : Prop where
  refl : ∀ w, T w w
  trans : ∀ {a b c}, T a b → T b c → T a c
  keep : ∀ {o v w w'}, G o v w → T w w' → G o v w'
  symm : ∀ {u v}, D u v → D v u
theorem pull (F : Fit T G D) {j : Oper} (hsj : ∀ cs b, j.op ≠ .select cs b) (post : List Oper) : ∀ (pre : List Oper) (H : Value → Prop) (a : Act) (w : World),
    (∀ i ∈ pre, i.apart ops j = true ∧ ((making i && making j) = false ∨ (hv i && hv j) = true) ∧ (hv i = true → making i = true) ∧ ∀ cs b, i.op ≠ .select cs b) → (hv j = true → making j = true) → T w0 w → S w → (∀ u, H u → ∃ o, G o u w) →
    Rl P ops S T w0 hv G D Q (pre ++ j :: post) H a w → Rl P ops S T w0 hv G D Q (j :: (pre ++ post)) H a w
  | [], H, a, w, _, _, _, _, _, h => h
  | i :: pre, H, a, w, hpre, hmkj, hT, hS, hH, h => by
    obtain ⟨hap, hmk, hvi, hsi⟩ := hpre i (List.mem_cons_self ..)
    obtain ⟨h1, h2, h3⟩ := Oper.apart_spec hap
    have h2' : ∀ d, j.dst = some d → i.dst ≠ some d := fun d hd he => h2 d he hd
    have ih := pull F hsj post pre
    have hpre' := fun k hk => hpre k (List.mem_cons_of_mem _ hk)
    rcases h with ⟨hA, v, hy, h⟩ | ⟨hB, hw, hrun, hcont⟩ | ⟨hm, hvn, hw, h⟩
    · rcases ih H (a.put i.dst v) w hpre' hmkj hT hS hH h with ⟨hj, u, hyj, hr⟩ | ⟨hj, hwj, hrj, hcj⟩ | ⟨hj, hvj, hwj, hr⟩
      · refine .inl ⟨fun hh => by rw [← wanted_put j a i.dst v h1]; exact hj hh, u, (yields_of_put hsj h1).1 hyj, .inl ⟨fun hh => by rw [wanted_put i a j.dst u h3]; exact hA hh, v, (yields_of_put hsi h3).2 hy, ?_⟩⟩
        rw [← Act.put_comm a v u h2]
        exact hr
      · refine .inr (.inl ⟨hj, by rw [← wanted_put j a i.dst v h1]; exact hwj, fun w1 ht hs1 => (vwp_put hsj h1).1 (hrj w1 ht hs1), fun u w1 ht hs1 hg hd => .inl ⟨fun hh => by rw [wanted_put i a j.dst u h3]; exact hA hh, v, (yields_of_put hsi h3).2 hy, ?_⟩⟩)
        rw [← Act.put_comm a v u h2]
        exact hcj u w1 ht hs1 hg hd
      · refine .inr (.inr ⟨hj, hvj, by rw [← wanted_put j a i.dst v h1]; exact hwj, ?_⟩)
        refine Seq.wp_mono (fun a' w' h' => ?_) (fun _ _ _ h => h) (fun h => h) (Seq.wp_put hsj h1 h2 hr)
        refine ⟨h'.1.1, h'.1.2.1, .inl ⟨fun hh => ?_, v, (yields_of_after hsi h3 h'.2).2 hy, h'.1.2.2⟩⟩
        obtain ⟨u, rfl | ⟨x, rfl⟩⟩ := h'.2
        · rw [wanted_put i a j.dst u h3]; exact hA hh
        · rw [wanted_put i _ j.dst u h3]; exact hA hh
    ·
      obtain ⟨v0, w2, ht2, hs2, hg2, hf2⟩ := vwp_some (hrun w hT hS)
      have hd2 : ∀ u, H u → D v0 u := fun u hu => by obtain ⟨o', ho'⟩ := hH u hu; exact hf2 o' u ho'
      have key := fun v w1 (ht : T w w1) (hs1 : S w1) (hg : G i v w1) (hd : ∀ u, H u → D v u) => ih (fun x => x = v ∨ H x) (a.put i.dst v) w1 hpre' hmkj (F.trans hT ht) hs1 (fun u hu => by
        rcases hu with rfl | hu
        · exact ⟨i, hg⟩
        · obtain ⟨o', ho'⟩ := hH u hu; exact ⟨o', F.keep ho' ht⟩) (hcont v w1 ht hs1 hg hd)
      have hmi := hvi hB
      by_cases hun : hv j = true ∧ Region.wanted j (yielded ops a.tmps) = true
      · refine .inr (.inl ⟨hun.1, hun.2, ?_, fun u w1 ht1 hs1 hgu hdu => .inr (.inl ⟨hB, by rw [wanted_put i a j.dst u h3]; exact hw, fun w3 ht3 hs3 => (vwp_put hsi h3).2 (hrun w3 ht3 hs3), fun v w3 ht3 hs3 hg3 hdv => ?_⟩)⟩)
        · rcases key v0 w2 ht2 hs2 hg2 hd2 with ⟨hj, _⟩ | ⟨_, _, hrj, _⟩ | ⟨_, hvj, _⟩
          · have := hj hun.1
            rw [wanted_put j a i.dst v0 h1, hun.2] at this
            cases this
          · exact fun w1 ht hs1 => (vwp_put hsj h1).1 (hrj w1 ht hs1)
          · rw [hun.1] at hvj; cases hvj
        · rw [← Act.put_comm a v u h2]
          rcases key v w3 (F.trans ht1 ht3) hs3 hg3 (fun x hx => hdv x (.inr hx)) with ⟨hj, _⟩ | ⟨_, _, _, hcj⟩ | ⟨_, hvj, _⟩
          · have := hj hun.1
            rw [wanted_put j a i.dst v h1, hun.2] at this
            cases this
          · have e : (fun x => x = v ∨ (x = u ∨ H x)) = (fun x => x = u ∨ (x = v ∨ H x)) := funext fun x => propext or_left_comm
            rw [e]
            exact hcj u w3 (F.refl _) hs3 (F.keep hgu ht3) (fun x hx => by
              rcases hx with rfl | hx
              · exact F.symm (hdv u (.inl rfl))
              · exact hdu x hx)
          · rw [hun.1] at hvj; cases hvj
      ·
        have hone : ∀ v w1, T w w1 → S w1 → G i v w1 → (∀ u, H u → D v u) → ∃ u, YieldsIf P ops S j u a ∧ Rl P ops S T w0 hv G D Q (pre ++ post) (fun x => x = v ∨ H x) ((a.put i.dst v).put j.dst u) w1 := by
          intro v w1 ht hs1 hg hd
          rcases key v w1 ht hs1 hg hd with ⟨_, u, hyj, hr⟩ | ⟨hj, hwj, _⟩ | ⟨hj, hvj, _⟩
          · exact ⟨u, (yields_of_put hsj h1).1 hyj, hr⟩
          · exact absurd ⟨hj, by rw [← wanted_put j a i.dst v h1]; exact hwj⟩ hun
          · rcases hmk with hmk | hmk
            · rw [hmi, hj] at hmk; cases hmk
            · rw [hvj] at hmk; simp at hmk
        obtain ⟨u, hyu, _⟩ := hone v0 w2 ht2 hs2 hg2 hd2
        refine .inl ⟨fun hh => ?_, u, hyu, .inr (.inl ⟨hB, by rw [wanted_put i a j.dst u h3]; exact hw, fun w3 ht3 hs3 => (vwp_put hsi h3).2 (hrun w3 ht3 hs3), fun v w3 ht3 hs3 hg3 hdv => ?_⟩)⟩
        · cases hwj : Region.wanted j (yielded ops a.tmps) with
          | false => rfl
          | true => exact absurd ⟨hh, hwj⟩ hun
        · obtain ⟨u', hyu', hr⟩ := hone v w3 ht3 hs3 hg3 hdv
          obtain rfl := yields_one hS hyu hyu'
          rw [← Act.put_comm a v u h2]
          exact hr
    ·
      have hmj : making j = false := by
        rcases hmk with hmk | hmk
        · simpa [hm] using hmk
        · rw [hvn] at hmk; simp at hmk
      have hvj : hv j = false := by
        cases hh : hv j with
        | false => rfl
        | true => rw [hmkj hh] at hmj; cases hmj
      have key : i.wp P a w (fun a' w' => (T w0 w' ∧ S w') ∧ ∃ v, YieldsIf P ops S j v a' ∧ Rl P ops S T w0 hv G D Q (pre ++ post) (fun _ => False) (a'.put j.dst v) w') NoExit :=
        Seq.wp_mono (fun a' w' h' => ⟨⟨h'.1, h'.2.1⟩, by
          rcases ih (fun _ => False) a' w' hpre' hmkj h'.1 h'.2.1 (fun _ h => h.elim) h'.2.2 with ⟨_, hh⟩ | ⟨hj, _⟩ | ⟨hj, _⟩
          · exact hh
          · rw [hvj] at hj; cases hj
          · rw [hmj] at hj; cases hj⟩) (fun _ _ _ h => h) (fun h => h) h
      obtain ⟨a1, w1, ⟨_, v, hyv, _⟩, ha1⟩ := Seq.wp_some key
      have hyv' : YieldsIf P ops S j v a := (yields_of_after hsj h1 ha1).1 hyv
      refine .inl ⟨fun hh => absurd hh (by rw [hvj]; decide), v, hyv', .inr (.inr ⟨hm, hvn, by rw [wanted_put i a j.dst v h3]; exact hw, ?_⟩)⟩
      refine Seq.wp_unput hsi h3 h2' (Seq.wp_mono (fun a' w' h' ha' => ?_) (fun _ _ _ h => h) (fun h => h) key)
      obtain ⟨hS', v', hy', hr'⟩ := h'
      obtain rfl := yields_one hS hyv' ((yields_of_after hsj h1 ha').1 hy')
      exact ⟨hS'.1, hS'.2, hr'⟩
def inTextH (md : Region.Mode) (hv : Oper → Bool) (l : List Oper) : Bool :=
  Region.noSelect l.toArray && go md hv l.toArray (masks md l []) l 0
where
  go (md : Region.Mode) (hv : Oper → Bool) (ops : Array Oper) (M : List Nat) : List Oper → Nat → Bool
    | [], _ => true
    | oj :: rest, j => (!(hv oj) || making oj) && oj.after.toList.all (fun e => !Region.binds md e || Nat.blt e.on j) && goo hv ops oj ((M.getD j 0)) ops.toList 0 j && go md hv ops M rest (j + 1)
  goo (hv : Oper → Bool) (ops : Array Oper) (oj : Oper) (m : Nat) : List Oper → Nat → Nat → Bool
    | [], _, _ => true
    | oi :: rest, i, j => Nat.ble j i || ((Nat.testBit m i || (oi.apart ops oj && (!(making oi && making oj) || (hv oi && hv oj)))) && goo hv ops oj m rest (i + 1) j)
theorem goo_spec {oj : Oper} {m j : Nat} : ∀ (l : List Oper) (k : Nat), inTextH.goo hv ops oj m l k j = true → ∀ i oi, l[i]? = some oi → k + i < j → m.testBit (k + i) = true ∨ (oi.apart ops oj = true ∧ ((making oi && making oj) = false ∨ (hv oi && hv oj) = true))
  | [], _, _, i, oi, h, _ => by simp at h
  | o :: l, k, h, i, oi, hi, hlt => by
    unfold inTextH.goo at h
    rw [Bool.or_eq_true, Bool.and_eq_true] at h
    rcases h with h | ⟨h1, h2⟩
    · have := Nat.le_of_ble_eq_true h; omega
    · cases i with
      | zero =>
        simp only [List.getElem?_cons_zero, Option.some.injEq] at hi
        subst hi
        rw [Bool.or_eq_true] at h1
        rcases h1 with h1 | h1
        · exact .inl h1
        · rw [Bool.and_eq_true, Bool.or_eq_true, Bool.not_eq_true'] at h1
          exact .inr h1
      | succ i =>
        have := goo_spec l (k + 1) h2 i oi (by simpa using hi) (by omega)
        rw [show k + (i + 1) = k + 1 + i by omega]
        exact this
theorem go_spec {md : Region.Mode} {M : List Nat} : ∀ (l : List Oper) (k : Nat), inTextH.go md hv ops M l k = true → ∀ j oj, l[j]? = some oj →
    (hv oj = true → making oj = true) ∧ (∀ e ∈ oj.after, Region.binds md e = true → e.on < k + j) ∧ ∀ i oi, i < k + j → ops[i]? = some oi → (M.getD (k + j) 0).testBit i = true ∨ (oi.apart ops oj = true ∧ ((making oi && making oj) = false ∨ (hv oi && hv oj) = true))
  | [], _, _, j, oj, h => by simp at h
  | o :: l, k, h, j, oj, hj => by
    unfold inTextH.go at h
    simp only [Bool.and_eq_true] at h
    obtain ⟨⟨⟨h0, h1⟩, h2⟩, h3⟩ := h
    cases j with
    | zero =>
      simp only [List.getElem?_cons_zero, Option.some.injEq] at hj
      subst hj
      refine ⟨fun hh => by rw [hh] at h0; simpa using h0, fun e he hb => ?_, fun i oi hi hoi => ?_⟩
      · have := List.all_eq_true.1 h1 e (by simpa using he)
        simp only [hb, Bool.not_true, Bool.false_or] at this
        rw [Nat.blt_eq] at this
        omega
      · have := goo_spec ops.toList 0 h2 i oi (by simpa using hoi) (by omega)
        simpa using this
    | succ j =>
      have := go_spec l (k + 1) h3 j oj (by simpa using hj)
      rw [show k + (j + 1) = k + 1 + j by omega]
      exact this
variable {H : Value → Prop}
theorem Rl.nil {a : Act} {w : World} (h : Q .normal a w) : Rl P ops S T w0 hv G D Q [] H a w := h
theorem Rl.skip {o : Oper} {rest : List Oper} {a : Act} {w : World} (hw : Region.wanted o (yielded ops a.tmps) = false) (h : Rl P ops S T w0 hv G D Q rest H (a.put o.dst undef) w) : Rl P ops S T w0 hv G D Q (o :: rest) H a w :=
  .inl ⟨fun _ => hw, undef, .inr ⟨hw, rfl⟩, h⟩
theorem Rl.det {o : Oper} {rest : List Oper} {a : Act} {w : World} (v : Value) (hn : hv o = false) (hw : Region.wanted o (yielded ops a.tmps) = true) (hvv : ∀ w, S w → (execOp a.eval o).run P w = .ok (.value v) w) (h : Rl P ops S T w0 hv G D Q rest H (a.put o.dst v) w) :
    Rl P ops S T w0 hv G D Q (o :: rest) H a w := .inl ⟨fun hh => absurd hh (by rw [hn]; decide), v, .inl ⟨hw, hvv⟩, h⟩
theorem Rl.make {o : Oper} {rest : List Oper} {a : Act} {w : World} (hm : making o = true) (hn : hv o = false) (hw : Region.wanted o (yielded ops a.tmps) = true)
    (h : ∀ (K : Act → World → Prop) (Q' : Exit → Act → World → Prop), Shut (∀ a w, T w0 w → S w → Rl P ops S T w0 hv G D Q rest (fun _ => False) a w → K a w) → o.wp P a w K Q') : Rl P ops S T w0 hv G D Q (o :: rest) H a w :=
  .inr (.inr ⟨hm, hn, hw, h _ _ (fun a w h1 h2 h3 => ⟨h1, h2, h3⟩)⟩)
end
end Go.Proofs.YtlealkfkddhnnaaGreat.SeqH
