/- As the seat's text, without what nothing here names. -/
import Derived.Test.YtoemmppoejaapaaK1f
import Derived.Test.YtoemmppoejaapaaK38f
namespace Go.Proofs.Ytoemmppoejaapaa.SeqG
open Go.Proofs.Ytoemmppoejaapaa.Seq
set_option linter.unusedVariables false
abbrev Gv := Value × (Nat × Nat)
section
variable {P : Program} {ops : Array Oper} {Q : Exit → Act → World → Prop} {S : World → Prop} {T : World → World → Prop} {w0 : World} {hv : Oper → Bool} {G : Oper → Gv → World → Prop} {D : Gv → Gv → Prop}
def vwp (P : Program) (o : Oper) (a : Act) (w : World) (R : Value → World → Prop) : Prop :=
  match (execOp a.eval o).run P w with
  | .ok (.value v) w' => R v w'
  | .ok .skip w' => R undef w'
  | .ok (.enter f args) w' => Calls P f args w' fun
      | .returned v, w'' => R v w''
      | _, _ => False
  | .ok (.row row args) w' => Rows P row args w' fun v w'' => R v w''
  | _ => False
theorem vwp_put {o : Oper} (hs : ∀ cs b, o.op ≠ .select cs b) {d : Option Tmp} {v : Value} (h1 : ∀ t, d = some t → t ∉ o.looksAt ops) {a : Act} {w : World} {R : Value → World → Prop} : vwp P o (a.put d v) w R ↔ vwp P o a w R := by
  unfold vwp
  rw [execOp_put o hs a d v h1]
theorem vwp_some {o : Oper} {a : Act} {w : World} {R : Value → World → Prop} (h : vwp P o a w R) : ∃ v w', R v w' := by
  unfold vwp at h
  generalize (execOp a.eval o).run P w = r at *
  cases r with
  | ok n w' =>
    cases n <;> simp only at h
    case value => exact ⟨_, _, h⟩
    case skip => exact ⟨_, _, h⟩
    case enter f args =>
      obtain ⟨e, w'', _, he, _⟩ := h []
      cases e with
      | returned u => exact ⟨_, _, he⟩
      | panicked c => exact he.elim
      | outgrown => exact he.elim
    case row row args =>
      obtain ⟨u, w'', he, _⟩ := h (Frame.ofRow P row args .normal) []
      exact ⟨_, _, he⟩
  | halt x w' => cases x <;> simp only at h
def Rl (P : Program) (ops : Array Oper) (S : World → Prop) (T : World → World → Prop) (w0 : World) (hv : Oper → Bool) (G : Oper → Gv → World → Prop) (D : Gv → Gv → Prop) (Q : Exit → Act → World → Prop) : List Oper → (Gv → Prop) → Act → World → Prop
  | [], _, a, w => Q .normal a w
  | o :: rest, H, a, w =>
    ((hv o = true → Region.wanted o (yielded ops a.tmps) = false) ∧ ∃ v, YieldsIf P ops S o v a ∧ Rl P ops S T w0 hv G D Q rest H (a.put o.dst v) w) ∨
    (hv o = true ∧ Region.wanted o (yielded ops a.tmps) = true ∧ (∀ w1, T w0 w1 → S w1 → vwp P o a w1 fun v w2 => ∃ g, T w1 w2 ∧ S w2 ∧ G o (v, g) w2 ∧ ∀ o' u, G o' u w1 → D (v, g) u) ∧ ∀ v w1, T w w1 → S w1 → G o v w1 → (∀ u, H u → D v u) → Rl P ops S T w0 hv G D Q rest (fun x => x = v ∨ H x) (a.put o.dst v.1) w1) ∨
    (making o = true ∧ hv o = false ∧ Region.wanted o (yielded ops a.tmps) = true ∧ o.wp P a w (fun a' w' => T w0 w' ∧ S w' ∧ Rl P ops S T w0 hv G D Q rest (fun _ => False) a' w') NoExit)
structure Fit (T : World → World → Prop) (G : Oper → Gv → World → Prop) (D : Gv → Gv → Prop) : Prop where
  refl : ∀ w, T w w
  trans : ∀ {a b c}, T a b → T b c → T a c
  keep : ∀ {o v w w'}, G o v w → T w w' → G o v w'
  symm : ∀ {u v}, D u v → D v u
theorem pull (F : Fit T G D) {j : Oper} (hsj : ∀ cs b, j.op ≠ .select cs b) (post : List Oper) : ∀ (pre : List Oper) (H : Gv → Prop) (a : Act) (w : World),
    (∀ i ∈ pre, i.apart ops j = true ∧ ((making i && making j) = false ∨ (hv i && hv j) = true) ∧ (hv i = true → making i = true) ∧ ∀ cs b, i.op ≠ .select cs b) → (hv j = true → making j = true) → T w0 w → S w → (∀ u, H u → ∃ o, G o u w) →
    Rl P ops S T w0 hv G D Q (pre ++ j :: post) H a w → Rl P ops S T w0 hv G D Q (j :: (pre ++ post)) H a w
  | [], H, a, w, _, _, _, _, _, h => h
  | i :: pre, H, a, w, hpre, hmkj, hT, hS, hH, h => by
    obtain ⟨hap, hmk, hvi, hsi⟩ := hpre i (List.mem_cons_self ..)
    obtain ⟨h1, h2, h3⟩ := Oper.apart_spec hap
    have h2' : ∀ d, j.dst = some d → i.dst ≠ some d := fun d hd he => h2 d he hd
    have ih := pull F hsj post pre
    have hpre' := fun k hk => hpre k (List.mem_cons_of_mem _ hk)
    rcases h with ⟨hA, v, hy, h⟩ | ⟨hB, hw, hrun, hcont⟩ | ⟨hm, hvn, hw, h⟩
    · rcases ih H (a.put i.dst v) w hpre' hmkj hT hS hH h with ⟨hj, u, hyj, hr⟩ | ⟨hj, hwj, hrj, hcj⟩ | ⟨hj, hvj, hwj, hr⟩
      · refine .inl ⟨fun hh => by rw [← wanted_put j a i.dst v h1]; exact hj hh, u, (yields_of_put hsj h1).1 hyj, .inl ⟨fun hh => by rw [wanted_put i a j.dst u h3]; exact hA hh, v, (yields_of_put hsi h3).2 hy, ?_⟩⟩
        rw [← Act.put_comm a v u h2]
        exact hr
      · refine .inr (.inl ⟨hj, by rw [← wanted_put j a i.dst v h1]; exact hwj, fun w1 ht hs1 => (vwp_put hsj h1).1 (hrj w1 ht hs1), fun u w1 ht hs1 hg hd => .inl ⟨fun hh => by rw [wanted_put i a j.dst u.1 h3]; exact hA hh, v, (yields_of_put hsi h3).2 hy, ?_⟩⟩)
        rw [← Act.put_comm a v u.1 h2]
        exact hcj u w1 ht hs1 hg hd
      · refine .inr (.inr ⟨hj, hvj, by rw [← wanted_put j a i.dst v h1]; exact hwj, ?_⟩)
        refine Seq.wp_mono (fun a' w' h' => ?_) (fun _ _ _ h => h) (fun h => h) (Seq.wp_put hsj h1 h2 hr)
        refine ⟨h'.1.1, h'.1.2.1, .inl ⟨fun hh => ?_, v, (yields_of_after hsi h3 h'.2).2 hy, h'.1.2.2⟩⟩
        obtain ⟨u, rfl | ⟨x, rfl⟩⟩ := h'.2
        · rw [wanted_put i a j.dst u h3]; exact hA hh
        · rw [wanted_put i _ j.dst u h3]; exact hA hh
    ·
      obtain ⟨v00, w2, g0, ht2, hs2, hg2, hf2⟩ := vwp_some (hrun w hT hS)
      obtain ⟨v0, hv0⟩ : ∃ v0 : Gv, v0 = (v00, g0) := ⟨_, rfl⟩
      rw [← hv0] at hg2 hf2
      have hd2 : ∀ u, H u → D v0 u := fun u hu => by obtain ⟨o', ho'⟩ := hH u hu; exact hf2 o' u ho'
      have key := fun (v : Gv) w1 (ht : T w w1) (hs1 : S w1) (hg : G i v w1) (hd : ∀ u, H u → D v u) => ih (fun x => x = v ∨ H x) (a.put i.dst v.1) w1 hpre' hmkj (F.trans hT ht) hs1 (fun u hu => by
        rcases hu with rfl | hu
        · exact ⟨i, hg⟩
        · obtain ⟨o', ho'⟩ := hH u hu; exact ⟨o', F.keep ho' ht⟩) (hcont v w1 ht hs1 hg hd)
      have hmi := hvi hB
      by_cases hun : hv j = true ∧ Region.wanted j (yielded ops a.tmps) = true
      · refine .inr (.inl ⟨hun.1, hun.2, ?_, fun u w1 ht1 hs1 hgu hdu => .inr (.inl ⟨hB, by rw [wanted_put i a j.dst u.1 h3]; exact hw, fun w3 ht3 hs3 => (vwp_put hsi h3).2 (hrun w3 ht3 hs3), fun v w3 ht3 hs3 hg3 hdv => ?_⟩)⟩)
        · rcases key v0 w2 ht2 hs2 hg2 hd2 with ⟨hj, _⟩ | ⟨_, _, hrj, _⟩ | ⟨_, hvj, _⟩
          · have := hj hun.1
            rw [wanted_put j a i.dst v0.1 h1, hun.2] at this
            cases this
          · exact fun w1 ht hs1 => (vwp_put hsj h1).1 (hrj w1 ht hs1)
          · rw [hun.1] at hvj; cases hvj
        · rw [← Act.put_comm a v.1 u.1 h2]
          rcases key v w3 (F.trans ht1 ht3) hs3 hg3 (fun x hx => hdv x (.inr hx)) with ⟨hj, _⟩ | ⟨_, _, _, hcj⟩ | ⟨_, hvj, _⟩
          · have := hj hun.1
            rw [wanted_put j a i.dst v.1 h1, hun.2] at this
            cases this
          · have e : (fun x => x = v ∨ (x = u ∨ H x)) = (fun x => x = u ∨ (x = v ∨ H x)) := funext fun x => propext or_left_comm
            rw [e]
            exact hcj u w3 (F.refl _) hs3 (F.keep hgu ht3) (fun x hx => by
              rcases hx with rfl | hx
              · exact F.symm (hdv u (.inl rfl))
              · exact hdu x hx)
          · rw [hun.1] at hvj; cases hvj
      ·
        have hone : ∀ (v : Gv) w1, T w w1 → S w1 → G i v w1 → (∀ u, H u → D v u) → ∃ u, YieldsIf P ops S j u a ∧ Rl P ops S T w0 hv G D Q (pre ++ post) (fun x => x = v ∨ H x) ((a.put i.dst v.1).put j.dst u) w1 := by
          intro v w1 ht hs1 hg hd
          rcases key v w1 ht hs1 hg hd with ⟨_, u, hyj, hr⟩ | ⟨hj, hwj, _⟩ | ⟨hj, hvj, _⟩
          · exact ⟨u, (yields_of_put hsj h1).1 hyj, hr⟩
          · exact absurd ⟨hj, by rw [← wanted_put j a i.dst v.1 h1]; exact hwj⟩ hun
          · rcases hmk with hmk | hmk
            · rw [hmi, hj] at hmk; cases hmk
            · rw [hvj] at hmk; simp at hmk
        obtain ⟨u, hyu, _⟩ := hone v0 w2 ht2 hs2 hg2 hd2
        refine .inl ⟨fun hh => ?_, u, hyu, .inr (.inl ⟨hB, by rw [wanted_put i a j.dst u h3]; exact hw, fun w3 ht3 hs3 => (vwp_put hsi h3).2 (hrun w3 ht3 hs3), fun v w3 ht3 hs3 hg3 hdv => ?_⟩)⟩
        · cases hwj : Region.wanted j (yielded ops a.tmps) with
          | false => rfl
          | true => exact absurd ⟨hh, hwj⟩ hun
        · obtain ⟨u', hyu', hr⟩ := hone v w3 ht3 hs3 hg3 hdv
          obtain rfl := yields_one hS hyu hyu'
          rw [← Act.put_comm a v.1 u h2]
          exact hr
    ·
      have hmj : making j = false := by
        rcases hmk with hmk | hmk
        · simpa [hm] using hmk
        · rw [hvn] at hmk; simp at hmk
      have hvj : hv j = false := by
        cases hh : hv j with
        | false => rfl
        | true => rw [hmkj hh] at hmj; cases hmj
      have key : i.wp P a w (fun a' w' => (T w0 w' ∧ S w') ∧ ∃ v, YieldsIf P ops S j v a' ∧ Rl P ops S T w0 hv G D Q (pre ++ post) (fun _ => False) (a'.put j.dst v) w') NoExit :=
        Seq.wp_mono (fun a' w' h' => ⟨⟨h'.1, h'.2.1⟩, by
          rcases ih (fun _ => False) a' w' hpre' hmkj h'.1 h'.2.1 (fun _ h => h.elim) h'.2.2 with ⟨_, hh⟩ | ⟨hj, _⟩ | ⟨hj, _⟩
          · exact hh
          · rw [hvj] at hj; cases hj
          · rw [hmj] at hj; cases hj⟩) (fun _ _ _ h => h) (fun h => h) h
      obtain ⟨a1, w1, ⟨_, v, hyv, _⟩, ha1⟩ := Seq.wp_some key
      have hyv' : YieldsIf P ops S j v a := (yields_of_after hsj h1 ha1).1 hyv
      refine .inl ⟨fun hh => absurd hh (by rw [hvj]; decide), v, hyv', .inr (.inr ⟨hm, hvn, by rw [wanted_put i a j.dst v h3]; exact hw, ?_⟩)⟩
      refine Seq.wp_unput hsi h3 h2' (Seq.wp_mono (fun a' w' h' ha' => ?_) (fun _ _ _ h => h) (fun h => h) key)
      obtain ⟨hS', v', hy', hr'⟩ := h'
      obtain rfl := yields_one hS hyv' ((yields_of_after hsj h1 ha').1 hy')
      exact ⟨hS'.1, hS'.2, hr'⟩
def inTextH (md : Region.Mode) (hv : Oper → Bool) (l : List Oper) : Bool :=
  Region.noSelect l.toArray && go md hv l.toArray (masks md l []) l 0
where
  go (md : Region.Mode) (hv : Oper → Bool) (ops : Array Oper) (M : List Nat) : List Oper → Nat → Bool
    | [], _ => true
    | oj :: rest, j => (!(hv oj) || making oj) && oj.after.toList.all (fun e => !Region.binds md e || Nat.blt e.on j) && goo hv ops oj ((M.getD j 0)) ops.toList 0 j && go md hv ops M rest (j + 1)
  goo (hv : Oper → Bool) (ops : Array Oper) (oj : Oper) (m : Nat) : List Oper → Nat → Nat → Bool
    | [], _, _ => true
    | oi :: rest, i, j => Nat.ble j i || ((Nat.testBit m i || (oi.apart ops oj && (!(making oi && making oj) || (hv oi && hv oj)))) && goo hv ops oj m rest (i + 1) j)
theorem goo_spec {oj : Oper} {m j : Nat} : ∀ (l : List Oper) (k : Nat), inTextH.goo hv ops oj m l k j = true → ∀ i oi, l[i]? = some oi → k + i < j → m.testBit (k + i) = true ∨ (oi.apart ops oj = true ∧ ((making oi && making oj) = false ∨ (hv oi && hv oj) = true))
  | [], _, _, i, oi, h, _ => by simp at h
  | o :: l, k, h, i, oi, hi, hlt => by
    unfold inTextH.goo at h
    rw [Bool.or_eq_true, Bool.and_eq_true] at h
    rcases h with h | ⟨h1, h2⟩
    · have := Nat.le_of_ble_eq_true h; omega
    · cases i with
      | zero =>
        simp only [List.getElem?_cons_zero, Option.some.injEq] at hi
        subst hi
        rw [Bool.or_eq_true] at h1
        rcases h1 with h1 | h1
        · exact .inl h1
        · rw [Bool.and_eq_true, Bool.or_eq_true, Bool.not_eq_true'] at h1
          exact .inr h1
      | succ i =>
        have := goo_spec l (k + 1) h2 i oi (by simpa using hi) (by omega)
        rw [show k + (i + 1) = k + 1 + i by omega]
        exact this
theorem go_spec {md : Region.Mode} {M : List Nat} : ∀ (l : List Oper) (k : Nat), inTextH.go md hv ops M l k = true → ∀ j oj, l[j]? = some oj →
    (hv oj = true → making oj = true) ∧ (∀ e ∈ oj.after, Region.binds md e = true → e.on < k + j) ∧ ∀ i oi, i < k + j → ops[i]? = some oi → (M.getD (k + j) 0).testBit i = true ∨ (oi.apart ops oj = true ∧ ((making oi && making oj) = false ∨ (hv oi && hv oj) = true))
  | [], _, _, j, oj, h => by simp at h
  | o :: l, k, h, j, oj, hj => by
    unfold inTextH.go at h
    simp only [Bool.and_eq_true] at h
    obtain ⟨⟨⟨h0, h1⟩, h2⟩, h3⟩ := h
    cases j with
    | zero =>
      simp only [List.getElem?_cons_zero, Option.some.injEq] at hj
      subst hj
      refine ⟨fun hh => by rw [hh] at h0; simpa using h0, fun e he hb => ?_, fun i oi hi hoi => ?_⟩
      · have := List.all_eq_true.1 h1 e (by simpa using he)
        simp only [hb, Bool.not_true, Bool.false_or] at this
        rw [Nat.blt_eq] at this
        omega
      · have := goo_spec ops.toList 0 h2 i oi (by simpa using hoi) (by omega)
        simpa using this
    | succ j =>
      have := go_spec l (k + 1) h3 j oj (by simpa using hj)
      rw [show k + (j + 1) = k + 1 + j by omega]
      exact this
variable {H : Gv → Prop}
theorem Rl.nil {a : Act} {w : World} (h : Q .normal a w) : Rl P ops S T w0 hv G D Q [] H a w := h
theorem Rl.skip {o : Oper} {rest : List Oper} {a : Act} {w : World} (hw : Region.wanted o (yielded ops a.tmps) = false) (h : Rl P ops S T w0 hv G D Q rest H (a.put o.dst undef) w) : Rl P ops S T w0 hv G D Q (o :: rest) H a w :=
  .inl ⟨fun _ => hw, undef, .inr ⟨hw, rfl⟩, h⟩
theorem Rl.det {o : Oper} {rest : List Oper} {a : Act} {w : World} (v : Value) (hn : hv o = false) (hw : Region.wanted o (yielded ops a.tmps) = true) (hvv : ∀ w, S w → (execOp a.eval o).run P w = .ok (.value v) w) (h : Rl P ops S T w0 hv G D Q rest H (a.put o.dst v) w) :
    Rl P ops S T w0 hv G D Q (o :: rest) H a w := .inl ⟨fun hh => absurd hh (by rw [hn]; decide), v, .inl ⟨hw, hvv⟩, h⟩
theorem Rl.make {o : Oper} {rest : List Oper} {a : Act} {w : World} (hm : making o = true) (hn : hv o = false) (hw : Region.wanted o (yielded ops a.tmps) = true)
    (h : ∀ (K : Act → World → Prop) (Q' : Exit → Act → World → Prop), Shut (∀ a w, T w0 w → S w → Rl P ops S T w0 hv G D Q rest (fun _ => False) a w → K a w) → o.wp P a w K Q') : Rl P ops S T w0 hv G D Q (o :: rest) H a w :=
  .inr (.inr ⟨hm, hn, hw, h _ _ (fun a w h1 h2 h3 => ⟨h1, h2, h3⟩)⟩)
end
end Go.Proofs.Ytoemmppoejaapaa.SeqG
namespace Go.Proofs.Ytoemmppoejaapaa.Cur
open Go.RowKit Mem
set_option linter.unusedVariables false
set_option maxRecDepth 100000
def CbPost (n : Nat) (z : List Int) (w : World) (e : Ending) (w' : World) : Prop := ∃ A' m', e = .returned (.slice A' n m') ∧ Own w' w.heap.size (.slice A' n m') z ∧ Below w.heap.size w w'
set_option maxHeartbeats 1000000 in
theorem cloneb_any (A : Option Addr) (n m : Nat) (z : List Int) (w : World) (hz : Bs w A n z) (hnil : A = none → m = 0) (hn : n ≤ 100000) : Calls Try.prog 48 #[.slice A n m] w (CbPost n z w) := by
  have q0 : ∀ (w : World) (a : Option Addr) (n c : Nat), (binOp .eql 29 (.slice a n c) (.slice none 0 0)).run Try.prog w = .ok (.bool a.isNone) w := fun w a n c => Lib.run_eql_slice_nil w _ _ a n c 0 0 Try.underlying29
  have hzl := hz.1
  rcases A with _ | ad
  · have h0 : z = [] := by
      rcases Nat.eq_zero_or_pos n with h0 | h0
      · exact List.eq_nil_of_length_eq_zero (by omega)
      · obtain ⟨_, _, e, _⟩ := hz.2 h0
        cases e
    subst h0
    obtain rfl : n = 0 := by simpa using hzl.symm
    go_enter Try.func48, Try.ntmps48
    go_wp2
    go_ret
    exact ⟨none, 0, rfl, Own.nil _ _, Below.refl _ _⟩
  · have hown0 := own_of_row (B := w.heap.size) (z := []) (Blk.new w #[] 5) (Nat.le_refl _) (by simp)
    have hbA := below_one w (.cells #[] 5)
    have hzA := hz.below hbA
    have HB : Hid (w.heap.size ≤ (w.alloc (.cells #[] 5)).heap.size) := Lib.hid hbA.size
    have HZL := Lib.hid hzl
    clear hz
    go_enter Try.func48, Try.ntmps48
    go_wp2_with (at_builtin; go_must (refine list_append_gr rfl (.tmp 5) (.tmp 6) rfl w.heap.size (.slice (some ⟨w.heap.size, 0, none⟩) 0 0) [] rfl hown0 _ n m z rfl hzA hnil (by simp; omega) HB.out ?_; intro v' w' ho' hg' hgr'; have H2 := Lib.hid (Own.belowOf hbA HB.out hown0 hg'); rw [List.nil_append] at ho'; obtain ⟨A', c', hv⟩ := ho'.slice; subst hv; rw [HZL.out] at ho' ⊢; have H1 := Lib.hid ho'; clear ho' hg' hgr' hzA hown0 hbA))
    go_ret
    exact ⟨_, _, rfl, H1.out, H2.out⟩
def CpIn (w : World) (lo hi : Nat) (A : Option Addr) (n m : Nat) (B : Option Addr) (r k : Nat) (L : List Lk) (D : List Int) : Prop :=
  Lks w (fun b => lo ≤ b ∧ b < hi) A n L ∧ n ≤ m ∧ Bs w B r D ∧ r ≤ k ∧ (0 < r → ∀ a, B = some a → lo ≤ a.block ∧ a.block < hi) ∧
  (0 < n → ∃ g cur, A = some ⟨g, 0, none⟩ ∧ lo ≤ g ∧ g < hi ∧ Blk w g cur 51 ∧ ∀ i, i < n → ∃ x, cur[i * 2]? = some (.int .u64 x)) ∧
  (0 < r → ∃ g cur, B = some ⟨g, 0, none⟩ ∧ lo ≤ g ∧ g < hi ∧ Blk w g cur 5 ∧ ∀ i, i < r → ∃ y, cur[i]? = some (.int .u8 y)) ∧ (A = none → m = 0) ∧ (B = none → k = 0)
theorem CpIn.below {w w' : World} {lo hi : Nat} {A : Option Addr} {n m : Nat} {B : Option Addr} {r k : Nat} {L : List Lk} {D : List Int} (h : CpIn w lo hi A n m B r k L D) (hb : Below w.heap.size w w') : CpIn w' lo hi A n m B r k L D := by
  obtain ⟨h1, h2, h3, h4, h5, h6, h7, h8⟩ := h
  refine ⟨h1.below hb, h2, h3.below hb, h4, h5, fun h0 => ?_, fun h0 => ?_, h8⟩
  · obtain ⟨g, cur, e, q1, q2, q3, q4⟩ := h6 h0
    exact ⟨g, cur, e, q1, q2, q3.below hb, q4⟩
  · obtain ⟨g, cur, e, q1, q2, q3, q4⟩ := h7 h0
    exact ⟨g, cur, e, q1, q2, q3.below hb, q4⟩
theorem CpIn.keep {w w' : World} {lo hi : Nat} {A : Option Addr} {n m : Nat} {B : Option Addr} {r k : Nat} {L : List Lk} {D : List Int} (h : CpIn w lo hi A n m B r k L D) (hk : ∀ b, lo ≤ b → b < hi → b < w.heap.size → w'.heap[b]? = w.heap[b]?) : CpIn w' lo hi A n m B r k L D := by
  obtain ⟨h1, h2, h3, h4, h5, h6, h7, h8⟩ := h
  refine ⟨h1.keep fun b hb hl => hk b hb.1 hb.2 hl, h2, ⟨h3.1, fun h0 => ?_⟩, h4, h5, fun h0 => ?_, fun h0 => ?_, h8⟩
  · obtain ⟨g, o, e, hc⟩ := h3.2 h0
    have hb := h5 h0 _ e
    refine ⟨g, o, e, fun i x hx => ?_⟩
    have hcc := hc i x hx
    exact (World.cell?_of_block (w := w) (hk g hb.1 hb.2 (lt_of_cell hcc))).trans hcc
  · obtain ⟨g, cur, e, q1, q2, q3, q4⟩ := h6 h0
    exact ⟨g, cur, e, q1, q2, (hk g q1 q2 q3.lt).trans q3, q4⟩
  · obtain ⟨g, cur, e, q1, q2, q3, q4⟩ := h7 h0
    exact ⟨g, cur, e, q1, q2, (hk g q1 q2 q3.lt).trans q3, q4⟩
theorem CpIn.wide {w : World} {lo hi lo' hi' : Nat} {A : Option Addr} {n m : Nat} {B : Option Addr} {r k : Nat} {L : List Lk} {D : List Int} (h : CpIn w lo hi A n m B r k L D) (h1 : lo' ≤ lo) (h2 : hi ≤ hi') : CpIn w lo' hi' A n m B r k L D := by
  obtain ⟨q1, q2, q3, q4, q5, q6, q7, q8⟩ := h
  refine ⟨q1.mono fun b hb _ => by omega, q2, q3, q4, fun h0 a ha => by have := q5 h0 a ha; omega, fun h0 => ?_, fun h0 => ?_, q8⟩
  · obtain ⟨g, cur, e, p1, p2, p3⟩ := q6 h0
    exact ⟨g, cur, e, by omega, by omega, p3⟩
  · obtain ⟨g, cur, e, p1, p2, p3⟩ := q7 h0
    exact ⟨g, cur, e, by omega, by omega, p3⟩
theorem cpin_of {w : World} {lo : Nat} {A : Option Addr} {n m : Nat} {B : Option Addr} {r k : Nat} {L : List Lk} {D : List Int} (hl : L.length = n) (hd : D.length = r) (h : OwnLks w lo (.slice A n m) L) (ho : Own w lo (.slice B r k) D) : CpIn w lo w.heap.size A n m B r k L D := by
  have h' := h
  obtain ⟨A', m', e, k1, k2, k3⟩ := h.lks
  injection e with e1 e2 e3
  subst e1 e3
  obtain ⟨cs, hch, how, hdis⟩ := h'
  have hbs := ho.bs.2
  refine ⟨by rw [hl] at k3; exact k3.mono fun b h1 h2 => ⟨h1, h2⟩, by omega, hbs, ho.cap, fun h0 a ha => ⟨own_addr ho a ha, hbs.lt h0 a ha⟩, fun h0 => ?_, fun h0 => ?_, k2, ?_⟩
  · rcases how.2 with ⟨e, h9⟩ | ⟨g, cap, cur, e, hB, hh, hcap, hmx, hsz, htk⟩
    · injection e with _ e _
      omega
    · injection e with e1 e2 e3
      subst e1
      refine ⟨g, cur, rfl, hB, Blk.lt hh, hh, fun i hi => ?_⟩
      obtain ⟨g', o', e', _, _, hc⟩ := k3.cells (by omega)
      injection e' with e'
      injection e' with e1 e2
      subst e1 e2
      obtain ⟨x, z, a, l, mm, _, _, _, _, _, _, _, _, _, hcell⟩ := hc i (by omega)
      have h8 := (hcell w (Below.refl _ _)).1
      have hsz2 : cur.size = cap * 2 := hsz
      have hlt : i * 2 < cur.size := by rw [hsz2]; omega
      have h9 := Blk.cell (w := w) hh (i * 2) (v := cur[i * 2]) (Array.getElem?_eq_getElem hlt)
      rw [Nat.zero_add, h9] at h8
      injection h8 with h8
      exact ⟨x, by rw [Array.getElem?_eq_getElem hlt, h8]⟩
  · rcases ho.2 with ⟨e, h9⟩ | ⟨g, cap, cur, e, hB, hh, hcap, hmx, hsz, htk⟩
    · injection e with _ e _
      omega
    · injection e with e1 e2 e3
      subst e1
      refine ⟨g, cur, rfl, hB, Blk.lt hh, hh, fun i hi => ?_⟩
      obtain ⟨g', o', e', hc⟩ := hbs.2 h0
      injection e' with e'
      injection e' with e1 e2
      subst e1 e2
      have hiD : i < D.length := by omega
      have h8 := hc i _ (List.getElem?_eq_getElem hiD)
      have hlt : i < cur.size := by rw [hsz]; omega
      have h9 := Blk.cell (w := w) hh i (v := cur[i]) (Array.getElem?_eq_getElem hlt)
      rw [Nat.zero_add, h9] at h8
      injection h8 with h8
      exact ⟨_, by rw [Array.getElem?_eq_getElem hlt, h8]⟩
  · intro e
    obtain ⟨A', c, e2, h0, h1⟩ := own_slice ho
    injection e2 with q1 q2 q3
    subst q1 q3
    exact h0 e
def EcPost (n r : Nat) (L : List Lk) (D : List Int) (w : World) (e : Ending) (w' : World) : Prop :=
  ∃ A m B k, e = .returned (enagg A n m B r k) ∧ Below w.heap.size w w' ∧ CpIn w' w.heap.size w'.heap.size A n m B r k L D
set_option maxHeartbeats 4000000 in
theorem encopy_any (P : Nat → Prop) (A : Option Addr) (n m : Nat) (L : List Lk) (B : Option Addr) (r k : Nat) (D : List Int) (w : World) (hz : Lks w P A n L) (hnil : A = none → m = 0) (hn : n ≤ 100000) (hlen : blen 100000 L) (hd : Bs w B r D) (hnilb : B = none → k = 0) (hr : r ≤ 100000) :
    Calls Try.prog 23 #[enagg A n m B r k] w (EcPost n r L D w) := by
  have hX := (Blk.new w (enc' A n m B r k) 31).alloc (.cells (enc' none 0 0 none 0 0) 31)
  have hY := Blk.new (w.alloc (.cells (enc' A n m B r k) 31)) (enc' none 0 0 none 0 0) 31
  rw [show (w.alloc (.cells (enc' A n m B r k) 31)).heap.size = w.heap.size + 1 by simp] at hY
  have hbd := below_two w (.cells (enc' A n m B r k) 31) (.cells (enc' none 0 0 none 0 0) 31)
  have hw0 : ((w.alloc (.cells (enc' A n m B r k) 31)).alloc (.cells (enc' none 0 0 none 0 0) 31)).drew.heap.size = w.heap.size + 2 := by show ((w.alloc _).alloc _).heap.size = _; simp
  have HLL := Lib.hid hz.1
  have HDL := Lib.hid hd.1
  have hXd : Blk ((w.alloc (.cells (enc' A n m B r k) 31)).alloc (.cells (enc' none 0 0 none 0 0) 31)).drew w.heap.size (enc' A n m B r k) 31 := hX
  have hYd : Blk ((w.alloc (.cells (enc' A n m B r k) 31)).alloc (.cells (enc' none 0 0 none 0 0) 31)).drew (w.heap.size + 1) (enc' none 0 0 none 0 0) 31 := hY
  have hbD := hbd.trans ((below_one' _).mono hbd.size)
  have hcl := lcopy_any P A n m L _ (hz.below hbD) hnil hn hlen
  have HCB := Lib.hid (fun w' (h : Below w.heap.size w w') => cloneb_any B r k D w' (hd.below h) hnilb hr)
  clear hz hd hX hY hbd hlen
  go_enter Try.func23, Try.ntmps23
  go_wp2
  have L1 : ∀ w', Blk w' w.heap.size (enc' A n m B r k) 31 → w'.cell? ⟨w.heap.size, 0, none⟩ = some (.slice A n m) ∧ w'.cell? ⟨w.heap.size, 1, none⟩ = some (.slice B r k) := fun w' h => h.c2
  refine Seq.wp_region_last (fun w' => Blk w' w.heap.size (enc' A n m B r k) 31) (by kernel_rfl) (by kernel_rfl) (by kernel_rfl) hXd ?_
  generalize ((w.alloc (.cells (enc' A n m B r k) 31)).alloc (.cells (enc' none 0 0 none 0 0) 31)).drew = wd at *
  repeat (first | (refine Seq.SeqE.skip (by rfl) ?_; (try simp only [Act.put, List.setIfInBounds_toArray, List.set_cons_zero, List.set_cons_succ])) | (refine Seq.SeqE.det ?_ (by rfl) (fun w hS => ?_) ?_; rotate_left; ((try dsimp only at hS); go_simp; (try rw [if_pos (by omega)]); with_reducible rfl); (try simp only [Act.put, List.setIfInBounds_toArray, List.set_cons_zero, List.set_cons_succ])))
  refine Seq.SeqE.make (by rfl) (by rfl) (fun K Q' hK => ?_)
  go_simp
  go_at_call 47
  refine hcl.mono ?_
  rintro en w5 ⟨v5, rfl, hb5, ho5⟩
  obtain ⟨A5, m5, rfl, _, _, _⟩ := ho5.lks
  rw [HLL.out] at ho5 ⊢
  have hS5 := hXd.below hb5
  replace hYd := hYd.below hb5
  replace hbD := hbD.trans (hb5.mono hbD.size)
  have hsz5 := hb5.size
  clear hcl hb5 hXd
  refine hK.out _ _ (hS5) ?_
  clear hK K
  try simp only [Act.put, List.setIfInBounds_toArray, List.set_cons_zero, List.set_cons_succ]
  repeat (first | (refine Seq.SeqE.skip (by rfl) ?_; (try simp only [Act.put, List.setIfInBounds_toArray, List.set_cons_zero, List.set_cons_succ])) | (refine Seq.SeqE.det ?_ (by rfl) (fun w hS => ?_) ?_; rotate_left; ((try dsimp only at hS); go_simp; (try rw [if_pos (by omega)]); with_reducible rfl); (try simp only [Act.put, List.setIfInBounds_toArray, List.set_cons_zero, List.set_cons_succ])))
  refine Seq.SeqE.make (by rfl) (by rfl) (fun K Q' hK => ?_)
  go_simp
  go_at_call 48
  refine (HCB.out _ hbD).mono ?_
  rintro en w6 ⟨B6, k6, rfl, ho6, hb6⟩
  have hS6 := hS5.below hb6
  replace hYd := hYd.below hb6
  replace hbD := hbD.trans (hb6.mono hbD.size)
  replace ho5 := ho5.below hb6
  have hsz6 := hb6.size
  clear hb6 hS5
  refine hK.out _ _ (hS6) ?_
  clear hK K
  try simp only [Act.put, List.setIfInBounds_toArray, List.set_cons_zero, List.set_cons_succ]
  repeat (first | (refine Seq.SeqE.skip (by rfl) ?_; (try simp only [Act.put, List.setIfInBounds_toArray, List.set_cons_zero, List.set_cons_succ])) | (refine Seq.SeqE.det ?_ (by rfl) (fun w hS => ?_) ?_; rotate_left; ((try dsimp only at hS); go_simp; (try rw [if_pos (by omega)]); with_reducible rfl); (try simp only [Act.put, List.setIfInBounds_toArray, List.set_cons_zero, List.set_cons_succ])))
  obtain ⟨y0, y1⟩ := hYd.c2
  have f0 := hYd.free 0
  have f1 := hYd.free 1
  refine Seq.SeqE.last (by rfl) (by rfl) (fun K Q' hK => ?_)
  go_simp
  refine hK.out _ _ ?_
  clear hK K
  try simp only [Act.put, List.setIfInBounds_toArray, List.set_cons_zero, List.set_cons_succ]
  clear y0 y1 f0 f1 L1 hS6
  have hin := cpin_of HLL.out HDL.out (OwnLks.base ho5 (B' := w.heap.size + 2) (by omega)) (ho6.base (B' := w.heap.size + 2) (fun g hg => by have := ho6.ge g hg; omega))
  have hY7 := ((hYd.set 0 (.slice A5 n m5)).set 1 (.slice B6 r k6))
  obtain ⟨y0, y1⟩ := Blk.c2 (v0 := .slice A5 n m5) (v1 := .slice B6 r k6) hY7
  have hszW : ((w6.setCell ⟨w.heap.size + 1, 0, none⟩ (.slice A5 n m5)).setCell ⟨w.heap.size + 1, 1, none⟩ (.slice B6 r k6)).heap.size = w6.heap.size := by simp
  have HIN := Lib.hid ((hin.keep (w' := (w6.setCell ⟨w.heap.size + 1, 0, none⟩ (.slice A5 n m5)).setCell ⟨w.heap.size + 1, 1, none⟩ (.slice B6 r k6)) (fun b h1 h2 h3 => by
    rw [Below.heap_setCell _ _ _ _ (by simp; omega), Below.heap_setCell _ _ _ _ (by simp; omega)])).wide (lo' := w.heap.size) (hi' := ((w6.setCell ⟨w.heap.size + 1, 0, none⟩ (.slice A5 n m5)).setCell ⟨w.heap.size + 1, 1, none⟩ (.slice B6 r k6)).heap.size) (by omega) (Nat.le_of_eq hszW.symm))
  have HBE := Lib.hid (Below.setCell (Below.setCell hbD (p := ⟨w.heap.size + 1, 0, none⟩) (by simp) (.slice A5 n m5)) (p := ⟨w.heap.size + 1, 1, none⟩) (by simp) (.slice B6 r k6))
  generalize ((w6.setCell ⟨w.heap.size + 1, 0, none⟩ (.slice A5 n m5)).setCell ⟨w.heap.size + 1, 1, none⟩ (.slice B6 r k6)) = W at *
  clear hin hY7 hYd hbD ho5 ho6
  go_wp2
  exact bodyPost_ret (v := enagg A5 n m5 B6 r k6) (by simp [results, Try.results23, go_sem, y0, y1]) rfl ⟨A5, m5, B6, k6, rfl, HBE.out, HIN.out⟩
end Go.Proofs.Ytoemmppoejaapaa.Cur
namespace Go.Proofs.Ytoemmppoejaapaa.Cur
open Go.RowKit Mem
set_option linter.unusedVariables false
set_option maxRecDepth 100000
def DtS (w : World) (B : Option Addr) (r lo hi : Nat) : Prop := 0 < r → ∃ g cur, B = some ⟨g, 0, none⟩ ∧ lo ≤ g ∧ g < hi ∧ Blk w g cur 5 ∧ ∀ i, i < r → ∃ y, cur[i]? = some (.int .u8 y)
def LkS2 (w : World) (A : Option Addr) (n lo hi : Nat) : Prop := 0 < n → ∃ g cur, A = some ⟨g, 0, none⟩ ∧ lo ≤ g ∧ g < hi ∧ Blk w g cur 51 ∧ ∀ i, i < n → ∃ x, cur[i * 2]? = some (.int .u64 x)
theorem DtS.below {w w' : World} {B : Option Addr} {r lo hi : Nat} (h : DtS w B r lo hi) (hb : Below w.heap.size w w') : DtS w' B r lo hi := fun h0 => by
  obtain ⟨g, cur, e, q1, q2, q3, q4⟩ := h h0
  exact ⟨g, cur, e, q1, q2, q3.below hb, q4⟩
theorem LkS2.below {w w' : World} {A : Option Addr} {n lo hi : Nat} (h : LkS2 w A n lo hi) (hb : Below w.heap.size w w') : LkS2 w' A n lo hi := fun h0 => by
  obtain ⟨g, cur, e, q1, q2, q3, q4⟩ := h h0
  exact ⟨g, cur, e, q1, q2, q3.below hb, q4⟩
theorem DtS.set {w : World} {g r lo hi k : Nat} {cur : Array Value} (z : Int) (q1 : lo ≤ g) (q2 : g < hi) (hg : Blk w g cur 5) (hc : ∀ i, i < r → ∃ y, cur[i]? = some (.int .u8 y)) : DtS (w.setCell ⟨g, k, none⟩ (.int .u8 z)) (some ⟨g, 0, none⟩) r lo hi := fun _ =>
  ⟨g, cur.set! k (.int .u8 z), rfl, q1, q2, hg.set k _, fun i hi => by
    obtain ⟨y, hy⟩ := hc i hi
    simp only [Array.set!_eq_setIfInBounds, Array.getElem?_setIfInBounds]
    by_cases h : k = i
    · subst h
      have := (Array.getElem?_eq_some_iff.1 hy).1
      exact ⟨z, by rw [if_pos rfl, if_pos this]⟩
    · exact ⟨y, by rw [if_neg h]; exact hy⟩⟩
theorem LkS2.set {w : World} {g n lo hi k : Nat} {cur : Array Value} (z : Int) (q1 : lo ≤ g) (q2 : g < hi) (hg : Blk w g cur 51) (hc : ∀ i, i < n → ∃ x, cur[i * 2]? = some (.int .u64 x)) : LkS2 (w.setCell ⟨g, k * 2, none⟩ (.int .u64 z)) (some ⟨g, 0, none⟩) n lo hi := fun _ =>
  ⟨g, cur.set! (k * 2) (.int .u64 z), rfl, q1, q2, hg.set (k * 2) _, fun i hi => by
    obtain ⟨y, hy⟩ := hc i hi
    simp only [Array.set!_eq_setIfInBounds, Array.getElem?_setIfInBounds]
    by_cases h : k * 2 = i * 2
    · rw [h]
      have := (Array.getElem?_eq_some_iff.1 hy).1
      exact ⟨z, by rw [if_pos rfl, if_pos this]⟩
    · exact ⟨y, by rw [if_neg h]; exact hy⟩⟩
end Go.Proofs.Ytoemmppoejaapaa.Cur
