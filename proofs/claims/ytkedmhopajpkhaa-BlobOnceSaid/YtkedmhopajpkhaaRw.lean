/- Rows of whatever values: where they lie, rows of the call's own, append; numbers of 64 digits. -/
import Derived.Test.YtkedmhopajpkhaaOpenA
namespace Go.Proofs.Ytkedmhopajpkhaa.Cur
open Go.RowKit Mem Go.ChangeShapes Go.WideShapes
set_option linter.unusedVariables false

/-- At an address lie these values, cell by cell: nil let in. -/
def Rw (w : World) (A : Option Addr) (xs : List Value) : Prop := 0 < xs.length → ∃ k o, A = some ⟨k, o, none⟩ ∧ ∀ i v, xs[i]? = some v → w.cell? ⟨k, o + i, none⟩ = some v
theorem Rw.nil (w : World) (A : Option Addr) : Rw w A [] := fun h => absurd h (by simp)
theorem Rw.below {w w' : World} {A : Option Addr} {xs : List Value} (h : Rw w A xs) (hb : Below w.heap.size w w') : Rw w' A xs := fun hn => by
  obtain ⟨k, o, e, hc⟩ := h hn
  exact ⟨k, o, e, fun i v hi => (hb.cell (lt_of_cell (hc i v hi))).trans (hc i v hi)⟩
theorem Rw.ks {S : Nat → Prop} {w w' : World} {A : Option Addr} {xs : List Value} (h : Rw w A xs) (k : Ks S w w') (hA : 0 < xs.length → ∀ a, A = some a → ¬ S a.block) : Rw w' A xs := fun hn => by
  obtain ⟨g, o, e, hc⟩ := h hn
  exact ⟨g, o, e, fun i x hx => (World.cell?_of_block (w := w) (k.block g (lt_of_cell (hc i x hx)) (hA hn _ e))).trans (hc i x hx)⟩
theorem Rw.kp {b : Nat} {w w' : World} {A : Option Addr} {xs : List Value} (h : Rw w A xs) (k : Kp b w w') (hA : 0 < xs.length → ∀ a, A = some a → a.block ≠ b) : Rw w' A xs := h.ks (S := fun i => i = b) (Ks.of_kp k rfl) hA
theorem Rw.lt {w : World} {A : Option Addr} {xs : List Value} (h : Rw w A xs) (hn : 0 < xs.length) : ∀ a, A = some a → a.block < w.heap.size := fun a ha => by
  obtain ⟨g, o, e, hc⟩ := h hn
  rw [e] at ha
  injection ha with ha
  subst ha
  exact lt_of_cell (hc 0 _ (List.getElem?_eq_getElem hn))
theorem Rw.news {w : World} {ad : Addr} {xs : List Value} (h : Rw w (some ad) xs) : ∀ j u, xs[j]? = some u → w.cell? (ad.add j) = some u := by
  intro j u hu
  obtain ⟨k, o, e, hc⟩ := h (by have := (List.getElem?_eq_some_iff.1 hu).1; omega)
  injection e with e
  subst e
  rw [← hc j u hu]
  congr 1
  unfold Addr.add
  by_cases h0 : j = 0 <;> simp [h0]
theorem Rw.at_ {w : World} {A : Option Addr} {xs : List Value} (h : Rw w A xs) {i : Nat} {v : Value} (hi : xs[i]? = some v) : ∃ g o, A = some ⟨g, o, none⟩ ∧ w.cell? ⟨g, o + i, none⟩ = some v := by
  obtain ⟨k, o, e, hc⟩ := h (by have := (List.getElem?_eq_some_iff.1 hi).1; omega)
  exact ⟨k, o, e, hc i v hi⟩
theorem Bs.rw {w : World} {A : Option Addr} {n : Nat} {z : List Int} (h : Bs w A n z) : Rw w A (z.map (Value.int .u8)) := fun hn => by
  obtain ⟨k, o, e, hc⟩ := h.2 (by rw [List.length_map, h.1] at hn; exact hn)
  refine ⟨k, o, e, fun i v hi => ?_⟩
  rw [List.getElem?_map, Option.map_eq_some_iff] at hi
  obtain ⟨x, hx, rfl⟩ := hi
  exact hc i x hx

/-- A kind of rows: the slice's type, the element's, its zero, its cells and its bytes. -/
structure Kind (sl e : TypeId) (z : Value) (size bytes : Nat) : Prop where
  und : Try.prog.underlying sl = some (.slice e)
  info : (Try.prog.info? e).map (fun i => (i.zero, i.size, i.bytes)) = some (some z, size, bytes)
  zs : z.cells.size = size
  pos : 0 < size

theorem own_slice {w : World} {B e size n : Nat} {v : Value} {xs : List Value} (h : w.ownsRow B e size v n xs) : ∃ A c, v = .slice A n c ∧ (A = none → c = 0) ∧ n ≤ c := by
  rcases h.2 with ⟨e, h0⟩ | ⟨g, cap, cur, e, _, _, h1, _⟩
  · exact ⟨none, 0, by rw [e, h0], fun _ => rfl, by omega⟩
  · exact ⟨_, cap, e, fun h => (by cases h), h1⟩
theorem own_rw {w : World} {B e size n : Nat} {v : Value} {xs : List Value} (h : w.ownsRow B e size v n xs) {A : Option Addr} {m c : Nat} (hv : v = .slice A m c) : m = n ∧ n ≤ c ∧ (A = none → c = 0) ∧ Rw w A xs := by
  subst hv
  rcases h.2 with ⟨e, h0⟩ | ⟨g, cap, cur, e, _, hh, hc, _⟩
  · injection e with e1 e2 e3
    subst e1 e2 e3
    have hz : xs = [] := List.eq_nil_of_length_eq_zero (by rw [h.1, h0]; omega)
    subst hz
    exact ⟨h0.symm, by omega, fun _ => rfl, Rw.nil _ _⟩
  · injection e with e1 e2 e3
    subst e1 e2 e3
    refine ⟨rfl, hc, fun h => (by cases h), fun _ => ⟨g, 0, rfl, fun i x hx => ?_⟩⟩
    have := World.ownsRow.cells h (g := g) rfl i x hx
    rw [← this]
    congr 1
    unfold Addr.add
    by_cases h0 : i = 0 <;> simp [h0]
theorem own_block {w w' : World} {B e size n : Nat} {v : Value} {xs : List Value} (h : w.ownsRow B e size v n xs) (hb : ∀ k, v.ownBlock = some k → w'.heap[k]? = w.heap[k]?) : w'.ownsRow B e size v n xs := by
  obtain ⟨h1, h2⟩ := h
  refine ⟨h1, ?_⟩
  rcases h2 with h2 | ⟨g, cap, cur, rfl, hg, hh, r⟩
  · exact .inl h2
  · exact .inr ⟨g, cap, cur, rfl, hg, (hb g rfl).trans hh, r⟩
theorem own_below {w w' : World} {B e size n : Nat} {v : Value} {xs : List Value} (h : w.ownsRow B e size v n xs) (hb : Below w.heap.size w w') : w'.ownsRow B e size v n xs :=
  own_block h fun k hk => hb.block k (World.ownsRow.lt h k hk).2
theorem own_ks {S : Nat → Prop} {w w' : World} {B e size n : Nat} {v : Value} {xs : List Value} (h : w.ownsRow B e size v n xs) (k : Ks S w w') (hS : ∀ g, v.ownBlock = some g → ¬ S g) : w'.ownsRow B e size v n xs :=
  own_block h fun g hg => k.block g (World.ownsRow.lt h g hg).2 (hS g hg)
theorem own_kp {b : Nat} {w w' : World} {B e size n : Nat} {v : Value} {xs : List Value} (h : w.ownsRow B e size v n xs) (k : Kp b w w') (hb : v.ownBlock ≠ some b) : w'.ownsRow B e size v n xs :=
  own_ks (S := fun i => i = b) h (Ks.of_kp k rfl) fun g hg e => hb (by rw [hg, e])
theorem own_base {w : World} {B B' e size n : Nat} {v : Value} {xs : List Value} (h : w.ownsRow B e size v n xs) (hB : ∀ g, v.ownBlock = some g → B' ≤ g) : w.ownsRow B' e size v n xs := by
  obtain ⟨h1, h2⟩ := h
  refine ⟨h1, ?_⟩
  rcases h2 with h2 | ⟨g, cap, cur, rfl, hg, r⟩
  · exact .inl h2
  · exact .inr ⟨g, cap, cur, rfl, hB g rfl, r⟩
/-- Another type: another block. -/
theorem own_ne_blk {w : World} {B e size n b : Nat} {v : Value} {xs : List Value} {cs : Array Value} {t : Nat} (h : w.ownsRow B e size v n xs) (hr : Blk w b cs t) (ht : t ≠ e) : v.ownBlock ≠ some b := by
  rcases h.2 with ⟨rfl, _⟩ | ⟨g, cap, cur, rfl, _, hh, _⟩
  · simp [Value.ownBlock]
  · intro he
    have : g = b := by simpa [Value.ownBlock] using he
    subst this
    unfold Blk at hr
    rw [hh] at hr
    injection hr with hr
    injection hr with _ hr
    exact ht hr.symm

/-- Appending a row to a row of the call's own. -/
theorem run_append_rw {sl e : TypeId} {zv : Value} {size bytes : Nat} (E : Kind sl e zv size bytes) (w : World) (ty : TypeId) (B : Nat) (v : Value) (n : Nat) (xs : List Value) (hown : w.ownsRow B e size v n xs)
    (A : Option Addr) (m c : Nat) (news : List Value) (hl : news.length = m * size) (hr : Rw w A news) (hc : A = none → c = 0) (h1 : ∀ u ∈ news, u.oneCell' = true)
    (hsz : n + m ≤ 1000000) (hby : bytes ≤ 1000000) (hB : B ≤ w.heap.size) :
    ∃ v' w', (Builtin.append_ #[sl, sl] ty #[v, .slice A m c]).run Try.prog w = .ok v' w' ∧ w'.ownsRow B e size v' (n + m) (xs ++ news) ∧ w.grownBy w' v.ownBlock ∧ Gr v.ownBlock v'.ownBlock w := by
  obtain ⟨i0, hi, hz0, hz1, hz2⟩ := info_parts E.info
  have hbb : (n + m) * bytes ≤ 140737488355328 := Nat.le_trans (Nat.mul_le_mul hsz hby) (by omega)
  rcases A with _ | ad
  · have hm : m = 0 := by
      rcases Nat.eq_zero_or_pos m with h0 | h0
      · exact h0
      · obtain ⟨_, _, e, _⟩ := hr (by rw [hl]; exact Nat.mul_pos h0 E.pos)
        cases e
    subst hm
    obtain rfl := hc rfl
    have hn : news = [] := List.eq_nil_of_length_eq_zero (by rw [hl]; omega)
    subst hn
    exact ⟨v, w, run_append_owned_none (P := Try.prog) (w := w) B sl ty e i0 size E.und hi v _ _ hown, by simpa using hown, ⟨rfl, rfl, rfl, Nat.le_refl _, fun _ _ _ => rfl⟩, .inl rfl⟩
  · obtain ⟨v', w', hrun, h2, h3, _, h4⟩ := run_append_own_at (P := Try.prog) w B sl ty e i0 zv size bytes E.und hi hz0 hz1 hz2 E.zs E.pos v n xs hown ad m c news
      hl hr.news h1 (by simp only [maxLen]; omega) hbb hB
    exact ⟨v', w', hrun, h2, h3, h4.imp_right fun h => ⟨_, h, Nat.le_refl _⟩⟩
theorem list_append_rw {sl e : TypeId} {zv : Value} {size bytes : Nat} (E : Kind sl e zv size bytes) {w : World} {ops : Array Oper} {rest : List Oper} {o : Oper} {a : Act} {Q : Exit → Act → World → Prop} (hgd : o.guard = none) (s x : Operand)
    (ho : o.op = .call { callee := .builtin .append, args := #[s, x], argTypes := #[sl, sl] })
    (B : Nat) (v : Value) (n : Nat) (xs : List Value) (hs : a.eval s = v) (hown : w.ownsRow B e size v n xs) (A : Option Addr) (m c : Nat) (news : List Value) (hx : a.eval x = .slice A m c) (hl : news.length = m * size) (hr : Rw w A news) (hc : A = none → c = 0) (h1 : ∀ u ∈ news, u.oneCell' = true)
    (hsz : n + m ≤ 1000000) (hby : bytes ≤ 1000000) (hB : B ≤ w.heap.size)
    (h : ∀ v' w', w'.ownsRow B e size v' (n + m) (xs ++ news) → w.grownBy w' v.ownBlock → Gr v.ownBlock v'.ownBlock w → wpList Try.prog ops Q rest (a.put o.dst v') w') : wpList Try.prog ops Q (o :: rest) a w :=
  wpList_plain hgd fun _ hK => by
    obtain ⟨v', w', hrun, h2, h3, h4⟩ := run_append_rw E w o.type B v n xs hown A m c news hl hr hc h1 hsz hby hB
    unfold Oper.wp
    simp [execOp, ho, resolve, invoke, builtin, hs, hx, hrun, Result.andThen]
    exact hK _ _ (h v' w' h2 h3 h4)

/-! ### Numbers of 64 digits -/
abbrev uv (z : List Int) : List Value := z.map (Value.int .u64)
def Us (w : World) (A : Option Addr) (n : Nat) (z : List Int) : Prop := z.length = n ∧ Rw w A (uv z)
theorem Us.below {w w' : World} {A : Option Addr} {n : Nat} {z : List Int} (h : Us w A n z) (hb : Below w.heap.size w w') : Us w' A n z := ⟨h.1, h.2.below hb⟩
theorem Us.ks {S : Nat → Prop} {w w' : World} {A : Option Addr} {n : Nat} {z : List Int} (h : Us w A n z) (k : Ks S w w') (hA : 0 < n → ∀ a, A = some a → ¬ S a.block) : Us w' A n z :=
  ⟨h.1, h.2.ks k fun hn => hA (by rw [List.length_map, h.1] at hn; exact hn)⟩
theorem Us.at_ {w : World} {A : Option Addr} {n : Nat} {z : List Int} (h : Us w A n z) {k : Nat} (hk : k < n) : ∃ g o, A = some ⟨g, o, none⟩ ∧ w.cell? ⟨g, o + k, none⟩ = some (.int .u64 (z.getD k 0)) := by
  have hz : k < z.length := by rw [h.1]; exact hk
  refine h.2.at_ ?_
  rw [List.getElem?_map, List.getElem?_eq_getElem hz, List.getD_eq_getElem?_getD, List.getElem?_eq_getElem hz]
  rfl
def OwnU (w : World) (B : Nat) (v : Value) (z : List Int) : Prop := w.ownsRow B 48 1 v z.length (uv z)
theorem OwnU.nil (w : World) (B : Nat) : OwnU w B (.slice none 0 0) [] := World.ownsRow_nil w B 48 1
theorem OwnU.us {w : World} {B n c : Nat} {A : Option Addr} {z : List Int} (h : OwnU w B (.slice A n c) z) : n = z.length ∧ n ≤ c ∧ (A = none → c = 0) ∧ Us w A n z := by
  obtain ⟨h1, h2, h3, h4⟩ := own_rw h rfl
  exact ⟨h1, by omega, h3, h1.symm, h4⟩
theorem OwnU.slice {w : World} {B : Nat} {v : Value} {z : List Int} (h : OwnU w B v z) : ∃ A c, v = .slice A z.length c := by
  obtain ⟨A, c, e, _⟩ := own_slice h
  exact ⟨A, c, e⟩
theorem kindU : Kind 23 48 (.int .u64 0) 1 8 := ⟨Try.underlying23, by kernel_rfl, rfl, by omega⟩
theorem uv_one (z : List Int) : ∀ u ∈ uv z, u.oneCell' = true := fun u hu => by obtain ⟨x, _, rfl⟩ := List.mem_map.1 hu; rfl
/-- A row that the call made, of these numbers; nothing else changed. -/
def URowPost (z : List Int) (w : World) (e : Ending) (w' : World) : Prop :=
  ∃ v, e = .returned v ∧ OwnU w' w.heap.size v z ∧ Below w.heap.size w w'
section
variable {H : Type} {enc : TypeId × Value → H} {w : World} {base : Nat} {v : Value} {d : DataW H} {p : List MemPlace}
theorem open_u64s (g : Value.okWide Try.prog w .any base 23 v) (h : DataW.Trod enc Try.prog w 0 (fun _ => true) true 23 v d p) :
    ∃ A n m z, v = .slice A n m ∧ n ≤ m ∧ Us w A n z ∧ (∀ x ∈ z, 0 ≤ x ∧ x < 18446744073709551616) ∧ (A = none → m = 0) := by
  obtain ⟨A, n, m, rfl⟩ := okWide_slice Try.underlying23 g
  obtain ⟨fuel, hf⟩ := h
  rcases open_ints Try.underlying23 Try.underlying48 (by kernel_rfl) hf with ⟨hcs, _⟩ | ⟨x, l, c, zs, hcs, _, hl, hm, hz, _, hcell, hwz⟩
  · simp [Value.cells] at hcs
    obtain ⟨rfl, rfl, rfl⟩ := hcs
    exact ⟨none, 0, 0, [], rfl, Nat.le_refl _, ⟨rfl, Rw.nil _ _⟩, fun x h => by simp at h, fun _ => rfl⟩
  · simp [Value.cells] at hcs
    obtain ⟨rfl, rfl, rfl⟩ := hcs
    have hz' : zs.length = m := by simpa using hz
    refine ⟨some x, n, m, zs.take n, rfl, hl, ⟨by rw [List.length_take]; omega, fun hn => ?_⟩, fun y hy => ?_, fun e => by cases e⟩
    · rw [List.length_map, List.length_take] at hn
      obtain ⟨b, off, spot⟩ := x
      have hc := hcell 0 (by omega)
      have hspot : spot = none := by simpa [Addr.add] using World.cell?_spot hc
      subst hspot
      refine ⟨b, off, rfl, fun i x hx => ?_⟩
      rw [List.getElem?_map, Option.map_eq_some_iff] at hx
      obtain ⟨x, hx, rfl⟩ := hx
      have hi : i < n := by have := (List.getElem?_eq_some_iff.1 hx).1; rw [List.length_take] at this; omega
      rw [List.getElem?_take_of_lt hi] at hx
      have := hcell i (by omega)
      rw [List.getD_eq_getElem?_getD, hx] at this
      rw [← show (⟨b, off, none⟩ : Addr).add i = ⟨b, off + i, none⟩ by unfold Addr.add; split <;> simp_all]
      exact this
    · have h2 := bounds_u64 (hwz y (List.mem_of_mem_take hy))
      omega
end
end Go.Proofs.Ytkedmhopajpkhaa.Cur
