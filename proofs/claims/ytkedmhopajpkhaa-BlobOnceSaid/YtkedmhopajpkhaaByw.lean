/- Frames: all blocks but some stay as they are. Appending to a row of the call's own: where the row lies behind it. -/
import Derived.Test.YtkedmhopajpkhaaByt
import Derived.Lib.AppendStr
namespace Go.Proofs.Ytkedmhopajpkhaa.Cur
open Go.RowKit Mem Go.ChangeShapes Go.WideShapes
set_option linter.unusedVariables false

/-- All blocks of w for which S does not hold are in w' as they were. -/
structure Ks (S : Nat → Prop) (w w' : World) : Prop where
  os : w'.os = w.os
  tape : w'.tape = w.tape
  output : w'.output = w.output
  size : w.heap.size ≤ w'.heap.size
  block : ∀ k, k < w.heap.size → ¬ S k → w'.heap[k]? = w.heap[k]?

theorem Ks.refl (S : Nat → Prop) (w : World) : Ks S w w := ⟨rfl, rfl, rfl, Nat.le_refl _, fun _ _ _ => rfl⟩
theorem Ks.of_below {S : Nat → Prop} {w w' : World} (h : Below w.heap.size w w') : Ks S w w' := ⟨h.os, h.tape, h.output, h.size, fun k hk _ => h.block k hk⟩
theorem Ks.drewN (S : Nat → Prop) (w : World) (n : Nat) : Ks S w (w.drewN n) := Ks.of_below (below_drewN (Below.refl _ _) n)
theorem Ks.trans' {S S1 : Nat → Prop} {w w1 w2 : World} (h : Ks S w w1) (k : Ks S1 w1 w2) (hS : ∀ i, i < w.heap.size → S1 i → S i) : Ks S w w2 :=
  ⟨k.os.trans h.os, k.tape.trans h.tape, k.output.trans h.output, Nat.le_trans h.size k.size,
   fun i hi hb => (k.block i (Nat.lt_of_lt_of_le hi h.size) (fun e => hb (hS i hi e))).trans (h.block i hi hb)⟩
theorem Ks.trans {S : Nat → Prop} {w w1 w2 : World} (h : Ks S w w1) (k : Ks S w1 w2) : Ks S w w2 := h.trans' k fun _ _ h => h
theorem Ks.below {S : Nat → Prop} {B : Nat} {w0 w w' : World} (h0 : Below B w0 w) (hB : B ≤ w0.heap.size) (h : Ks S w w') (hb : ∀ k, S k → B ≤ k) : Below B w0 w' :=
  h0.trans ⟨h.os, h.tape, h.output, h.size, fun k hk => h.block k (by have := h0.size; omega) (fun e => by have := hb k e; omega)⟩
theorem Ks.setCell {S : Nat → Prop} (w : World) (b o : Nat) (v : Value) (hS : S b) : Ks S w (w.setCell ⟨b, o, none⟩ v) :=
  ⟨rfl, rfl, rfl, by simp [World.setCell], fun k _ hk => Below.heap_setCell w ⟨b, o, none⟩ v k (fun e => hk (by rw [e]; exact hS))⟩
theorem Ks.of_grown {S : Nat → Prop} {w w' : World} {r : Option Nat} (h : w.grownBy w' r) (hS : ∀ k, r = some k → S k) : Ks S w w' :=
  ⟨h.os, h.tape, h.output, h.size, fun k hk hb => h.block k hk (fun e => hb (hS k e.symm))⟩
theorem Ks.of_kp {S : Nat → Prop} {b : Nat} {w w' : World} (h : Kp b w w') (hS : S b) : Ks S w w' :=
  ⟨h.os, h.tape, h.output, h.size, fun k hk hb => h.block k hk (fun e => hb (by rw [e]; exact hS))⟩
theorem _root_.Go.Proofs.Ytkedmhopajpkhaa.Mem.Blk.ks {S : Nat → Prop} {w w' : World} {b : Nat} {cs : Array Value} {t : Nat} (h : Blk w b cs t) (k : Ks S w w') (hb : ¬ S b) : Blk w' b cs t := (k.block b h.lt hb).trans h
theorem Bs.ks {S : Nat → Prop} {w w' : World} {A : Option Addr} {n : Nat} {z : List Int} (h : Bs w A n z) (k : Ks S w w') (hA : 0 < n → ∀ a, A = some a → ¬ S a.block) : Bs w' A n z :=
  ⟨h.1, fun hn => by
    obtain ⟨g, o, e, hc⟩ := h.2 hn
    exact ⟨g, o, e, fun i x hx => (World.cell?_of_block (w := w) (k.block g (lt_of_cell (hc i x hx)) (hA hn _ e))).trans (hc i x hx)⟩⟩
theorem Bs.lt {w : World} {A : Option Addr} {n : Nat} {z : List Int} (h : Bs w A n z) (hn : 0 < n) : ∀ a, A = some a → a.block < w.heap.size := fun a ha => by
  obtain ⟨g, o, e, hc⟩ := h.2 hn
  rw [e] at ha
  injection ha with ha
  subst ha
  have hz : 0 < z.length := by rw [h.1]; exact hn
  exact lt_of_cell (hc 0 _ (List.getElem?_eq_getElem hz))

/-- Where a row lies behind an append: where it lay, or in a new block. -/
def Gr (r r' : Option Nat) (w : World) : Prop := r' = r ∨ ∃ g, r' = some g ∧ w.heap.size ≤ g
theorem Gr.refl (r : Option Nat) (w : World) : Gr r r w := .inl rfl
theorem Gr.trans {r r1 r2 : Option Nat} {w w1 : World} (h : Gr r r1 w) (k : Gr r1 r2 w1) (hs : w.heap.size ≤ w1.heap.size) : Gr r r2 w := by
  rcases k with rfl | ⟨g, rfl, hg⟩
  · exact h
  · exact .inr ⟨g, rfl, Nat.le_trans hs hg⟩

theorem Own.none_own {w : World} {B : Nat} {v : Value} {z : List Int} (h : Own w B v z) (hv : v.ownBlock = none) : v = .slice none 0 0 ∧ z = [] := by
  rcases h.2 with ⟨rfl, h0⟩ | ⟨g, cap, cur, rfl, _⟩
  · exact ⟨rfl, List.eq_nil_of_length_eq_zero h0⟩
  · simp [Value.ownBlock] at hv
theorem Own.base {w : World} {B : Nat} {v : Value} {z : List Int} (h : Own w B v z) {B' : Nat} (hB : ∀ g, v.ownBlock = some g → B' ≤ g) : Own w B' v z := by
  obtain ⟨h1, h2⟩ := h
  refine ⟨h1, ?_⟩
  rcases h2 with h2 | ⟨g, cap, cur, rfl, hg, r⟩
  · exact .inl h2
  · exact .inr ⟨g, cap, cur, rfl, hB g rfl, r⟩
theorem Own.ge {w : World} {B : Nat} {v : Value} {z : List Int} (h : Own w B v z) : ∀ g, v.ownBlock = some g → B ≤ g := fun g hg => (World.ownsRow.lt h g hg).1
theorem Own.lt {w : World} {B : Nat} {v : Value} {z : List Int} (h : Own w B v z) : ∀ g, v.ownBlock = some g → g < w.heap.size := fun g hg => (World.ownsRow.lt h g hg).2
theorem Own.ne_blk {w : World} {B b : Nat} {v : Value} {z : List Int} {cs : Array Value} {t : Nat} (h : Own w B v z) (hr : Blk w b cs t) (ht : t ≠ 5) : v.ownBlock ≠ some b := by
  rcases h.2 with ⟨rfl, _⟩ | ⟨g, cap, cur, rfl, _, hh, _⟩
  · simp [Value.ownBlock]
  · intro he
    have : g = b := by simpa [Value.ownBlock] using he
    subst this
    unfold Blk at hr
    rw [hh] at hr
    injection hr with hr
    injection hr with _ hr
    exact ht hr.symm
theorem Own.ks {S : Nat → Prop} {w w' : World} {B : Nat} {v : Value} {z : List Int} (h : Own w B v z) (k : Ks S w w') (hS : ∀ g, v.ownBlock = some g → ¬ S g) : Own w' B v z :=
  h.block fun g hg => k.block g (h.lt g hg) (hS g hg)

/-- Appending bytes: the law, with the place of the row behind it. -/
theorem run_append_gr (w : World) (ty : TypeId) (B : Nat) (v : Value) (z : List Int) (hown : Own w B v z) (A : Option Addr) (m c : Nat) (news : List Int) (hr : Bs w A m news) (hc : A = none → c = 0)
    (hsz : z.length + m ≤ 1000000) (hB : B ≤ w.heap.size) :
    ∃ v' w', (Builtin.append_ #[22, 22] ty #[v, .slice A m c]).run Try.prog w = .ok v' w' ∧ Own w' B v' (z ++ news) ∧ w.grownBy w' v.ownBlock ∧ Gr v.ownBlock v'.ownBlock w := by
  obtain ⟨i0, hi, hz0, hz1, hz2⟩ := info_parts info5
  rcases A with _ | ad
  · have hm : m = 0 := by
      rcases Nat.eq_zero_or_pos m with h0 | h0
      · exact h0
      · obtain ⟨_, _, e, _⟩ := hr.2 h0
        cases e
    subst hm
    obtain rfl := hc rfl
    have hn : news = [] := List.eq_nil_of_length_eq_zero hr.1
    subst hn
    exact ⟨v, w, run_append_owned_none (P := Try.prog) (w := w) B 22 ty 5 i0 1 Try.underlying22 hi v _ _ hown, by simpa using hown, ⟨rfl, rfl, rfl, Nat.le_refl _, fun _ _ _ => rfl⟩, .inl rfl⟩
  · obtain ⟨v', w', hrun, h2, h3, _, h4⟩ := run_append_own_at (P := Try.prog) w B 22 ty 5 i0 (.int .u8 0) 1 1 Try.underlying22 hi hz0 hz1 hz2 rfl (by omega) v z.length (z.map (Value.int .u8)) hown ad m c (news.map (Value.int .u8))
      (by rw [List.length_map, hr.1, Nat.mul_one]) (bs_news hr) (fun u hu => by obtain ⟨x, _, rfl⟩ := List.mem_map.1 hu; rfl) (by simp only [maxLen]; omega) (by omega) hB
    refine ⟨v', w', hrun, ?_, h3, h4.imp_right fun h => ⟨_, h, Nat.le_refl _⟩⟩
    unfold Own
    rw [List.length_append, List.map_append, hr.1]
    exact h2

theorem list_append_gr {w : World} {ops : Array Oper} {rest : List Oper} {o : Oper} {a : Act} {Q : Exit → Act → World → Prop} (hgd : o.guard = none) (s x : Operand)
    (ho : o.op = .call { callee := .builtin .append, args := #[s, x], argTypes := #[22, 22] })
    (B : Nat) (v : Value) (z : List Int) (hs : a.eval s = v) (hown : Own w B v z) (A : Option Addr) (m c : Nat) (news : List Int) (hx : a.eval x = .slice A m c) (hr : Bs w A m news) (hc : A = none → c = 0)
    (hsz : z.length + m ≤ 1000000) (hB : B ≤ w.heap.size)
    (h : ∀ v' w', Own w' B v' (z ++ news) → w.grownBy w' v.ownBlock → Gr v.ownBlock v'.ownBlock w → wpList Try.prog ops Q rest (a.put o.dst v') w') : wpList Try.prog ops Q (o :: rest) a w :=
  wpList_plain hgd fun _ hK => by
    obtain ⟨v', w', hrun, h2, h3, h4⟩ := run_append_gr w o.type B v z hown A m c news hr hc hsz hB
    unfold Oper.wp
    simp [execOp, ho, resolve, invoke, builtin, hs, hx, hrun, Result.andThen]
    exact hK _ _ (h v' w' h2 h3 h4)

/-- The same at an operation with a guard. -/
theorem list_append_gw {w : World} {ops : Array Oper} {rest : List Oper} {o : Oper} {a : Act} {Q : Exit → Act → World → Prop} (hgd : Region.wanted o (yielded ops a.tmps) = true) (s x : Operand)
    (ho : o.op = .call { callee := .builtin .append, args := #[s, x], argTypes := #[22, 22] })
    (B : Nat) (v : Value) (z : List Int) (hs : a.eval s = v) (hown : Own w B v z) (A : Option Addr) (m c : Nat) (news : List Int) (hx : a.eval x = .slice A m c) (hr : Bs w A m news) (hc : A = none → c = 0)
    (hsz : z.length + m ≤ 1000000) (hB : B ≤ w.heap.size)
    (h : ∀ v' w', Own w' B v' (z ++ news) → w.grownBy w' v.ownBlock → Gr v.ownBlock v'.ownBlock w → wpList Try.prog ops Q rest (a.put o.dst v') w') : wpList Try.prog ops Q (o :: rest) a w :=
  wpList_step fun K hK => by
    simp only [hgd, if_true]
    obtain ⟨v', w', hrun, h2, h3, h4⟩ := run_append_gr w o.type B v z hown A m c news hr hc hsz hB
    unfold Oper.wp
    simp [execOp, ho, resolve, invoke, builtin, hs, hx, hrun, Result.andThen]
    exact hK _ _ (h v' w' h2 h3 h4)

/-- A text's bytes as numbers. -/
theorem strCells_nums (z : List Int) (hz : ∀ x ∈ z, 0 ≤ x ∧ x < 256) : Lib.strCells (strOfNums z) = z.map (Value.int .u8) := by
  simp only [Lib.strCells, strOfNums, List.map_map]
  refine List.map_congr_left fun x hx => ?_
  have := hz x hx
  simp only [Function.comp]
  congr 1
  simp
  omega
theorem size_strOfNums (z : List Int) : (strOfNums z).size = z.length := by
  simp [strOfNums, ByteArray.size]

/-- Appending a text. -/
theorem run_append_text (w : World) (ty : TypeId) (B : Nat) (v : Value) (z news : List Int) (hown : Own w B v z) (hnews : ∀ x ∈ news, 0 ≤ x ∧ x < 256)
    (hsz : z.length + news.length ≤ 1000000) (hB : B ≤ w.heap.size) :
    ∃ v' w', (Builtin.append_ #[22, 9] ty #[v, .string (strOfNums news)]).run Try.prog w = .ok v' w' ∧ Own w' B v' (z ++ news) ∧ w.grownBy w' v.ownBlock ∧ Gr v.ownBlock v'.ownBlock w := by
  obtain ⟨i0, hi, hz0, hz1, hz2⟩ := info_parts info5
  have key : ∀ B', Own w B' v z → B' ≤ w.heap.size → ∃ v' w', (Builtin.append_ #[22, 9] ty #[v, .string (strOfNums news)]).run Try.prog w = .ok v' w' ∧ Own w' B' v' (z ++ news) ∧ w.grownBy w' v.ownBlock := by
    intro B' ho hB'
    obtain ⟨v', w', hrun, h2, h3, _⟩ := Lib.run_append_own_string (P := Try.prog) w B' 22 9 ty 5 i0 Try.underlying22 Try.underlying9 hi hz0 hz1 hz2 v z.length (z.map (Value.int .u8)) ho (strOfNums news)
      (by rw [size_strOfNums]; simp only [maxLen]; omega) (by rw [size_strOfNums]; omega) hB'
    refine ⟨v', w', hrun, ?_, h3⟩
    unfold Own
    rw [List.length_append, List.map_append, ← strCells_nums news hnews, ← size_strOfNums news]
    exact h2
  obtain ⟨v', w', hrun, h2, h3⟩ := key B hown hB
  refine ⟨v', w', hrun, h2, h3, ?_⟩
  rcases hown.2 with ⟨rfl, h0⟩ | ⟨g, cap, cur, rfl, hg, hh, hcap, hcm, hcs, _⟩
  · obtain ⟨v2, w2, hrun2, h22, _⟩ := key w.heap.size (Own.base hown fun g hg => by simp [Value.ownBlock] at hg) (Nat.le_refl _)
    rw [hrun] at hrun2
    injection hrun2 with e1 e2
    subst e1
    cases hv : v'.ownBlock with
    | none => exact .inl (by simp [Value.ownBlock])
    | some g => exact .inr ⟨g, rfl, h22.ge g hv⟩
  · by_cases hroom : z.length + (strOfNums news).size ≤ cap
    · have := Lib.run_append_room_string (P := Try.prog) w 22 9 ty 5 i0 Try.underlying22 Try.underlying9 hi hz1 g z.length cap cur hh (strOfNums news) hroom (by rw [hcs]; omega)
      rw [hrun] at this
      injection this with e1 e2
      subst e1
      exact .inl rfl
    · have hl : (z.map (Value.int .u8)).length = z.length * i0.size := by rw [List.length_map, hz1, Nat.mul_one]
      have := Lib.run_append_grow_string (P := Try.prog) w 22 9 ty 5 i0 (.int .u8 0) Try.underlying22 Try.underlying9 hi hz0 ⟨g, 0, none⟩ z.length cap (z.map (Value.int .u8)) hl (World.ownsRow.cells hown (g := g) rfl) (strOfNums news)
        (by omega) (by rw [size_strOfNums]; omega) (by rw [hz2]; exact growslice_fits (by omega) (by rw [size_strOfNums]; omega))
      rw [hrun] at this
      injection this with e1 e2
      subst e1
      exact .inr ⟨_, rfl, Nat.le_refl _⟩

theorem list_append_text {w : World} {ops : Array Oper} {rest : List Oper} {o : Oper} {a : Act} {Q : Exit → Act → World → Prop} (hgd : o.guard = none) (s x : Operand)
    (ho : o.op = .call { callee := .builtin .append, args := #[s, x], argTypes := #[22, 9] })
    (B : Nat) (v : Value) (z news : List Int) (hs : a.eval s = v) (hown : Own w B v z) (hx : a.eval x = .string (strOfNums news)) (hnews : ∀ x ∈ news, 0 ≤ x ∧ x < 256)
    (hsz : z.length + news.length ≤ 1000000) (hB : B ≤ w.heap.size)
    (h : ∀ v' w', Own w' B v' (z ++ news) → w.grownBy w' v.ownBlock → Gr v.ownBlock v'.ownBlock w → wpList Try.prog ops Q rest (a.put o.dst v') w') : wpList Try.prog ops Q (o :: rest) a w :=
  wpList_plain hgd fun _ hK => by
    obtain ⟨v', w', hrun, h2, h3, h4⟩ := run_append_text w o.type B v z news hown hnews hsz hB
    unfold Oper.wp
    simp [execOp, ho, resolve, invoke, builtin, hs, hx, hrun, Result.andThen]
    exact hK _ _ (h v' w' h2 h3 h4)
end Go.Proofs.Ytkedmhopajpkhaa.Cur
