/- Words for bytes in memory: rows, pieces, rows of the call's own; append. -/
import Derived.Test.YtkedmhopajpkhaaMem
import Derived.Laws.CopyOwn
import Derived.Laws.BytesArg
import Derived.Maps.AppendAt
import Derived.Laws.AppendOwnNone
import Derived.Deep.RegionLaw
import Derived.Deep.RegionWith
import Derived.Deep.Slices
import Derived.Deep.Strs
import Derived.ProofKit
import Derived.OpenShut
namespace Go.Proofs.Ytkedmhopajpkhaa.Cur
open Go.RowKit Mem Go.ChangeShapes Go.WideShapes
set_option linter.unusedVariables false

theorem lt_of_cell {w : World} {k o : Nat} {v : Value} (h : w.cell? ⟨k, o, none⟩ = some v) : k < w.heap.size := by
  rcases Nat.lt_or_ge k w.heap.size with h' | h'
  · exact h'
  · simp [World.cell?, Array.getElem?_eq_none h'] at h
/-- All blocks of w but block b are in w' as they were. -/
structure Kp (b : Nat) (w w' : World) : Prop where
  os : w'.os = w.os
  tape : w'.tape = w.tape
  output : w'.output = w.output
  size : w.heap.size ≤ w'.heap.size
  block : ∀ k, k < w.heap.size → k ≠ b → w'.heap[k]? = w.heap[k]?
theorem Kp.refl (b : Nat) (w : World) : Kp b w w := ⟨rfl, rfl, rfl, Nat.le_refl _, fun _ _ _ => rfl⟩
theorem Kp.trans {b : Nat} {w w1 w2 : World} (h : Kp b w w1) (k : Kp b w1 w2) : Kp b w w2 :=
  ⟨k.os.trans h.os, k.tape.trans h.tape, k.output.trans h.output, Nat.le_trans h.size k.size,
   fun i hi hb => (k.block i (Nat.lt_of_lt_of_le hi h.size) hb).trans (h.block i hi hb)⟩
theorem Kp.of_below {b : Nat} {w w' : World} (h : Below w.heap.size w w') : Kp b w w' := ⟨h.os, h.tape, h.output, h.size, fun k hk _ => h.block k hk⟩
theorem Kp.below {b B : Nat} {w0 w w' : World} (h0 : Below B w0 w) (hB : B ≤ w0.heap.size) (h : Kp b w w') (hb : B ≤ b) : Below B w0 w' :=
  h0.trans ⟨h.os, h.tape, h.output, h.size, fun k hk => h.block k (by have := h0.size; omega) (by omega)⟩
theorem Kp.setCell (w : World) (b o : Nat) (v : Value) : Kp b w (w.setCell ⟨b, o, none⟩ v) :=
  ⟨rfl, rfl, rfl, by simp [World.setCell], fun k _ hk => Below.heap_setCell w ⟨b, o, none⟩ v k hk⟩
theorem Kp.drewN (b : Nat) (w : World) (n : Nat) : Kp b w (w.drewN n) := by
  refine Kp.of_below ?_
  exact below_drewN (Below.refl _ _) n
/-- Bytes at an address: nil let in. -/
def Bs (w : World) (A : Option Addr) (n : Nat) (z : List Int) : Prop :=
  z.length = n ∧ (0 < n → ∃ k o, A = some ⟨k, o, none⟩ ∧ ∀ i x, z[i]? = some x → w.cell? ⟨k, o + i, none⟩ = some (.int .u8 x))
theorem Bs.keep {w w' : World} {A : Option Addr} {n : Nat} {z : List Int} (h : Bs w A n z) (hk : ∀ k o x, w.cell? ⟨k, o, none⟩ = some (.int .u8 x) → w'.cell? ⟨k, o, none⟩ = some (.int .u8 x)) : Bs w' A n z :=
  ⟨h.1, fun hn => by
    obtain ⟨k, o, e, hc⟩ := h.2 hn
    exact ⟨k, o, e, fun i x hx => hk _ _ _ (hc i x hx)⟩⟩
theorem Bs.below {w w' : World} {A : Option Addr} {n : Nat} {z : List Int} (h : Bs w A n z) (hb : Below w.heap.size w w') : Bs w' A n z :=
  h.keep fun _ _ _ hc => (hb.cell (lt_of_cell hc)).trans hc
theorem old_reads {W V : World} (h : Below W.heap.size W V) :
    (∀ k o, k < W.heap.size → V.cell? ⟨k, o, none⟩ = W.cell? ⟨k, o, none⟩) ∧ ∀ k o, k < W.heap.size → V.frozen? ⟨k, o, none⟩ = W.frozen? ⟨k, o, none⟩ := by
  constructor <;> intro k o hk
  · exact World.cell?_of_block (w := W) (h.block k hk)
  · exact World.frozen?_of_block (w := W) (h.block k hk)
theorem Bs.drewN {w : World} {A : Option Addr} {n : Nat} {z : List Int} (h : Bs w A n z) (k : Nat) : Bs (w.drewN k) A n z := h
theorem info5 : (Try.prog.info? 5).map (fun i => (i.zero, i.size, i.bytes)) = some (some (.int .u8 0), 1, 1) := by kernel_rfl
theorem size5 : (Try.prog.info? 5).map (·.size) = some 1 := by kernel_rfl
/-- The piece of a list from place f up to place k. -/
def piece (z : List Int) (f k : Nat) : List Int := (z.drop f).take (k - f)
theorem addr_add_add (x : Addr) (i j : Nat) : (x.add i).add j = x.add (i + j) := by
  rcases Nat.eq_zero_or_pos i with h | h
  · subst h
    simp [Addr.add]
  · rcases Nat.eq_zero_or_pos j with k | k
    · subst k
      simp [Addr.add]
    · have h1 : ¬ i = 0 := by omega
      have h2 : ¬ j = 0 := by omega
      have h3 : ¬ i + j = 0 := by omega
      simp only [Addr.add, h1, h2, h3, if_false, Nat.add_assoc]
theorem length_piece {z : List Int} {n f k : Nat} (hz : z.length = n) (hk : k ≤ n) : (piece z f k).length = k - f := by simp [piece]; omega
theorem piece_cells {w : World} {a : Option Addr} {n f k : Nat} {z : List Int} (h : Bs w a n z) (hf : f < k) (hk : k ≤ n) :
    ∃ ad, a.map (·.add f) = some ad ∧ ∀ j v, ((piece z f k).map (Value.int .u8))[j]? = some v → w.cell? (ad.add j) = some v := by
  obtain ⟨g, o, rfl, hc⟩ := h.2 (by omega)
  refine ⟨_, rfl, fun j v hv => ?_⟩
  rw [List.getElem?_map, Option.map_eq_some_iff] at hv
  obtain ⟨x, hx, rfl⟩ := hv
  have hj : j < k - f := by
    have := (List.getElem?_eq_some_iff.1 hx).1
    have h1 := List.length_take_le (k - f) (z.drop f)
    unfold piece at this
    omega
  have hx' : z[f + j]? = some x := by
    unfold piece at hx
    rw [List.getElem?_take_of_lt hj, List.getElem?_drop] at hx
    exact hx
  have := hc (f + j) x hx'
  rw [addr_add_add]
  show w.cell? (Addr.add ⟨g, o, none⟩ (f + j)) = _
  rw [← this]
  unfold Addr.add
  by_cases h0 : f + j = 0
  · simp [h0]
  · rw [if_neg h0]
theorem Bs.at_ {w : World} {A : Option Addr} {n : Nat} {z : List Int} (h : Bs w A n z) {k : Nat} (hk : k < n) : ∃ g o, A = some ⟨g, o, none⟩ ∧ w.cell? ⟨g, o + k, none⟩ = some (.int .u8 (z.getD k 0)) := by
  obtain ⟨g, o, e, hc⟩ := h.2 (by omega)
  refine ⟨g, o, e, hc k _ ?_⟩
  have : k < z.length := by rw [h.1]; exact hk
  rw [List.getD_eq_getElem?_getD, List.getElem?_eq_getElem this]
  rfl
theorem run_convert_bs {w : World} {A : Option Addr} {n : Nat} (m : Nat) {z : List Int} (h : Bs w A n z) :
    (convert 22 9 (.slice A n m)).run Try.prog w = .ok (.string (strOfNums z)) w := by
  rcases A with _ | ad
  · have : z = [] := by
      rcases Nat.eq_zero_or_pos n with h0 | h0
      · exact List.eq_nil_of_length_eq_zero (h.1.trans h0)
      · obtain ⟨_, _, e, _⟩ := h.2 h0
        cases e
    subst this
    exact run_convert_bytes_nil w 22 5 Try.underlying22 Try.underlying5 n m 9 Try.underlying9
  · have hl : (loadCells ad n).run Try.prog w = .ok (z.map (Value.int .u8)).toArray w := by
      have := run_loadCells_list (P := Try.prog) w ad (z.map (Value.int .u8)) (fun j v hj => by
        rw [List.getElem?_map, Option.map_eq_some_iff] at hj
        obtain ⟨x, hx, rfl⟩ := hj
        have hj : j < z.length := (List.getElem?_eq_some_iff.1 hx).1
        obtain ⟨g, o, e, hc⟩ := h.2 (by have := h.1; omega)
        injection e with e
        subst e
        rw [← hc j x hx]
        unfold Addr.add
        by_cases h0 : j = 0 <;> simp [h0])
      simpa [h.1] using this
    rw [run_convert_bytes_string w 22 9 5 _ n m Try.underlying22 Try.underlying5 Try.underlying9, run_bytesToString w _ n m z hl, foldl_push_bytes]
    simp [strOfNums, ByteArray.empty, ByteArray.emptyWithCapacity]
    rfl
theorem Bs.of_block {w : World} {g t : Nat} {z : List Int} (h : w.heap[g]? = some (.cells (z.map (Value.int .u8)).toArray t (0, 0))) : Bs w (some ⟨g, 0, none⟩) z.length z :=
  ⟨rfl, fun _ => ⟨g, 0, rfl, fun i x hx => by simp [World.cell?, h, hx]⟩⟩
/-- Block g holds n bytes. -/
def Row (w : World) (g n : Nat) : Prop := ∃ xs : List Int, xs.length = n ∧ w.heap[g]? = some (.cells (xs.map (Value.int .u8)).toArray 5 (0, 0))
theorem Row.cell {w : World} {g n : Nat} (h : Row w g n) {k : Nat} (hk : k < n) : ∃ x : Int, w.cell? ⟨g, k, none⟩ = some (.int .u8 x) := by
  obtain ⟨xs, hl, hb⟩ := h
  exact ⟨xs[k]'(by omega), by simp [World.cell?, hb, List.getElem?_eq_getElem (show k < xs.length by omega)]⟩
theorem Row.free {w : World} {g n : Nat} (h : Row w g n) (k : Nat) : w.frozen? ⟨g, k, none⟩ = false := by
  obtain ⟨xs, _, hb⟩ := h
  simp [World.frozen?, hb]
theorem Row.set_ {w : World} {g n : Nat} (h : Row w g n) (k : Nat) (x : Int) : Row (w.setCell ⟨g, k, none⟩ (.int .u8 x)) g n := by
  obtain ⟨xs, hl, hb⟩ := h
  refine ⟨xs.set k x, by simpa using hl, ?_⟩
  simp [World.setCell, Array.getElem?_modify, hb, List.map_set]
theorem Row.of_block {w : World} {g n : Nat} {xs : List Int} (h : w.heap[g]? = some (.cells (xs.map (Value.int .u8)).toArray 5 (0, 0))) (hl : xs.length = n) : Row w g n := ⟨xs, hl, h⟩
theorem bs_far {w1 w2 w3 : World} {A : Option Addr} {n : Nat} {z : List Int} {g : Nat} (h1 : Bs w1 A n z) (hg : w1.heap.size ≤ g) (h2 : Bs w2 A n z) (hk : Kp g w2 w3) : Bs w3 A n z :=
  ⟨h2.1, fun hn => by
    obtain ⟨k, o, e, hc⟩ := h2.2 hn
    obtain ⟨k', o', e', hc'⟩ := h1.2 hn
    have hz : 0 < z.length := by rw [h1.1]; exact hn
    obtain rfl : k = k' := by rw [e] at e'; injection e' with e'; injection e'
    have hlt := lt_of_cell (hc' 0 _ (List.getElem?_eq_getElem hz))
    exact ⟨k, o, e, fun i x hx => (World.cell?_of_block (w := w2) (hk.block k (lt_of_cell (hc i x hx)) (by omega))).trans (hc i x hx)⟩⟩
/-- The slice value v is a row of the call's own, from block B on: the bytes z. -/
def Own (w : World) (B : Nat) (v : Value) (z : List Int) : Prop := w.ownsRow B 5 1 v z.length (z.map (Value.int .u8))
theorem Own.nil (w : World) (B : Nat) : Own w B (.slice none 0 0) [] := World.ownsRow_nil w B 5 1
theorem Own.block {w w' : World} {B : Nat} {v : Value} {z : List Int} (h : Own w B v z) (hb : ∀ k, v.ownBlock = some k → w'.heap[k]? = w.heap[k]?) : Own w' B v z := by
  obtain ⟨h1, h2⟩ := h
  refine ⟨h1, ?_⟩
  rcases h2 with h2 | ⟨g, cap, cur, rfl, hg, hh, r⟩
  · exact .inl h2
  · exact .inr ⟨g, cap, cur, rfl, hg, (hb g rfl).trans hh, r⟩
theorem Own.below {w w' : World} {B : Nat} {v : Value} {z : List Int} (h : Own w B v z) (hb : Below w.heap.size w w') : Own w' B v z :=
  h.block fun k hk => hb.block k (World.ownsRow.lt h k hk).2
theorem Own.bs {w : World} {B n c : Nat} {A : Option Addr} {z : List Int} (h : Own w B (.slice A n c) z) : n = z.length ∧ Bs w A n z := by
  rcases h.2 with ⟨e, h0⟩ | ⟨g, cap, cur, e, _, hh, _⟩
  · injection e with e1 e2 e3
    subst e2
    have hz : z = [] := List.eq_nil_of_length_eq_zero h0
    subst hz
    exact ⟨rfl, rfl, fun h => absurd h (by omega)⟩
  · injection e with e1 e2 e3
    subst e1 e2
    refine ⟨rfl, rfl, fun _ => ⟨g, 0, rfl, fun i x hx => ?_⟩⟩
    have := World.ownsRow.cells h (g := g) rfl i (.int .u8 x) (by rw [List.getElem?_map, hx]; rfl)
    rw [← this]
    congr 1
    unfold Addr.add
    by_cases h0 : i = 0 <;> simp [h0]
theorem Own.slice {w : World} {B : Nat} {v : Value} {z : List Int} (h : Own w B v z) : ∃ A c, v = .slice A z.length c := by
  rcases h.2 with ⟨e, h0⟩ | ⟨g, cap, cur, e, _⟩
  · exact ⟨none, 0, by rw [e, h0]⟩
  · exact ⟨_, cap, e⟩
theorem bs_news {w : World} {ad : Addr} {m : Nat} {z : List Int} (h : Bs w (some ad) m z) : ∀ j u, (z.map (Value.int .u8))[j]? = some u → w.cell? (ad.add j) = some u := by
  intro j u hu
  rw [List.getElem?_map, Option.map_eq_some_iff] at hu
  obtain ⟨x, hx, rfl⟩ := hu
  obtain ⟨k, o, e, hc⟩ := h.2 (by have := (List.getElem?_eq_some_iff.1 hx).1; rw [h.1] at this; omega)
  injection e with e
  subst e
  rw [← hc j x hx]
  congr 1
  unfold Addr.add
  by_cases h0 : j = 0 <;> simp [h0]
theorem run_append_bs (w : World) (ty : TypeId) (B : Nat) (v : Value) (z : List Int) (hown : Own w B v z) (A : Option Addr) (m c : Nat) (news : List Int) (hr : Bs w A m news) (hc : A = none → c = 0)
    (hsz : z.length + m ≤ 1000000) (hB : B ≤ w.heap.size) :
    ∃ v' w', (Builtin.append_ #[22, 22] ty #[v, .slice A m c]).run Try.prog w = .ok v' w' ∧ Own w' B v' (z ++ news) ∧ w.grownBy w' v.ownBlock := by
  obtain ⟨i0, hi, hz0, hz1, hz2⟩ := info_parts info5
  rcases A with _ | ad
  · have hm : m = 0 := by
      rcases Nat.eq_zero_or_pos m with h0 | h0
      · exact h0
      · obtain ⟨_, _, e, _⟩ := hr.2 h0
        cases e
    subst hm
    obtain rfl := hc rfl
    have hn : news = [] := List.eq_nil_of_length_eq_zero hr.1
    subst hn
    exact ⟨v, w, run_append_owned_none (P := Try.prog) (w := w) B 22 ty 5 i0 1 Try.underlying22 hi v _ _ hown, by simpa using hown, ⟨rfl, rfl, rfl, Nat.le_refl _, fun _ _ _ => rfl⟩⟩
  · obtain ⟨v', w', hrun, h2, h3, _, _⟩ := run_append_own_at (P := Try.prog) w B 22 ty 5 i0 (.int .u8 0) 1 1 Try.underlying22 hi hz0 hz1 hz2 rfl (by omega) v z.length (z.map (Value.int .u8)) hown ad m c (news.map (Value.int .u8))
      (by rw [List.length_map, hr.1, Nat.mul_one]) (bs_news hr) (fun u hu => by obtain ⟨x, _, rfl⟩ := List.mem_map.1 hu; rfl) (by simp only [maxLen]; omega) (by omega) hB
    refine ⟨v', w', hrun, ?_, h3⟩
    unfold Own
    rw [List.length_append, List.map_append, hr.1]
    exact h2
theorem oper_append_bs {w : World} {o : Oper} {a : Act} {K : Act → World → Prop} {Q : Exit → Act → World → Prop} (s x : Operand)
    (ho : o.op = .call { callee := .builtin .append, args := #[s, x], argTypes := #[22, 22] })
    (B : Nat) (v : Value) (z : List Int) (hs : a.eval s = v) (hown : Own w B v z) (A : Option Addr) (m c : Nat) (news : List Int) (hx : a.eval x = .slice A m c) (hr : Bs w A m news) (hc : A = none → c = 0)
    (hsz : z.length + m ≤ 1000000) (hB : B ≤ w.heap.size)
    (h : ∀ v' w', Own w' B v' (z ++ news) → w.grownBy w' v.ownBlock → K (a.put o.dst v') w') : o.wp Try.prog a w K Q := by
  obtain ⟨v', w', hrun, h2, h3⟩ := run_append_bs w o.type B v z hown A m c news hr hc hsz hB
  unfold Oper.wp
  simp [execOp, ho, resolve, invoke, builtin, hs, hx, hrun, Result.andThen]
  exact h v' w' h2 h3
theorem list_append_bs {w : World} {ops : Array Oper} {rest : List Oper} {o : Oper} {a : Act} {Q : Exit → Act → World → Prop} (hgd : o.guard = none) (s x : Operand)
    (ho : o.op = .call { callee := .builtin .append, args := #[s, x], argTypes := #[22, 22] })
    (B : Nat) (v : Value) (z : List Int) (hs : a.eval s = v) (hown : Own w B v z) (A : Option Addr) (m c : Nat) (news : List Int) (hx : a.eval x = .slice A m c) (hr : Bs w A m news) (hc : A = none → c = 0)
    (hsz : z.length + m ≤ 1000000) (hB : B ≤ w.heap.size)
    (h : ∀ v' w', Own w' B v' (z ++ news) → w.grownBy w' v.ownBlock → wpList Try.prog ops Q rest (a.put o.dst v') w') : wpList Try.prog ops Q (o :: rest) a w :=
  wpList_plain hgd fun _ hK => oper_append_bs s x ho B v z hs hown A m c news hx hr hc hsz hB fun v' w' h2 h3 => hK _ _ (h v' w' h2 h3)
theorem draw_append_bs {w : World} {ops : Array Oper} {o : Oper} {a : Act} {K : Act → World → Prop} {Q : Exit → Act → World → Prop} {E : Prop} (hgd : o.guard = none) (s x : Operand)
    (ho : o.op = .call { callee := .builtin .append, args := #[s, x], argTypes := #[22, 22] })
    (B : Nat) (v : Value) (z : List Int) (hs : a.eval s = v) (hown : Own w B v z) (A : Option Addr) (m c : Nat) (news : List Int) (hx : a.eval x = .slice A m c) (hr : Bs w A m news) (hc : A = none → c = 0)
    (hsz : z.length + m ≤ 1000000) (hB : B ≤ w.heap.size)
    (h : ∀ v' w', Own w' B v' (z ++ news) → w.grownBy w' v.ownBlock → K (a.put o.dst v') w') :
    if Region.wanted o (yielded ops a.tmps) = true then Oper.wp Try.prog o a w K Q else E := by
  rw [if_pos (by simp [Region.wanted, hgd])]
  exact oper_append_bs s x ho B v z hs hown A m c news hx hr hc hsz hB h
theorem Own.belowOf {w0 w w' : World} {B : Nat} {v : Value} {z : List Int} (hb : Below B w0 w) (hB : B ≤ w.heap.size) (h : Own w B v z) (hg : w.grownBy w' v.ownBlock) : Below B w0 w' :=
  hb.grown hg hB fun k hk => (World.ownsRow.lt h k hk).1
section
variable {H : Type} {enc : TypeId × Value → H} {w : World} {base : Nat} {v : Value} {d : DataW H} {p : List MemPlace}
theorem open_bytes (g : Value.okWide Try.prog w .any base 22 v) (h : DataW.Trod enc Try.prog w 0 (fun _ => true) true 22 v d p) :
    ∃ A n m z, v = .slice A n m ∧ n ≤ m ∧ Bs w A n z ∧ (∀ x ∈ z, 0 ≤ x ∧ x < 256) ∧ (A = none → m = 0) := by
  obtain ⟨A, n, m, rfl⟩ := okWide_slice Try.underlying22 g
  obtain ⟨fuel, hf⟩ := h
  rcases open_ints Try.underlying22 Try.underlying5 (by kernel_rfl) hf with ⟨hcs, _⟩ | ⟨x, l, c, zs, hcs, _, hl, hm, hz, _, hcell, hwz⟩
  · simp [Value.cells] at hcs
    obtain ⟨rfl, rfl, rfl⟩ := hcs
    exact ⟨none, 0, 0, [], rfl, Nat.le_refl _, ⟨rfl, fun h => absurd h (by omega)⟩, fun x h => by simp at h, fun _ => rfl⟩
  · simp [Value.cells] at hcs
    obtain ⟨rfl, rfl, rfl⟩ := hcs
    have hz' : zs.length = m := by simpa using hz
    refine ⟨some x, n, m, zs.take n, rfl, hl, ⟨by rw [List.length_take]; omega, fun hn => ?_⟩, fun y hy => ?_, fun e => by cases e⟩
    · obtain ⟨b, off, spot⟩ := x
      have hc := hcell 0 (by omega)
      have hspot : spot = none := by simpa [Addr.add] using World.cell?_spot hc
      subst hspot
      refine ⟨b, off, rfl, fun i x hx => ?_⟩
      have hi : i < n := by have := (List.getElem?_eq_some_iff.1 hx).1; rw [List.length_take] at this; omega
      rw [List.getElem?_take_of_lt hi] at hx
      have := hcell i (by omega)
      rw [List.getD_eq_getElem?_getD, hx] at this
      rw [← show (⟨b, off, none⟩ : Addr).add i = ⟨b, off + i, none⟩ by unfold Addr.add; split <;> simp_all]
      exact this
    · have h2 := bounds_u8 (hwz y (List.mem_of_mem_take hy))
      omega
end

theorem Bs.sub {w : World} {A : Option Addr} {n : Nat} {z : List Int} (h : Bs w A n z) (m l k : Nat) (hl : l ≤ k) (hk : k ≤ n) (hm : n ≤ m) : Bs w (if m = l then A else A.map (·.add (l * 1))) (k - l) (piece z l k) := by
  refine ⟨length_piece h.1 hk, fun hlt => ?_⟩
  rw [if_neg (by omega)]
  obtain ⟨g, o, rfl, hc⟩ := h.2 (by omega)
  have e : (⟨g, o, none⟩ : Addr).add (l * 1) = ⟨g, o + l, none⟩ := by
    unfold Addr.add
    by_cases h0 : l = 0 <;> simp [h0]
  refine ⟨g, o + l, by rw [Option.map_some, e], fun i x hx => ?_⟩
  have hi : i < k - l := by
    have := (List.getElem?_eq_some_iff.1 hx).1
    have h1 := List.length_take_le (k - l) (z.drop l)
    unfold piece at this
    omega
  unfold piece at hx
  rw [List.getElem?_take_of_lt hi, List.getElem?_drop] at hx
  have := hc (l + i) x hx
  rw [show o + l + i = o + (l + i) by omega]
  exact this
theorem slice_lh {w : World} {A : Option Addr} {n : Nat} {z : List Int} (hz : Bs w A n z) (m : Nat) (l k : Int) (h0 : 0 ≤ l) (h1 : l ≤ k) (h2 : k ≤ n) (hm : n ≤ m) :
    ∃ A' M, (∀ w', (Instr.slice 22 (.slice A n m) (some (.int .i64 l)) (some (.int .i64 k)) none).run Try.prog w' = .ok (.slice A' (k - l).toNat M) w') ∧ Bs w A' (k - l).toNat (piece z l.toNat k.toNat) ∧ (k - l).toNat ≤ M ∧ (A' = none → A = none ∧ M = m - l.toNat) := by
  have hs : ∀ w', (sizeOf 5).run Try.prog w' = .ok 1 w' := fun w' => by kernel_rfl
  have he : Try.prog.elem 22 = 5 := by kernel_rfl
  refine ⟨if m = l.toNat then A else A.map (·.add (l.toNat * 1)), m - l.toNat, fun w' => ?_, ?_, by omega, fun h => ?_⟩
  · have := run_slice_lh (P := Try.prog) (w := w') 22 A n m (by rw [he]; exact Try.underlying22) .i64 .i64 l k h0 h1 (by omega)
    rw [this, he, hs]
    simp [Result.andThen, sliced]
    omega
  · have := hz.sub m l.toNat k.toNat (by omega) (by omega) hm
    rw [show (k - l).toNat = k.toNat - l.toNat by omega]
    exact this
  · split at h
    · exact ⟨h, rfl⟩
    · exact ⟨by simpa using h, rfl⟩
theorem Own.far {w : World} {B : Nat} {v : Value} {z : List Int} (h : Own w B v z) {p : Addr} (hp : p.block < B) (u : Value) : Own (w.setCell p u) B v z :=
  h.block fun k hk => Below.heap_setCell w p u k (by have := (World.ownsRow.lt h k hk).1; omega)
theorem Own.cap {w : World} {B n c : Nat} {A : Option Addr} {z : List Int} (h : Own w B (.slice A n c) z) : n ≤ c := by
  rcases h.2 with ⟨e, h0⟩ | ⟨g, cap, cur, e, _, hh, r⟩
  · injection e with e1 e2 e3; omega
  · injection e with e1 e2 e3
    have r1 := r.1
    omega
theorem Below.of_grown_none {w w' : World} (h : w.grownBy w' none) : Below w.heap.size w w' := ⟨h.os, h.tape, h.output, h.size, fun k hk => h.block k hk (by simp)⟩
theorem Bs.none (w : World) : Bs w none 0 [] := ⟨rfl, fun h => absurd h (by omega)⟩
theorem piece_head (z : List Int) (p : Int) (h0 : 0 ≤ p) : (piece z p.toNat (p + 1).toNat).getD 0 0 = z.getD p.toNat 0 := by
  have : (p + 1).toNat - p.toNat = 1 := by omega
  simp [piece, this, List.getD_eq_getElem?_getD, List.getElem?_drop]
theorem Kp.far {b : Nat} {w w' : World} (h : Kp b w w') {p : Addr} (hp : w.heap.size ≤ p.block) (v : Value) : Kp b w (w'.setCell p v) :=
  ⟨h.os, h.tape, h.output, by simpa [World.setCell] using h.size, fun k hk hb => (Below.heap_setCell w' p v k (by omega)).trans (h.block k hk hb)⟩
theorem Kp.drew {b : Nat} {w w' : World} (h : Kp b w w') : Kp b w w'.drew := ⟨h.os, h.tape, h.output, h.size, h.block⟩
theorem blk_kp {w w' : World} {b k : Nat} {cs : Array Value} {t : Nat} (h : Blk w b cs t) (hb : Kp k w w') (hk : b ≠ k) : Blk w' b cs t := (hb.block b h.lt hk).trans h
theorem Bs.take {w : World} {A : Option Addr} {n : Nat} {z : List Int} (h : Bs w A n z) {k : Nat} (hk : k ≤ n) : Bs w A k (z.take k) :=
  ⟨by rw [List.length_take, h.1]; omega, fun hk0 => by
    obtain ⟨g, o, e, hc⟩ := h.2 (by omega)
    refine ⟨g, o, e, fun i x hx => hc i x ?_⟩
    have hi : i < k := by have := (List.getElem?_eq_some_iff.1 hx).1; rw [List.length_take] at this; omega
    rwa [List.getElem?_take_of_lt hi] at hx⟩
theorem Bs.alloc {w : World} {A : Option Addr} {n : Nat} {z : List Int} (h : Bs w A n z) (o : Obj) : Bs (w.alloc o) A n z := h.below (below_one _ _)
theorem set4 {w : World} {b : Nat} {v0 v1 v2 v3 : Value} {t : Nat} (h : Blk w b #[v0, v1, v2, v3] t) (u0 u1 u2 u3 : Value) :
    Blk ((((w.setCell ⟨b, 0, Option.none⟩ u0).setCell ⟨b, 1, Option.none⟩ u1).setCell ⟨b, 2, Option.none⟩ u2).setCell ⟨b, 3, Option.none⟩ u3) b #[u0, u1, u2, u3] t ∧
    Kp b w ((((w.setCell ⟨b, 0, Option.none⟩ u0).setCell ⟨b, 1, Option.none⟩ u1).setCell ⟨b, 2, Option.none⟩ u2).setCell ⟨b, 3, Option.none⟩ u3) :=
  ⟨(((h.set 0 u0).set 1 u1).set 2 u2).set 3 u3, (((Kp.setCell _ _ _ _).trans (Kp.setCell _ _ _ _)).trans (Kp.setCell _ _ _ _)).trans (Kp.setCell _ _ _ _)⟩
theorem Bs.kp4 {w w' : World} {A : Option Addr} {n : Nat} {z : List Int} {b : Nat} {v0 v1 v2 v3 : Value} {t : Nat} (h : Bs w A n z) (hr : Blk w b #[v0, v1, v2, v3] t) (h0 : ∀ x, v0 ≠ .int .u8 x) (h1 : ∀ x, v1 ≠ .int .u8 x) (h2 : ∀ x, v2 ≠ .int .u8 x) (h3 : ∀ x, v3 ≠ .int .u8 x) (hb : Kp b w w') : Bs w' A n z :=
  h.keep fun k o x hc => (World.cell?_of_block (w := w) (hb.block k (lt_of_cell hc) (hr.ne_of_cell hc (h0 x) (h1 x) (h2 x) (h3 x)))).trans hc
theorem Kp.new {b g : Nat} {w w1 w2 : World} (h : Kp b w w1) (k : Kp g w1 w2) (hg : w.heap.size ≤ g) : Kp b w w2 :=
  ⟨k.os.trans h.os, k.tape.trans h.tape, k.output.trans h.output, Nat.le_trans h.size k.size, fun i hi hb => (k.block i (Nat.lt_of_lt_of_le hi h.size) (by omega)).trans (h.block i hi hb)⟩
end Go.Proofs.Ytkedmhopajpkhaa.Cur
