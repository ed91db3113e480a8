/- As the seat's text, without what nothing here names. -/
import Derived.Test.YtmiimjgfainclaaGreatChecked
import Derived.WalkKit
import Derived.WalkSpells
import Derived.WalkLawsBesides
import Derived.OneCell
import Derived.Lib.Hide
import Derived.Deep.QuietTactic
import Derived.BigQuiet
import Derived.Deep.Draws
import Derived.Laws.CopyOwn
import Derived.Laws.BytesArg
import Derived.Maps.AppendAt
import Derived.Laws.AppendOwnNone
import Derived.Deep.RegionLaw
import Derived.Deep.RegionWith
import Derived.Deep.Slices
import Derived.Deep.Strs
import Derived.ProofKit
import Derived.OpenShut
import Derived.Lib.AppendStr
import Derived.Deep.Matrix
import Derived.Lib.SmallJoins
import Derived.OrdersHeld
import Derived.Deep.RegionHeld
import Derived.Deep.RegionHeld3
namespace Go.Proofs.YtmiimjgfainclaaGreat.Mem
open Go.RowKit
set_option linter.unusedVariables false
def Blk (w : World) (b : Nat) (cs : Array Value) (t : Nat) : Prop := w.heap[b]? = some (.cells cs t (0, 0))
theorem Blk.new (w : World) (cs : Array Value) (t : Nat) : Blk (w.alloc (.cells cs t)) w.heap.size cs t := heap_alloc_new _ _
theorem Blk.lt {w : World} {b : Nat} {cs : Array Value} {t : Nat} (h : Blk w b cs t) : b < w.heap.size := lt_of_block h
theorem Blk.below {w w' : World} {b : Nat} {cs : Array Value} {t : Nat} (h : Blk w b cs t) (hb : Below w.heap.size w w') : Blk w' b cs t := (hb.block b h.lt).trans h
theorem Blk.drewN {w : World} {b : Nat} {cs : Array Value} {t : Nat} (h : Blk w b cs t) (k : Nat) : Blk (w.drewN k) b cs t := h
theorem Blk.drew {w : World} {b : Nat} {cs : Array Value} {t : Nat} (h : Blk w b cs t) : Blk w.drew b cs t := h
theorem Blk.alloc {w : World} {b : Nat} {cs : Array Value} {t : Nat} (h : Blk w b cs t) (o : Obj) : Blk (w.alloc o) b cs t := h.below ((Below.refl _ _).alloc (Nat.le_refl _) _)
theorem Blk.cell {w : World} {b : Nat} {cs : Array Value} {t : Nat} (h : Blk w b cs t) (i : Nat) {v : Value} (hi : cs[i]? = some v) : w.cell? ⟨b, i, none⟩ = some v := by
  unfold Blk at h
  simp [World.cell?, h, hi]
theorem Blk.free {w : World} {b : Nat} {cs : Array Value} {t : Nat} (h : Blk w b cs t) (o : Nat) : w.frozen? ⟨b, o, none⟩ = false := by
  unfold Blk at h
  simp [World.frozen?, h]
theorem Blk.set {w : World} {b : Nat} {cs : Array Value} {t : Nat} (h : Blk w b cs t) (i : Nat) (v : Value) : Blk (w.setCell ⟨b, i, none⟩ v) b (cs.setIfInBounds i v) t := by
  unfold Blk at h ⊢
  simp [World.setCell, Array.getElem?_modify, h]
theorem Blk.far {w : World} {b : Nat} {cs : Array Value} {t : Nat} (h : Blk w b cs t) {g : Nat} (i : Nat) (v : Value) (hg : b ≠ g) : Blk (w.setCell ⟨g, i, none⟩ v) b cs t :=
  (Below.heap_setCell w ⟨g, i, none⟩ v b hg).trans h
theorem Blk.c1 {w : World} {b : Nat} {v0 : Value} {t : Nat} (h : Blk w b #[v0] t) : w.cell? ⟨b, 0, none⟩ = some v0 := h.cell 0 rfl
theorem Blk.c2 {w : World} {b : Nat} {v0 v1 : Value} {t : Nat} (h : Blk w b #[v0, v1] t) : w.cell? ⟨b, 0, none⟩ = some v0 ∧ w.cell? ⟨b, 1, none⟩ = some v1 := ⟨h.cell 0 rfl, h.cell 1 rfl⟩
theorem Blk.c3 {w : World} {b : Nat} {v0 v1 v2 : Value} {t : Nat} (h : Blk w b #[v0, v1, v2] t) : w.cell? ⟨b, 0, none⟩ = some v0 ∧ w.cell? ⟨b, 1, none⟩ = some v1 ∧ w.cell? ⟨b, 2, none⟩ = some v2 := ⟨h.cell 0 rfl, h.cell 1 rfl, h.cell 2 rfl⟩
theorem three_new {w w1 : World} {cs ds es : Array Value} {t u r : Nat} (hb : Below (((w.alloc (.cells cs t)).alloc (.cells ds u)).alloc (.cells es r)).heap.size (((w.alloc (.cells cs t)).alloc (.cells ds u)).alloc (.cells es r)) w1) :
    Blk w1 w.heap.size cs t ∧ Blk w1 (w.heap.size + 1) ds u ∧ Blk w1 (w.heap.size + 1 + 1) es r ∧ Below w.heap.size w w1 := by
  have h1 := (((Blk.new w cs t).alloc (.cells ds u)).alloc (.cells es r)).below hb
  have h2 := ((Blk.new (w.alloc (.cells cs t)) ds u).alloc (.cells es r)).below hb
  have h3 := (Blk.new ((w.alloc (.cells cs t)).alloc (.cells ds u)) es r).below hb
  refine ⟨h1, by simpa using h2, by simpa using h3, (((Below.refl _ _).alloc (Nat.le_refl _) _).alloc (by simp) _).alloc (by simp; omega) _ |>.trans (hb.mono (by simp; omega))⟩
theorem below_three (w : World) (o o' o'' : Obj) : Below w.heap.size w (((w.alloc o).alloc o').alloc o'') := (((Below.refl _ _).alloc (Nat.le_refl _) _).alloc (by simp) _).alloc (by simp; omega) _
theorem below_two (w : World) (o o' : Obj) : Below w.heap.size w ((w.alloc o).alloc o') := ((Below.refl _ _).alloc (Nat.le_refl _) _).alloc (by simp) _
theorem below_one (w : World) (o : Obj) : Below w.heap.size w (w.alloc o) := (Below.refl _ _).alloc (Nat.le_refl _) _
end Go.Proofs.YtmiimjgfainclaaGreat.Mem
namespace Go.Proofs.YtmiimjgfainclaaGreat.Cur
open Go.RowKit Mem Go.ChangeShapes Go.WideShapes
set_option linter.unusedVariables false
set_option maxRecDepth 100000
theorem lt_of_cell {w : World} {k o : Nat} {v : Value} (h : w.cell? ⟨k, o, none⟩ = some v) : k < w.heap.size := by
  rcases Nat.lt_or_ge k w.heap.size with h' | h'
  · exact h'
  · simp [World.cell?, Array.getElem?_eq_none h'] at h
structure Kp (b : Nat) (w w' : World) : Prop where
  os : w'.os = w.os
  tape : w'.tape = w.tape
  output : w'.output = w.output
  size : w.heap.size ≤ w'.heap.size
  block : ∀ k, k < w.heap.size → k ≠ b → w'.heap[k]? = w.heap[k]?
theorem Kp.refl (b : Nat) (w : World) : Kp b w w := ⟨rfl, rfl, rfl, Nat.le_refl _, fun _ _ _ => rfl⟩
theorem Kp.trans {b : Nat} {w w1 w2 : World} (h : Kp b w w1) (k : Kp b w1 w2) : Kp b w w2 :=
  ⟨k.os.trans h.os, k.tape.trans h.tape, k.output.trans h.output, Nat.le_trans h.size k.size,
   fun i hi hb => (k.block i (Nat.lt_of_lt_of_le hi h.size) hb).trans (h.block i hi hb)⟩
theorem Kp.of_below {b : Nat} {w w' : World} (h : Below w.heap.size w w') : Kp b w w' := ⟨h.os, h.tape, h.output, h.size, fun k hk _ => h.block k hk⟩
theorem Kp.below {b B : Nat} {w0 w w' : World} (h0 : Below B w0 w) (hB : B ≤ w0.heap.size) (h : Kp b w w') (hb : B ≤ b) : Below B w0 w' :=
  h0.trans ⟨h.os, h.tape, h.output, h.size, fun k hk => h.block k (by have := h0.size; omega) (by omega)⟩
theorem Kp.setCell (w : World) (b o : Nat) (v : Value) : Kp b w (w.setCell ⟨b, o, none⟩ v) :=
  ⟨rfl, rfl, rfl, by simp [World.setCell], fun k _ hk => Below.heap_setCell w ⟨b, o, none⟩ v k hk⟩
theorem Kp.drewN (b : Nat) (w : World) (n : Nat) : Kp b w (w.drewN n) := by
  refine Kp.of_below ?_
  exact below_drewN (Below.refl _ _) n
def Bs (w : World) (A : Option Addr) (n : Nat) (z : List Int) : Prop :=
  z.length = n ∧ (0 < n → ∃ k o, A = some ⟨k, o, none⟩ ∧ ∀ i x, z[i]? = some x → w.cell? ⟨k, o + i, none⟩ = some (.int .u8 x))
theorem Bs.keep {w w' : World} {A : Option Addr} {n : Nat} {z : List Int} (h : Bs w A n z) (hk : ∀ k o x, w.cell? ⟨k, o, none⟩ = some (.int .u8 x) → w'.cell? ⟨k, o, none⟩ = some (.int .u8 x)) : Bs w' A n z :=
  ⟨h.1, fun hn => by
    obtain ⟨k, o, e, hc⟩ := h.2 hn
    exact ⟨k, o, e, fun i x hx => hk _ _ _ (hc i x hx)⟩⟩
theorem Bs.below {w w' : World} {A : Option Addr} {n : Nat} {z : List Int} (h : Bs w A n z) (hb : Below w.heap.size w w') : Bs w' A n z :=
  h.keep fun _ _ _ hc => (hb.cell (lt_of_cell hc)).trans hc
theorem Bs.drewN {w : World} {A : Option Addr} {n : Nat} {z : List Int} (h : Bs w A n z) (k : Nat) : Bs (w.drewN k) A n z := h
theorem info5 : (Tryz.prog.info? 5).map (fun i => (i.zero, i.size, i.bytes)) = some (some (.int .u8 0), 1, 1) := by kernel_rfl
theorem size5 : (Tryz.prog.info? 5).map (·.size) = some 1 := by kernel_rfl
def piece (z : List Int) (f k : Nat) : List Int := (z.drop f).take (k - f)
theorem length_piece {z : List Int} {n f k : Nat} (hz : z.length = n) (hk : k ≤ n) : (piece z f k).length = k - f := by simp [piece]; omega
theorem Bs.at_ {w : World} {A : Option Addr} {n : Nat} {z : List Int} (h : Bs w A n z) {k : Nat} (hk : k < n) : ∃ g o, A = some ⟨g, o, none⟩ ∧ w.cell? ⟨g, o + k, none⟩ = some (.int .u8 (z.getD k 0)) := by
  obtain ⟨g, o, e, hc⟩ := h.2 (by omega)
  refine ⟨g, o, e, hc k _ ?_⟩
  have : k < z.length := by rw [h.1]; exact hk
  rw [List.getD_eq_getElem?_getD, List.getElem?_eq_getElem this]
  rfl
theorem run_convert_bs {w : World} {A : Option Addr} {n : Nat} (m : Nat) {z : List Int} (h : Bs w A n z) :
    (convert 25 9 (.slice A n m)).run Tryz.prog w = .ok (.string (strOfNums z)) w := by
  rcases A with _ | ad
  · have : z = [] := by
      rcases Nat.eq_zero_or_pos n with h0 | h0
      · exact List.eq_nil_of_length_eq_zero (h.1.trans h0)
      · obtain ⟨_, _, e, _⟩ := h.2 h0
        cases e
    subst this
    exact run_convert_bytes_nil w 25 5 Tryz.underlying25 Tryz.underlying5 n m 9 Tryz.underlying9
  · have hl : (loadCells ad n).run Tryz.prog w = .ok (z.map (Value.int .u8)).toArray w := by
      have := run_loadCells_list (P := Tryz.prog) w ad (z.map (Value.int .u8)) (fun j v hj => by
        rw [List.getElem?_map, Option.map_eq_some_iff] at hj
        obtain ⟨x, hx, rfl⟩ := hj
        have hj : j < z.length := (List.getElem?_eq_some_iff.1 hx).1
        obtain ⟨g, o, e, hc⟩ := h.2 (by have := h.1; omega)
        injection e with e
        subst e
        rw [← hc j x hx]
        unfold Addr.add
        by_cases h0 : j = 0 <;> simp [h0])
      simpa [h.1] using this
    rw [run_convert_bytes_string w 25 9 5 _ n m Tryz.underlying25 Tryz.underlying5 Tryz.underlying9, run_bytesToString w _ n m z hl, foldl_push_bytes]
    simp [strOfNums, ByteArray.empty, ByteArray.emptyWithCapacity]
    rfl
theorem Bs.of_block {w : World} {g t : Nat} {z : List Int} (h : w.heap[g]? = some (.cells (z.map (Value.int .u8)).toArray t (0, 0))) : Bs w (some ⟨g, 0, none⟩) z.length z :=
  ⟨rfl, fun _ => ⟨g, 0, rfl, fun i x hx => by simp [World.cell?, h, hx]⟩⟩
def Row (w : World) (g n : Nat) : Prop := ∃ xs : List Int, xs.length = n ∧ w.heap[g]? = some (.cells (xs.map (Value.int .u8)).toArray 5 (0, 0))
theorem Row.cell {w : World} {g n : Nat} (h : Row w g n) {k : Nat} (hk : k < n) : ∃ x : Int, w.cell? ⟨g, k, none⟩ = some (.int .u8 x) := by
  obtain ⟨xs, hl, hb⟩ := h
  exact ⟨xs[k]'(by omega), by simp [World.cell?, hb, List.getElem?_eq_getElem (show k < xs.length by omega)]⟩
theorem Row.free {w : World} {g n : Nat} (h : Row w g n) (k : Nat) : w.frozen? ⟨g, k, none⟩ = false := by
  obtain ⟨xs, _, hb⟩ := h
  simp [World.frozen?, hb]
theorem Row.of_block {w : World} {g n : Nat} {xs : List Int} (h : w.heap[g]? = some (.cells (xs.map (Value.int .u8)).toArray 5 (0, 0))) (hl : xs.length = n) : Row w g n := ⟨xs, hl, h⟩
def Own (w : World) (B : Nat) (v : Value) (z : List Int) : Prop := w.ownsRow B 5 1 v z.length (z.map (Value.int .u8))
theorem Own.nil (w : World) (B : Nat) : Own w B (.slice none 0 0) [] := World.ownsRow_nil w B 5 1
theorem Own.block {w w' : World} {B : Nat} {v : Value} {z : List Int} (h : Own w B v z) (hb : ∀ k, v.ownBlock = some k → w'.heap[k]? = w.heap[k]?) : Own w' B v z := by
  obtain ⟨h1, h2⟩ := h
  refine ⟨h1, ?_⟩
  rcases h2 with h2 | ⟨g, cap, cur, rfl, hg, hh, r⟩
  · exact .inl h2
  · exact .inr ⟨g, cap, cur, rfl, hg, (hb g rfl).trans hh, r⟩
theorem Own.below {w w' : World} {B : Nat} {v : Value} {z : List Int} (h : Own w B v z) (hb : Below w.heap.size w w') : Own w' B v z :=
  h.block fun k hk => hb.block k (World.ownsRow.lt h k hk).2
theorem Own.bs {w : World} {B n c : Nat} {A : Option Addr} {z : List Int} (h : Own w B (.slice A n c) z) : n = z.length ∧ Bs w A n z := by
  rcases h.2 with ⟨e, h0⟩ | ⟨g, cap, cur, e, _, hh, _⟩
  · injection e with e1 e2 e3
    subst e2
    have hz : z = [] := List.eq_nil_of_length_eq_zero h0
    subst hz
    exact ⟨rfl, rfl, fun h => absurd h (by omega)⟩
  · injection e with e1 e2 e3
    subst e1 e2
    refine ⟨rfl, rfl, fun _ => ⟨g, 0, rfl, fun i x hx => ?_⟩⟩
    have := World.ownsRow.cells h (g := g) rfl i (.int .u8 x) (by rw [List.getElem?_map, hx]; rfl)
    rw [← this]
    congr 1
    unfold Addr.add
    by_cases h0 : i = 0 <;> simp [h0]
theorem Own.slice {w : World} {B : Nat} {v : Value} {z : List Int} (h : Own w B v z) : ∃ A c, v = .slice A z.length c := by
  rcases h.2 with ⟨e, h0⟩ | ⟨g, cap, cur, e, _⟩
  · exact ⟨none, 0, by rw [e, h0]⟩
  · exact ⟨_, cap, e⟩
theorem bs_news {w : World} {ad : Addr} {m : Nat} {z : List Int} (h : Bs w (some ad) m z) : ∀ j u, (z.map (Value.int .u8))[j]? = some u → w.cell? (ad.add j) = some u := by
  intro j u hu
  rw [List.getElem?_map, Option.map_eq_some_iff] at hu
  obtain ⟨x, hx, rfl⟩ := hu
  obtain ⟨k, o, e, hc⟩ := h.2 (by have := (List.getElem?_eq_some_iff.1 hx).1; rw [h.1] at this; omega)
  injection e with e
  subst e
  rw [← hc j x hx]
  congr 1
  unfold Addr.add
  by_cases h0 : j = 0 <;> simp [h0]
theorem Own.belowOf {w0 w w' : World} {B : Nat} {v : Value} {z : List Int} (hb : Below B w0 w) (hB : B ≤ w.heap.size) (h : Own w B v z) (hg : w.grownBy w' v.ownBlock) : Below B w0 w' :=
  hb.grown hg hB fun k hk => (World.ownsRow.lt h k hk).1
section
variable {H : Type} {enc : TypeId × Value → H} {w : World} {base : Nat} {v : Value} {d : DataW H} {p : List MemPlace}
end
theorem Bs.sub {w : World} {A : Option Addr} {n : Nat} {z : List Int} (h : Bs w A n z) (m l k : Nat) (hl : l ≤ k) (hk : k ≤ n) (hm : n ≤ m) : Bs w (if m = l then A else A.map (·.add (l * 1))) (k - l) (piece z l k) := by
  refine ⟨length_piece h.1 hk, fun hlt => ?_⟩
  rw [if_neg (by omega)]
  obtain ⟨g, o, rfl, hc⟩ := h.2 (by omega)
  have e : (⟨g, o, none⟩ : Addr).add (l * 1) = ⟨g, o + l, none⟩ := by
    unfold Addr.add
    by_cases h0 : l = 0 <;> simp [h0]
  refine ⟨g, o + l, by rw [Option.map_some, e], fun i x hx => ?_⟩
  have hi : i < k - l := by
    have := (List.getElem?_eq_some_iff.1 hx).1
    have h1 := List.length_take_le (k - l) (z.drop l)
    unfold piece at this
    omega
  unfold piece at hx
  rw [List.getElem?_take_of_lt hi, List.getElem?_drop] at hx
  have := hc (l + i) x hx
  rw [show o + l + i = o + (l + i) by omega]
  exact this
theorem slice_lh {w : World} {A : Option Addr} {n : Nat} {z : List Int} (hz : Bs w A n z) (m : Nat) (l k : Int) (h0 : 0 ≤ l) (h1 : l ≤ k) (h2 : k ≤ n) (hm : n ≤ m) :
    ∃ A' M, (∀ w', (Instr.slice 25 (.slice A n m) (some (.int .i64 l)) (some (.int .i64 k)) none).run Tryz.prog w' = .ok (.slice A' (k - l).toNat M) w') ∧ Bs w A' (k - l).toNat (piece z l.toNat k.toNat) ∧ (k - l).toNat ≤ M ∧ (A' = none → A = none ∧ M = m - l.toNat) := by
  have hs : ∀ w', (sizeOf 5).run Tryz.prog w' = .ok 1 w' := fun w' => by kernel_rfl
  have he : Tryz.prog.elem 25 = 5 := by kernel_rfl
  refine ⟨if m = l.toNat then A else A.map (·.add (l.toNat * 1)), m - l.toNat, fun w' => ?_, ?_, by omega, fun h => ?_⟩
  · have := run_slice_lh (P := Tryz.prog) (w := w') 25 A n m (by rw [he]; exact Tryz.underlying25) .i64 .i64 l k h0 h1 (by omega)
    rw [this, he, hs]
    simp [Result.andThen, sliced]
    omega
  · have := hz.sub m l.toNat k.toNat (by omega) (by omega) hm
    rw [show (k - l).toNat = k.toNat - l.toNat by omega]
    exact this
  · split at h
    · exact ⟨h, rfl⟩
    · exact ⟨by simpa using h, rfl⟩
theorem Own.far {w : World} {B : Nat} {v : Value} {z : List Int} (h : Own w B v z) {p : Addr} (hp : p.block < B) (u : Value) : Own (w.setCell p u) B v z :=
  h.block fun k hk => Below.heap_setCell w p u k (by have := (World.ownsRow.lt h k hk).1; omega)
theorem Own.cap {w : World} {B n c : Nat} {A : Option Addr} {z : List Int} (h : Own w B (.slice A n c) z) : n ≤ c := by
  rcases h.2 with ⟨e, h0⟩ | ⟨g, cap, cur, e, _, hh, r⟩
  · injection e with e1 e2 e3; omega
  · injection e with e1 e2 e3
    have r1 := r.1
    omega
theorem Bs.none (w : World) : Bs w none 0 [] := ⟨rfl, fun h => absurd h (by omega)⟩
theorem Kp.far {b : Nat} {w w' : World} (h : Kp b w w') {p : Addr} (hp : w.heap.size ≤ p.block) (v : Value) : Kp b w (w'.setCell p v) :=
  ⟨h.os, h.tape, h.output, by simpa [World.setCell] using h.size, fun k hk hb => (Below.heap_setCell w' p v k (by omega)).trans (h.block k hk hb)⟩
theorem Kp.drew {b : Nat} {w w' : World} (h : Kp b w w') : Kp b w w'.drew := ⟨h.os, h.tape, h.output, h.size, h.block⟩
theorem blk_kp {w w' : World} {b k : Nat} {cs : Array Value} {t : Nat} (h : Blk w b cs t) (hb : Kp k w w') (hk : b ≠ k) : Blk w' b cs t := (hb.block b h.lt hk).trans h
theorem Bs.take {w : World} {A : Option Addr} {n : Nat} {z : List Int} (h : Bs w A n z) {k : Nat} (hk : k ≤ n) : Bs w A k (z.take k) :=
  ⟨by rw [List.length_take, h.1]; omega, fun hk0 => by
    obtain ⟨g, o, e, hc⟩ := h.2 (by omega)
    refine ⟨g, o, e, fun i x hx => hc i x ?_⟩
    have hi : i < k := by have := (List.getElem?_eq_some_iff.1 hx).1; rw [List.length_take] at this; omega
    rwa [List.getElem?_take_of_lt hi] at hx⟩
theorem Bs.alloc {w : World} {A : Option Addr} {n : Nat} {z : List Int} (h : Bs w A n z) (o : Obj) : Bs (w.alloc o) A n z := h.below (below_one _ _)
theorem set4 {w : World} {b : Nat} {v0 v1 v2 v3 : Value} {t : Nat} (h : Blk w b #[v0, v1, v2, v3] t) (u0 u1 u2 u3 : Value) :
    Blk ((((w.setCell ⟨b, 0, Option.none⟩ u0).setCell ⟨b, 1, Option.none⟩ u1).setCell ⟨b, 2, Option.none⟩ u2).setCell ⟨b, 3, Option.none⟩ u3) b #[u0, u1, u2, u3] t ∧
    Kp b w ((((w.setCell ⟨b, 0, Option.none⟩ u0).setCell ⟨b, 1, Option.none⟩ u1).setCell ⟨b, 2, Option.none⟩ u2).setCell ⟨b, 3, Option.none⟩ u3) :=
  ⟨(((h.set 0 u0).set 1 u1).set 2 u2).set 3 u3, (((Kp.setCell _ _ _ _).trans (Kp.setCell _ _ _ _)).trans (Kp.setCell _ _ _ _)).trans (Kp.setCell _ _ _ _)⟩
theorem Kp.new {b g : Nat} {w w1 w2 : World} (h : Kp b w w1) (k : Kp g w1 w2) (hg : w.heap.size ≤ g) : Kp b w w2 :=
  ⟨k.os.trans h.os, k.tape.trans h.tape, k.output.trans h.output, Nat.le_trans h.size k.size, fun i hi hb => (k.block i (Nat.lt_of_lt_of_le hi h.size) (by omega)).trans (h.block i hi hb)⟩
theorem getD_mem {z : List Int} {k : Nat} (h : k < z.length) : z.getD k 0 ∈ z := by
  rw [List.getD_eq_getElem?_getD, List.getElem?_eq_getElem h]; exact List.getElem_mem _
end Go.Proofs.YtmiimjgfainclaaGreat.Cur
namespace Go.Proofs.YtmiimjgfainclaaGreat.Cur
open Go.RowKit Mem Go.ChangeShapes Go.WideShapes
set_option linter.unusedVariables false
set_option maxRecDepth 100000
structure Ks (S : Nat → Prop) (w w' : World) : Prop where
  os : w'.os = w.os
  tape : w'.tape = w.tape
  output : w'.output = w.output
  size : w.heap.size ≤ w'.heap.size
  block : ∀ k, k < w.heap.size → ¬ S k → w'.heap[k]? = w.heap[k]?
theorem Ks.refl (S : Nat → Prop) (w : World) : Ks S w w := ⟨rfl, rfl, rfl, Nat.le_refl _, fun _ _ _ => rfl⟩
theorem Ks.of_below {S : Nat → Prop} {w w' : World} (h : Below w.heap.size w w') : Ks S w w' := ⟨h.os, h.tape, h.output, h.size, fun k hk _ => h.block k hk⟩
theorem Ks.drewN (S : Nat → Prop) (w : World) (n : Nat) : Ks S w (w.drewN n) := Ks.of_below (below_drewN (Below.refl _ _) n)
theorem Ks.trans' {S S1 : Nat → Prop} {w w1 w2 : World} (h : Ks S w w1) (k : Ks S1 w1 w2) (hS : ∀ i, i < w.heap.size → S1 i → S i) : Ks S w w2 :=
  ⟨k.os.trans h.os, k.tape.trans h.tape, k.output.trans h.output, Nat.le_trans h.size k.size,
   fun i hi hb => (k.block i (Nat.lt_of_lt_of_le hi h.size) (fun e => hb (hS i hi e))).trans (h.block i hi hb)⟩
theorem Ks.trans {S : Nat → Prop} {w w1 w2 : World} (h : Ks S w w1) (k : Ks S w1 w2) : Ks S w w2 := h.trans' k fun _ _ h => h
theorem Ks.below {S : Nat → Prop} {B : Nat} {w0 w w' : World} (h0 : Below B w0 w) (hB : B ≤ w0.heap.size) (h : Ks S w w') (hb : ∀ k, S k → B ≤ k) : Below B w0 w' :=
  h0.trans ⟨h.os, h.tape, h.output, h.size, fun k hk => h.block k (by have := h0.size; omega) (fun e => by have := hb k e; omega)⟩
theorem Ks.setCell {S : Nat → Prop} (w : World) (b o : Nat) (v : Value) (hS : S b) : Ks S w (w.setCell ⟨b, o, none⟩ v) :=
  ⟨rfl, rfl, rfl, by simp [World.setCell], fun k _ hk => Below.heap_setCell w ⟨b, o, none⟩ v k (fun e => hk (by rw [e]; exact hS))⟩
theorem Ks.of_grown {S : Nat → Prop} {w w' : World} {r : Option Nat} (h : w.grownBy w' r) (hS : ∀ k, r = some k → S k) : Ks S w w' :=
  ⟨h.os, h.tape, h.output, h.size, fun k hk hb => h.block k hk (fun e => hb (hS k e.symm))⟩
theorem Ks.of_kp {S : Nat → Prop} {b : Nat} {w w' : World} (h : Kp b w w') (hS : S b) : Ks S w w' :=
  ⟨h.os, h.tape, h.output, h.size, fun k hk hb => h.block k hk (fun e => hb (by rw [e]; exact hS))⟩
theorem _root_.Go.Proofs.YtmiimjgfainclaaGreat.Mem.Blk.ks {S : Nat → Prop} {w w' : World} {b : Nat} {cs : Array Value} {t : Nat} (h : Blk w b cs t) (k : Ks S w w') (hb : ¬ S b) : Blk w' b cs t := (k.block b h.lt hb).trans h
theorem Bs.ks {S : Nat → Prop} {w w' : World} {A : Option Addr} {n : Nat} {z : List Int} (h : Bs w A n z) (k : Ks S w w') (hA : 0 < n → ∀ a, A = some a → ¬ S a.block) : Bs w' A n z :=
  ⟨h.1, fun hn => by
    obtain ⟨g, o, e, hc⟩ := h.2 hn
    exact ⟨g, o, e, fun i x hx => (World.cell?_of_block (w := w) (k.block g (lt_of_cell (hc i x hx)) (hA hn _ e))).trans (hc i x hx)⟩⟩
theorem Bs.lt {w : World} {A : Option Addr} {n : Nat} {z : List Int} (h : Bs w A n z) (hn : 0 < n) : ∀ a, A = some a → a.block < w.heap.size := fun a ha => by
  obtain ⟨g, o, e, hc⟩ := h.2 hn
  rw [e] at ha
  injection ha with ha
  subst ha
  have hz : 0 < z.length := by rw [h.1]; exact hn
  exact lt_of_cell (hc 0 _ (List.getElem?_eq_getElem hz))
def Gr (r r' : Option Nat) (w : World) : Prop := r' = r ∨ ∃ g, r' = some g ∧ w.heap.size ≤ g
theorem Gr.refl (r : Option Nat) (w : World) : Gr r r w := .inl rfl
theorem Gr.trans {r r1 r2 : Option Nat} {w w1 : World} (h : Gr r r1 w) (k : Gr r1 r2 w1) (hs : w.heap.size ≤ w1.heap.size) : Gr r r2 w := by
  rcases k with rfl | ⟨g, rfl, hg⟩
  · exact h
  · exact .inr ⟨g, rfl, Nat.le_trans hs hg⟩
theorem Own.base {w : World} {B : Nat} {v : Value} {z : List Int} (h : Own w B v z) {B' : Nat} (hB : ∀ g, v.ownBlock = some g → B' ≤ g) : Own w B' v z := by
  obtain ⟨h1, h2⟩ := h
  refine ⟨h1, ?_⟩
  rcases h2 with h2 | ⟨g, cap, cur, rfl, hg, r⟩
  · exact .inl h2
  · exact .inr ⟨g, cap, cur, rfl, hB g rfl, r⟩
theorem Own.ge {w : World} {B : Nat} {v : Value} {z : List Int} (h : Own w B v z) : ∀ g, v.ownBlock = some g → B ≤ g := fun g hg => (World.ownsRow.lt h g hg).1
theorem Own.lt {w : World} {B : Nat} {v : Value} {z : List Int} (h : Own w B v z) : ∀ g, v.ownBlock = some g → g < w.heap.size := fun g hg => (World.ownsRow.lt h g hg).2
theorem Own.ne_blk {w : World} {B b : Nat} {v : Value} {z : List Int} {cs : Array Value} {t : Nat} (h : Own w B v z) (hr : Blk w b cs t) (ht : t ≠ 5) : v.ownBlock ≠ some b := by
  rcases h.2 with ⟨rfl, _⟩ | ⟨g, cap, cur, rfl, _, hh, _⟩
  · simp [Value.ownBlock]
  · intro he
    have : g = b := by simpa [Value.ownBlock] using he
    subst this
    unfold Blk at hr
    rw [hh] at hr
    injection hr with hr
    injection hr with _ hr
    exact ht hr.symm
theorem Own.ks {S : Nat → Prop} {w w' : World} {B : Nat} {v : Value} {z : List Int} (h : Own w B v z) (k : Ks S w w') (hS : ∀ g, v.ownBlock = some g → ¬ S g) : Own w' B v z :=
  h.block fun g hg => k.block g (h.lt g hg) (hS g hg)
theorem run_append_gr (w : World) (ty : TypeId) (B : Nat) (v : Value) (z : List Int) (hown : Own w B v z) (A : Option Addr) (m c : Nat) (news : List Int) (hr : Bs w A m news) (hc : A = none → c = 0)
    (hsz : z.length + m ≤ 1000000) (hB : B ≤ w.heap.size) :
    ∃ v' w', (Builtin.append_ #[25, 25] ty #[v, .slice A m c]).run Tryz.prog w = .ok v' w' ∧ Own w' B v' (z ++ news) ∧ w.grownBy w' v.ownBlock ∧ Gr v.ownBlock v'.ownBlock w := by
  obtain ⟨i0, hi, hz0, hz1, hz2⟩ := info_parts info5
  rcases A with _ | ad
  · have hm : m = 0 := by
      rcases Nat.eq_zero_or_pos m with h0 | h0
      · exact h0
      · obtain ⟨_, _, e, _⟩ := hr.2 h0
        cases e
    subst hm
    obtain rfl := hc rfl
    have hn : news = [] := List.eq_nil_of_length_eq_zero hr.1
    subst hn
    exact ⟨v, w, run_append_owned_none (P := Tryz.prog) (w := w) B 25 ty 5 i0 1 Tryz.underlying25 hi v _ _ hown, by simpa using hown, ⟨rfl, rfl, rfl, Nat.le_refl _, fun _ _ _ => rfl⟩, .inl rfl⟩
  · obtain ⟨v', w', hrun, h2, h3, _, h4⟩ := run_append_own_at (P := Tryz.prog) w B 25 ty 5 i0 (.int .u8 0) 1 1 Tryz.underlying25 hi hz0 hz1 hz2 rfl (by omega) v z.length (z.map (Value.int .u8)) hown ad m c (news.map (Value.int .u8))
      (by rw [List.length_map, hr.1, Nat.mul_one]) (bs_news hr) (fun u hu => by obtain ⟨x, _, rfl⟩ := List.mem_map.1 hu; rfl) (by simp only [maxLen]; omega) (by omega) hB
    refine ⟨v', w', hrun, ?_, h3, h4.imp_right fun h => ⟨_, h, Nat.le_refl _⟩⟩
    unfold Own
    rw [List.length_append, List.map_append, hr.1]
    exact h2
theorem list_append_gr {w : World} {ops : Array Oper} {rest : List Oper} {o : Oper} {a : Act} {Q : Exit → Act → World → Prop} (hgd : o.guard = none) (s x : Operand)
    (ho : o.op = .call { callee := .builtin .append, args := #[s, x], argTypes := #[25, 25] })
    (B : Nat) (v : Value) (z : List Int) (hs : a.eval s = v) (hown : Own w B v z) (A : Option Addr) (m c : Nat) (news : List Int) (hx : a.eval x = .slice A m c) (hr : Bs w A m news) (hc : A = none → c = 0)
    (hsz : z.length + m ≤ 1000000) (hB : B ≤ w.heap.size)
    (h : ∀ v' w', Own w' B v' (z ++ news) → w.grownBy w' v.ownBlock → Gr v.ownBlock v'.ownBlock w → wpList Tryz.prog ops Q rest (a.put o.dst v') w') : wpList Tryz.prog ops Q (o :: rest) a w :=
  wpList_plain hgd fun _ hK => by
    obtain ⟨v', w', hrun, h2, h3, h4⟩ := run_append_gr w o.type B v z hown A m c news hr hc hsz hB
    unfold Oper.wp
    simp [execOp, ho, resolve, invoke, builtin, hs, hx, hrun, Result.andThen]
    exact hK _ _ (h v' w' h2 h3 h4)
def BPost (v : Value) (w : World) (e : Ending) (w' : World) : Prop := e = .returned v ∧ Below w.heap.size w w'
def RowPost (z : List Int) (w : World) (e : Ending) (w' : World) : Prop :=
  ∃ A m, e = .returned (.slice A z.length m) ∧ Below w.heap.size w w' ∧ Bs w' A z.length z ∧ (A = none → m = 0) ∧ (∀ a, A = some a → w.heap.size ≤ a.block) ∧ Own w' w.heap.size (.slice A z.length m) z
theorem Own.built (w : World) (b : Int) : Own (w.alloc (.cells #[.int .u8 b] 5)) w.heap.size (.slice (some ⟨w.heap.size, 0, none⟩) 1 1) [b] :=
  ⟨by simp, .inr ⟨w.heap.size, 1, #[.int .u8 b], rfl, Nat.le_refl _, heap_alloc_new w _, Nat.le_refl _, by simp [maxLen], rfl, rfl⟩⟩
theorem Own.rowPost {w w' : World} {B n m : Nat} {A : Option Addr} {z : List Int} (h : Own w' w.heap.size (.slice A n m) z) (hb : Below w.heap.size w w') : RowPost z w (.returned (.slice A n m)) w' := by
  obtain ⟨rfl, hbs⟩ := h.bs
  refine ⟨A, m, rfl, hb, hbs, ?_, ?_, h⟩
  · intro e
    subst e
    rcases h.2 with ⟨e, _⟩ | ⟨g, cap, cur, e, _⟩
    · injection e
    · injection e with e; cases e
  · intro a ha
    subst ha
    rcases h.2 with ⟨e, _⟩ | ⟨g, cap, cur, e, hg, _⟩
    · injection e with e; cases e
    · injection e with e; injection e with e; subst e; exact hg
theorem own_of_row {w : World} {g B : Nat} {z : List Int} (h : Blk w g (z.map (Value.int .u8)).toArray 5) (hB : B ≤ g) (hm : z.length ≤ 1000000) : Own w B (.slice (some ⟨g, 0, none⟩) z.length z.length) z :=
  ⟨by simp, .inr ⟨g, z.length, _, rfl, hB, h, Nat.le_refl _, by simp only [maxLen]; omega, by simp, by rw [Nat.mul_one]; exact List.take_of_length_le (by simp)⟩⟩
theorem below_one' (w : World) : Below w.heap.size w w.drew := ⟨rfl, rfl, rfl, Nat.le_refl _, fun _ _ => rfl⟩
theorem oper_append_gr {w : World} {o : Oper} {a : Act} {K : Act → World → Prop} {Q : Exit → Act → World → Prop} (s x : Operand)
    (ho : o.op = .call { callee := .builtin .append, args := #[s, x], argTypes := #[25, 25] })
    (B : Nat) (v : Value) (z : List Int) (hs : a.eval s = v) (hown : Own w B v z) (A : Option Addr) (m c : Nat) (news : List Int) (hx : a.eval x = .slice A m c) (hr : Bs w A m news) (hc : A = none → c = 0)
    (hsz : z.length + m ≤ 1000000) (hB : B ≤ w.heap.size)
    (h : ∀ v' w', Own w' B v' (z ++ news) → w.grownBy w' v.ownBlock → Gr v.ownBlock v'.ownBlock w → K (a.put o.dst v') w') : o.wp Tryz.prog a w K Q := by
  obtain ⟨v', w', hrun, h2, h3, h4⟩ := run_append_gr w o.type B v z hown A m c news hr hc hsz hB
  unfold Oper.wp
  simp [execOp, ho, resolve, invoke, builtin, hs, hx, hrun, Result.andThen]
  exact h v' w' h2 h3 h4
end Go.Proofs.YtmiimjgfainclaaGreat.Cur
namespace Go.Proofs.YtmiimjgfainclaaGreat.Cur
open Go.RowKit Mem
set_option linter.unusedVariables false
set_option maxHeartbeats 400000 in
theorem same_any (A B : Option Addr) (n m c d : Nat) (z : List Int) (w : World) (ha : Bs w A n z) (hb : Bs w B m z) :
    Calls Tryz.prog 13 #[.slice A n c, .slice B m d] w fun e w' => e = .returned (.bool true) ∧ w = w' := by
  have h1 := run_convert_bs c ha
  have h2 := run_convert_bs d hb
  obtain ⟨s, hs⟩ : ∃ s, s = strOfNums z := ⟨_, rfl⟩
  rw [← hs] at h1 h2
  clear hs
  go_enter Tryz.func13, Tryz.ntmps13
  go_wp2
  go_ret
  exact ⟨rfl, rfl⟩
theorem bstr_inj {a b : ByteArray} (h : a.toList = b.toList) : a = b := by
  rw [ByteArray.toList_eq, ByteArray.toList_eq] at h
  cases a; cases b
  simp only [ByteArray.mk.injEq]
  exact Array.toList_inj.1 h
theorem strOfNums_inj {y z : List Int} (hy : ∀ x ∈ y, 0 ≤ x ∧ x < 256) (hz : ∀ x ∈ z, 0 ≤ x ∧ x < 256) (h : strOfNums y = strOfNums z) : y = z := by
  have h1 : (strOfNums y).data.toList = (strOfNums z).data.toList := by rw [h]
  rw [strOfNums_data, strOfNums_data] at h1
  induction y generalizing z with
  | nil => cases z with
    | nil => rfl
    | cons c m => simp at h1
  | cons b l ih =>
    cases z with
    | nil => simp at h1
    | cons c m =>
      simp only [List.map_cons, List.cons.injEq] at h1
      have hb := hy b (List.mem_cons_self ..)
      have hc := hz c (List.mem_cons_self ..)
      have e := congrArg UInt8.toNat h1.1
      simp only [UInt8.toNat_ofNat'] at e
      have e2 : l = m := ih (fun x hx => hy x (List.mem_cons_of_mem _ hx)) (fun x hx => hz x (List.mem_cons_of_mem _ hx)) (by unfold strOfNums; rw [h1.2]) h1.2
      rw [e2, show b = c by omega]
end Go.Proofs.YtmiimjgfainclaaGreat.Cur
namespace Go.Proofs.YtmiimjgfainclaaGreat.Cur
open Go.RowKit Mem Go.ChangeShapes Go.WideShapes
set_option linter.unusedVariables false
set_option maxRecDepth 100000
section
variable {H : Type} {enc : TypeId × Value → H} {w : World} {base : Nat} {v : Value} {d : DataW H} {p : List MemPlace}
def IsRows (w : World) (A : Option Addr) (n : Nat) : Prop :=
  ∀ i, i < n → ∃ b o Ar Lr Cr z, A = some ⟨b, o, none⟩ ∧ w.cell? ⟨b, o + i, none⟩ = some (.slice Ar Lr Cr) ∧ Bs w Ar Lr z ∧ (∀ x ∈ z, 0 ≤ x ∧ x < 256) ∧ (Ar = none → Cr = 0) ∧ Lr ≤ Cr
theorem IsRows.below {w w' : World} {A : Option Addr} {n : Nat} (h : IsRows w A n) (hb : Below w.heap.size w w') : IsRows w' A n := fun i hi => by
  obtain ⟨b, o, Ar, Lr, Cr, z, e, h0, h1, r⟩ := h i hi
  exact ⟨b, o, Ar, Lr, Cr, z, e, (hb.cell (lt_of_cell h0)).trans h0, h1.below hb, r⟩
end
end Go.Proofs.YtmiimjgfainclaaGreat.Cur
namespace Go.Proofs.YtmiimjgfainclaaGreat.Seq
set_option linter.unusedVariables false
section
variable {P : Program} {ops : Array Oper} {Q : Exit → Act → World → Prop} {S : World → Prop}
def NoExit : Exit → Act → World → Prop := fun _ _ _ => False
def making (o : Oper) : Bool :=
  match o.op with
  | .call c => match c.callee with
    | .builtin .append | .builtin .make | .builtin .new | .builtin .copy | .builtin .clear | .builtin .delete | .value _ | .invoke .. => true
    | _ => false
  | .mapUpdate .. | .store .. | .alloc .. | .buildSlice .. | .makeSlice .. | .box .. | .go _ | .defer _ => true
  | _ => false
def Seq (P : Program) (ops : Array Oper) (S : World → Prop) (Q : Exit → Act → World → Prop) : List Oper → Act → World → Prop
  | [], a, w => Q .normal a w
  | o :: rest, a, w =>
    (∃ v, YieldsIf P ops S o v a ∧ Seq P ops S Q rest (a.put o.dst v) w) ∨
    (making o = true ∧ Region.wanted o (yielded ops a.tmps) = true ∧ o.wp P a w (fun a' w' => S w' ∧ Seq P ops S Q rest a' w') NoExit)
theorem wp_mono {o : Oper} {a : Act} {w : World} {K K' : Act → World → Prop} {Q Q' : Exit → Act → World → Prop} (h : ∀ a w, K a w → K' a w) (hQ : ∀ c a w, Q (.panic c) a w → Q' (.panic c) a w) (hl : LetsOut Q → LetsOut Q')
    (hh : o.wp P a w K Q) : o.wp P a w K' Q' := by
  unfold Oper.wp at *
  generalize (execOp a.eval o).run P w = r at *
  cases r with
  | ok n w' =>
    cases n <;> simp only [Oper.upon] at hh ⊢
    case value => exact h _ _ hh
    case skip => exact h _ _ hh
    case defer => exact h _ _ hh
    case enter => exact Calls.mono hh (fun e w'' he => by cases e <;> first | exact h _ _ he | exact hQ _ _ _ he | exact hl he)
    case row => exact Rows.mono hh (fun _ _ he => h _ _ he)
  | halt x w' => cases x <;> simp only [Oper.upon] at hh ⊢; exact hQ _ _ _ hh
theorem letsOut_no : ¬ LetsOut NoExit := fun ⟨_, _, h⟩ => h
theorem wp_some {o : Oper} {a : Act} {w : World} {K : Act → World → Prop} (hh : o.wp P a w K NoExit) : ∃ a' w', K a' w' ∧ ∃ u, a' = a.put o.dst u ∨ ∃ d, a' = ({ a with defers := d :: a.defers } : Act).put o.dst u := by
  unfold Oper.wp at hh
  generalize (execOp a.eval o).run P w = r at *
  cases r with
  | ok n w' =>
    cases n <;> simp only [Oper.upon] at hh
    case value u => exact ⟨_, _, hh, u, .inl rfl⟩
    case skip => exact ⟨_, _, hh, undef, .inl rfl⟩
    case defer d => exact ⟨_, _, hh, undef, .inr ⟨d, rfl⟩⟩
    case enter f args =>
      obtain ⟨e, w'', _, he, _⟩ := hh []
      cases e with
      | returned u => exact ⟨_, _, he, u, .inl rfl⟩
      | panicked c => exact absurd he (fun h => h)
      | outgrown => exact absurd he letsOut_no
    case row row args =>
      obtain ⟨u, w'', he, _⟩ := hh (Frame.ofRow P row args .normal) []
      exact ⟨_, _, he, u, .inl rfl⟩
  | halt x w' => cases x <;> simp only [Oper.upon] at hh; exact absurd hh (fun h => h)
theorem wp_put {o : Oper} (hs : ∀ cs b, o.op ≠ .select cs b) {d : Option Tmp} {v : Value} (h1 : ∀ t, d = some t → t ∉ o.looksAt ops) (h2 : ∀ t, d = some t → o.dst ≠ some t)
    {a : Act} {w : World} {K : Act → World → Prop} (h : o.wp P (a.put d v) w K NoExit) : o.wp P a w (fun a' w' => K (a'.put d v) w' ∧ ∃ u, a' = a.put o.dst u ∨ ∃ x, a' = ({ a with defers := x :: a.defers } : Act).put o.dst u) NoExit := by
  unfold Oper.wp at *
  rw [execOp_put o hs a d v h1] at h
  generalize (execOp a.eval o).run P w = r at *
  cases r with
  | ok n w' =>
    cases n <;> simp only [Oper.upon] at h ⊢
    case value u => exact ⟨by rw [← Act.put_comm a v u h2]; exact h, u, .inl rfl⟩
    case skip => exact ⟨by rw [← Act.put_comm a v undef h2]; exact h, undef, .inl rfl⟩
    case defer x => exact ⟨by rw [← Act.put_comm _ v undef h2, ← Act.put_defers]; exact h, undef, .inr ⟨x, rfl⟩⟩
    case enter f args =>
      refine Calls.mono h fun e w'' he => ?_
      cases e with
      | returned u => exact ⟨by rw [← Act.put_comm a v u h2]; exact he, u, .inl rfl⟩
      | panicked c => exact he
      | outgrown => exact he
    case row row args => exact Rows.mono h fun u w'' he => ⟨by rw [← Act.put_comm a v u h2]; exact he, u, .inl rfl⟩
  | halt x w' => cases x <;> simp only [Oper.upon] at h ⊢; exact h
theorem wp_unput {o : Oper} (hs : ∀ cs b, o.op ≠ .select cs b) {d : Option Tmp} {v : Value} (h1 : ∀ t, d = some t → t ∉ o.looksAt ops) (h2 : ∀ t, d = some t → o.dst ≠ some t)
    {a : Act} {w : World} {K : Act → World → Prop} (h : o.wp P a w (fun a' w' => (∃ u, a' = a.put o.dst u ∨ ∃ x, a' = ({ a with defers := x :: a.defers } : Act).put o.dst u) → K (a'.put d v) w') NoExit) : o.wp P (a.put d v) w K NoExit := by
  unfold Oper.wp at *
  rw [execOp_put o hs a d v h1]
  generalize (execOp a.eval o).run P w = r at *
  cases r with
  | ok n w' =>
    cases n <;> simp only [Oper.upon] at h ⊢
    case value u => rw [Act.put_comm a v u h2]; exact h ⟨u, .inl rfl⟩
    case skip => rw [Act.put_comm a v undef h2]; exact h ⟨undef, .inl rfl⟩
    case defer x => rw [Act.put_defers, Act.put_comm _ v undef h2]; exact h ⟨undef, .inr ⟨x, rfl⟩⟩
    case enter f args =>
      refine Calls.mono h fun e w'' he => ?_
      cases e with
      | returned u => show K _ _; rw [Act.put_comm a v u h2]; exact he ⟨u, .inl rfl⟩
      | panicked c => exact he
      | outgrown => exact he
    case row row args => exact Rows.mono h fun u w'' he => by rw [Act.put_comm a v u h2]; exact he ⟨u, .inl rfl⟩
  | halt x w' => cases x <;> simp only [Oper.upon] at h ⊢; exact h
theorem yields_of_put {o : Oper} (hs : ∀ cs b, o.op ≠ .select cs b) {d : Option Tmp} {u v : Value} (h : ∀ t, d = some t → t ∉ o.looksAt ops) {a : Act} :
    YieldsIf P ops S o v (a.put d u) ↔ YieldsIf P ops S o v a := by
  unfold YieldsIf
  rw [execOp_put o hs a d u h, wanted_put o a d u h]
theorem yields_of_defers {o : Oper} {v : Value} {a : Act} {x : Deferred} : YieldsIf P ops S o v ({ a with defers := x :: a.defers } : Act) ↔ YieldsIf P ops S o v a := Iff.rfl
theorem yields_of_after {o i : Oper} (hs : ∀ cs b, o.op ≠ .select cs b) {v : Value} (h : ∀ t, i.dst = some t → t ∉ o.looksAt ops) {a a' : Act}
    (ha : ∃ u, a' = a.put i.dst u ∨ ∃ x, a' = ({ a with defers := x :: a.defers } : Act).put i.dst u) : YieldsIf P ops S o v a' ↔ YieldsIf P ops S o v a := by
  obtain ⟨u, rfl | ⟨x, rfl⟩⟩ := ha
  · exact yields_of_put hs h
  · exact (yields_of_put hs h).trans yields_of_defers
theorem yields_one {o : Oper} {v v' : Value} {a : Act} {w : World} (hS : S w) (h : YieldsIf P ops S o v a) (h' : YieldsIf P ops S o v' a) : v = v' := by
  rcases h with ⟨hw, hv⟩ | ⟨hw, rfl⟩ <;> rcases h' with ⟨hw', hv'⟩ | ⟨hw', rfl⟩
  · have := (hv w hS).symm.trans (hv' w hS)
    injection this with this
    injection this
  · rw [hw] at hw'; cases hw'
  · rw [hw] at hw'; cases hw'
  · rfl
def Pulled (P : Program) (ops : Array Oper) (S : World → Prop) (Q : Exit → Act → World → Prop) (j : Oper) (rest : List Oper) (a : Act) (w : World) : Prop :=
  (∃ v, YieldsIf P ops S j v a ∧ Seq P ops S Q rest (a.put j.dst v) w) ∨
  (making j = true ∧ Region.wanted j (yielded ops a.tmps) = true ∧ j.wp P a w (fun a' w' => S w' ∧ Seq P ops S Q rest a' w') NoExit)
theorem pull {j : Oper} (hsj : ∀ cs b, j.op ≠ .select cs b) (post : List Oper) : ∀ (pre : List Oper) (a : Act) (w : World), (∀ i ∈ pre, i.apart ops j = true ∧ (making i && making j) = false ∧ ∀ cs b, i.op ≠ .select cs b) → S w →
    Seq P ops S Q (pre ++ j :: post) a w → Pulled P ops S Q j (pre ++ post) a w
  | [], a, w, _, hS, h => h
  | i :: pre, a, w, hpre, hS, h => by
    obtain ⟨hap, hmk, hsi⟩ := hpre i (List.mem_cons_self ..)
    obtain ⟨h1, h2, h3⟩ := Oper.apart_spec hap
    have h2' : ∀ d, j.dst = some d → i.dst ≠ some d := fun d hd he => h2 d he hd
    have ih := pull hsj post pre
    have hpre' : ∀ i ∈ pre, i.apart ops j = true ∧ (making i && making j) = false ∧ ∀ cs b, i.op ≠ .select cs b := fun k hk => hpre k (List.mem_cons_of_mem _ hk)
    rcases h with ⟨v, hy, h⟩ | ⟨hm, hw, h⟩
    · rcases ih (a.put i.dst v) w hpre' hS h with ⟨u, hyj, hr⟩ | ⟨hmj, hwj, hr⟩
      · refine .inl ⟨u, (yields_of_put hsj h1).1 hyj, .inl ⟨v, (yields_of_put hsi h3).2 hy, ?_⟩⟩
        rw [← Act.put_comm a v u h2]
        exact hr
      · refine .inr ⟨hmj, by rw [← wanted_put j a i.dst v h1]; exact hwj, ?_⟩
        refine wp_mono (fun a' w' h' => ?_) (fun _ _ _ h => h) (fun h => h) (wp_put hsj h1 h2 hr)
        exact ⟨h'.1.1, .inl ⟨v, (yields_of_after hsi h3 h'.2).2 hy, h'.1.2⟩⟩
    · have hmj : making j = false := by simpa [hm] using hmk
      have key : i.wp P a w (fun a' w' => S w' ∧ ∃ v, YieldsIf P ops S j v a' ∧ Seq P ops S Q (pre ++ post) (a'.put j.dst v) w') NoExit :=
        wp_mono (fun a' w' h' => ⟨h'.1, by
          rcases ih a' w' hpre' h'.1 h'.2 with hh | ⟨hmj', _⟩
          · exact hh
          · rw [hmj] at hmj'; cases hmj'⟩) (fun _ _ _ h => h) (fun h => h) h
      obtain ⟨a1, w1, ⟨_, v, hyv, _⟩, ha1⟩ := wp_some key
      have hyv' : YieldsIf P ops S j v a := (yields_of_after hsj h1 ha1).1 hyv
      refine .inl ⟨v, hyv', .inr ⟨hm, by rw [wanted_put i a j.dst v h3]; exact hw, ?_⟩⟩
      refine wp_unput hsi h3 h2' (wp_mono (fun a' w' h' ha' => ?_) (fun _ _ _ h => h) (fun h => h) key)
      obtain ⟨hS', v', hy', hr'⟩ := h'
      obtain rfl := yields_one hS hyv' ((yields_of_after hsj h1 ha').1 hy')
      exact ⟨hS', hr'⟩
inductive Waits (md : Region.Mode) (ops : Array Oper) : Nat → Nat → Prop where
  | one {j : Nat} {o : Oper} {e : Edge} (ho : ops[j]? = some o) (he : e ∈ o.after) (hb : Region.binds md e = true) : Waits md ops j e.on
  | more {j i : Nat} {o : Oper} {e : Edge} (ho : ops[j]? = some o) (he : e ∈ o.after) (hb : Region.binds md e = true) (h : Waits md ops e.on i) : Waits md ops j i
def maskOf (md : Region.Mode) (M : List Nat) : List Edge → Nat → Nat
  | [], m => m
  | e :: l, m => maskOf md M l (match Region.binds md e with | true => Nat.lor (Nat.lor m (Nat.shiftLeft 1 e.on)) (M.getD e.on 0) | false => m)
def masks (md : Region.Mode) : List Oper → List Nat → List Nat
  | [], M => M
  | o :: l, M => masks md l (M ++ [maskOf md M o.after.toList 0])
theorem maskOf_spec {md : Region.Mode} {M : List Nat} {i : Nat} : ∀ (l : List Edge) (m : Nat), (maskOf md M l m).testBit i = true → m.testBit i = true ∨ ∃ e ∈ l, Region.binds md e = true ∧ (e.on = i ∨ (M.getD e.on 0).testBit i = true)
  | [], m, h => .inl h
  | e :: l, m, h => by
    unfold maskOf at h
    rcases maskOf_spec l _ h with h | ⟨x, hx, hb, h⟩
    · cases hb : Region.binds md e with
      | true =>
        simp only [hb] at h
        rw [show Nat.lor (Nat.lor m (Nat.shiftLeft 1 e.on)) (M.getD e.on 0) = (m ||| (1 <<< e.on)) ||| M.getD e.on 0 from rfl, Nat.testBit_or, Nat.testBit_or, Bool.or_eq_true, Bool.or_eq_true] at h
        rcases h with (h | h) | h
        · exact .inl h
        · refine .inr ⟨e, List.mem_cons_self .., hb, .inl ?_⟩
          rw [Nat.testBit_shiftLeft] at h
          simp only [Bool.and_eq_true, decide_eq_true_eq] at h
          have h2 := h.2
          rcases Nat.eq_zero_or_pos (i - e.on) with h3 | h3
          · omega
          · rw [show i - e.on = (i - e.on - 1) + 1 by omega, Nat.testBit_succ] at h2
            simp at h2
        · exact .inr ⟨e, List.mem_cons_self .., hb, .inr h⟩
      | false =>
        simp only [hb] at h
        exact .inl h
    · exact .inr ⟨x, List.mem_cons_of_mem _ hx, hb, h⟩
theorem masks_spec {md : Region.Mode} : ∀ (l : List Oper) (M : List Nat), (∀ j o, l[j]? = some o → ops[M.length + j]? = some o) → (∀ j i, (M.getD j 0).testBit i = true → Waits md ops j i) →
    ∀ j i, ((masks md l M).getD j 0).testBit i = true → Waits md ops j i
  | [], M, _, h => h
  | o :: l, M, hl, h => by
    refine masks_spec l _ (fun j o' ho => ?_) (fun j i hji => ?_)
    · have := hl (j + 1) o' (by simpa using ho)
      rw [List.length_append, List.length_cons, List.length_nil]
      rw [← this]
      congr 1
      omega
    · rcases Nat.lt_trichotomy j M.length with hj | rfl | hj
      · refine h j i ?_
        simpa [List.getD_eq_getElem?_getD, List.getElem?_append_left hj] using hji
      · have : (maskOf md M o.after.toList 0).testBit i = true := by simpa [List.getD_eq_getElem?_getD] using hji
        rcases maskOf_spec _ _ this with h0 | ⟨e, he, hb, h1⟩
        · simp at h0
        · have ho : ops[M.length]? = some o := by have := hl 0 o (by simp); simpa using this
          rcases h1 with rfl | h1
          · exact .one ho (by simpa using he) hb
          · exact .more ho (by simpa using he) hb (h _ _ h1)
      · have : (M ++ [maskOf md M o.after.toList 0]).getD j 0 = 0 := by
          rw [List.getD_eq_getElem?_getD, List.getElem?_eq_none (by simp; omega)]
          rfl
        rw [this] at hji
        simp at hji
def inText (md : Region.Mode) (l : List Oper) : Bool :=
  Region.noSelect l.toArray && go md l.toArray (masks md l []) l 0
where
  go (md : Region.Mode) (ops : Array Oper) (M : List Nat) : List Oper → Nat → Bool
    | [], _ => true
    | oj :: rest, j => oj.after.toList.all (fun e => !Region.binds md e || Nat.blt e.on j) && goo ops oj ((M.getD j 0)) ops.toList 0 j && go md ops M rest (j + 1)
  goo (ops : Array Oper) (oj : Oper) (m : Nat) : List Oper → Nat → Nat → Bool
    | [], _, _ => true
    | oi :: rest, i, j => Nat.ble j i || ((Nat.testBit m i || (oi.apart ops oj && !(making oi && making oj))) && goo ops oj m rest (i + 1) j)
theorem goo_spec {oj : Oper} {m j : Nat} : ∀ (l : List Oper) (k : Nat), inText.goo ops oj m l k j = true → ∀ i oi, l[i]? = some oi → k + i < j → m.testBit (k + i) = true ∨ (oi.apart ops oj = true ∧ (making oi && making oj) = false)
  | [], _, _, i, oi, h, _ => by simp at h
  | o :: l, k, h, i, oi, hi, hlt => by
    unfold inText.goo at h
    rw [Bool.or_eq_true, Bool.and_eq_true] at h
    rcases h with h | ⟨h1, h2⟩
    · have := Nat.le_of_ble_eq_true h; omega
    · cases i with
      | zero =>
        simp only [List.getElem?_cons_zero, Option.some.injEq] at hi
        subst hi
        rw [Bool.or_eq_true] at h1
        rcases h1 with h1 | h1
        · exact .inl h1
        · simp only [Bool.and_eq_true, Bool.not_eq_true'] at h1
          exact .inr h1
      | succ i =>
        have := goo_spec l (k + 1) h2 i oi (by simpa using hi) (by omega)
        rw [show k + (i + 1) = k + 1 + i by omega]
        exact this
theorem go_spec {md : Region.Mode} {M : List Nat} : ∀ (l : List Oper) (k : Nat), inText.go md ops M l k = true → ∀ j oj, l[j]? = some oj →
    (∀ e ∈ oj.after, Region.binds md e = true → e.on < k + j) ∧ ∀ i oi, i < k + j → ops[i]? = some oi → (M.getD (k + j) 0).testBit i = true ∨ (oi.apart ops oj = true ∧ (making oi && making oj) = false)
  | [], _, _, j, oj, h => by simp at h
  | o :: l, k, h, j, oj, hj => by
    unfold inText.go at h
    simp only [Bool.and_eq_true] at h
    obtain ⟨⟨h1, h2⟩, h3⟩ := h
    cases j with
    | zero =>
      simp only [List.getElem?_cons_zero, Option.some.injEq] at hj
      subst hj
      refine ⟨fun e he hb => ?_, fun i oi hi hoi => ?_⟩
      · have := List.all_eq_true.1 h1 e (by simpa using he)
        simp only [hb, Bool.not_true, Bool.false_or] at this
        rw [Nat.blt_eq] at this
        omega
      · have := goo_spec ops.toList 0 h2 i oi (by simpa using hoi) (by omega)
        simpa using this
    | succ j =>
      have := go_spec l (k + 1) h3 j oj (by simpa using hj)
      rw [show k + (j + 1) = k + 1 + j by omega]
      exact this
def rem (ops : Array Oper) (listed : Array Bool) (l : List Nat) : List Oper := (l.filter fun i => !listed.getD i true).filterMap fun i => ops[i]?
theorem rem_append (listed : Array Bool) (l k : List Nat) : rem ops listed (l ++ k) = rem ops listed l ++ rem ops listed k := by
  simp [rem, List.filter_append, List.filterMap_append]
theorem rem_set {listed : Array Bool} {j : Nat} : ∀ (l : List Nat), j ∉ l → rem ops (listed.setIfInBounds j true) l = rem ops listed l
  | [], _ => rfl
  | i :: l, h => by
    have hne : j ≠ i := fun e => h (by simp [e])
    have := rem_set (listed := listed) l (fun e => h (List.mem_cons_of_mem _ e))
    unfold rem at *
    simp only [List.filter_cons, getD_set_ne true hne]
    split
    · simp only [List.filterMap_cons]; split <;> simp_all
    · exact this
theorem range_split {n j : Nat} (h : j < n) : List.range n = List.range j ++ j :: (List.range' (j + 1) (n - j - 1)) := by
  rw [List.range_eq_range', List.range_eq_range', show j :: List.range' (j + 1) (n - j - 1) = List.range' j (n - j) by
    rw [show n - j = (n - j - 1) + 1 by omega, List.range'_succ]; simp]
  have := List.range'_append_1 (s := 0) (m := j) (n := n - j)
  rw [Nat.zero_add] at this
  rw [this]
  congr 1
  omega
theorem mem_rem {listed : Array Bool} {l : List Nat} {o : Oper} (h : o ∈ rem ops listed l) : ∃ i ∈ l, listed.getD i true = false ∧ ops[i]? = some o := by
  unfold rem at h
  obtain ⟨i, hi, ho⟩ := List.mem_filterMap.1 h
  obtain ⟨hi, hl⟩ := List.mem_filter.1 hi
  exact ⟨i, hi, by simpa using hl, ho⟩
theorem wpAny_of_seq {md : Region.Mode} {l : List Oper} (hops : ops = l.toArray) (hc : inText md l = true) : ∀ (fuel : Nat) (listed : Array Bool) (a : Act) (w : World), listed.size = ops.size →
    (∀ k o, ops[k]? = some o → listed.getD k true = true → ∀ e ∈ o.after, Region.binds md e = true → listed.getD e.on false = true) → (rem ops listed (List.range ops.size)).length ≤ fuel → S w →
    Seq P ops S Q (rem ops listed (List.range ops.size)) a w → wpAny P md ops Q fuel listed a w := by
  have hns := Region.noSelect_spec (ops := ops) (by rw [hops]; simp only [inText, Bool.and_eq_true] at hc; exact hc.1)
  have hall : ∀ j oj, ops[j]? = some oj → (∀ e ∈ oj.after, Region.binds md e = true → e.on < j) ∧ ∀ i oi, i < j → ops[i]? = some oi → Waits md ops j i ∨ (oi.apart ops oj = true ∧ (making oi && making oj) = false) := by
    intro j oj hj
    subst hops
    simp only [inText, Bool.and_eq_true] at hc
    have := go_spec l 0 hc.2 j oj (by simpa using hj)
    rw [Nat.zero_add] at this
    exact ⟨this.1, fun i oi hi hoi => (this.2 i oi hi hoi).imp_left fun h => masks_spec l [] (fun j o h => by simpa using h) (fun j i h => by simp at h) j i h⟩
  intro fuel
  have hnone : ∀ (listed : Array Bool) (a : Act) (w : World), rem ops listed (List.range ops.size) = [] → Seq P ops S Q (rem ops listed (List.range ops.size)) a w → Region.ready md ops listed = [] ∧ Q .normal a w := by
    intro listed a w h0 h
    refine ⟨List.eq_nil_iff_forall_not_mem.2 fun j hj => ?_, by rw [h0] at h; exact h⟩
    obtain ⟨hl, o, ho, _⟩ := mem_ready.1 hj
    have : o ∈ rem ops listed (List.range ops.size) := List.mem_filterMap.2 ⟨j, List.mem_filter.2 ⟨List.mem_range.2 (Array.getElem?_eq_some_iff.1 ho).1, by simp [hl]⟩, ho⟩
    rw [h0] at this
    cases this
  induction fuel with
  | zero =>
    intro listed a w _ _ hle hS h
    exact hnone listed a w (List.eq_nil_of_length_eq_zero (by omega)) h
  | succ fuel ih =>
    intro listed a w hsz hcl hle hS h
    refine ⟨fun hr => ?_, fun j hj => ?_⟩
    ·
      suffices h0 : rem ops listed (List.range ops.size) = [] from (hnone listed a w h0 h).2
      refine List.eq_nil_iff_forall_not_mem.2 fun o ho => ?_
      obtain ⟨i, hi, hl, hoi⟩ := mem_rem ho
      have : ∀ k, (∀ i < k, listed.getD i true = true ∨ ops[i]? = none) := by
        intro k
        induction k with
        | zero => intro i hi; omega
        | succ k ihk =>
          intro i hi
          rcases Nat.lt_or_ge i k with h' | h'
          · exact ihk i h'
          · obtain rfl : i = k := by omega
            cases hoi : ops[i]? with
            | none => exact .inr rfl
            | some oi =>
              refine .inl ?_
              by_cases hli : listed.getD i true = true
              · exact hli
              · exfalso
                have hmem : i ∈ Region.ready md ops listed := mem_ready.2 ⟨by simpa using hli, oi, hoi, fun e he hb => by
                  have hlt := (hall i oi hoi).1 e he hb
                  have hsome : e.on < listed.size := by rw [hsz]; have := (Array.getElem?_eq_some_iff.1 hoi).1; omega
                  rcases ihk e.on hlt with h1 | h1
                  · simpa [hsome] using h1
                  · have := (Array.getElem?_eq_none_iff.1 h1); omega⟩
                rw [hr] at hmem
                cases hmem
      rcases this (i + 1) i (by omega) with h1 | h1
      · rw [hl] at h1; cases h1
      · rw [h1] at hoi; cases hoi
    · obtain ⟨hl, oj, hoj, hdeps⟩ := mem_ready.1 hj
      have hjn : j < ops.size := (Array.getElem?_eq_some_iff.1 hoj).1
      have hsplit : rem ops listed (List.range ops.size) = rem ops listed (List.range j) ++ oj :: rem ops listed (List.range' (j + 1) (ops.size - j - 1)) := by
        rw [range_split hjn, rem_append]
        congr 1
        unfold rem
        rw [List.filter_cons]
        simp [hl, hoj]
      have hsplit' : rem ops (listed.setIfInBounds j true) (List.range ops.size) = rem ops listed (List.range j) ++ rem ops listed (List.range' (j + 1) (ops.size - j - 1)) := by
        rw [range_split hjn, rem_append, rem_set _ (by simp)]
        congr 1
        have e1 : rem ops (listed.setIfInBounds j true) (j :: List.range' (j + 1) (ops.size - j - 1)) = rem ops (listed.setIfInBounds j true) (List.range' (j + 1) (ops.size - j - 1)) := by
          unfold rem
          rw [List.filter_cons, if_neg]
          have : j < listed.size := by rw [hsz]; exact hjn
          simp [this]
        rw [e1, rem_set _ (by simp [List.mem_range'_1]; omega)]
      have hp := pull (P := P) (Q := Q) (S := S) (hns j oj · · hoj) (rem ops listed (List.range' (j + 1) (ops.size - j - 1))) (rem ops listed (List.range j)) a w (fun i hi => by
        obtain ⟨k, hk, hlk, hok⟩ := mem_rem hi
        have hk := List.mem_range.1 hk
        rcases (hall j oj hoj).2 k i hk hok with hwt | ⟨h1, h2⟩
        · exfalso
          have conv : ∀ m, m < ops.size → listed.getD m false = true → listed.getD m true = true := fun m hm h1 => by
            have hsome : m < listed.size := by rw [hsz]; exact hm
            simpa [hsome] using h1
          have path : ∀ x y, Waits md ops x y → y < ops.size → (∀ o, ops[x]? = some o → ∀ e ∈ o.after, Region.binds md e = true → listed.getD e.on false = true) → listed.getD y true = true := by
            intro x y hxy hy
            induction hxy with
            | one ho he hb => exact fun hd => conv _ hy (hd _ ho _ he hb)
            | more ho he hb hw ih =>
              intro hd
              refine ih hy fun o ho' e' he' hb' => ?_
              exact hcl _ o ho' (conv _ (Array.getElem?_eq_some_iff.1 ho').1 (hd _ ho _ he hb)) e' he' hb'
          have := path j k hwt (by omega) (fun o ho e he hb => by rw [hoj] at ho; cases ho; exact hdeps e he hb)
          rw [hlk] at this
          cases this
        · exact ⟨h1, h2, fun cs b => hns k i cs b hok⟩) hS (by rw [← hsplit]; exact h)
      have hle' : (rem ops (listed.setIfInBounds j true) (List.range ops.size)).length ≤ fuel := by
        rw [hsplit']
        rw [hsplit] at hle
        simp only [List.length_append, List.length_cons] at hle ⊢
        omega
      have next : ∀ a' w', S w' → Seq P ops S Q (rem ops listed (List.range j) ++ rem ops listed (List.range' (j + 1) (ops.size - j - 1))) a' w' → wpAny P md ops Q fuel (listed.setIfInBounds j true) a' w' :=
        fun a' w' hS' h' => ih _ a' w' (by simpa using hsz) (fun k o ho hl e he hb => by
          have mono : ∀ m, listed.getD m false = true → (listed.setIfInBounds j true).getD m false = true := fun m hm => by
            by_cases hmj : j = m
            · subst hmj
              have : j < listed.size := by rw [hsz]; exact hjn
              simp [this]
            · rw [getD_set_ne false hmj]; exact hm
          by_cases hkj : j = k
          · subst hkj
            rw [hoj] at ho
            cases ho
            exact mono _ (hdeps e he hb)
          · rw [getD_set_ne true hkj] at hl
            exact mono _ (hcl k o ho hl e he hb)) hle' hS' (by rw [hsplit']; exact h')
      rcases hp with ⟨v, hy, hr⟩ | ⟨_, hw, hr⟩
      · exact hy.wpOp hoj hS (next _ _ hS hr)
      · unfold wpOp
        simp only [hoj, hw, if_true]
        exact .inl (wp_mono (fun a' w' h' => next a' w' h'.1 h'.2) (fun _ _ _ h => h.elim) (fun h => absurd h letsOut_no) hr)
theorem rem_none (l : List Oper) : rem l.toArray (Array.replicate l.length false) (List.range l.length) = l := by
  unfold rem
  have h1 : (List.range l.length).filter (fun i => !(Array.replicate l.length false).getD i true) = List.range l.length := by
    refine List.filter_eq_self.2 fun i hi => ?_
    have := List.mem_range.1 hi
    simp [this]
  rw [h1]
  have h2 : ∀ (k l : List Oper), (List.range' k.length l.length).filterMap (fun i => (k ++ l)[i]?) = l := by
    intro k l
    induction l generalizing k with
    | nil => rfl
    | cons o l ih =>
      have := ih (k ++ [o])
      simp only [List.length_append, List.length_cons, List.length_nil, List.append_assoc, List.cons_append, List.nil_append] at this
      rw [List.length_cons, List.range'_succ, List.filterMap_cons]
      simp only [List.getElem?_append_right (Nat.le_refl _), Nat.sub_self, List.getElem?_cons_zero]
      rw [this]
  have := h2 [] l
  simpa [List.range_eq_range'] using this
theorem wp_region_seq {id : Nat} {l : List Oper} {a : Act} {w : World} (S : World → Prop) (hm : P.follows .mixedOrders = true) (hc : inText .any l = true) (hS : S w.drew)
    (h : Seq P l.toArray S Q l a w.drew) : (Code.region id l.toArray true).wp P Q a w :=
  wp_region_any hm (wpAny_of_seq rfl hc _ _ a _ (by simp) (fun k o ho hl => by
    have hk : k < l.length := by simpa using (Array.getElem?_eq_some_iff.1 ho).1
    simp [hk] at hl) (by simp [rem_none]) hS (by
    have := rem_none l
    simpa [this] using h))
theorem Seq.nil {a : Act} {w : World} (h : Q .normal a w) : Seq P ops S Q [] a w := h
theorem Seq.skip {o : Oper} {rest : List Oper} {a : Act} {w : World} (hw : Region.wanted o (yielded ops a.tmps) = false) (h : Seq P ops S Q rest (a.put o.dst undef) w) : Seq P ops S Q (o :: rest) a w :=
  .inl ⟨undef, .inr ⟨hw, rfl⟩, h⟩
theorem Seq.det {o : Oper} {rest : List Oper} {a : Act} {w : World} (v : Value) (hw : Region.wanted o (yielded ops a.tmps) = true) (hv : ∀ w, S w → (execOp a.eval o).run P w = .ok (.value v) w) (h : Seq P ops S Q rest (a.put o.dst v) w) :
    Seq P ops S Q (o :: rest) a w := .inl ⟨v, .inl ⟨hw, hv⟩, h⟩
theorem Seq.make {o : Oper} {rest : List Oper} {a : Act} {w : World} (hm : making o = true) (hw : Region.wanted o (yielded ops a.tmps) = true)
    (h : ∀ (K : Act → World → Prop) (Q' : Exit → Act → World → Prop), Shut (∀ a w, S w → Seq P ops S Q rest a w → K a w) → o.wp P a w K Q') : Seq P ops S Q (o :: rest) a w :=
  .inr ⟨hm, hw, h _ _ (fun a w h1 h2 => ⟨h1, h2⟩)⟩
end
end Go.Proofs.YtmiimjgfainclaaGreat.Seq
namespace Go.Proofs.YtmiimjgfainclaaGreat.Cur
open Go.RowKit Mem Go.ChangeShapes Go.WideShapes
set_option linter.unusedVariables false
set_option maxRecDepth 100000
def Rw (w : World) (A : Option Addr) (xs : List Value) : Prop := 0 < xs.length → ∃ k o, A = some ⟨k, o, none⟩ ∧ ∀ i v, xs[i]? = some v → w.cell? ⟨k, o + i, none⟩ = some v
theorem Rw.nil (w : World) (A : Option Addr) : Rw w A [] := fun h => absurd h (by simp)
theorem Rw.below {w w' : World} {A : Option Addr} {xs : List Value} (h : Rw w A xs) (hb : Below w.heap.size w w') : Rw w' A xs := fun hn => by
  obtain ⟨k, o, e, hc⟩ := h hn
  exact ⟨k, o, e, fun i v hi => (hb.cell (lt_of_cell (hc i v hi))).trans (hc i v hi)⟩
theorem Rw.ks {S : Nat → Prop} {w w' : World} {A : Option Addr} {xs : List Value} (h : Rw w A xs) (k : Ks S w w') (hA : 0 < xs.length → ∀ a, A = some a → ¬ S a.block) : Rw w' A xs := fun hn => by
  obtain ⟨g, o, e, hc⟩ := h hn
  exact ⟨g, o, e, fun i x hx => (World.cell?_of_block (w := w) (k.block g (lt_of_cell (hc i x hx)) (hA hn _ e))).trans (hc i x hx)⟩
theorem Rw.kp {b : Nat} {w w' : World} {A : Option Addr} {xs : List Value} (h : Rw w A xs) (k : Kp b w w') (hA : 0 < xs.length → ∀ a, A = some a → a.block ≠ b) : Rw w' A xs := h.ks (S := fun i => i = b) (Ks.of_kp k rfl) hA
theorem Rw.lt {w : World} {A : Option Addr} {xs : List Value} (h : Rw w A xs) (hn : 0 < xs.length) : ∀ a, A = some a → a.block < w.heap.size := fun a ha => by
  obtain ⟨g, o, e, hc⟩ := h hn
  rw [e] at ha
  injection ha with ha
  subst ha
  exact lt_of_cell (hc 0 _ (List.getElem?_eq_getElem hn))
theorem Rw.news {w : World} {ad : Addr} {xs : List Value} (h : Rw w (some ad) xs) : ∀ j u, xs[j]? = some u → w.cell? (ad.add j) = some u := by
  intro j u hu
  obtain ⟨k, o, e, hc⟩ := h (by have := (List.getElem?_eq_some_iff.1 hu).1; omega)
  injection e with e
  subst e
  rw [← hc j u hu]
  congr 1
  unfold Addr.add
  by_cases h0 : j = 0 <;> simp [h0]
theorem Rw.at_ {w : World} {A : Option Addr} {xs : List Value} (h : Rw w A xs) {i : Nat} {v : Value} (hi : xs[i]? = some v) : ∃ g o, A = some ⟨g, o, none⟩ ∧ w.cell? ⟨g, o + i, none⟩ = some v := by
  obtain ⟨k, o, e, hc⟩ := h (by have := (List.getElem?_eq_some_iff.1 hi).1; omega)
  exact ⟨k, o, e, hc i v hi⟩
theorem Bs.rw {w : World} {A : Option Addr} {n : Nat} {z : List Int} (h : Bs w A n z) : Rw w A (z.map (Value.int .u8)) := fun hn => by
  obtain ⟨k, o, e, hc⟩ := h.2 (by rw [List.length_map, h.1] at hn; exact hn)
  refine ⟨k, o, e, fun i v hi => ?_⟩
  rw [List.getElem?_map, Option.map_eq_some_iff] at hi
  obtain ⟨x, hx, rfl⟩ := hi
  exact hc i x hx
structure Kind (sl e : TypeId) (z : Value) (size bytes : Nat) : Prop where
  und : Tryz.prog.underlying sl = some (.slice e)
  info : (Tryz.prog.info? e).map (fun i => (i.zero, i.size, i.bytes)) = some (some z, size, bytes)
  zs : z.cells.size = size
  pos : 0 < size
theorem own_slice {w : World} {B e size n : Nat} {v : Value} {xs : List Value} (h : w.ownsRow B e size v n xs) : ∃ A c, v = .slice A n c ∧ (A = none → c = 0) ∧ n ≤ c := by
  rcases h.2 with ⟨e, h0⟩ | ⟨g, cap, cur, e, _, _, h1, _⟩
  · exact ⟨none, 0, by rw [e, h0], fun _ => rfl, by omega⟩
  · exact ⟨_, cap, e, fun h => (by cases h), h1⟩
theorem own_rw {w : World} {B e size n : Nat} {v : Value} {xs : List Value} (h : w.ownsRow B e size v n xs) {A : Option Addr} {m c : Nat} (hv : v = .slice A m c) : m = n ∧ n ≤ c ∧ (A = none → c = 0) ∧ Rw w A xs := by
  subst hv
  rcases h.2 with ⟨e, h0⟩ | ⟨g, cap, cur, e, _, hh, hc, _⟩
  · injection e with e1 e2 e3
    subst e1 e2 e3
    have hz : xs = [] := List.eq_nil_of_length_eq_zero (by rw [h.1, h0]; omega)
    subst hz
    exact ⟨h0.symm, by omega, fun _ => rfl, Rw.nil _ _⟩
  · injection e with e1 e2 e3
    subst e1 e2 e3
    refine ⟨rfl, hc, fun h => (by cases h), fun _ => ⟨g, 0, rfl, fun i x hx => ?_⟩⟩
    have := World.ownsRow.cells h (g := g) rfl i x hx
    rw [← this]
    congr 1
    unfold Addr.add
    by_cases h0 : i = 0 <;> simp [h0]
theorem own_block {w w' : World} {B e size n : Nat} {v : Value} {xs : List Value} (h : w.ownsRow B e size v n xs) (hb : ∀ k, v.ownBlock = some k → w'.heap[k]? = w.heap[k]?) : w'.ownsRow B e size v n xs := by
  obtain ⟨h1, h2⟩ := h
  refine ⟨h1, ?_⟩
  rcases h2 with h2 | ⟨g, cap, cur, rfl, hg, hh, r⟩
  · exact .inl h2
  · exact .inr ⟨g, cap, cur, rfl, hg, (hb g rfl).trans hh, r⟩
theorem own_below {w w' : World} {B e size n : Nat} {v : Value} {xs : List Value} (h : w.ownsRow B e size v n xs) (hb : Below w.heap.size w w') : w'.ownsRow B e size v n xs :=
  own_block h fun k hk => hb.block k (World.ownsRow.lt h k hk).2
theorem own_ks {S : Nat → Prop} {w w' : World} {B e size n : Nat} {v : Value} {xs : List Value} (h : w.ownsRow B e size v n xs) (k : Ks S w w') (hS : ∀ g, v.ownBlock = some g → ¬ S g) : w'.ownsRow B e size v n xs :=
  own_block h fun g hg => k.block g (World.ownsRow.lt h g hg).2 (hS g hg)
theorem own_kp {b : Nat} {w w' : World} {B e size n : Nat} {v : Value} {xs : List Value} (h : w.ownsRow B e size v n xs) (k : Kp b w w') (hb : v.ownBlock ≠ some b) : w'.ownsRow B e size v n xs :=
  own_ks (S := fun i => i = b) h (Ks.of_kp k rfl) fun g hg e => hb (by rw [hg, e])
theorem own_base {w : World} {B B' e size n : Nat} {v : Value} {xs : List Value} (h : w.ownsRow B e size v n xs) (hB : ∀ g, v.ownBlock = some g → B' ≤ g) : w.ownsRow B' e size v n xs := by
  obtain ⟨h1, h2⟩ := h
  refine ⟨h1, ?_⟩
  rcases h2 with h2 | ⟨g, cap, cur, rfl, hg, r⟩
  · exact .inl h2
  · exact .inr ⟨g, cap, cur, rfl, hB g rfl, r⟩
theorem own_ne_blk {w : World} {B e size n b : Nat} {v : Value} {xs : List Value} {cs : Array Value} {t : Nat} (h : w.ownsRow B e size v n xs) (hr : Blk w b cs t) (ht : t ≠ e) : v.ownBlock ≠ some b := by
  rcases h.2 with ⟨rfl, _⟩ | ⟨g, cap, cur, rfl, _, hh, _⟩
  · simp [Value.ownBlock]
  · intro he
    have : g = b := by simpa [Value.ownBlock] using he
    subst this
    unfold Blk at hr
    rw [hh] at hr
    injection hr with hr
    injection hr with _ hr
    exact ht hr.symm
theorem run_append_rw {sl e : TypeId} {zv : Value} {size bytes : Nat} (E : Kind sl e zv size bytes) (w : World) (ty : TypeId) (B : Nat) (v : Value) (n : Nat) (xs : List Value) (hown : w.ownsRow B e size v n xs)
    (A : Option Addr) (m c : Nat) (news : List Value) (hl : news.length = m * size) (hr : Rw w A news) (hc : A = none → c = 0) (h1 : ∀ u ∈ news, u.oneCell' = true)
    (hsz : n + m ≤ 1000000) (hby : bytes ≤ 1000000) (hB : B ≤ w.heap.size) :
    ∃ v' w', (Builtin.append_ #[sl, sl] ty #[v, .slice A m c]).run Tryz.prog w = .ok v' w' ∧ w'.ownsRow B e size v' (n + m) (xs ++ news) ∧ w.grownBy w' v.ownBlock ∧ Gr v.ownBlock v'.ownBlock w := by
  obtain ⟨i0, hi, hz0, hz1, hz2⟩ := info_parts E.info
  have hbb : (n + m) * bytes ≤ 140737488355328 := Nat.le_trans (Nat.mul_le_mul hsz hby) (by omega)
  rcases A with _ | ad
  · have hm : m = 0 := by
      rcases Nat.eq_zero_or_pos m with h0 | h0
      · exact h0
      · obtain ⟨_, _, e, _⟩ := hr (by rw [hl]; exact Nat.mul_pos h0 E.pos)
        cases e
    subst hm
    obtain rfl := hc rfl
    have hn : news = [] := List.eq_nil_of_length_eq_zero (by rw [hl]; omega)
    subst hn
    exact ⟨v, w, run_append_owned_none (P := Tryz.prog) (w := w) B sl ty e i0 size E.und hi v _ _ hown, by simpa using hown, ⟨rfl, rfl, rfl, Nat.le_refl _, fun _ _ _ => rfl⟩, .inl rfl⟩
  · obtain ⟨v', w', hrun, h2, h3, _, h4⟩ := run_append_own_at (P := Tryz.prog) w B sl ty e i0 zv size bytes E.und hi hz0 hz1 hz2 E.zs E.pos v n xs hown ad m c news
      hl hr.news h1 (by simp only [maxLen]; omega) hbb hB
    exact ⟨v', w', hrun, h2, h3, h4.imp_right fun h => ⟨_, h, Nat.le_refl _⟩⟩
theorem list_append_rw {sl e : TypeId} {zv : Value} {size bytes : Nat} (E : Kind sl e zv size bytes) {w : World} {ops : Array Oper} {rest : List Oper} {o : Oper} {a : Act} {Q : Exit → Act → World → Prop} (hgd : o.guard = none) (s x : Operand)
    (ho : o.op = .call { callee := .builtin .append, args := #[s, x], argTypes := #[sl, sl] })
    (B : Nat) (v : Value) (n : Nat) (xs : List Value) (hs : a.eval s = v) (hown : w.ownsRow B e size v n xs) (A : Option Addr) (m c : Nat) (news : List Value) (hx : a.eval x = .slice A m c) (hl : news.length = m * size) (hr : Rw w A news) (hc : A = none → c = 0) (h1 : ∀ u ∈ news, u.oneCell' = true)
    (hsz : n + m ≤ 1000000) (hby : bytes ≤ 1000000) (hB : B ≤ w.heap.size)
    (h : ∀ v' w', w'.ownsRow B e size v' (n + m) (xs ++ news) → w.grownBy w' v.ownBlock → Gr v.ownBlock v'.ownBlock w → wpList Tryz.prog ops Q rest (a.put o.dst v') w') : wpList Tryz.prog ops Q (o :: rest) a w :=
  wpList_plain hgd fun _ hK => by
    obtain ⟨v', w', hrun, h2, h3, h4⟩ := run_append_rw E w o.type B v n xs hown A m c news hl hr hc h1 hsz hby hB
    unfold Oper.wp
    simp [execOp, ho, resolve, invoke, builtin, hs, hx, hrun, Result.andThen]
    exact hK _ _ (h v' w' h2 h3 h4)
abbrev uv (z : List Int) : List Value := z.map (Value.int .u64)
def Us (w : World) (A : Option Addr) (n : Nat) (z : List Int) : Prop := z.length = n ∧ Rw w A (uv z)
theorem Us.below {w w' : World} {A : Option Addr} {n : Nat} {z : List Int} (h : Us w A n z) (hb : Below w.heap.size w w') : Us w' A n z := ⟨h.1, h.2.below hb⟩
theorem Us.ks {S : Nat → Prop} {w w' : World} {A : Option Addr} {n : Nat} {z : List Int} (h : Us w A n z) (k : Ks S w w') (hA : 0 < n → ∀ a, A = some a → ¬ S a.block) : Us w' A n z :=
  ⟨h.1, h.2.ks k fun hn => hA (by rw [List.length_map, h.1] at hn; exact hn)⟩
theorem Us.at_ {w : World} {A : Option Addr} {n : Nat} {z : List Int} (h : Us w A n z) {k : Nat} (hk : k < n) : ∃ g o, A = some ⟨g, o, none⟩ ∧ w.cell? ⟨g, o + k, none⟩ = some (.int .u64 (z.getD k 0)) := by
  have hz : k < z.length := by rw [h.1]; exact hk
  refine h.2.at_ ?_
  rw [List.getElem?_map, List.getElem?_eq_getElem hz, List.getD_eq_getElem?_getD, List.getElem?_eq_getElem hz]
  rfl
def OwnU (w : World) (B : Nat) (v : Value) (z : List Int) : Prop := w.ownsRow B 22 1 v z.length (uv z)
theorem OwnU.nil (w : World) (B : Nat) : OwnU w B (.slice none 0 0) [] := World.ownsRow_nil w B 22 1
theorem OwnU.us {w : World} {B n c : Nat} {A : Option Addr} {z : List Int} (h : OwnU w B (.slice A n c) z) : n = z.length ∧ n ≤ c ∧ (A = none → c = 0) ∧ Us w A n z := by
  obtain ⟨h1, h2, h3, h4⟩ := own_rw h rfl
  exact ⟨h1, by omega, h3, h1.symm, h4⟩
theorem OwnU.slice {w : World} {B : Nat} {v : Value} {z : List Int} (h : OwnU w B v z) : ∃ A c, v = .slice A z.length c := by
  obtain ⟨A, c, e, _⟩ := own_slice h
  exact ⟨A, c, e⟩
theorem kindU : Kind 23 22 (.int .u64 0) 1 8 := ⟨Tryz.underlying23, by kernel_rfl, rfl, by omega⟩
theorem uv_one (z : List Int) : ∀ u ∈ uv z, u.oneCell' = true := fun u hu => by obtain ⟨x, _, rfl⟩ := List.mem_map.1 hu; rfl
def URowPost (z : List Int) (w : World) (e : Ending) (w' : World) : Prop :=
  ∃ v, e = .returned v ∧ OwnU w' w.heap.size v z ∧ Below w.heap.size w w'
section
variable {H : Type} {enc : TypeId × Value → H} {w : World} {base : Nat} {v : Value} {d : DataW H} {p : List MemPlace}
end
end Go.Proofs.YtmiimjgfainclaaGreat.Cur
namespace Go.Proofs.YtmiimjgfainclaaGreat.Cur
open Go.RowKit Mem
set_option linter.unusedVariables false
def RowAt (w : World) (A : Option Addr) (i : Nat) (z : List Int) : Prop :=
  ∃ b o Ar Lr Cr, A = some ⟨b, o, none⟩ ∧ w.cell? ⟨b, o + i, none⟩ = some (.slice Ar Lr Cr) ∧ Bs w Ar Lr z ∧ (∀ x ∈ z, 0 ≤ x ∧ x < 256) ∧ (Ar = none → Cr = 0) ∧ Lr ≤ Cr
def RowsL (w : World) (A : Option Addr) (n : Nat) (R : List (List Int)) : Prop := R.length = n ∧ ∀ i, i < n → RowAt w A i (R.getD i [])
theorem RowsL.below {w w' : World} {A : Option Addr} {n : Nat} {R : List (List Int)} (h : RowsL w A n R) (hb : Below w.heap.size w w') : RowsL w' A n R :=
  ⟨h.1, fun i hi => by
    obtain ⟨b, o, Ar, Lr, Cr, e, h0, h1, r⟩ := h.2 i hi
    exact ⟨b, o, Ar, Lr, Cr, e, (hb.cell (lt_of_cell h0)).trans h0, h1.below hb, r⟩⟩
def flat (R : List (List Int)) (k : Nat) : List Int := (R.take k).flatten
theorem flat_succ {R : List (List Int)} {k : Nat} (h : k < R.length) : flat R (k + 1) = flat R k ++ R.getD k [] := by
  unfold flat
  rw [List.take_succ_eq_append_getElem h, List.flatten_append]
  simp [List.getD_eq_getElem?_getD, List.getElem?_eq_getElem h]
end Go.Proofs.YtmiimjgfainclaaGreat.Cur
namespace Go.Proofs.YtmiimjgfainclaaGreat.Seq
set_option linter.unusedVariables false
section
variable {P : Program} {ops : Array Oper} {Q : Exit → Act → World → Prop} {S : World → Prop}
def SeqE (P : Program) (ops : Array Oper) (S : World → Prop) (Q : Exit → Act → World → Prop) : List Oper → Act → World → Prop
  | [], a, w => Q .normal a w
  | o :: rest, a, w =>
    (∃ v, YieldsIf P ops S o v a ∧ SeqE P ops S Q rest (a.put o.dst v) w) ∨
    (making o = true ∧ Region.wanted o (yielded ops a.tmps) = true ∧ o.wp P a w (fun a' w' => (S w' ∨ rest = []) ∧ SeqE P ops S Q rest a' w') NoExit)
def PulledE (P : Program) (ops : Array Oper) (S : World → Prop) (Q : Exit → Act → World → Prop) (j : Oper) (rest : List Oper) (a : Act) (w : World) : Prop :=
  (∃ v, YieldsIf P ops S j v a ∧ SeqE P ops S Q rest (a.put j.dst v) w) ∨
  (making j = true ∧ Region.wanted j (yielded ops a.tmps) = true ∧ j.wp P a w (fun a' w' => S w' ∧ SeqE P ops S Q rest a' w') NoExit)
theorem pullE {j : Oper} (hsj : ∀ cs b, j.op ≠ .select cs b) (post : List Oper) (hpost : post ≠ []) : ∀ (pre : List Oper) (a : Act) (w : World), (∀ i ∈ pre, i.apart ops j = true ∧ (making i && making j) = false ∧ ∀ cs b, i.op ≠ .select cs b) → S w →
    SeqE P ops S Q (pre ++ j :: post) a w → PulledE P ops S Q j (pre ++ post) a w
  | [], a, w, _, hS, h => by
    rcases h with h | ⟨h1, h2, h3⟩
    · exact .inl h
    · exact .inr ⟨h1, h2, wp_mono (fun a' w' h' => ⟨h'.1.resolve_right hpost, h'.2⟩) (fun _ _ _ h => h) (fun h => h) h3⟩
  | i :: pre, a, w, hpre, hS, h => by
    obtain ⟨hap, hmk, hsi⟩ := hpre i (List.mem_cons_self ..)
    obtain ⟨h1, h2, h3⟩ := Oper.apart_spec hap
    have h2' : ∀ d, j.dst = some d → i.dst ≠ some d := fun d hd he => h2 d he hd
    have ih := pullE hsj post hpost pre
    have hpre' : ∀ i ∈ pre, i.apart ops j = true ∧ (making i && making j) = false ∧ ∀ cs b, i.op ≠ .select cs b := fun k hk => hpre k (List.mem_cons_of_mem _ hk)
    rcases h with ⟨v, hy, h⟩ | ⟨hm, hw, h⟩
    · rcases ih (a.put i.dst v) w hpre' hS h with ⟨u, hyj, hr⟩ | ⟨hmj, hwj, hr⟩
      · refine .inl ⟨u, (yields_of_put hsj h1).1 hyj, .inl ⟨v, (yields_of_put hsi h3).2 hy, ?_⟩⟩
        rw [← Act.put_comm a v u h2]
        exact hr
      · refine .inr ⟨hmj, by rw [← wanted_put j a i.dst v h1]; exact hwj, ?_⟩
        refine wp_mono (fun a' w' h' => ?_) (fun _ _ _ h => h) (fun h => h) (wp_put hsj h1 h2 hr)
        exact ⟨h'.1.1, .inl ⟨v, (yields_of_after hsi h3 h'.2).2 hy, h'.1.2⟩⟩
    · have hmj : making j = false := by simpa [hm] using hmk
      have hne : pre ++ j :: post ≠ [] := by simp
      have key : i.wp P a w (fun a' w' => S w' ∧ ∃ v, YieldsIf P ops S j v a' ∧ SeqE P ops S Q (pre ++ post) (a'.put j.dst v) w') NoExit :=
        wp_mono (fun a' w' h' => ⟨h'.1.resolve_right hne, by
          rcases ih a' w' hpre' (h'.1.resolve_right hne) h'.2 with hh | ⟨hmj', _⟩
          · exact hh
          · rw [hmj] at hmj'; cases hmj'⟩) (fun _ _ _ h => h) (fun h => h) h
      obtain ⟨a1, w1, ⟨_, v, hyv, _⟩, ha1⟩ := wp_some key
      have hyv' : YieldsIf P ops S j v a := (yields_of_after hsj h1 ha1).1 hyv
      refine .inl ⟨v, hyv', .inr ⟨hm, by rw [wanted_put i a j.dst v h3]; exact hw, ?_⟩⟩
      refine wp_unput hsi h3 h2' (wp_mono (fun a' w' h' ha' => ?_) (fun _ _ _ h => h) (fun h => h) key)
      obtain ⟨hS', v', hy', hr'⟩ := h'
      obtain rfl := yields_one hS hyv' ((yields_of_after hsj h1 ha').1 hy')
      exact ⟨.inl hS', hr'⟩
def lastWaits (md : Region.Mode) (l : List Oper) : Bool := (List.range (l.length - 1)).all fun i => ((masks md l []).getD (l.length - 1) 0).testBit i
theorem wpAny_done {md : Region.Mode} {fuel : Nat} {listed : Array Bool} {a : Act} {w : World} (h0 : Region.ready md ops listed = []) (h : Q .normal a w) : wpAny P md ops Q fuel listed a w := by
  cases fuel with
  | zero => exact ⟨h0, h⟩
  | succ fuel => exact ⟨fun _ => h, fun j hj => by rw [h0] at hj; cases hj⟩
theorem wpAny_of_last {md : Region.Mode} {l : List Oper} (hops : ops = l.toArray) (hc : inText md l = true) (hlw : lastWaits md l = true) : ∀ (fuel : Nat) (listed : Array Bool) (a : Act) (w : World), listed.size = ops.size →
    (∀ k o, ops[k]? = some o → listed.getD k true = true → ∀ e ∈ o.after, Region.binds md e = true → listed.getD e.on false = true) → (rem ops listed (List.range ops.size)).length ≤ fuel → S w →
    SeqE P ops S Q (rem ops listed (List.range ops.size)) a w → wpAny P md ops Q fuel listed a w := by
  have hns := Region.noSelect_spec (ops := ops) (by rw [hops]; simp only [inText, Bool.and_eq_true] at hc; exact hc.1)
  have hall : ∀ j oj, ops[j]? = some oj → (∀ e ∈ oj.after, Region.binds md e = true → e.on < j) ∧ ∀ i oi, i < j → ops[i]? = some oi → Waits md ops j i ∨ (oi.apart ops oj = true ∧ (making oi && making oj) = false) := by
    intro j oj hj
    subst hops
    simp only [inText, Bool.and_eq_true] at hc
    have := go_spec l 0 hc.2 j oj (by simpa using hj)
    rw [Nat.zero_add] at this
    exact ⟨this.1, fun i oi hi hoi => (this.2 i oi hi hoi).imp_left fun h => masks_spec l [] (fun j o h => by simpa using h) (fun j i h => by simp at h) j i h⟩
  have hlast : ∀ i, i < ops.size - 1 → Waits md ops (ops.size - 1) i := by
    intro i hi
    subst hops
    have hi' : i < l.length - 1 := by simpa using hi
    have := List.all_eq_true.1 hlw i (List.mem_range.2 hi')
    have e : l.toArray.size - 1 = l.length - 1 := by simp
    rw [e]
    exact masks_spec l [] (fun j o h => by simpa using h) (fun j i h => by simp at h) _ i this
  intro fuel
  have hnone : ∀ (listed : Array Bool) (a : Act) (w : World), rem ops listed (List.range ops.size) = [] → SeqE P ops S Q (rem ops listed (List.range ops.size)) a w → Region.ready md ops listed = [] ∧ Q .normal a w := by
    intro listed a w h0 h
    refine ⟨List.eq_nil_iff_forall_not_mem.2 fun j hj => ?_, by rw [h0] at h; exact h⟩
    obtain ⟨hl, o, ho, _⟩ := mem_ready.1 hj
    have : o ∈ rem ops listed (List.range ops.size) := List.mem_filterMap.2 ⟨j, List.mem_filter.2 ⟨List.mem_range.2 (Array.getElem?_eq_some_iff.1 ho).1, by simp [hl]⟩, ho⟩
    rw [h0] at this
    cases this
  induction fuel with
  | zero =>
    intro listed a w _ _ hle hS h
    exact hnone listed a w (List.eq_nil_of_length_eq_zero (by omega)) h
  | succ fuel ih =>
    intro listed a w hsz hcl hle hS h
    refine ⟨fun hr => ?_, fun j hj => ?_⟩
    ·
      suffices h0 : rem ops listed (List.range ops.size) = [] from (hnone listed a w h0 h).2
      refine List.eq_nil_iff_forall_not_mem.2 fun o ho => ?_
      obtain ⟨i, hi, hl, hoi⟩ := mem_rem ho
      have : ∀ k, (∀ i < k, listed.getD i true = true ∨ ops[i]? = none) := by
        intro k
        induction k with
        | zero => intro i hi; omega
        | succ k ihk =>
          intro i hi
          rcases Nat.lt_or_ge i k with h' | h'
          · exact ihk i h'
          · obtain rfl : i = k := by omega
            cases hoi : ops[i]? with
            | none => exact .inr rfl
            | some oi =>
              refine .inl ?_
              by_cases hli : listed.getD i true = true
              · exact hli
              · exfalso
                have hmem : i ∈ Region.ready md ops listed := mem_ready.2 ⟨by simpa using hli, oi, hoi, fun e he hb => by
                  have hlt := (hall i oi hoi).1 e he hb
                  have hsome : e.on < listed.size := by rw [hsz]; have := (Array.getElem?_eq_some_iff.1 hoi).1; omega
                  rcases ihk e.on hlt with h1 | h1
                  · simpa [hsome] using h1
                  · have := (Array.getElem?_eq_none_iff.1 h1); omega⟩
                rw [hr] at hmem
                cases hmem
      rcases this (i + 1) i (by omega) with h1 | h1
      · rw [hl] at h1; cases h1
      · rw [h1] at hoi; cases hoi
    · obtain ⟨hl, oj, hoj, hdeps⟩ := mem_ready.1 hj
      have hjn : j < ops.size := (Array.getElem?_eq_some_iff.1 hoj).1
      have hsplit : rem ops listed (List.range ops.size) = rem ops listed (List.range j) ++ oj :: rem ops listed (List.range' (j + 1) (ops.size - j - 1)) := by
        rw [range_split hjn, rem_append]
        congr 1
        unfold rem
        rw [List.filter_cons]
        simp [hl, hoj]
      have hsplit' : rem ops (listed.setIfInBounds j true) (List.range ops.size) = rem ops listed (List.range j) ++ rem ops listed (List.range' (j + 1) (ops.size - j - 1)) := by
        rw [range_split hjn, rem_append, rem_set _ (by simp)]
        congr 1
        have e1 : rem ops (listed.setIfInBounds j true) (j :: List.range' (j + 1) (ops.size - j - 1)) = rem ops (listed.setIfInBounds j true) (List.range' (j + 1) (ops.size - j - 1)) := by
          unfold rem
          rw [List.filter_cons, if_neg]
          have : j < listed.size := by rw [hsz]; exact hjn
          simp [this]
        rw [e1, rem_set _ (by simp [List.mem_range'_1]; omega)]
      have conv : ∀ m, m < ops.size → listed.getD m false = true → listed.getD m true = true := fun m hm h1 => by
        have hsome : m < listed.size := by rw [hsz]; exact hm
        simpa [hsome] using h1
      have path : ∀ x y, Waits md ops x y → y < ops.size → (∀ o, ops[x]? = some o → ∀ e ∈ o.after, Region.binds md e = true → listed.getD e.on false = true) → listed.getD y true = true := by
        intro x y hxy hy
        induction hxy with
        | one ho he hb => exact fun hd => conv _ hy (hd _ ho _ he hb)
        | more ho he hb hw ih =>
          intro hd
          refine ih hy fun o ho' e' he' hb' => ?_
          exact hcl _ o ho' (conv _ (Array.getElem?_eq_some_iff.1 ho').1 (hd _ ho _ he hb)) e' he' hb'
      have hle' : (rem ops (listed.setIfInBounds j true) (List.range ops.size)).length ≤ fuel := by
        rw [hsplit']
        rw [hsplit] at hle
        simp only [List.length_append, List.length_cons] at hle ⊢
        omega
      have next : ∀ a' w', S w' → SeqE P ops S Q (rem ops listed (List.range j) ++ rem ops listed (List.range' (j + 1) (ops.size - j - 1))) a' w' → wpAny P md ops Q fuel (listed.setIfInBounds j true) a' w' :=
        fun a' w' hS' h' => ih _ a' w' (by simpa using hsz) (fun k o ho hl e he hb => by
          have mono : ∀ m, listed.getD m false = true → (listed.setIfInBounds j true).getD m false = true := fun m hm => by
            by_cases hmj : j = m
            · subst hmj
              have : j < listed.size := by rw [hsz]; exact hjn
              simp [this]
            · rw [getD_set_ne false hmj]; exact hm
          by_cases hkj : j = k
          · subst hkj
            rw [hoj] at ho
            cases ho
            exact mono _ (hdeps e he hb)
          · rw [getD_set_ne true hkj] at hl
            exact mono _ (hcl k o ho hl e he hb)) hle' hS' (by rw [hsplit']; exact h')
      by_cases hjl : j = ops.size - 1
      ·
        have hpre0 : rem ops listed (List.range j) = [] := by
          refine List.eq_nil_iff_forall_not_mem.2 fun o ho => ?_
          obtain ⟨k, hk, hlk, hok⟩ := mem_rem ho
          have hk := List.mem_range.1 hk
          have := path (ops.size - 1) k (hlast k (by omega)) (by omega) (fun o ho e he hb => by rw [← hjl, hoj] at ho; cases ho; exact hdeps e he hb)
          rw [hlk] at this
          cases this
        have hpost0 : rem ops listed (List.range' (j + 1) (ops.size - j - 1)) = [] := by
          rw [show ops.size - j - 1 = 0 by omega]; rfl
        rw [hsplit, hpre0, hpost0] at h
        rw [hpre0, hpost0] at hsplit'
        have hrd : Region.ready md ops (listed.setIfInBounds j true) = [] := by
          refine List.eq_nil_iff_forall_not_mem.2 fun k hk => ?_
          obtain ⟨hl', o, ho, _⟩ := mem_ready.1 hk
          have : o ∈ rem ops (listed.setIfInBounds j true) (List.range ops.size) := List.mem_filterMap.2 ⟨k, List.mem_filter.2 ⟨List.mem_range.2 (Array.getElem?_eq_some_iff.1 ho).1, by simp [hl']⟩, ho⟩
          rw [hsplit'] at this
          cases this
        rcases h with ⟨v, hy, hr⟩ | ⟨_, hw, hr⟩
        · exact hy.wpOp hoj hS (wpAny_done hrd hr)
        · unfold wpOp
          simp only [hoj, hw, if_true]
          exact .inl (wp_mono (fun a' w' h' => wpAny_done hrd h'.2) (fun _ _ _ h => h.elim) (fun h => absurd h letsOut_no) hr)
      · have hne : rem ops listed (List.range' (j + 1) (ops.size - j - 1)) ≠ [] := by
          intro h0
          obtain ⟨ol, hol⟩ : ∃ o, ops[ops.size - 1]? = some o := ⟨_, Array.getElem?_eq_getElem (by omega)⟩
          have hnl : listed.getD (ops.size - 1) true = false := by
            cases hx : listed.getD (ops.size - 1) true with
            | false => rfl
            | true =>
              have := path (ops.size - 1) j (hlast j (by omega)) hjn (fun o ho e he hb => hcl _ o ho hx e he hb)
              rw [hl] at this
              cases this
          have : ol ∈ rem ops listed (List.range' (j + 1) (ops.size - j - 1)) := List.mem_filterMap.2 ⟨ops.size - 1, List.mem_filter.2 ⟨by rw [List.mem_range'_1]; omega, by simp [hnl]⟩, hol⟩
          rw [h0] at this
          cases this
        have hp := pullE (P := P) (Q := Q) (S := S) (hns j oj · · hoj) (rem ops listed (List.range' (j + 1) (ops.size - j - 1))) hne (rem ops listed (List.range j)) a w (fun i hi => by
          obtain ⟨k, hk, hlk, hok⟩ := mem_rem hi
          have hk := List.mem_range.1 hk
          rcases (hall j oj hoj).2 k i hk hok with hwt | ⟨h1, h2⟩
          · exfalso
            have := path j k hwt (by omega) (fun o ho e he hb => by rw [hoj] at ho; cases ho; exact hdeps e he hb)
            rw [hlk] at this
            cases this
          · exact ⟨h1, h2, fun cs b => hns k i cs b hok⟩) hS (by rw [← hsplit]; exact h)
        rcases hp with ⟨v, hy, hr⟩ | ⟨_, hw, hr⟩
        · exact hy.wpOp hoj hS (next _ _ hS hr)
        · unfold wpOp
          simp only [hoj, hw, if_true]
          exact .inl (wp_mono (fun a' w' h' => next a' w' h'.1 h'.2) (fun _ _ _ h => h.elim) (fun h => absurd h letsOut_no) hr)
theorem wp_region_last {id : Nat} {l : List Oper} {a : Act} {w : World} (S : World → Prop) (hm : P.follows .mixedOrders = true) (hc : inText .any l = true) (hl : lastWaits .any l = true) (hS : S w.drew)
    (h : SeqE P l.toArray S Q l a w.drew) : (Code.region id l.toArray true).wp P Q a w :=
  wp_region_any hm (wpAny_of_last rfl hc hl _ _ a _ (by simp) (fun k o ho hl => by
    have hk : k < l.length := by simpa using (Array.getElem?_eq_some_iff.1 ho).1
    simp [hk] at hl) (by simp [rem_none]) hS (by
    have := rem_none l
    simpa [this] using h))
theorem SeqE.nil {a : Act} {w : World} (h : Q .normal a w) : SeqE P ops S Q [] a w := h
theorem SeqE.skip {o : Oper} {rest : List Oper} {a : Act} {w : World} (hw : Region.wanted o (yielded ops a.tmps) = false) (h : SeqE P ops S Q rest (a.put o.dst undef) w) : SeqE P ops S Q (o :: rest) a w :=
  .inl ⟨undef, .inr ⟨hw, rfl⟩, h⟩
theorem SeqE.det {o : Oper} {rest : List Oper} {a : Act} {w : World} (v : Value) (hw : Region.wanted o (yielded ops a.tmps) = true) (hv : ∀ w, S w → (execOp a.eval o).run P w = .ok (.value v) w) (h : SeqE P ops S Q rest (a.put o.dst v) w) :
    SeqE P ops S Q (o :: rest) a w := .inl ⟨v, .inl ⟨hw, hv⟩, h⟩
theorem SeqE.make {o : Oper} {rest : List Oper} {a : Act} {w : World} (hm : making o = true) (hw : Region.wanted o (yielded ops a.tmps) = true)
    (h : ∀ (K : Act → World → Prop) (Q' : Exit → Act → World → Prop), Shut (∀ a w, S w → SeqE P ops S Q rest a w → K a w) → o.wp P a w K Q') : SeqE P ops S Q (o :: rest) a w :=
  .inr ⟨hm, hw, h _ _ (fun a w h1 h2 => ⟨.inl h1, h2⟩)⟩
theorem SeqE.last {o : Oper} {a : Act} {w : World} (hm : making o = true) (hw : Region.wanted o (yielded ops a.tmps) = true)
    (h : ∀ (K : Act → World → Prop) (Q' : Exit → Act → World → Prop), Shut (∀ a w, Q .normal a w → K a w) → o.wp P a w K Q') : SeqE P ops S Q [o] a w :=
  .inr ⟨hm, hw, h _ _ (fun a w h2 => ⟨.inr rfl, h2⟩)⟩
end
end Go.Proofs.YtmiimjgfainclaaGreat.Seq
namespace Go.Proofs.YtmiimjgfainclaaGreat.Seq
set_option linter.unusedVariables false
section
variable {P : Program} {ops : Array Oper} {Q : Exit → Act → World → Prop} {S : World → Prop} {fl : Oper → Bool}
def swp (o : Oper) : List Oper → List Oper
  | [] => [o]
  | i :: r => if making i = true then i :: o :: r else i :: swp o r
def SeqX (P : Program) (ops : Array Oper) (S : World → Prop) (Q : Exit → Act → World → Prop) (fl : Oper → Bool) : List Oper → Act → World → Prop
  | [], a, w => Q .normal a w
  | o :: rest, a, w =>
    (fl o = false ∧ ∃ v, YieldsIf P ops S o v a ∧ SeqX P ops S Q fl rest (a.put o.dst v) w) ∨
    (making o = true ∧ Region.wanted o (yielded ops a.tmps) = true ∧ o.wp P a w (fun a' w' => S w' ∧ SeqX P ops S Q fl rest a' w') NoExit ∧ (fl o = true → Seq P ops S Q (swp o rest) a w))
theorem seq_of_x : ∀ (l : List Oper) (a : Act) (w : World), (∀ o ∈ l, fl o = false) → SeqX P ops S Q fl l a w → Seq P ops S Q l a w
  | [], _, _, _, h => h
  | o :: l, a, w, hf, h => by
    rcases h with ⟨_, v, hy, h⟩ | ⟨h1, h2, h3, _⟩
    · exact .inl ⟨v, hy, seq_of_x l _ _ (fun i hi => hf i (List.mem_cons_of_mem _ hi)) h⟩
    · exact .inr ⟨h1, h2, wp_mono (fun a' w' h' => ⟨h'.1, seq_of_x l _ _ (fun i hi => hf i (List.mem_cons_of_mem _ hi)) h'.2⟩) (fun _ _ _ h => h) (fun h => h) h3⟩
theorem swp_with {o j : Oper} (hj : making j = false) (post : List Oper) : ∀ (pre : List Oper), ∃ X Y, swp o (pre ++ j :: post) = X ++ j :: Y ∧ swp o (pre ++ post) = X ++ Y ∧ ∀ i ∈ X, i = o ∨ i ∈ pre
  | [] => ⟨[], swp o post, by simp [swp, hj], rfl, fun i hi => by cases hi⟩
  | i :: pre => by
    by_cases hm : making i = true
    · exact ⟨i :: o :: pre, post, by simp [swp, hm], by simp [swp, hm], fun k hk => by simp at hk ⊢; rcases hk with h | h | h <;> simp [h]⟩
    · obtain ⟨X, Y, h1, h2, h3⟩ := swp_with (o := o) hj post pre
      exact ⟨i :: X, Y, by simp [swp, hm, h1], by simp [swp, hm, h2], fun k hk => by
        rcases List.mem_cons.1 hk with h | h
        · exact .inr (by simp [h])
        · rcases h3 k h with h | h
          · exact .inl h
          · exact .inr (List.mem_cons_of_mem _ h)⟩
theorem swp_at {o y : Oper} (hy : making y = true) (post : List Oper) : ∀ (pre : List Oper), (∀ i ∈ pre, making i = false) → swp o (pre ++ y :: post) = pre ++ y :: o :: post
  | [], _ => by simp [swp, hy]
  | i :: pre, h => by
    have := swp_at (o := o) hy post pre (fun k hk => h k (List.mem_cons_of_mem _ hk))
    simp [swp, h i (List.mem_cons_self ..), this]
def PulledX (P : Program) (ops : Array Oper) (S : World → Prop) (Q : Exit → Act → World → Prop) (fl : Oper → Bool) (j : Oper) (rest : List Oper) (a : Act) (w : World) : Prop :=
  (∃ v, YieldsIf P ops S j v a ∧ SeqX P ops S Q fl rest (a.put j.dst v) w) ∨
  (making j = true ∧ Region.wanted j (yielded ops a.tmps) = true ∧ j.wp P a w (fun a' w' => S w' ∧ SeqX P ops S Q fl rest a' w') NoExit)
theorem pullX {j : Oper} (hsj : ∀ cs b, j.op ≠ .select cs b) (post : List Oper) : ∀ (pre : List Oper) (a : Act) (w : World), (∀ i ∈ pre, i.apart ops j = true ∧ (making i && making j) = false ∧ ∀ cs b, i.op ≠ .select cs b) → S w →
    SeqX P ops S Q fl (pre ++ j :: post) a w → PulledX P ops S Q fl j (pre ++ post) a w
  | [], a, w, _, hS, h => by
    rcases h with ⟨_, v, hy, h⟩ | ⟨h1, h2, h3, _⟩
    · exact .inl ⟨v, hy, h⟩
    · exact .inr ⟨h1, h2, h3⟩
  | i :: pre, a, w, hpre, hS, h => by
    obtain ⟨hap, hmk, hsi⟩ := hpre i (List.mem_cons_self ..)
    obtain ⟨h1, h2, h3⟩ := Oper.apart_spec hap
    have h2' : ∀ d, j.dst = some d → i.dst ≠ some d := fun d hd he => h2 d he hd
    have ih := pullX hsj post pre
    have hpre' : ∀ i ∈ pre, i.apart ops j = true ∧ (making i && making j) = false ∧ ∀ cs b, i.op ≠ .select cs b := fun k hk => hpre k (List.mem_cons_of_mem _ hk)
    rcases h with ⟨hf, v, hy, h⟩ | ⟨hm, hw, h, hsw⟩
    · rcases ih (a.put i.dst v) w hpre' hS h with ⟨u, hyj, hr⟩ | ⟨hmj, hwj, hr⟩
      · refine .inl ⟨u, (yields_of_put hsj h1).1 hyj, .inl ⟨hf, v, (yields_of_put hsi h3).2 hy, ?_⟩⟩
        rw [← Act.put_comm a v u h2]
        exact hr
      · refine .inr ⟨hmj, by rw [← wanted_put j a i.dst v h1]; exact hwj, ?_⟩
        refine wp_mono (fun a' w' h' => ?_) (fun _ _ _ h => h) (fun h => h) (wp_put hsj h1 h2 hr)
        exact ⟨h'.1.1, .inl ⟨hf, v, (yields_of_after hsi h3 h'.2).2 hy, h'.1.2⟩⟩
    · have hmj : making j = false := by simpa [hm] using hmk
      have key : i.wp P a w (fun a' w' => S w' ∧ ∃ v, YieldsIf P ops S j v a' ∧ SeqX P ops S Q fl (pre ++ post) (a'.put j.dst v) w') NoExit :=
        wp_mono (fun a' w' h' => ⟨h'.1, by
          rcases ih a' w' hpre' h'.1 h'.2 with hh | ⟨hmj', _⟩
          · exact hh
          · rw [hmj] at hmj'; cases hmj'⟩) (fun _ _ _ h => h) (fun h => h) h
      obtain ⟨a1, w1, ⟨_, v, hyv, _⟩, ha1⟩ := wp_some key
      have hyv' : YieldsIf P ops S j v a := (yields_of_after hsj h1 ha1).1 hyv
      refine .inl ⟨v, hyv', .inr ⟨hm, by rw [wanted_put i a j.dst v h3]; exact hw, ?_, fun hf => ?_⟩⟩
      · refine wp_unput hsi h3 h2' (wp_mono (fun a' w' h' ha' => ?_) (fun _ _ _ h => h) (fun h => h) key)
        obtain ⟨hS', v', hy', hr'⟩ := h'
        obtain rfl := yields_one hS hyv' ((yields_of_after hsj h1 ha').1 hy')
        exact ⟨hS', hr'⟩
      · obtain ⟨X, Y, e1, e2, e3⟩ := swp_with (o := i) hmj post pre
        have hs : Seq P ops S Q (swp i (pre ++ j :: post)) a w := hsw hf
        rw [e1] at hs
        show Seq P ops S Q (swp i (pre ++ post)) (a.put j.dst v) w
        rw [e2]
        rcases pull hsj Y X a w (fun k hk => by
          rcases e3 k hk with h | h
          · subst h; exact ⟨hap, hmk, hsi⟩
          · exact hpre' k h) hS hs with ⟨u, hu, hr⟩ | ⟨hmj', _⟩
        · obtain rfl := yields_one hS hyv' hu
          exact hr
        · rw [hmj] at hmj'; cases hmj'
theorem pullY {o y : Oper} (hsy : ∀ cs b, y.op ≠ .select cs b) (hmy : making y = true) (hfo : fl o = true) (B C : List Oper) (hB : ∀ i ∈ B, i.apart ops y = true ∧ making i = false ∧ ∀ cs b, i.op ≠ .select cs b) :
    ∀ (A : List Oper) (a : Act) (w : World), (∀ i ∈ A, i.apart ops y = true ∧ making i = false ∧ ∀ cs b, i.op ≠ .select cs b) → S w →
    SeqX P ops S Q fl (A ++ o :: (B ++ y :: C)) a w → Pulled P ops S Q y (A ++ (B ++ o :: C)) a w
  | [], a, w, _, hS, h => by
    rcases h with ⟨hf, _⟩ | ⟨_, _, _, hsw⟩
    · rw [hfo] at hf; cases hf
    · have hs := hsw hfo
      rw [swp_at hmy C B (fun i hi => (hB i hi).2.1)] at hs
      exact pull hsy (o :: C) B a w (fun i hi => ⟨(hB i hi).1, by rw [(hB i hi).2.1]; rfl, (hB i hi).2.2⟩) hS hs
  | i :: A, a, w, hA, hS, h => by
    obtain ⟨hap, hmi, hsi⟩ := hA i (List.mem_cons_self ..)
    obtain ⟨h1, h2, h3⟩ := Oper.apart_spec hap
    rcases h with ⟨hf, v, hy, h⟩ | ⟨hm, _⟩
    · rcases pullY hsy hmy hfo B C hB A (a.put i.dst v) w (fun k hk => hA k (List.mem_cons_of_mem _ hk)) hS h with ⟨u, hyj, hr⟩ | ⟨hmj, hwj, hr⟩
      · refine .inl ⟨u, (yields_of_put hsy h1).1 hyj, .inl ⟨v, (yields_of_put hsi h3).2 hy, ?_⟩⟩
        rw [← Act.put_comm a v u h2]
        exact hr
      · refine .inr ⟨hmj, by rw [← wanted_put y a i.dst v h1]; exact hwj, ?_⟩
        refine wp_mono (fun a' w' h' => ?_) (fun _ _ _ h => h) (fun h => h) (wp_put hsy h1 h2 hr)
        exact ⟨h'.1.1, .inl ⟨v, (yields_of_after hsi h3 h'.2).2 hy, h'.1.2⟩⟩
    · rw [hmi] at hm; cases hm
theorem all_listed {md : Region.Mode} (hedge : ∀ (j : Nat) (oj : Oper), ops[j]? = some oj → ∀ e ∈ oj.after, Region.binds md e = true → e.on < j) {listed : Array Bool} (hsz : listed.size = ops.size) (hr : Region.ready md ops listed = []) :
    ∀ k, ∀ i < k, i < ops.size → listed.getD i true = true := by
  intro k
  induction k with
  | zero => intro i hi; omega
  | succ k ihk =>
    intro i hi hn
    rcases Nat.lt_or_ge i k with h' | h'
    · exact ihk i h' hn
    · obtain rfl : i = k := by omega
      obtain ⟨oi, hoi⟩ : ∃ o, ops[i]? = some o := ⟨_, Array.getElem?_eq_getElem hn⟩
      by_cases hli : listed.getD i true = true
      · exact hli
      · exfalso
        have hmem : i ∈ Region.ready md ops listed := mem_ready.2 ⟨by simpa using hli, oi, hoi, fun e he hb => by
          have hlt := hedge i oi hoi e he hb
          have hsome : e.on < listed.size := by omega
          have h1 := ihk e.on hlt (by omega)
          simpa [hsome] using h1⟩
        rw [hr] at hmem
        cases hmem
theorem path_listed {md : Region.Mode} (hedge : ∀ (j : Nat) (oj : Oper), ops[j]? = some oj → ∀ e ∈ oj.after, Region.binds md e = true → e.on < j) {listed : Array Bool} (hsz : listed.size = ops.size)
    (hcl : ∀ k o, ops[k]? = some o → listed.getD k true = true → ∀ e ∈ o.after, Region.binds md e = true → listed.getD e.on false = true) :
    ∀ x y, Waits md ops x y → y < ops.size → (∀ o, ops[x]? = some o → ∀ e ∈ o.after, Region.binds md e = true → listed.getD e.on false = true) → listed.getD y true = true := by
  have conv : ∀ m, m < ops.size → listed.getD m false = true → listed.getD m true = true := fun m hm h1 => by
    have hsome : m < listed.size := by rw [hsz]; exact hm
    simpa [hsome] using h1
  intro x y hxy hy
  induction hxy with
  | one ho he hb => exact fun hd => conv _ hy (hd _ ho _ he hb)
  | more ho he hb hw ih =>
    intro hd
    refine ih hy fun o ho' e' he' hb' => ?_
    exact hcl _ o ho' (conv _ (by have := hedge _ _ ho _ he hb; have := (Array.getElem?_eq_some_iff.1 ho).1; omega) (hd _ ho _ he hb)) e' he' hb'
theorem closed_set {md : Region.Mode} {listed : Array Bool} {j : Nat} {oj : Oper} (hoj : ops[j]? = some oj) (hjn : j < listed.size) (hdeps : ∀ e ∈ oj.after, Region.binds md e = true → listed.getD e.on false = true)
    (hcl : ∀ k o, ops[k]? = some o → listed.getD k true = true → ∀ e ∈ o.after, Region.binds md e = true → listed.getD e.on false = true) :
    ∀ k o, ops[k]? = some o → (listed.setIfInBounds j true).getD k true = true → ∀ e ∈ o.after, Region.binds md e = true → (listed.setIfInBounds j true).getD e.on false = true := fun k o ho hl e he hb => by
  have mono : ∀ m, listed.getD m false = true → (listed.setIfInBounds j true).getD m false = true := fun m hm => by
    by_cases hmj : j = m
    · subst hmj
      simp [hjn]
    · rw [getD_set_ne false hmj]; exact hm
  by_cases hkj : j = k
  · subst hkj
    rw [hoj] at ho
    cases ho
    exact mono _ (hdeps e he hb)
  · rw [getD_set_ne true hkj] at hl
    exact mono _ (hcl k o ho hl e he hb)
theorem rem_at {listed : Array Bool} {j : Nat} {oj : Oper} (hl : listed.getD j true = false) (hoj : ops[j]? = some oj) (post : List Nat) : rem ops listed (j :: post) = oj :: rem ops listed post := by
  unfold rem
  rw [List.filter_cons]
  simp [hl, hoj]
theorem rem_over {listed : Array Bool} {j : Nat} (hl : listed.getD j true = true) (post : List Nat) : rem ops listed (j :: post) = rem ops listed post := by
  unfold rem
  rw [List.filter_cons]
  simp [hl]
theorem x_of_seq : ∀ (l : List Oper) (a : Act) (w : World), (∀ o ∈ l, fl o = false) → Seq P ops S Q l a w → SeqX P ops S Q fl l a w
  | [], _, _, _, h => h
  | o :: l, a, w, hf, h => by
    rcases h with ⟨v, hy, h⟩ | ⟨h1, h2, h3⟩
    · exact .inl ⟨hf o (List.mem_cons_self ..), v, hy, x_of_seq l _ _ (fun i hi => hf i (List.mem_cons_of_mem _ hi)) h⟩
    · exact .inr ⟨h1, h2, wp_mono (fun a' w' h' => ⟨h'.1, x_of_seq l _ _ (fun i hi => hf i (List.mem_cons_of_mem _ hi)) h'.2⟩) (fun _ _ _ h => h) (fun h => h) h3, fun e => by rw [hf o (List.mem_cons_self ..)] at e; cases e⟩
theorem wpAny_of_ord {md : Region.Mode} (hns : ∀ (j : Nat) (o : Oper) cs b, ops[j]? = some o → o.op ≠ .select cs b) (hedge : ∀ (j : Nat) (oj : Oper), ops[j]? = some oj → ∀ e ∈ oj.after, Region.binds md e = true → e.on < j)
    (ord : List Nat) (hnd : ord.Nodup) (hmem : ∀ i, i ∈ ord ↔ i < ops.size) : ∀ (fuel : Nat) (listed : Array Bool) (a : Act) (w : World), listed.size = ops.size →
    (∀ k o, ops[k]? = some o → listed.getD k true = true → ∀ e ∈ o.after, Region.binds md e = true → listed.getD e.on false = true) →
    (∀ pre j post oj, ord = pre ++ j :: post → ops[j]? = some oj → ∀ i ∈ pre, ∀ oi, ops[i]? = some oi → listed.getD i true = true ∨ Waits md ops j i ∨ (oi.apart ops oj = true ∧ (making oi && making oj) = false)) →
    (rem ops listed ord).length ≤ fuel → S w → Seq P ops S Q (rem ops listed ord) a w → wpAny P md ops Q fuel listed a w := by
  intro fuel
  have hend : ∀ (listed : Array Bool) (a : Act) (w : World), listed.size = ops.size → Region.ready md ops listed = [] → Seq P ops S Q (rem ops listed ord) a w → Q .normal a w := by
    intro listed a w hsz hr h
    have h0 : rem ops listed ord = [] := by
      refine List.eq_nil_iff_forall_not_mem.2 fun o ho => ?_
      obtain ⟨i, hi, hl, hoi⟩ := mem_rem ho
      have hn := (hmem i).1 hi
      rw [all_listed hedge hsz hr (i + 1) i (by omega) hn] at hl
      cases hl
    rw [h0] at h
    exact h
  induction fuel with
  | zero =>
    intro listed a w hsz _ _ hle hS h
    have h0 : rem ops listed ord = [] := List.eq_nil_of_length_eq_zero (by omega)
    have hr : Region.ready md ops listed = [] := by
      refine List.eq_nil_iff_forall_not_mem.2 fun j hj => ?_
      obtain ⟨hl, o, ho, _⟩ := mem_ready.1 hj
      have : o ∈ rem ops listed ord := List.mem_filterMap.2 ⟨j, List.mem_filter.2 ⟨(hmem j).2 (Array.getElem?_eq_some_iff.1 ho).1, by simp [hl]⟩, ho⟩
      rw [h0] at this
      cases this
    exact ⟨hr, hend listed a w hsz hr h⟩
  | succ fuel ih =>
    intro listed a w hsz hcl hv hle hS h
    refine ⟨fun hr => hend listed a w hsz hr h, fun j hj => ?_⟩
    obtain ⟨hl, oj, hoj, hdeps⟩ := mem_ready.1 hj
    have hjn : j < ops.size := (Array.getElem?_eq_some_iff.1 hoj).1
    obtain ⟨pre, post, hord⟩ := List.append_of_mem ((hmem j).2 hjn)
    have hnd' := hnd
    rw [hord, List.nodup_append] at hnd'
    obtain ⟨_, hnd2, hnd3⟩ := hnd'
    have hj1 : j ∉ pre := fun hx => hnd3 j hx j (List.mem_cons_self ..) rfl
    have hj2 : j ∉ post := (List.nodup_cons.1 hnd2).1
    have hsplit : rem ops listed ord = rem ops listed pre ++ oj :: rem ops listed post := by
      rw [hord, rem_append, rem_at hl hoj]
    have hset : (listed.setIfInBounds j true).getD j true = true := by
      have : j < listed.size := by omega
      simp [this]
    have hsplit' : rem ops (listed.setIfInBounds j true) ord = rem ops listed pre ++ rem ops listed post := by
      rw [hord, rem_append, rem_set _ hj1, rem_over hset, rem_set _ hj2]
    have hp := pull (P := P) (Q := Q) (S := S) (hns j oj · · hoj) (rem ops listed post) (rem ops listed pre) a w (fun i hi => by
      obtain ⟨k, hk, hlk, hok⟩ := mem_rem hi
      rcases hv pre j post oj hord hoj k hk i hok with hx | hx | ⟨h1, h2⟩
      · rw [hlk] at hx; cases hx
      · have := path_listed hedge hsz hcl j k hx (Array.getElem?_eq_some_iff.1 hok).1 (fun o ho e he hb => by rw [hoj] at ho; cases ho; exact hdeps e he hb)
        rw [hlk] at this
        cases this
      · exact ⟨h1, h2, fun cs b => hns k i cs b hok⟩) hS (by rw [← hsplit]; exact h)
    have next : ∀ a' w', S w' → Seq P ops S Q (rem ops listed pre ++ rem ops listed post) a' w' → wpAny P md ops Q fuel (listed.setIfInBounds j true) a' w' := fun a' w' hS' h' => ih _ a' w' (by simpa using hsz) (closed_set hoj (by omega) hdeps hcl)
      (fun pre' j' post' oj' e1 e2 i hi oi e3 => by
        rcases hv pre' j' post' oj' e1 e2 i hi oi e3 with hx | hx
        · refine .inl ?_
          by_cases e : j = i
          · subst e; exact hset
          · rw [getD_set_ne true e]; exact hx
        · exact .inr hx) (by
        rw [hsplit']
        rw [hsplit] at hle
        simp only [List.length_append, List.length_cons] at hle ⊢
        omega) hS' (by rw [hsplit']; exact h')
    rcases hp with ⟨v, hy, hr⟩ | ⟨_, hw, hr⟩
    · exact hy.wpOp hoj hS (next _ _ hS hr)
    · unfold wpOp
      simp only [hoj, hw, if_true]
      exact .inl (wp_mono (fun a' w' h' => next a' w' h'.1 h'.2) (fun _ _ _ h => h.elim) (fun h => absurd h letsOut_no) hr)
def inTextX (md : Region.Mode) (l : List Oper) (fl : Oper → Bool) (x y : Nat) : Bool :=
  Region.noSelect l.toArray && go md l.toArray (masks md l []) l 0 && (Nat.blt x y && Nat.blt y l.length && gy l 0)
where
  go (md : Region.Mode) (ops : Array Oper) (M : List Nat) : List Oper → Nat → Bool
    | [], _ => true
    | oj :: rest, j => (fl oj == Nat.beq j x) && oj.after.toList.all (fun e => !Region.binds md e || Nat.blt e.on j) && goo ops oj ((M.getD j 0)) ops.toList 0 j && go md ops M rest (j + 1)
  goo (ops : Array Oper) (oj : Oper) (m : Nat) : List Oper → Nat → Nat → Bool
    | [], _, _ => true
    | oi :: rest, i, j => Nat.ble j i || (((Nat.testBit m i && !(Nat.beq i x && Nat.blt j y)) || (Nat.beq i x && Nat.beq j y) || (oi.apart ops oj && !(making oi && making oj) && (!(Nat.beq i x && Nat.blt j y) || oj.apart ops oi))) && goo ops oj m rest (i + 1) j)
  gy : List Oper → Nat → Bool
    | [], _ => true
    | o :: rest, i => (!Nat.beq i y || making o) && (!(Nat.blt x i && Nat.blt i y) || !making o) && gy rest (i + 1)
theorem goox_spec {fl : Oper → Bool} {x y : Nat} {oj : Oper} {m j : Nat} : ∀ (l : List Oper) (k : Nat), inTextX.goo x y ops oj m l k j = true → ∀ i oi, l[i]? = some oi → k + i < j → (m.testBit (k + i) = true ∧ ¬ (k + i = x ∧ j < y)) ∨ (k + i = x ∧ j = y) ∨ (oi.apart ops oj = true ∧ (making oi && making oj) = false ∧ (k + i = x → j < y → oj.apart ops oi = true))
  | [], _, _, i, oi, h, _ => by simp at h
  | o :: l, k, h, i, oi, hi, hlt => by
    unfold inTextX.goo at h
    rw [Bool.or_eq_true, Bool.and_eq_true] at h
    rcases h with h | ⟨h1, h2⟩
    · have := Nat.le_of_ble_eq_true h; omega
    · cases i with
      | zero =>
        simp only [List.getElem?_cons_zero, Option.some.injEq] at hi
        subst hi
        rw [Bool.or_eq_true, Bool.or_eq_true] at h1
        rcases h1 with (h1 | h1) | h1
        · simp only [Bool.and_eq_true, Bool.not_eq_true'] at h1
          refine .inl ⟨h1.1, fun ⟨e1, e2⟩ => ?_⟩
          have hb : (Nat.beq k x && Nat.blt j y) = true := by simp only [Bool.and_eq_true, Nat.beq_eq, Nat.blt_eq]; omega
          rw [hb] at h1
          cases h1.2
        · simp only [Bool.and_eq_true, Nat.beq_eq] at h1
          exact .inr (.inl ⟨by omega, h1.2⟩)
        · simp only [Bool.and_eq_true, Bool.not_eq_true', Bool.or_eq_true] at h1
          obtain ⟨⟨h1, h3⟩, h4⟩ := h1
          refine .inr (.inr ⟨h1, h3, fun e1 e2 => ?_⟩)
          rcases h4 with h4 | h4
          · have hb : (Nat.beq k x && Nat.blt j y) = true := by simp only [Bool.and_eq_true, Nat.beq_eq, Nat.blt_eq]; omega
            rw [hb] at h4; cases h4
          · exact h4
      | succ i =>
        have := goox_spec (fl := fl) l (k + 1) h2 i oi (by simpa using hi) (by omega)
        rw [show k + (i + 1) = k + 1 + i by omega]
        exact this
theorem gox_spec {md : Region.Mode} {x y : Nat} {M : List Nat} : ∀ (l : List Oper) (k : Nat), inTextX.go fl x y md ops M l k = true → ∀ j oj, l[j]? = some oj →
    ((fl oj = true ↔ k + j = x) ∧ ∀ e ∈ oj.after, Region.binds md e = true → e.on < k + j) ∧ ∀ i oi, i < k + j → ops[i]? = some oi → ((M.getD (k + j) 0).testBit i = true ∧ ¬ (i = x ∧ k + j < y)) ∨ (i = x ∧ k + j = y) ∨ (oi.apart ops oj = true ∧ (making oi && making oj) = false ∧ (i = x → k + j < y → oj.apart ops oi = true))
  | [], _, _, j, oj, h => by simp at h
  | o :: l, k, h, j, oj, hj => by
    unfold inTextX.go at h
    simp only [Bool.and_eq_true] at h
    obtain ⟨⟨⟨h0, h1⟩, h2⟩, h3⟩ := h
    cases j with
    | zero =>
      simp only [List.getElem?_cons_zero, Option.some.injEq] at hj
      subst hj
      refine ⟨⟨?_, fun e he hb => ?_⟩, fun i oi hi hoi => ?_⟩
      · have h0 : fl o = Nat.beq k x := by simpa using h0
        rw [h0, Nat.beq_eq]
        rfl
      · have := List.all_eq_true.1 h1 e (by simpa using he)
        simp only [hb, Bool.not_true, Bool.false_or] at this
        rw [Nat.blt_eq] at this
        omega
      · have := goox_spec (fl := fl) ops.toList 0 h2 i oi (by simpa using hoi) (by omega)
        simpa using this
    | succ j =>
      have := gox_spec l (k + 1) h3 j oj (by simpa using hj)
      rw [show k + (j + 1) = k + 1 + j by omega]
      exact this
theorem gy_spec {x y : Nat} : ∀ (l : List Oper) (k : Nat), inTextX.gy x y l k = true → ∀ j oj, l[j]? = some oj → (k + j = y → making oj = true) ∧ (x < k + j → k + j < y → making oj = false)
  | [], _, _, j, oj, h => by simp at h
  | o :: l, k, h, j, oj, hj => by
    unfold inTextX.gy at h
    simp only [Bool.and_eq_true, Bool.or_eq_true, Bool.not_eq_true'] at h
    obtain ⟨⟨h0, h1⟩, h3⟩ := h
    cases j with
    | zero =>
      simp only [List.getElem?_cons_zero, Option.some.injEq] at hj
      subst hj
      refine ⟨fun e => ?_, fun e1 e2 => ?_⟩
      · rcases h0 with h0 | h0
        · have : Nat.beq k y = true := by rw [Nat.beq_eq]; exact e
          rw [this] at h0; cases h0
        · exact h0
      · rcases h1 with h1 | h1
        · have : (Nat.blt x k && Nat.blt k y) = true := by simp only [Bool.and_eq_true, Nat.blt_eq]; omega
          rw [this] at h1; cases h1
        · exact h1
    | succ j =>
      have := gy_spec l (k + 1) h3 j oj (by simpa using hj)
      rw [show k + (j + 1) = k + 1 + j by omega]
      exact this
theorem wpAny_of_x {md : Region.Mode} {x y : Nat} (hns : ∀ (j : Nat) (o : Oper) cs b, ops[j]? = some o → o.op ≠ .select cs b) (hedge : ∀ (j : Nat) (oj : Oper), ops[j]? = some oj → ∀ e ∈ oj.after, Region.binds md e = true → e.on < j)
    (hxy : x < y) (hyn : y < ops.size) (hfl : ∀ (j : Nat) (oj : Oper), ops[j]? = some oj → (fl oj = true ↔ j = x)) (hmy : ∀ (oj : Oper), ops[y]? = some oj → making oj = true) (hbt : ∀ (j : Nat) (oj : Oper), ops[j]? = some oj → x < j → j < y → making oj = false)
    (hall : ∀ (j : Nat) (oj : Oper), ops[j]? = some oj → ∀ (i : Nat) (oi : Oper), i < j → ops[i]? = some oi → (Waits md ops j i ∧ ¬ (i = x ∧ j < y)) ∨ (i = x ∧ j = y) ∨ (oi.apart ops oj = true ∧ (making oi && making oj) = false ∧ (i = x → j < y → oj.apart ops oi = true))) :
    ∀ (fuel : Nat) (listed : Array Bool) (a : Act) (w : World), listed.size = ops.size →
    (∀ k o, ops[k]? = some o → listed.getD k true = true → ∀ e ∈ o.after, Region.binds md e = true → listed.getD e.on false = true) →
    listed.getD x true = false → listed.getD y true = false → (rem ops listed (List.range ops.size)).length ≤ fuel → S w → SeqX P ops S Q fl (rem ops listed (List.range ops.size)) a w → wpAny P md ops Q fuel listed a w := by
  obtain ⟨ox, hox⟩ : ∃ o, ops[x]? = some o := ⟨_, Array.getElem?_eq_getElem (by omega)⟩
  obtain ⟨oy, hoy⟩ : ∃ o, ops[y]? = some o := ⟨_, Array.getElem?_eq_getElem hyn⟩
  have hfx := (hfl x ox hox).2 rfl
  have hmoy := hmy oy hoy
  intro fuel
  induction fuel with
  | zero =>
    intro listed a w hsz _ hlx _ hle
    have h0 : rem ops listed (List.range ops.size) = [] := List.eq_nil_of_length_eq_zero (by omega)
    have : ox ∈ rem ops listed (List.range ops.size) := List.mem_filterMap.2 ⟨x, List.mem_filter.2 ⟨List.mem_range.2 (by omega), by simp [hlx]⟩, hox⟩
    rw [h0] at this
    cases this
  | succ fuel ih =>
    intro listed a w hsz hcl hlx hly hle hS h
    refine ⟨fun hr => ?_, fun j hj => ?_⟩
    · rw [all_listed hedge hsz hr (x + 1) x (by omega) (by omega)] at hlx; cases hlx
    obtain ⟨hl, oj, hoj, hdeps⟩ := mem_ready.1 hj
    have hjn : j < ops.size := (Array.getElem?_eq_some_iff.1 hoj).1
    have hnw : ∀ i oi, i < ops.size → listed.getD i true = false → ops[i]? = some oi → ¬ Waits md ops j i := fun i oi hi hli _ hw => by
      have := path_listed hedge hsz hcl j i hw hi (fun o ho e he hb => by rw [hoj] at ho; cases ho; exact hdeps e he hb)
      rw [hli] at this
      cases this
    have hset : (listed.setIfInBounds j true).getD j true = true := by
      have : j < listed.size := by omega
      simp [this]
    have hsplit : rem ops listed (List.range ops.size) = rem ops listed (List.range j) ++ oj :: rem ops listed (List.range' (j + 1) (ops.size - j - 1)) := by
      rw [range_split hjn, rem_append, rem_at hl hoj]
    have hsplit' : rem ops (listed.setIfInBounds j true) (List.range ops.size) = rem ops listed (List.range j) ++ rem ops listed (List.range' (j + 1) (ops.size - j - 1)) := by
      rw [range_split hjn, rem_append, rem_set _ (by simp), rem_over hset, rem_set _ (by simp [List.mem_range'_1]; omega)]
    have hle' : (rem ops (listed.setIfInBounds j true) (List.range ops.size)).length ≤ fuel := by
      rw [hsplit']
      rw [hsplit] at hle
      simp only [List.length_append, List.length_cons] at hle ⊢
      omega
    have hcl' := closed_set hoj (by omega) hdeps hcl
    have hsz' : (listed.setIfInBounds j true).size = ops.size := by simpa using hsz
    by_cases hjy : j = y
    ·
      subst hjy
      have hsA : List.range j = List.range x ++ x :: List.range' (x + 1) (j - x - 1) := range_split hxy
      have hrA : rem ops listed (List.range j) = rem ops listed (List.range x) ++ ox :: rem ops listed (List.range' (x + 1) (j - x - 1)) := by
        rw [hsA, rem_append, rem_at hlx hox]
      obtain rfl : oj = oy := by rw [hoj] at hoy; exact Option.some.inj hoy
      have good : ∀ i oi, i < j → i ≠ x → listed.getD i true = false → ops[i]? = some oi → oi.apart ops oj = true ∧ making oi = false ∧ ∀ cs b, oi.op ≠ .select cs b := fun i oi hi hne hli hoi => by
        rcases hall j oj hoj i oi hi hoi with ⟨h1, _⟩ | ⟨h1, _⟩ | ⟨h1, h2, _⟩
        · exact absurd h1 (hnw i oi (by omega) hli hoi)
        · exact absurd h1 hne
        · rw [hmoy, Bool.and_true] at h2
          exact ⟨h1, h2, fun cs b => hns i oi cs b hoi⟩
      have hp := pullY (P := P) (Q := Q) (S := S) (hns j oj · · hoj) hmoy hfx (rem ops listed (List.range' (x + 1) (j - x - 1))) (rem ops listed (List.range' (j + 1) (ops.size - j - 1))) (fun i hi => by
          obtain ⟨k, hk, hlk, hok⟩ := mem_rem hi
          rw [List.mem_range'_1] at hk
          exact good k i (by omega) (by omega) hlk hok) (rem ops listed (List.range x)) a w (fun i hi => by
          obtain ⟨k, hk, hlk, hok⟩ := mem_rem hi
          have hk := List.mem_range.1 hk
          exact good k i (by omega) (by omega) hlk hok) hS (by
          rw [hsplit, hrA, List.append_assoc, List.cons_append] at h
          exact h)
      have hord : rem ops (listed.setIfInBounds j true) (List.range x ++ (List.range' (x + 1) (j - x - 1) ++ (j :: x :: List.range' (j + 1) (ops.size - j - 1)))) = rem ops listed (List.range x) ++ (rem ops listed (List.range' (x + 1) (j - x - 1)) ++ ox :: rem ops listed (List.range' (j + 1) (ops.size - j - 1))) := by
        rw [rem_append, rem_append, rem_over hset, rem_at (by rw [getD_set_ne true (by omega)]; exact hlx) hox, rem_set _ (by simp; omega), rem_set _ (by rw [List.mem_range'_1]; omega), rem_set _ (by rw [List.mem_range'_1]; omega)]
      have next : ∀ a' w', S w' → Seq P ops S Q (rem ops listed (List.range x) ++ (rem ops listed (List.range' (x + 1) (j - x - 1)) ++ ox :: rem ops listed (List.range' (j + 1) (ops.size - j - 1)))) a' w' → wpAny P md ops Q fuel (listed.setIfInBounds j true) a' w' := fun a' w' hS' h' => by
        refine wpAny_of_ord hns hedge (List.range x ++ (List.range' (x + 1) (j - x - 1) ++ (j :: x :: List.range' (j + 1) (ops.size - j - 1)))) ?_ ?_ fuel _ a' w' hsz' hcl' ?_ ?_ hS' (by rw [hord]; exact h')
        · refine List.nodup_append.2 ⟨List.nodup_range, List.nodup_append.2 ⟨List.nodup_range', List.nodup_cons.2 ⟨fun hm => ?_, List.nodup_cons.2 ⟨fun hm => ?_, List.nodup_range'⟩⟩, fun i hi k hk e => ?_⟩, fun i hi k hk e => ?_⟩
          · simp only [List.mem_cons, List.mem_range'_1] at hm; omega
          · simp only [List.mem_range'_1] at hm; omega
          · simp only [List.mem_cons, List.mem_range'_1] at hi hk; omega
          · simp only [List.mem_append, List.mem_cons, List.mem_range, List.mem_range'_1] at hi hk; omega
        · intro i
          simp only [List.mem_append, List.mem_cons, List.mem_range, List.mem_range'_1]
          omega
        · have hpw : List.Pairwise (fun i k => (i < k ∧ ¬ (i = x ∧ k ≤ j)) ∨ (k = x ∧ x < i ∧ i ≤ j)) (List.range x ++ (List.range' (x + 1) (j - x - 1) ++ (j :: x :: List.range' (j + 1) (ops.size - j - 1)))) := by
            refine List.pairwise_append.2 ⟨List.pairwise_lt_range.imp_of_mem (fun ha hb h => ?_), List.pairwise_append.2 ⟨List.Pairwise.imp_of_mem (fun ha hb h => ?_) (List.pairwise_lt_range' (step := 1) (by omega)), List.pairwise_cons.2 ⟨fun k hk => ?_, List.pairwise_cons.2 ⟨fun k hk => ?_, List.Pairwise.imp_of_mem (fun ha hb h => ?_) (List.pairwise_lt_range' (step := 1) (by omega))⟩⟩, fun i hi k hk => ?_⟩, fun i hi k hk => ?_⟩
            · simp only [List.mem_range] at ha hb; omega
            · simp only [List.mem_range'_1] at ha hb; omega
            · simp only [List.mem_cons, List.mem_range'_1] at hk; omega
            · simp only [List.mem_range'_1] at hk; omega
            · simp only [List.mem_range'_1] at ha hb; omega
            · simp only [List.mem_cons, List.mem_range'_1] at hi hk; omega
            · simp only [List.mem_append, List.mem_cons, List.mem_range, List.mem_range'_1] at hi hk; omega
          intro pre k post ok e1 e2 i hi oi e3
          rw [e1] at hpw
          have hR := (List.pairwise_append.1 hpw).2.2 i hi k (List.mem_cons_self ..)
          rcases hR with ⟨h1, h2⟩ | ⟨h1, h2, h3⟩
          · rcases hall k ok e2 i oi h1 e3 with ⟨h4, _⟩ | ⟨h4, h5⟩ | ⟨h4, h5, _⟩
            · exact .inr (.inl h4)
            · omega
            · exact .inr (.inr ⟨h4, h5⟩)
          · subst h1
            by_cases hij : i = j
            · subst hij; exact .inl hset
            · rcases hall i oi e3 k ok h2 e2 with ⟨_, h4⟩ | ⟨_, h4⟩ | ⟨_, h5, h6⟩
              · exact absurd ⟨rfl, by omega⟩ h4
              · exact absurd h4 hij
              · exact .inr (.inr ⟨h6 rfl (by omega), by rw [Bool.and_comm]; exact h5⟩)
        · rw [hord]
          rw [hsplit, hrA] at hle
          simp only [List.length_append, List.length_cons] at hle ⊢
          omega
      rcases hp with ⟨v, hy, hr⟩ | ⟨_, hw, hr⟩
      · exact hy.wpOp hoj hS (next _ _ hS hr)
      · unfold wpOp
        simp only [hoj, hw, if_true]
        exact .inl (wp_mono (fun a' w' h' => next a' w' h'.1 h'.2) (fun _ _ _ h => h.elim) (fun h => absurd h letsOut_no) hr)
    · have hp := pullX (P := P) (Q := Q) (S := S) (fl := fl) (hns j oj · · hoj) (rem ops listed (List.range' (j + 1) (ops.size - j - 1))) (rem ops listed (List.range j)) a w (fun i hi => by
        obtain ⟨k, hk, hlk, hok⟩ := mem_rem hi
        have hk := List.mem_range.1 hk
        rcases hall j oj hoj k i hk hok with ⟨h1, _⟩ | ⟨_, h1⟩ | ⟨h1, h2, _⟩
        · exact absurd h1 (hnw k i (by omega) hlk hok)
        · exact absurd h1 hjy
        · exact ⟨h1, h2, fun cs b => hns k i cs b hok⟩) hS (by rw [← hsplit]; exact h)
      have next : ∀ a' w', S w' → SeqX P ops S Q fl (rem ops listed (List.range j) ++ rem ops listed (List.range' (j + 1) (ops.size - j - 1))) a' w' → wpAny P md ops Q fuel (listed.setIfInBounds j true) a' w' := fun a' w' hS' h' => by
        by_cases hjx : j = x
        ·
          subst hjx
          refine wpAny_of_ord hns hedge (List.range ops.size) List.nodup_range (fun i => List.mem_range) fuel _ a' w' hsz' hcl' ?_ hle' hS' ?_
          · intro pre k post ok e1 e2 i hi oi e3
            have hik : i < k := by
              have e4 : k = pre.length := by
                have := congrArg (fun l => l[pre.length]?) e1
                simp only [List.getElem?_append_right (Nat.le_refl _), Nat.sub_self, List.getElem?_cons_zero] at this
                rw [List.getElem?_range (by have := congrArg List.length e1; simp at this; omega)] at this
                injection this with this
                exact this.symm
              obtain ⟨m, hm, hmi⟩ := List.mem_iff_getElem.1 hi
              have : (List.range ops.size)[m]? = some i := by rw [e1, List.getElem?_append_left hm, List.getElem?_eq_getElem hm, hmi]
              rw [List.getElem?_range (by have := congrArg List.length e1; simp at this; omega)] at this
              injection this with this
              omega
            rcases hall k ok e2 i oi hik e3 with ⟨h1, _⟩ | ⟨h1, _⟩ | ⟨h1, h2, _⟩
            · exact .inr (.inl h1)
            · subst h1; exact .inl hset
            · exact .inr (.inr ⟨h1, h2⟩)
          · rw [hsplit']
            refine seq_of_x _ _ _ (fun o ho => ?_) h'
            obtain ⟨k, hk, hok⟩ : ∃ k, k ≠ j ∧ ops[k]? = some o := by
              rcases List.mem_append.1 ho with ho | ho
              · obtain ⟨k, hk, _, hok⟩ := mem_rem ho
                have := List.mem_range.1 hk
                exact ⟨k, by omega, hok⟩
              · obtain ⟨k, hk, _, hok⟩ := mem_rem ho
                rw [List.mem_range'_1] at hk
                exact ⟨k, by omega, hok⟩
            cases hf : fl o with
            | false => rfl
            | true => exact absurd ((hfl k o hok).1 hf) hk
        · exact ih _ a' w' hsz' hcl' (by rw [getD_set_ne true hjx]; exact hlx) (by rw [getD_set_ne true hjy]; exact hly) hle' hS' (by rw [hsplit']; exact h')
      rcases hp with ⟨v, hy, hr⟩ | ⟨_, hw, hr⟩
      · exact hy.wpOp hoj hS (next _ _ hS hr)
      · unfold wpOp
        simp only [hoj, hw, if_true]
        exact .inl (wp_mono (fun a' w' h' => next a' w' h'.1 h'.2) (fun _ _ _ h => h.elim) (fun h => absurd h letsOut_no) hr)
theorem wp_region_pair {id : Nat} {l : List Oper} {a : Act} {w : World} (fl : Oper → Bool) (x y : Nat) (S : World → Prop) (hm : P.follows .mixedOrders = true) (hc : inTextX .any l fl x y = true) (hS : S w.drew)
    (h : SeqX P l.toArray S Q fl l a w.drew) : (Code.region id l.toArray true).wp P Q a w := by
  have hc' := hc
  simp only [inTextX, Bool.and_eq_true, Nat.blt_eq] at hc'
  obtain ⟨⟨hc1, hc2⟩, ⟨hxy, hyn⟩, hgy⟩ := hc'
  have hgo := fun j oj (hj : l.toArray[j]? = some oj) => gox_spec (fl := fl) (ops := l.toArray) l 0 hc2 j oj (by simpa using hj)
  have hg := fun j oj (hj : l.toArray[j]? = some oj) => gy_spec l 0 hgy j oj (by simpa using hj)
  refine wp_region_any hm (wpAny_of_x (x := x) (y := y) (fl := fl) (Region.noSelect_spec hc1) ?_ hxy (by simpa using hyn) ?_ ?_ ?_ ?_ _ _ a _ (by simp) (fun k o ho hl => ?_) ?_ ?_ ?_ hS ?_)
  · intro j oj hj
    have := (hgo j oj hj).1.2
    rwa [Nat.zero_add] at this
  · intro j oj hj
    have := (hgo j oj hj).1.1
    rwa [Nat.zero_add] at this
  · intro oj hj
    exact (hg y oj hj).1 (Nat.zero_add y)
  · intro j oj hj h1 h2
    exact (hg j oj hj).2 (by omega) (by omega)
  · intro j oj hj i oi hi hoi
    have := (hgo j oj hj).2 i oi (by omega) hoi
    rw [Nat.zero_add] at this
    rcases this with ⟨h1, h2⟩ | h1 | h1
    · exact .inl ⟨masks_spec l [] (fun j o h => by simpa using h) (fun j i h => by simp at h) _ _ h1, h2⟩
    · exact .inr (.inl h1)
    · exact .inr (.inr h1)
  · have hk : k < l.length := by simpa using (Array.getElem?_eq_some_iff.1 ho).1
    simp [hk] at hl
  · have : x < l.length := by omega
    simp [this]
  · simp [hyn]
  · simp [rem_none]
  · have := rem_none l
    simpa [this] using h
theorem SeqX.nil {a : Act} {w : World} (h : Q .normal a w) : SeqX P ops S Q fl [] a w := h
theorem SeqX.skip {o : Oper} {rest : List Oper} {a : Act} {w : World} (hf : fl o = false) (hw : Region.wanted o (yielded ops a.tmps) = false) (h : SeqX P ops S Q fl rest (a.put o.dst undef) w) : SeqX P ops S Q fl (o :: rest) a w :=
  .inl ⟨hf, undef, .inr ⟨hw, rfl⟩, h⟩
theorem SeqX.det {o : Oper} {rest : List Oper} {a : Act} {w : World} (v : Value) (hf : fl o = false) (hw : Region.wanted o (yielded ops a.tmps) = true) (hv : ∀ w, S w → (execOp a.eval o).run P w = .ok (.value v) w) (h : SeqX P ops S Q fl rest (a.put o.dst v) w) :
    SeqX P ops S Q fl (o :: rest) a w := .inl ⟨hf, v, .inl ⟨hw, hv⟩, h⟩
theorem SeqX.make {o : Oper} {rest : List Oper} {a : Act} {w : World} (hm : making o = true) (hf : fl o = false) (hw : Region.wanted o (yielded ops a.tmps) = true)
    (h : ∀ (K : Act → World → Prop) (Q' : Exit → Act → World → Prop), Shut (∀ a w, S w → SeqX P ops S Q fl rest a w → K a w) → o.wp P a w K Q') : SeqX P ops S Q fl (o :: rest) a w :=
  .inr ⟨hm, hw, h _ _ (fun a w h1 h2 => ⟨h1, h2⟩), fun e => by rw [hf] at e; cases e⟩
theorem SeqX.pair {o : Oper} {rest : List Oper} {a : Act} {w : World} (hm : making o = true) (hr : rest.all (fun o => !fl o) = true) (hw : Region.wanted o (yielded ops a.tmps) = true)
    (h : ∀ (K : Act → World → Prop) (Q' : Exit → Act → World → Prop), Shut (∀ a w, S w → Seq P ops S Q rest a w → K a w) → o.wp P a w K Q') (hs : Seq P ops S Q (swp o rest) a w) : SeqX P ops S Q fl (o :: rest) a w :=
  .inr ⟨hm, hw, h _ _ (fun a w h1 h2 => ⟨h1, x_of_seq rest a w (fun i hi => by simpa using List.all_eq_true.1 hr i hi) h2⟩), fun _ => hs⟩
end
end Go.Proofs.YtmiimjgfainclaaGreat.Seq
