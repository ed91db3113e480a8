/- K23: Nst StpM StpS StpA StpB StpC StpD StpE -/
import Derived.Test.YtgdcbfekekefiaaK1
import Derived.Deep.Slices
import Derived.Deep.Strs
import Derived.ChangeSame
import Derived.Test.YtgdcbfekekefiaaK5
import Derived.IntWalk
/- Nested rows: what a value of some cells stands for, and in which blocks that is read; rows of such values, and rows of the call's own. -/
/- Positions dealt out in turn: the plain arithmetic of shares. -/
/- Stripes as values: what is read from a place on, what is written, which are right: the plain facts. -/
/- Stripes: where the sets lie; is a node in a list, in a set, in two sets: by the program. -/
/- Stripes: which are right, by the program. -/
/- Stripes: no node in two sets; which are right, by the program. -/
/- Stripes: Right, by the program. -/
/- Stripes: which are right, by the document. -/
namespace Go.Proofs.Ytgdcbfekekefiaa.Cur
open Go.RowKit Mem Go.ChangeShapes Go.WideShapes
set_option linter.unusedVariables false
set_option maxRecDepth 100000

/-- A kind of things that k cells stand for: R w P c x, if the cells c stand for x in the world w, and only blocks of P are read for it. -/
structure El (α : Type) where
  k : Nat
  R : World → (Nat → Prop) → List Value → α → Prop
  len : ∀ {w P c x}, R w P c x → c.length = k
  one : ∀ {w P c x}, R w P c x → ∀ u ∈ c, u.oneCell' = true
  keep : ∀ {w P c x} {w' : World}, R w P c x → (∀ b, P b → b < w.heap.size → w'.heap[b]? = w.heap[b]?) → R w' P c x
  mono : ∀ {w P c x} {Q : Nat → Prop}, R w P c x → (∀ b, P b → b < w.heap.size → Q b) → R w Q c x

/-- At an address lie these cells, in a block of P. -/
def RwP (w : World) (P : Nat → Prop) (A : Option Addr) (xs : List Value) : Prop := 0 < xs.length → ∃ k o, A = some ⟨k, o, none⟩ ∧ P k ∧ ∀ i v, xs[i]? = some v → w.cell? ⟨k, o + i, none⟩ = some v
theorem RwP.rw {w : World} {P : Nat → Prop} {A : Option Addr} {xs : List Value} (h : RwP w P A xs) : Rw w A xs := fun hn => by
  obtain ⟨k, o, e, _, hc⟩ := h hn
  exact ⟨k, o, e, hc⟩
theorem Rw.rwp {w : World} {A : Option Addr} {xs : List Value} (h : Rw w A xs) : RwP w (fun _ => True) A xs := fun hn => by
  obtain ⟨k, o, e, hc⟩ := h hn
  exact ⟨k, o, e, trivial, hc⟩
theorem RwP.keep {w w' : World} {P : Nat → Prop} {A : Option Addr} {xs : List Value} (h : RwP w P A xs) (hk : ∀ b, P b → b < w.heap.size → w'.heap[b]? = w.heap[b]?) : RwP w' P A xs := fun hn => by
  obtain ⟨k, o, e, hP, hc⟩ := h hn
  refine ⟨k, o, e, hP, fun i v hi => ?_⟩
  have h1 := hc i v hi
  exact (World.cell?_of_block (w := w) (hk k hP (lt_of_cell h1))).trans h1
theorem RwP.mono {w : World} {P Q : Nat → Prop} {A : Option Addr} {xs : List Value} (h : RwP w P A xs) (hq : ∀ b, P b → b < w.heap.size → Q b) : RwP w Q A xs := fun hn => by
  obtain ⟨k, o, e, hP, hc⟩ := h hn
  exact ⟨k, o, e, hq k hP (lt_of_cell (hc 0 _ (List.getElem?_eq_getElem hn))), hc⟩

variable {α : Type}
/-- Pieces of cells, one for each thing. -/
def Ch (E : El α) (w : World) (P : Nat → Prop) : List (List Value) → List α → Prop
  | [], [] => True
  | c :: cs, x :: xs => E.R w P c x ∧ Ch E w P cs xs
  | _, _ => False
theorem Ch.length {E : El α} {w : World} {P : Nat → Prop} : ∀ {cs : List (List Value)} {xs : List α}, Ch E w P cs xs → cs.length = xs.length
  | [], [], _ => rfl
  | c :: cs, x :: xs, h => by rw [List.length_cons, List.length_cons, Ch.length h.2]
  | [], _ :: _, h => h.elim
  | _ :: _, [], h => h.elim
theorem Ch.keep {E : El α} {w w' : World} {P : Nat → Prop} (hk : ∀ b, P b → b < w.heap.size → w'.heap[b]? = w.heap[b]?) : ∀ {cs : List (List Value)} {xs : List α}, Ch E w P cs xs → Ch E w' P cs xs
  | [], [], _ => trivial
  | c :: cs, x :: xs, h => ⟨E.keep h.1 hk, Ch.keep hk h.2⟩
  | [], _ :: _, h => h.elim
  | _ :: _, [], h => h.elim
theorem Ch.mono {E : El α} {w : World} {P Q : Nat → Prop} (hq : ∀ b, P b → b < w.heap.size → Q b) : ∀ {cs : List (List Value)} {xs : List α}, Ch E w P cs xs → Ch E w Q cs xs
  | [], [], _ => trivial
  | c :: cs, x :: xs, h => ⟨E.mono h.1 hq, Ch.mono hq h.2⟩
  | [], _ :: _, h => h.elim
  | _ :: _, [], h => h.elim
theorem Ch.snoc {E : El α} {w : World} {P : Nat → Prop} {c : List Value} {x : α} (hx : E.R w P c x) : ∀ {cs : List (List Value)} {xs : List α}, Ch E w P cs xs → Ch E w P (cs ++ [c]) (xs ++ [x])
  | [], [], _ => ⟨hx, trivial⟩
  | d :: cs, y :: xs, h => ⟨h.1, Ch.snoc hx h.2⟩
  | [], _ :: _, h => h.elim
  | _ :: _, [], h => h.elim
theorem Ch.flat {E : El α} {w : World} {P : Nat → Prop} : ∀ {cs : List (List Value)} {xs : List α}, Ch E w P cs xs → cs.flatten.length = xs.length * E.k
  | [], [], _ => by simp
  | c :: cs, x :: xs, h => by rw [List.flatten_cons, List.length_append, E.len h.1, Ch.flat h.2, List.length_cons, Nat.succ_mul]; omega
  | [], _ :: _, h => h.elim
  | _ :: _, [], h => h.elim
theorem Ch.ones {E : El α} {w : World} {P : Nat → Prop} : ∀ {cs : List (List Value)} {xs : List α}, Ch E w P cs xs → ∀ u ∈ cs.flatten, u.oneCell' = true
  | [], [], _ => fun u hu => by simp at hu
  | c :: cs, x :: xs, h => fun u hu => by
    rw [List.flatten_cons, List.mem_append] at hu
    rcases hu with hu | hu
    · exact E.one h.1 u hu
    · exact Ch.ones h.2 u hu
  | [], _ :: _, h => h.elim
  | _ :: _, [], h => h.elim
/-- The piece of thing i, and where it lies. -/
theorem Ch.at_ {E : El α} {w : World} {P : Nat → Prop} : ∀ {cs : List (List Value)} {xs : List α}, Ch E w P cs xs → ∀ (i : Nat) (x : α), xs[i]? = some x → ∃ c, E.R w P c x ∧ ∀ j u, c[j]? = some u → cs.flatten[i * E.k + j]? = some u
  | [], [], _, i, x, hx => by simp at hx
  | c :: cs, x0 :: xs, h, 0, x, hx => by
    simp at hx; subst hx
    refine ⟨c, h.1, fun j u hu => ?_⟩
    rw [Nat.zero_mul, Nat.zero_add, List.flatten_cons, List.getElem?_append_left (List.getElem?_eq_some_iff.1 hu).1]; exact hu
  | c :: cs, x0 :: xs, h, i + 1, x, hx => by
    obtain ⟨d, hd, hj⟩ := Ch.at_ h.2 i x (by simpa using hx)
    refine ⟨d, hd, fun j u hu => ?_⟩
    have hl := E.len h.1
    rw [List.flatten_cons, List.getElem?_append_right (by rw [hl, Nat.succ_mul]; omega), hl, show (i + 1) * E.k + j - E.k = i * E.k + j by rw [Nat.succ_mul]; omega]
    exact hj j u hu
  | [], _ :: _, h, _, _, _ => h.elim
  | _ :: _, [], h, _, _, _ => h.elim

/-- At an address lie these things. -/
def Sq (E : El α) (w : World) (P : Nat → Prop) (A : Option Addr) (xs : List α) : Prop := ∃ cs, Ch E w P cs xs ∧ RwP w P A cs.flatten
theorem Sq.keep {E : El α} {w w' : World} {P : Nat → Prop} {A : Option Addr} {xs : List α} (h : Sq E w P A xs) (hk : ∀ b, P b → b < w.heap.size → w'.heap[b]? = w.heap[b]?) : Sq E w' P A xs := by
  obtain ⟨cs, h1, h2⟩ := h
  exact ⟨cs, h1.keep hk, h2.keep hk⟩
theorem Sq.mono {E : El α} {w : World} {P Q : Nat → Prop} {A : Option Addr} {xs : List α} (h : Sq E w P A xs) (hq : ∀ b, P b → b < w.heap.size → Q b) : Sq E w Q A xs := by
  obtain ⟨cs, h1, h2⟩ := h
  exact ⟨cs, h1.mono hq, h2.mono hq⟩
theorem Sq.below {E : El α} {w w' : World} {P : Nat → Prop} {A : Option Addr} {xs : List α} (h : Sq E w P A xs) (hb : Below w.heap.size w w') : Sq E w' P A xs := h.keep fun b _ hlt => hb.block b hlt
theorem Sq.nil (E : El α) (w : World) (P : Nat → Prop) (A : Option Addr) : Sq E w P A [] := ⟨[], trivial, fun h => absurd h (by simp)⟩
/-- The cells of thing i. -/
theorem Sq.at_ {E : El α} {w : World} {P : Nat → Prop} {A : Option Addr} {xs : List α} (h : Sq E w P A xs) (hk : 0 < E.k) {i : Nat} {x : α} (hx : xs[i]? = some x) :
    ∃ g o c, A = some ⟨g, o, none⟩ ∧ P g ∧ g < w.heap.size ∧ E.R w P c x ∧ ∀ j u, c[j]? = some u → w.cell? ⟨g, o + i * E.k + j, none⟩ = some u := by
  obtain ⟨cs, h1, h2⟩ := h
  have hi := (List.getElem?_eq_some_iff.1 hx).1
  have hp : 0 < cs.flatten.length := by rw [h1.flat]; exact Nat.mul_pos (by omega) hk
  obtain ⟨g, o, e, hP, hc⟩ := h2 hp
  obtain ⟨c, hR, hj⟩ := h1.at_ i x hx
  refine ⟨g, o, c, e, hP, lt_of_cell (hc 0 _ (List.getElem?_eq_getElem hp)), hR, fun j u hu => ?_⟩
  have := hc _ _ (hj j u hu)
  rwa [← Nat.add_assoc] at this

/-- A slice of things is a thing of one cell. -/
def SlE (E : El α) : El (List α) where
  k := 1
  R := fun w P c xs => ∃ A m, c = [.slice A xs.length m] ∧ xs.length ≤ m ∧ (A = none → m = 0) ∧ Sq E w P A xs
  len := fun ⟨A, m, e, _⟩ => by rw [e]; rfl
  one := fun ⟨A, m, e, _⟩ u hu => by rw [e] at hu; simp at hu; subst hu; rfl
  keep := fun ⟨A, m, e, h1, h2, h3⟩ hk => ⟨A, m, e, h1, h2, h3.keep hk⟩
  mono := fun ⟨A, m, e, h1, h2, h3⟩ hq => ⟨A, m, e, h1, h2, h3.mono hq⟩
/-- A number of 64 digits. -/
def U64E : El Int where
  k := 1
  R := fun _ _ c x => c = [.int .u64 x] ∧ 0 ≤ x ∧ x < 18446744073709551616
  len := fun ⟨e, _⟩ => by rw [e]; rfl
  one := fun ⟨e, _⟩ u hu => by rw [e] at hu; simp at hu; subst hu; rfl
  keep := fun h _ => h
  mono := fun h _ => h
/-- Two things, one behind the other. -/
def PrE {β : Type} (E : El α) (F : El β) : El (α × β) where
  k := E.k + F.k
  R := fun w P c x => ∃ d e, c = d ++ e ∧ E.R w P d x.1 ∧ F.R w P e x.2
  len := fun ⟨d, e, h, h1, h2⟩ => by rw [h, List.length_append, E.len h1, F.len h2]
  one := fun ⟨d, e, h, h1, h2⟩ u hu => by
    rw [h, List.mem_append] at hu
    rcases hu with hu | hu
    · exact E.one h1 u hu
    · exact F.one h2 u hu
  keep := fun ⟨d, e, h, h1, h2⟩ hk => ⟨d, e, h, E.keep h1 hk, F.keep h2 hk⟩
  mono := fun ⟨d, e, h, h1, h2⟩ hq => ⟨d, e, h, E.mono h1 hq, F.mono h2 hq⟩

/-- Rows of numbers are rows of things. -/
theorem Sq.us {w : World} {P : Nat → Prop} {A : Option Addr} {z : List Int} (h : Sq U64E w P A z) : Us w A z.length z ∧ ∀ x ∈ z, 0 ≤ x ∧ x < 18446744073709551616 := by
  obtain ⟨cs, h1, h2⟩ := h
  have key : ∀ (cs : List (List Value)) (z : List Int), Ch U64E w P cs z → cs.flatten = uv z ∧ ∀ x ∈ z, 0 ≤ x ∧ x < 18446744073709551616 := by
    intro cs
    induction cs with
    | nil => intro z h; cases z with
      | nil => exact ⟨rfl, fun x hx => by simp at hx⟩
      | cons x z => exact h.elim
    | cons c cs ih => intro z h; cases z with
      | nil => exact h.elim
      | cons x z =>
        obtain ⟨⟨e, b⟩, h2⟩ := h
        obtain ⟨i1, i2⟩ := ih z h2
        refine ⟨by rw [List.flatten_cons, e, i1]; rfl, fun y hy => ?_⟩
        rcases List.mem_cons.1 hy with rfl | hy
        · exact b
        · exact i2 y hy
  obtain ⟨k1, k2⟩ := key cs z h1
  rw [k1] at h2
  exact ⟨⟨rfl, h2.rw⟩, k2⟩
theorem Us.sq {w : World} {A : Option Addr} {n : Nat} {z : List Int} (h : Us w A n z) (hb : ∀ x ∈ z, 0 ≤ x ∧ x < 18446744073709551616) {P : Nat → Prop} (hP : 0 < n → ∀ a, A = some a → P a.block) : Sq U64E w P A z := by
  refine ⟨z.map fun x => [.int .u64 x], ?_, ?_⟩
  · have : ∀ l : List Int, (∀ x ∈ l, 0 ≤ x ∧ x < 18446744073709551616) → Ch U64E w P (l.map fun x => [.int .u64 x]) l := by
      intro l
      induction l with
      | nil => intro _; trivial
      | cons x l ih => intro hl; exact ⟨⟨rfl, hl x (by simp)⟩, ih fun y hy => hl y (by simp [hy])⟩
    exact this z hb
  · have key : ∀ l : List Int, (l.map fun x => [Value.int .u64 x]).flatten = uv l := by
      intro l
      induction l with
      | nil => rfl
      | cons x l ih => rw [List.map_cons, List.flatten_cons, ih]; rfl
    have e := key z
    rw [e]
    intro hn
    obtain ⟨k, o, ea, hc⟩ := h.2 hn
    exact ⟨k, o, ea, hP (by rw [← h.1]; rw [List.length_map] at hn; exact hn) _ ea, hc⟩

/-- A row of the call's own, of things that are read elsewhere. -/
def OwnQ (E : El α) (e : TypeId) (w : World) (B : Nat) (P : Nat → Prop) (v : Value) (xs : List α) : Prop :=
  ∃ cs, Ch E w P cs xs ∧ w.ownsRow B e E.k v xs.length cs.flatten ∧ ∀ g, v.ownBlock = some g → ¬ P g
theorem OwnQ.nil (E : El α) (e : TypeId) (w : World) (B : Nat) (P : Nat → Prop) : OwnQ E e w B P (.slice none 0 0) [] := ⟨[], trivial, World.ownsRow_nil w B e E.k, fun g h => by cases h⟩
theorem OwnQ.slice {E : El α} {e : TypeId} {w : World} {B : Nat} {P : Nat → Prop} {v : Value} {xs : List α} (h : OwnQ E e w B P v xs) : ∃ A c, v = .slice A xs.length c ∧ xs.length ≤ c ∧ (A = none → c = 0) ∧ Sq E w (fun b => P b ∨ v.ownBlock = some b) A xs := by
  obtain ⟨cs, h1, h2, _⟩ := h
  obtain ⟨A, c, rfl, hn, hc⟩ := own_slice h2
  refine ⟨A, c, rfl, hc, hn, cs, h1.mono fun b hb _ => .inl hb, fun hp => ?_⟩
  obtain ⟨k, o, ea, hcell⟩ := (own_rw h2 rfl).2.2.2 hp
  exact ⟨k, o, ea, .inr (by rw [ea]; rfl), hcell⟩
theorem OwnQ.below {E : El α} {e : TypeId} {w w' : World} {B : Nat} {P : Nat → Prop} {v : Value} {xs : List α} (h : OwnQ E e w B P v xs) (hb : Below w.heap.size w w') : OwnQ E e w' B P v xs := by
  obtain ⟨cs, h1, h2, h3⟩ := h
  exact ⟨cs, h1.keep fun b _ hlt => hb.block b hlt, own_below h2 hb, h3⟩
theorem OwnQ.mono {E : El α} {e : TypeId} {w : World} {B : Nat} {P Q : Nat → Prop} {v : Value} {xs : List α} (h : OwnQ E e w B P v xs) (hq : ∀ b, P b → b < w.heap.size → Q b) (hn : ∀ g, v.ownBlock = some g → ¬ Q g) : OwnQ E e w B Q v xs := by
  obtain ⟨cs, h1, h2, _⟩ := h
  exact ⟨cs, h1.mono hq, h2, hn⟩
/-- One more, behind an append. -/
theorem OwnQ.snoc {E : El α} {e : TypeId} {w w' : World} {B : Nat} {P : Nat → Prop} {v v' : Value} {xs : List α} {cs : List (List Value)} {c : List Value} {x : α} (h1 : Ch E w P cs xs) (h3 : ∀ g, v.ownBlock = some g → ¬ P g)
    (hx : E.R w P c x) (ho : w'.ownsRow B e E.k v' (xs.length + 1) (cs.flatten ++ c)) (hg : w.grownBy w' v.ownBlock) (hgr : Gr v.ownBlock v'.ownBlock w) : OwnQ E e w' B (fun b => P b ∧ b < w.heap.size) v' (xs ++ [x]) := by
  have hk : ∀ b, P b → b < w.heap.size → w'.heap[b]? = w.heap[b]? := fun b hb hlt => hg.block b hlt fun e => h3 b e.symm hb
  have hP : ∀ b, P b → b < w.heap.size → (P b ∧ b < w.heap.size) := fun b hb hlt => ⟨hb, hlt⟩
  refine ⟨cs ++ [c], ?_, by rw [List.length_append, List.flatten_append]; simpa using ho, fun g hgb hh => ?_⟩
  · exact Ch.snoc (E.keep (E.mono hx hP) fun b hb hlt => hk b hb.1 hlt) ((h1.mono hP).keep fun b hb hlt => hk b hb.1 hlt)
  · rcases hgr with e | ⟨g', e, hg'⟩
    · exact h3 g (by rw [← e]; exact hgb) hh.1
    · rw [e] at hgb; injection hgb with hgb; omega

/-! ### What a law's arguments hold -/
theorem pick_n {p : Nat → List Value → α → Prop} : ∀ n : Nat, (∀ i, i < n → ∃ c x, p i c x) → ∃ (cs : List (List Value)) (xs : List α), cs.length = n ∧ xs.length = n ∧ ∀ i c x, cs[i]? = some c → xs[i]? = some x → p i c x
  | 0, _ => ⟨[], [], rfl, rfl, fun i c x h => by simp at h⟩
  | n + 1, h => by
    obtain ⟨cs, xs, h1, h2, h3⟩ := pick_n n fun i hi => h i (by omega)
    obtain ⟨c, x, hp⟩ := h n (by omega)
    refine ⟨cs ++ [c], xs ++ [x], by simp [h1], by simp [h2], fun i d y hd hy => ?_⟩
    have hi : i < n + 1 := by have := (List.getElem?_eq_some_iff.1 hd).1; simpa [h1] using this
    rcases Nat.lt_or_ge i n with hlt | hge
    · rw [List.getElem?_append_left (by omega)] at hd hy
      exact h3 i d y hd hy
    · obtain rfl : i = n := by omega
      rw [List.getElem?_append_right (by omega), h1, Nat.sub_self] at hd
      rw [List.getElem?_append_right (by omega), h2, Nat.sub_self] at hy
      simp at hd hy
      subst hd hy
      exact hp
theorem Ch.of {E : El α} {w : World} {P : Nat → Prop} : ∀ {cs : List (List Value)} {xs : List α}, cs.length = xs.length → (∀ (i : Nat) (c : List Value) (x : α), cs[i]? = some c → xs[i]? = some x → E.R w P c x) → Ch E w P cs xs
  | [], [], _, _ => trivial
  | c :: cs, x :: xs, hl, h => ⟨h 0 c x rfl rfl, Ch.of (by simpa using hl) fun i d y hd hy => h (i + 1) d y (by simpa using hd) (by simpa using hy)⟩
  | [], _ :: _, hl, _ => by simp at hl
  | _ :: _, [], hl, _ => by simp at hl
theorem flat_at {k : Nat} : ∀ {cs : List (List Value)}, (∀ c ∈ cs, c.length = k) → ∀ (t : Nat) (v : Value), cs.flatten[t]? = some v → ∃ i j c, t = i * k + j ∧ j < k ∧ cs[i]? = some c ∧ c[j]? = some v
  | [], _, t, v, h => by simp at h
  | c :: cs, hl, t, v, h => by
    have hc := hl c (by simp)
    rw [List.flatten_cons] at h
    by_cases ht : t < k
    · rw [List.getElem?_append_left (by omega)] at h
      exact ⟨0, t, c, by omega, ht, rfl, h⟩
    · rw [List.getElem?_append_right (by omega), hc] at h
      obtain ⟨i, j, d, e, hj, hd, hv⟩ := flat_at (fun d hd => hl d (by simp [hd])) (t - k) v h
      exact ⟨i + 1, j, d, by rw [Nat.succ_mul]; omega, hj, by simpa using hd, hv⟩
theorem addr_flatk {b o i j k : Nat} : ((⟨b, o, none⟩ : Addr).add (i * k)).add j = ⟨b, o + (i * k + j), none⟩ := by
  rw [Go.Deep.add_add]
  unfold Addr.add
  split
  · rename_i h
    rw [show i * k + j = 0 by omega]; rfl
  · rfl
/-- What can be read as a type's value stands for something. -/
def Opens (E : El α) (t : TypeId) : Prop := ∀ {H : Type} {enc : TypeId × Value → H} {w : World} {fuel : Nat} {cs : List Value} {x : DataW H × List MemPlace}, DataW.trod enc Try.prog w 0 (fun _ => true) true fuel t cs = some x → ∃ y, E.R w (fun _ => True) cs y
theorem opens_u64 {t : TypeId} (hu : Try.prog.underlying t = some (.int .u64)) : Opens U64E t := by
  intro H enc w fuel cs x h
  obtain ⟨y, e, _, r⟩ := DataW.trod_int hu h
  have := bounds_u64 r
  exact ⟨y, e, by omega, by omega⟩
theorem opens_slice {E : El α} {sl e : TypeId} (hu : Try.prog.underlying sl = some (.slice e)) (hc : Try.prog.cellsOf e = E.k) (hk : 0 < E.k) (ho : Opens E e) : Opens (SlE E) sl := by
  intro H enc w fuel cs x h
  rcases Go.Deep.open_slice hu h with ⟨rfl, _⟩ | ⟨a, n, m, k, _, D, Pl, rfl, _, hl, _, hkk, _, hi⟩
  · exact ⟨[], none, 0, rfl, Nat.le_refl _, fun _ => rfl, Sq.nil _ _ _ _⟩
  · have hkn : n ≤ k := by rw [hkk]; split <;> omega
    have each : ∀ i, i < n → ∃ (c : List Value) (y : α), E.R w (fun _ => True) c y ∧ ∀ j v, c[j]? = some v → w.cell? ((a.add (i * E.k)).add j) = some v := fun i hin => by
      obtain ⟨cs', h1, h2⟩ := hi i (by omega)
      rw [hc] at h1
      obtain ⟨_, hlen, hcell⟩ := World.cells?_some h1
      obtain ⟨y, hy⟩ := ho h2
      exact ⟨cs', y, hy, fun j v hv => by rw [hcell j (by rw [← hlen]; exact (List.getElem?_eq_some_iff.1 hv).1), hv]⟩
    obtain ⟨cs, xs, l1, l2, hp⟩ := pick_n n each
    have hch : Ch E w (fun _ => True) cs xs := Ch.of (by omega) fun i c x hc hx => (hp i c x hc hx).1
    refine ⟨xs, some a, m, by rw [l2], by omega, (fun e => by cases e), cs, hch, fun hpos => ?_⟩
    obtain ⟨b, off, spot⟩ := a
    have hcl : ∀ c ∈ cs, c.length = E.k := fun c hcm => by
      obtain ⟨i, hi, e⟩ := List.mem_iff_getElem.1 hcm
      have h1 : cs[i]? = some c := by rw [List.getElem?_eq_getElem hi, e]
      have h2 : xs[i]? = some xs[i] := List.getElem?_eq_getElem (by omega)
      exact E.len (hp i c _ h1 h2).1
    have hspot : spot = none := by
      obtain ⟨i, j, c, e, _, hci, hv⟩ := flat_at hcl 0 _ (List.getElem?_eq_getElem hpos)
      have hxi : xs[i]? = some (xs[i]'(by have := (List.getElem?_eq_some_iff.1 hci).1; omega)) := List.getElem?_eq_getElem _
      have := (hp i c _ hci hxi).2 j _ hv
      rw [Go.Deep.add_add, ← e] at this
      simpa [Addr.add] using World.cell?_spot this
    subst hspot
    refine ⟨b, off, rfl, trivial, fun t v hv => ?_⟩
    obtain ⟨i, j, c, e, _, hci, hcv⟩ := flat_at hcl t v hv
    have hxi : xs[i]? = some (xs[i]'(by have := (List.getElem?_eq_some_iff.1 hci).1; omega)) := List.getElem?_eq_getElem _
    have := (hp i c _ hci hxi).2 j v hcv
    rw [addr_flatk, ← e] at this
    exact this
theorem opens_pair {β : Type} {E : El α} {F : El β} {t : TypeId} {f0 f1 : Field} (hu : Try.prog.underlying t = some (.struct #[f0, f1])) (h0 : f0.offset = 0) (h1 : f1.offset = E.k) (hc : Try.prog.cellsOf t = E.k + F.k)
    (c0 : Try.prog.cellsOf f0.type = E.k) (c1 : Try.prog.cellsOf f1.type = F.k) (ho : Opens E f0.type) (ho1 : Opens F f1.type) : Opens (PrE E F) t := by
  intro H enc w fuel cs x h
  obtain ⟨y0, y1, n, _, hl, t0, t1⟩ := trod_struct2 hu h
  obtain ⟨a, ha⟩ := ho t0
  obtain ⟨b, hb⟩ := ho1 t1
  rw [h0, c0, List.drop_zero] at ha
  rw [h1, c1] at hb
  refine ⟨(a, b), cs.take E.k, (cs.drop E.k).take F.k, ?_, ha, hb⟩
  rw [List.take_of_length_le (l := cs.drop E.k) (by rw [List.length_drop, hl, hc]; omega), List.take_append_drop]
theorem opens_three {β γ : Type} {E : El α} {F : El β} {G : El γ} {t : TypeId} {f0 f1 f2 : Field} (hu : Try.prog.underlying t = some (.struct #[f0, f1, f2])) (h0 : f0.offset = 0) (h1 : f1.offset = E.k) (h2 : f2.offset = E.k + F.k) (hc : Try.prog.cellsOf t = E.k + F.k + G.k)
    (c0 : Try.prog.cellsOf f0.type = E.k) (c1 : Try.prog.cellsOf f1.type = F.k) (c2 : Try.prog.cellsOf f2.type = G.k) (ho : Opens E f0.type) (ho1 : Opens F f1.type) (ho2 : Opens G f2.type) : Opens (PrE E (PrE F G)) t := by
  intro H enc w fuel cs x h
  obtain ⟨y0, y1, y2, n, _, hl, t0, t1, t2⟩ := Go.Deep.trod_struct3 hu h
  obtain ⟨a, ha⟩ := ho t0
  obtain ⟨b, hb⟩ := ho1 t1
  obtain ⟨c, hcc⟩ := ho2 t2
  rw [h0, c0, List.drop_zero] at ha
  rw [h1, c1] at hb
  rw [h2, c2] at hcc
  refine ⟨(a, b, c), cs.take E.k, cs.drop E.k, (List.take_append_drop _ _).symm, ha, (cs.drop E.k).take F.k, (cs.drop (E.k + F.k)).take G.k, ?_, hb, hcc⟩
  rw [List.take_of_length_le (l := cs.drop (E.k + F.k)) (by rw [List.length_drop, hl, hc]; omega), ← List.drop_drop, List.take_append_drop]
/-- A law's argument that is a slice of things. -/
theorem open_sl {H : Type} {enc : TypeId × Value → H} {w : World} {base : Nat} {v : Value} {d : DataW H} {p : List MemPlace} {E : El α} {sl e : TypeId} (hu : Try.prog.underlying sl = some (.slice e)) (ho : Opens (SlE E) sl)
    (g : Value.okWide Try.prog w .any base sl v) (h : DataW.Trod enc Try.prog w 0 (fun _ => true) true sl v d p) : ∃ A m xs, v = .slice A xs.length m ∧ xs.length ≤ m ∧ (A = none → m = 0) ∧ Sq E w (fun _ => True) A xs := by
  obtain ⟨A, n, m, rfl⟩ := okWide_slice hu g
  obtain ⟨fuel, hf⟩ := h
  obtain ⟨xs, A', m', e, h1, h2, h3⟩ := ho hf
  simp [Value.cells] at e
  obtain ⟨rfl, rfl, rfl⟩ := e
  exact ⟨A, m, xs, rfl, h1, h2, h3⟩
/-- A law's argument that is a struct. -/
theorem open_st {H : Type} {enc : TypeId × Value → H} {w : World} {base : Nat} {v : Value} {d : DataW H} {p : List MemPlace} {E : El α} {t : TypeId} {fs : Array Field} (hu : Try.prog.underlying t = some (.struct fs)) (ho : Opens E t)
    (g : Value.okWide Try.prog w .any base t v) (h : DataW.Trod enc Try.prog w 0 (fun _ => true) true t v d p) : ∃ cs x, v = .agg cs ∧ E.R w (fun _ => True) cs.toList x := by
  obtain ⟨cs, rfl, _⟩ := okWide_struct hu g
  obtain ⟨fuel, hf⟩ := h
  obtain ⟨x, hx⟩ := ho hf
  exact ⟨cs, x, rfl, by simpa [Value.cells] using hx⟩
/-- A row of numbers of the call's own is a thing of one cell, read in its own block. -/
theorem OwnU.el {w : World} {B : Nat} {v : Value} {z : List Int} (h : OwnU w B v z) (hb : ∀ x ∈ z, 0 ≤ x ∧ x < 18446744073709551616) : (SlE U64E).R w (fun b => v.ownBlock = some b) [v] z := by
  obtain ⟨A, c, rfl⟩ := h.slice
  obtain ⟨_, h1, h2, h3⟩ := h.us
  exact ⟨A, c, rfl, h1, h2, h3.sq hb fun _ a ha => by rw [ha]; rfl⟩
end Go.Proofs.Ytgdcbfekekefiaa.Cur

namespace Go.Proofs.Ytgdcbfekekefiaa.Cur
set_option linter.unusedVariables false

/-- How many of n positions set s of m gets. -/
def shr (n m s : Nat) : Nat := (n + (m - 1 - s)) / m
theorem shr_iff {n m s l : Nat} (hs : s < m) : l < shr n m s ↔ l * m + s < n := by
  unfold shr
  rw [← Nat.succ_le_iff, Nat.le_div_iff_mul_le (by omega), Nat.succ_mul]
  omega
theorem eq_of_lt {a b : Nat} (h : ∀ l, l < a ↔ l < b) : a = b := by
  have h1 := h a
  have h2 := h b
  omega
/-- Whatever tells the same numbers is the share. -/
theorem shr_unique {n m s x : Nat} (hs : s < m) (h : ∀ l, l < x ↔ l * m + s < n) : x = shr n m s := eq_of_lt fun l => (h l).trans (shr_iff hs).symm
theorem shr_div {n m s : Nat} (hs : s < m) : n / m + (if s < n % m then 1 else 0) = shr n m s := shr_unique hs fun l => by
  have h1 := Nat.div_add_mod n m
  have h2 := Nat.mod_lt n (show 0 < m by omega)
  rw [Nat.mul_comm] at h1
  constructor
  · intro h
    rcases Nat.lt_or_ge l (n / m) with h3 | h3
    · have := Nat.mul_le_mul_right m (show l + 1 ≤ n / m from h3)
      rw [Nat.succ_mul] at this
      omega
    · split at h
      · obtain rfl : l = n / m := by omega
        omega
      · omega
  · intro h
    rcases Nat.lt_or_ge l (n / m) with h3 | h3
    · omega
    · rcases Nat.eq_or_lt_of_le h3 with h4 | h4
      · subst h4
        rw [if_pos (by omega)]; omega
      · have := Nat.mul_le_mul_right m (show n / m + 1 ≤ l from h4)
        rw [Nat.succ_mul] at this
        omega
theorem shr_succ {n m s : Nat} (hs : s < m) : shr (n + 1) m s = shr n m s + if n % m = s then 1 else 0 := by
  have h1 := Nat.div_add_mod n m
  have h2 := Nat.mod_lt n (show 0 < m by omega)
  rw [Nat.mul_comm] at h1
  refine eq_of_lt fun l => ?_
  rw [shr_iff hs]
  by_cases hr : n % m = s
  · rw [if_pos hr]
    have e : shr n m s = n / m := (shr_unique hs fun l => by
      constructor
      · intro h
        have := Nat.mul_le_mul_right m (show l + 1 ≤ n / m from h)
        rw [Nat.succ_mul] at this
        omega
      · intro h
        refine Nat.lt_of_not_le fun h3 => ?_
        have := Nat.mul_le_mul_right m h3
        omega).symm
    rw [e]
    constructor
    · intro h
      refine Nat.lt_of_not_le fun h3 => ?_
      have := Nat.mul_le_mul_right m h3
      rw [Nat.succ_mul] at this
      omega
    · intro h
      have := Nat.mul_le_mul_right m (show l ≤ n / m by omega)
      omega
  · rw [if_neg hr]
    show _ ↔ l < shr n m s
    rw [shr_iff hs]
    constructor
    · intro h
      rcases Nat.lt_or_ge (l * m + s) n with h3 | h3
      · exact h3
      · exfalso
        have : n = s + l * m := by omega
        rw [this, Nat.add_mul_mod_self_right, Nat.mod_eq_of_lt hs] at hr
        exact hr rfl
    · omega
/-- The sum of the first m of some numbers. -/
def sum0 (f : Nat → Nat) : Nat → Nat
  | 0 => 0
  | m + 1 => sum0 f m + f m
theorem sum0_congr {f g : Nat → Nat} : ∀ m, (∀ s, s < m → f s = g s) → sum0 f m = sum0 g m
  | 0, _ => rfl
  | m + 1, h => by show sum0 f m + f m = sum0 g m + g m; rw [sum0_congr m fun s hs => h s (by omega), h m (by omega)]
theorem sum0_one {f : Nat → Nat} {r : Nat} : ∀ m, sum0 (fun s => f s + if r = s then 1 else 0) m = sum0 f m + if r < m then 1 else 0
  | 0 => rfl
  | m + 1 => by
    show sum0 _ m + (f m + if r = m then 1 else 0) = sum0 f m + f m + if r < m + 1 then 1 else 0
    rw [sum0_one m]
    by_cases h : r = m
    · subst h; rw [if_pos rfl, if_neg (Nat.lt_irrefl _), if_pos (by omega)]; omega
    · rw [if_neg h]
      by_cases h2 : r < m
      · rw [if_pos h2, if_pos (by omega)]; omega
      · rw [if_neg h2, if_neg (by omega)]; omega
/-- The shares are all positions. -/
theorem shr_sum {m : Nat} (hm : 0 < m) : ∀ n, sum0 (shr n m) m = n
  | 0 => by
    have : ∀ s, s < m → shr 0 m s = 0 := fun s hs => by unfold shr; rw [Nat.zero_add]; exact Nat.div_eq_of_lt (by omega)
    rw [sum0_congr m (g := fun _ => 0) this]
    have z : ∀ k, sum0 (fun _ => 0) k = 0 := by
      intro k
      induction k with
      | zero => rfl
      | succ k ih => show sum0 _ k + 0 = 0; rw [ih]
    exact z m
  | n + 1 => by
    rw [sum0_congr m (g := fun s => shr n m s + if n % m = s then 1 else 0) fun s hs => shr_succ hs, sum0_one, shr_sum hm n, if_pos (Nat.mod_lt _ hm)]
/-- No two differ by more than one. -/
theorem shr_near {n m s t : Nat} (hs : s < m) (ht : t < m) : shr n m s ≤ shr n m t + 1 := by
  rcases Nat.lt_or_ge (shr n m t + 1) (shr n m s) with h | h
  · exfalso
    have h1 := (shr_iff hs (l := shr n m t + 1)).1 h
    rw [Nat.succ_mul] at h1
    have h2 := (shr_iff (n := n) ht (l := shr n m t)).2 (by omega)
    omega
  · exact h
/-- The largest share is set 0's, and is no more than all. -/
theorem shr_le {n m s : Nat} (hs : s < m) : shr n m s ≤ n := by
  rcases Nat.eq_zero_or_pos (shr n m s) with h | h
  · omega
  · have := (shr_iff (n := n) hs (l := shr n m s - 1)).1 (by omega)
    have := Nat.le_mul_of_pos_right (shr n m s - 1) (show 0 < m by omega)
    omega
/-- To which set and with which number position x of a stripe is dealt, and back. -/
theorem deal_back {m x : Nat} : x / m * m + x % m = x := by rw [Nat.mul_comm]; exact Nat.div_add_mod x m
theorem back_deal {m s l : Nat} (hs : s < m) : (l * m + s) % m = s ∧ (l * m + s) / m = l := by
  rw [Nat.add_comm, Nat.add_mul_mod_self_right, Nat.mod_eq_of_lt hs, Nat.add_mul_div_right _ _ (by omega), Nat.div_eq_of_lt hs, Nat.zero_add]
  exact ⟨rfl, rfl⟩
theorem deal_in {n m x : Nat} (hm : 0 < m) : x < n ↔ x / m < shr n m (x % m) := by
  rw [shr_iff (Nat.mod_lt _ hm), deal_back]
end Go.Proofs.Ytgdcbfekekefiaa.Cur

namespace Go.Proofs.Ytgdcbfekekefiaa.Cur
open Go.RowKit Mem
set_option linter.unusedVariables false

/-- A rising list of N numbers. -/
def rg (z : List Int) (N : Nat) (p : Int) : Rs (List Int) := rgo z N p []
theorem RgSt.st {n : Nat} {z : List Int} {p c q : Int} {N : Nat} {l : List Int} {p' c' q' : Int} (h : RgSt n z p c q N l p' c' q') : St [] n (rg z N p) p c q l p' c' q' := h
/-- What is read ahead of other bytes is read behind them. -/
theorem rgo_shift {y : List Int} (pre : List Int) (hby : ∀ x ∈ y, 0 ≤ x ∧ x < 256) : ∀ (N : Nat) (p : Int) (acc l : List Int) (p' : Int), 0 ≤ p → p ≤ y.length → rgo y N p acc = (l, p', 0, 0) → rgo (pre ++ y) N (pre.length + p) acc = (l, pre.length + p', 0, 0)
  | 0, p, acc, l, p', h0, h1, h => by
    unfold rgo at h ⊢
    injection h with h2 h3
    injection h3 with h3 _
    rw [h2, h3]
  | N + 1, p, acc, l, p', h0, h1, h => by
    have hd : (pre ++ y).drop ((pre.length : Int) + p).toNat = y.drop p.toNat := by
      rw [show ((pre.length : Int) + p).toNat = pre.length + p.toNat by omega, List.drop_append]
      rw [List.drop_of_length_le (by omega), List.nil_append]
      congr 1; omega
    by_cases hg : (vgo (y.drop p.toNat) 0 0).2.2.1 = 0
    case neg =>
      rw [rgo_bad hg] at h
      injection h with _ h
      injection h with _ h
      injection h with h _
      exact absurd h hg
    obtain ⟨v, j, hj1, hj2, hj, _⟩ := vgo_once (y.drop p.toNat) 0 0 (fun x hx => hby x (List.mem_of_mem_drop hx)) (by omega) hg
    rw [List.length_drop] at hj2
    have hp2 : (vgo (y.drop p.toNat) 0 0).2.1 = j := by rw [hj]; omega
    by_cases ha : acc = []
    · subst ha
      rw [rgo_first hg] at h
      rw [rgo_first (by rw [hd]; exact hg), hd, Int.add_assoc]
      exact rgo_shift pre hby N _ _ _ _ (by omega) (by omega) h
    · by_cases ho : 18446744073709551615 - acc.getD (acc.length - 1) 0 ≤ (vgo (y.drop p.toNat) 0 0).1
      · rw [rgo_over hg ha ho] at h
        injection h with _ h
        injection h with _ h
        injection h with h _
        exact absurd h (by decide)
      · rw [rgo_next hg ha ho] at h
        rw [rgo_next (by rw [hd]; exact hg) ha (by rw [hd]; exact ho), hd, Int.add_assoc]
        exact rgo_shift pre hby N _ _ _ _ (by omega) (by omega) h
theorem rg_put {z l rest pre : List Int} (hz : z = pre ++ rz l ++ rest) (hr : risesB l = true) (hby : ∀ x ∈ l, 0 ≤ x ∧ x < 18446744073709551616) (hrest : ∀ x ∈ rest, 0 ≤ x ∧ x < 256) : rg z l.length pre.length = (l, ((pre.length + (rz l).length : Nat) : Int), 0, 0) := by
  have h := rgo_back rest hr hby l.length 0 (by omega)
  rw [List.take_zero] at h
  have hb : ∀ x ∈ rz l ++ rest, 0 ≤ x ∧ x < 256 := fun x hx => by
    rcases List.mem_append.1 hx with hx | hx
    · exact rz_byte hr hby x hx
    · exact hrest x hx
  have h2 := rgo_shift pre hb l.length 0 [] l _ (Int.le_refl _) (by omega) h
  rw [Int.add_zero] at h2
  unfold rg
  rw [hz, List.append_assoc, h2]
  push_cast; rfl
theorem rg_once {z : List Int} {N : Nat} {p : Int} (hby : ∀ x ∈ z, 0 ≤ x ∧ x < 256) (h0 : 0 ≤ p) (h1 : p ≤ z.length) (h : (rg z N p).2.2.1 = 0) :
    ∃ (l : List Int) (p' : Int), rg z N p = (l, p', 0, 0) ∧ l.length = N ∧ risesB l = true ∧ (∀ x ∈ l, 0 ≤ x ∧ x < 18446744073709551616) ∧ p ≤ p' ∧ p' ≤ z.length ∧ rz l = piece z p.toNat p'.toNat := by
  have e : rg z N p = ((rg z N p).1, (rg z N p).2.1, 0, 0) := by
    have h2 := rgo_shape N p [] h
    generalize hg : rg z N p = g at *
    obtain ⟨a, b, c, d⟩ := g
    have : rgo z N p [] = (a, b, c, d) := hg
    rw [this] at h2
    dsimp only at h h2
    rw [h, h2]
  obtain ⟨a1, a2, a3, a4, a5, a6⟩ := rgo_once hby N p [] _ _ h0 h1 rfl (fun x hx => by simp at hx) e
  exact ⟨_, _, e, by simpa using a1, a2, a3, a4, a5, by rw [a6]; rfl⟩

/-- How many there are: one at least. -/
def mny (z : List Int) (mo p : Int) : Rs Int := (vm z mo p).bind 0 fun k p1 => if k = 0 then (0, 0, 3, p) else (k, p1, 0, 0)
theorem mny_once {z : List Int} {mo p : Int} (hby : ∀ x ∈ z, 0 ≤ x ∧ x < 256) (h0 : 0 ≤ p) (h1 : p ≤ z.length) (h : (mny z mo p).2.2.1 = 0) :
    ∃ k p', mny z mo p = (k, p', 0, 0) ∧ 1 ≤ k ∧ k ≤ mo ∧ p ≤ p' ∧ p' ≤ z.length ∧ vz k = piece z p.toNat p'.toNat := by
  unfold mny at h ⊢
  obtain ⟨a0, e0⟩ := Rs.bind_ok h
  rw [e0] at h ⊢
  obtain ⟨b0, b1, b2⟩ := vm_ok a0
  rw [b2] at h ⊢
  obtain ⟨c1, c2, c3, c4, c5⟩ := vg_once hby h0 h1 b0
  by_cases hk : (vg z p).1 = 0
  · rw [if_pos hk] at h; exact absurd h (by show ¬ (3 : Int) = 0; decide)
  · rw [if_neg hk]
    exact ⟨_, _, rfl, by omega, b1, by omega, c5, c1⟩
theorem mny_put {z pre rest : List Int} {mo k : Int} (hz : z = pre ++ vz k ++ rest) (k0 : 1 ≤ k) (k1 : k ≤ mo) (k2 : k < 18446744073709551616) : mny z mo pre.length = (k, ((pre.length + vsz k : Nat) : Int), 0, 0) := by
  have g := vg_put hz (by omega) k2
  have e : vm z mo pre.length = (k, ((pre.length + vsz k : Nat) : Int), 0, 0) := by
    unfold vm; rw [g, if_neg (by simp), if_neg (by simp; omega)]
  unfold mny
  rw [Rs.bind_of e, if_neg (by omega)]

/-- Is one of some nodes in a set ahead? -/
def tw (S : List (List Int)) (l : List Int) : Bool := S.any fun s => l.any fun x => s.contains x
/-- May a set stand behind others? -/
def seok (S : List (List Int)) (l : List Int) : Bool := decide (1 ≤ l.length) && decide (l.length ≤ 8) && risesB l && decide (l.getD (l.length - 1) 0 < 4294967296) && !tw S l
/-- One set. -/
def stl (z : List Int) (S : List (List Int)) (p : Int) : Rs (List Int) :=
  (mny z 8 p).bind [] fun m p1 => (rg z m.toNat p1).bind [] fun l p2 => if 4294967296 ≤ l.getD (l.length - 1) 0 then ([], 0, 3, p1) else if tw S l then ([], 0, 13, p1) else (l, p2, 0, 0)
def seb (l : List Int) : List Int := vz l.length ++ rz l
theorem stl_once {z : List Int} {S : List (List Int)} {p : Int} (hby : ∀ x ∈ z, 0 ≤ x ∧ x < 256) (h0 : 0 ≤ p) (h1 : p ≤ z.length) (h : (stl z S p).2.2.1 = 0) :
    ∃ l p', stl z S p = (l, p', 0, 0) ∧ seok S l = true ∧ (∀ x ∈ l, 0 ≤ x ∧ x < 18446744073709551616) ∧ p ≤ p' ∧ p' ≤ z.length ∧ seb l = piece z p.toNat p'.toNat := by
  unfold stl at h ⊢
  obtain ⟨a0, e0⟩ := Rs.bind_ok h
  rw [e0] at h ⊢
  obtain ⟨k, p1, m1, m2, m3, m4, m5, m6⟩ := mny_once hby h0 h1 a0
  rw [m1] at h ⊢
  dsimp only at h ⊢
  obtain ⟨b0, e1⟩ := Rs.bind_ok h
  rw [e1] at h ⊢
  obtain ⟨l, p2, r1, r2, r3, r4, r5, r6, r7⟩ := rg_once hby (by omega) m5 b0
  rw [r1] at h ⊢
  dsimp only at h ⊢
  by_cases hb : 4294967296 ≤ l.getD (l.length - 1) 0
  · rw [if_pos hb] at h; exact absurd h (by show ¬ (3 : Int) = 0; decide)
  · rw [if_neg hb] at h ⊢
    cases ht : tw S l
    · rw [if_neg (by simp)]
      refine ⟨l, p2, rfl, ?_, r4, by omega, r6, ?_⟩
      · unfold seok
        rw [decide_eq_true (by omega), decide_eq_true (by omega), r3, decide_eq_true (by omega), ht]; rfl
      · unfold seb
        rw [r2, show ((k.toNat : Nat) : Int) = k by omega, m6, r7, piece_append (by omega) (by omega) (by omega)]
    · rw [ht, if_pos rfl] at h; exact absurd h (by show ¬ (13 : Int) = 0; decide)
theorem seok_parts {S : List (List Int)} {l : List Int} (h : seok S l = true) : 1 ≤ l.length ∧ l.length ≤ 8 ∧ risesB l = true ∧ l.getD (l.length - 1) 0 < 4294967296 ∧ tw S l = false := by
  unfold seok at h
  simp only [Bool.and_eq_true, decide_eq_true_eq, Bool.not_eq_true'] at h
  exact ⟨h.1.1.1.1, h.1.1.1.2, h.1.1.2, h.1.2, h.2⟩
theorem stl_put {z pre rest : List Int} {S : List (List Int)} {l : List Int} (hz : z = pre ++ seb l ++ rest) (hok : seok S l = true) (hby : ∀ x ∈ l, 0 ≤ x ∧ x < 18446744073709551616) (hrest : ∀ x ∈ rest, 0 ≤ x ∧ x < 256) :
    stl z S pre.length = (l, ((pre.length + (seb l).length : Nat) : Int), 0, 0) := by
  obtain ⟨k1, k2, k3, k4, k5⟩ := seok_parts hok
  have e1 := mny_put (z := z) (pre := pre) (rest := rz l ++ rest) (mo := 8) (k := (l.length : Int)) (by rw [hz]; unfold seb; simp) (by omega) (by omega) (by omega)
  have e2 := rg_put (z := z) (pre := pre ++ vz l.length) (rest := rest) (l := l) (by rw [hz]; unfold seb; simp) k3 hby hrest
  rw [List.length_append, vz_length] at e2
  unfold stl
  rw [Rs.bind_of e1, Int.toNat_natCast, Rs.bind_of e2, if_neg (by omega), k5, if_neg (by simp)]
  unfold seb
  rw [List.length_append, vz_length, Nat.add_assoc]

/-- Sets, one behind the other. -/
def ssg (z : List Int) : Nat → Int → List (List Int) → Rs (List (List Int))
  | 0, p, S => (S, p, 0, 0)
  | k + 1, p, S => (stl z S p).bind [] fun l p' => ssg z k p' (S ++ [l])
def sok : List (List Int) → List (List Int) → Bool
  | _, [] => true
  | A, l :: S => seok A l && sok (A ++ [l]) S
def ssb (S : List (List Int)) : List Int := S.flatMap seb
/-- The numbers of sets are numbers of 64 digits. -/
def sbds (S : List (List Int)) : Prop := ∀ l ∈ S, ∀ x ∈ l, 0 ≤ x ∧ x < 18446744073709551616
theorem seb_byte {l : List Int} {A : List (List Int)} (h : seok A l = true) (hb : ∀ x ∈ l, 0 ≤ x ∧ x < 18446744073709551616) : ∀ b ∈ seb l, 0 ≤ b ∧ b < 256 := fun b hm => by
  obtain ⟨k1, k2, k3, _⟩ := seok_parts h
  unfold seb at hm
  rcases List.mem_append.1 hm with hm | hm
  · exact vz_byte _ (by omega) (by omega) b hm
  · exact rz_byte k3 hb b hm
theorem ssb_byte : ∀ {S A : List (List Int)}, sok A S = true → sbds S → ∀ b ∈ ssb S, 0 ≤ b ∧ b < 256
  | [], _, _, _ => fun b hm => by simp [ssb] at hm
  | l :: S, A, h, hb => fun b hm => by
    unfold sok at h
    rw [Bool.and_eq_true] at h
    unfold ssb at hm
    rw [List.flatMap_cons] at hm
    rcases List.mem_append.1 hm with hm | hm
    · exact seb_byte h.1 (hb l (by simp)) b hm
    · exact ssb_byte h.2 (fun m hm' => hb m (by simp [hm'])) b hm
theorem ssg_once {z : List Int} (hby : ∀ x ∈ z, 0 ≤ x ∧ x < 256) : ∀ (k : Nat) (p : Int) (S : List (List Int)), 0 ≤ p → p ≤ z.length → (ssg z k p S).2.2.1 = 0 →
    ∃ T p', ssg z k p S = (S ++ T, p', 0, 0) ∧ T.length = k ∧ sok S T = true ∧ sbds T ∧ p ≤ p' ∧ p' ≤ z.length ∧ ssb T = piece z p.toNat p'.toNat
  | 0, p, S, h0, h1, _ => ⟨[], p, by rw [List.append_nil]; rfl, rfl, rfl, fun l h => by simp at h, Int.le_refl _, h1, by rw [piece_self]; rfl⟩
  | k + 1, p, S, h0, h1, h => by
    unfold ssg at h ⊢
    obtain ⟨a0, e0⟩ := Rs.bind_ok h
    rw [e0] at h ⊢
    obtain ⟨l, p1, m1, m2, m3, m4, m5, m6⟩ := stl_once hby h0 h1 a0
    rw [m1] at h ⊢
    dsimp only at h ⊢
    obtain ⟨T, p', t1, t2, t3, t4, t5, t6, t7⟩ := ssg_once hby k p1 (S ++ [l]) (by omega) m5 h
    refine ⟨l :: T, p', by rw [t1, List.append_assoc]; rfl, by simp [t2], by unfold sok; rw [m2, t3]; rfl, fun s hs => ?_, by omega, t6, ?_⟩
    · rcases List.mem_cons.1 hs with rfl | hs
      · exact m3
      · exact t4 s hs
    · unfold ssb at t7 ⊢
      rw [List.flatMap_cons, m6, t7, piece_append (by omega) (by omega) (by omega)]
theorem ssg_put {z rest : List Int} (hrest : ∀ x ∈ rest, 0 ≤ x ∧ x < 256) : ∀ (T S : List (List Int)) (pre : List Int), z = pre ++ ssb T ++ rest → sok S T = true → sbds T → ssg z T.length pre.length S = (S ++ T, ((pre.length + (ssb T).length : Nat) : Int), 0, 0)
  | [], S, pre, _, _, _ => by unfold ssg ssb; simp
  | l :: T, S, pre, hz, hok, hb => by
    unfold sok at hok
    rw [Bool.and_eq_true] at hok
    have hbT : sbds T := fun m hm => hb m (by simp [hm])
    have hr2 : ∀ x ∈ ssb T ++ rest, 0 ≤ x ∧ x < 256 := fun x hx => by
      rcases List.mem_append.1 hx with hx | hx
      · exact ssb_byte hok.2 hbT x hx
      · exact hrest x hx
    have e0 : ssb (l :: T) = seb l ++ ssb T := by unfold ssb; rw [List.flatMap_cons]
    have e1 := stl_put (z := z) (pre := pre) (rest := ssb T ++ rest) (S := S) (l := l) (by rw [hz, e0]; simp) hok.1 (hb l (by simp)) hr2
    have e2 := ssg_put (z := z) hrest T (S ++ [l]) (pre ++ seb l) (by rw [hz, e0]; simp) hok.2 hbT
    rw [List.length_append] at e2
    rw [List.length_cons]
    unfold ssg
    rw [Rs.bind_of e1, e2, e0, List.length_append, List.append_assoc, Nat.add_assoc]
    rfl

/-- A stripe: from, to, sets. -/
abbrev Stp := Int × Int × List (List Int)
def stp0 : Stp := (0, 0, [])
def stok (s : Stp) : Bool := decide (s.1 < s.2.1) && decide (s.2.1 ≤ 4611686018427387904) && decide (1 ≤ s.2.2.length) && decide (s.2.2.length ≤ 8) && sok [] s.2.2
def stb (s : Stp) : List Int := vz (s.2.1 - s.1 - 1) ++ vz s.2.2.length ++ ssb s.2.2
/-- A stripe that begins at a position. -/
def str (z : List Int) (from_ p : Int) : Rs Stp :=
  if 4611686018427387904 < from_ then (stp0, 0, 3, p)
  else (vg z p).bind stp0 fun n p1 => if 4611686018427387904 - from_ ≤ n then (stp0, 0, 3, p)
    else (mny z 8 p1).bind stp0 fun k p2 => (ssg z k.toNat p2 []).bind stp0 fun S p3 => ((from_, from_ + n + 1, S), p3, 0, 0)
theorem stok_parts {s : Stp} (h : stok s = true) : s.1 < s.2.1 ∧ s.2.1 ≤ 4611686018427387904 ∧ 1 ≤ s.2.2.length ∧ s.2.2.length ≤ 8 ∧ sok [] s.2.2 = true := by
  unfold stok at h
  simp only [Bool.and_eq_true, decide_eq_true_eq] at h
  exact ⟨h.1.1.1.1, h.1.1.1.2, h.1.1.2, h.1.2, h.2⟩
theorem str_once {z : List Int} {f p : Int} (hby : ∀ x ∈ z, 0 ≤ x ∧ x < 256) (hf : 0 ≤ f) (h0 : 0 ≤ p) (h1 : p ≤ z.length) (h : (str z f p).2.2.1 = 0) :
    ∃ s p', str z f p = (s, p', 0, 0) ∧ s.1 = f ∧ stok s = true ∧ sbds s.2.2 ∧ p ≤ p' ∧ p' ≤ z.length ∧ stb s = piece z p.toNat p'.toNat := by
  unfold str at h ⊢
  by_cases hf2 : 4611686018427387904 < f
  · rw [if_pos hf2] at h; exact absurd h (by show ¬ (3 : Int) = 0; decide)
  · rw [if_neg hf2] at h ⊢
    obtain ⟨a0, e0⟩ := Rs.bind_ok h
    rw [e0] at h ⊢
    obtain ⟨c1, c2, c3, c4, c5⟩ := vg_once hby h0 h1 a0
    generalize (vg z p).1 = n at *
    generalize (vg z p).2.1 = p1 at *
    by_cases hn : 4611686018427387904 - f ≤ n
    · rw [if_pos hn] at h; exact absurd h (by show ¬ (3 : Int) = 0; decide)
    · rw [if_neg hn] at h ⊢
      obtain ⟨b0, e1⟩ := Rs.bind_ok h
      rw [e1] at h ⊢
      obtain ⟨k, p2, m1, m2, m3, m4, m5, m6⟩ := mny_once hby (by omega) c5 b0
      rw [m1] at h ⊢
      dsimp only at h ⊢
      obtain ⟨d0, e2⟩ := Rs.bind_ok h
      rw [e2]
      obtain ⟨T, p3, t1, t2, t3, t4, t5, t6, t7⟩ := ssg_once hby k.toNat p2 [] (by omega) m5 d0
      rw [t1, List.nil_append]
      refine ⟨(f, f + n + 1, T), p3, rfl, rfl, ?_, t4, by omega, t6, ?_⟩
      · unfold stok
        dsimp only
        rw [decide_eq_true (by omega), decide_eq_true (by omega), decide_eq_true (by omega), decide_eq_true (by omega), t3]; rfl
      · unfold stb
        dsimp only
        rw [show f + n + 1 - f - 1 = n by omega, t2, show ((k.toNat : Nat) : Int) = k by omega, c1, m6, t7, piece_append (by omega) (by omega) (by omega), piece_append (by omega) (by omega) (by omega)]
theorem str_put {z pre rest : List Int} {s : Stp} (hz : z = pre ++ stb s ++ rest) (hok : stok s = true) (hf : 0 ≤ s.1) (hb : sbds s.2.2) (hrest : ∀ x ∈ rest, 0 ≤ x ∧ x < 256) : str z s.1 pre.length = (s, ((pre.length + (stb s).length : Nat) : Int), 0, 0) := by
  obtain ⟨k1, k2, k3, k4, k5⟩ := stok_parts hok
  obtain ⟨f, t, S⟩ := s
  dsimp only at *
  have e0 := vg_put (z := z) (pre := pre) (rest := vz S.length ++ ssb S ++ rest) (x := t - f - 1) (by rw [hz]; unfold stb; simp) (by omega) (by omega)
  have e1 := mny_put (z := z) (pre := pre ++ vz (t - f - 1)) (rest := ssb S ++ rest) (mo := 8) (k := (S.length : Int)) (by rw [hz]; unfold stb; simp) (by omega) (by omega) (by omega)
  have e2 := ssg_put hrest S [] (pre ++ vz (t - f - 1) ++ vz S.length) (z := z) (by rw [hz]; unfold stb; simp) k5 hb
  rw [List.length_append, vz_length] at e1
  rw [List.length_append, List.length_append, vz_length, vz_length, List.nil_append] at e2
  unfold str
  rw [if_neg (by omega), Rs.bind_of e0, if_neg (by omega), Rs.bind_of e1, Int.toNat_natCast, Rs.bind_of e2]
  unfold stb
  dsimp only
  rw [List.length_append, List.length_append, vz_length, vz_length, show f + (t - f - 1) + 1 = t by omega]
  simp only [Nat.add_assoc]
end Go.Proofs.Ytgdcbfekekefiaa.Cur

namespace Go.Proofs.Ytgdcbfekekefiaa.Cur
open Go.RowKit Mem
set_option linter.unusedVariables false
set_option maxRecDepth 100000


/-- n sets at an address, read in blocks of P alone. -/
def Sts (w : World) (P : Nat → Prop) (A : Option Addr) (n : Nat) (S : List (List Int)) : Prop := S.length = n ∧ Sq (SlE U64E) w P A S
theorem Sts.keep {w w' : World} {P : Nat → Prop} {A : Option Addr} {n : Nat} {S : List (List Int)} (h : Sts w P A n S) (hk : ∀ b, P b → b < w.heap.size → w'.heap[b]? = w.heap[b]?) : Sts w' P A n S := ⟨h.1, h.2.keep hk⟩
theorem Sts.mono {w : World} {P Q : Nat → Prop} {A : Option Addr} {n : Nat} {S : List (List Int)} (h : Sts w P A n S) (hq : ∀ b, P b → b < w.heap.size → Q b) : Sts w Q A n S := ⟨h.1, h.2.mono hq⟩
theorem Sts.below {w w' : World} {P : Nat → Prop} {A : Option Addr} {n : Nat} {S : List (List Int)} (h : Sts w P A n S) (hb : Below w.heap.size w w') : Sts w' P A n S := ⟨h.1, h.2.below hb⟩
theorem Sts.cells {w : World} {P : Nat → Prop} {A : Option Addr} {n : Nat} {S : List (List Int)} (h : Sts w P A n S) (hn : n ≠ 0) :
    ∃ g o, A = some ⟨g, o, none⟩ ∧ P g ∧ g < w.heap.size ∧ ∀ k, k < n → ∃ a l m, (S.getD k []).length = l ∧ l ≤ m ∧ (a = none → m = 0) ∧ Us w a l (S.getD k []) ∧ (0 < l → ∀ ad, a = some ad → P ad.block) ∧ (∀ x ∈ S.getD k [], 0 ≤ x ∧ x < 18446744073709551616) ∧
      ∀ w', Below w.heap.size w w' → w'.cell? ⟨g, o + k, none⟩ = some (.slice a l m) := by
  obtain ⟨rfl, h⟩ := h
  obtain ⟨g, o, c, e, hP, hg, _⟩ := h.at_ (i := 0) (by decide) (List.getElem?_eq_getElem (Nat.pos_of_ne_zero hn))
  refine ⟨g, o, e, hP, hg, fun k hk => ?_⟩
  obtain ⟨g', o', c', e', hP', hg', ⟨a, m, hc, h1, h2, h3⟩, hcell⟩ := h.at_ (i := k) (by decide) (List.getElem?_eq_getElem hk)
  rw [e] at e'
  injection e' with e'
  injection e' with e1 e2
  subst e1 e2
  have hS : S.getD k [] = S[k] := by rw [List.getD_eq_getElem?_getD, List.getElem?_eq_getElem hk]; rfl
  rw [hS]
  obtain ⟨u1, u2⟩ := h3.us
  refine ⟨a, _, m, rfl, h1, h2, u1, fun hl ad ha => ?_, u2, fun w' hb => ?_⟩
  · obtain ⟨cs, c1, c2⟩ := h3
    obtain ⟨k', o', e2, hPk, _⟩ := c2 (by rw [c1.flat]; exact Nat.mul_pos hl (by decide))
    rw [e2] at ha
    injection ha with ha
    subst ha
    exact hPk
  have := hcell 0 _ (by rw [hc]; rfl)
  have e : o + k * (SlE U64E).k + 0 = o + k := by show o + k * 1 + 0 = o + k; omega
  rw [e] at this
  rw [← this]
  exact hb.cell (lt_of_cell this)
theorem RwP.sub {w : World} {P : Nat → Prop} {A : Option Addr} {xs ys : List Value} (h : RwP w P A (xs ++ ys)) : RwP w P A xs := fun hn => by
  obtain ⟨k, o, e, hP, hc⟩ := h (by rw [List.length_append]; omega)
  exact ⟨k, o, e, hP, fun i v hi => hc i v (by rw [List.getElem?_append_left (List.getElem?_eq_some_iff.1 hi).1]; exact hi)⟩
theorem Ch.take {α : Type} {E : El α} {w : World} {P : Nat → Prop} : ∀ {cs : List (List Value)} {xs : List α}, Ch E w P cs xs → ∀ k, Ch E w P (cs.take k) (xs.take k)
  | [], [], _, k => by rw [List.take_nil, List.take_nil]; trivial
  | c :: cs, x :: xs, h, 0 => trivial
  | c :: cs, x :: xs, h, k + 1 => ⟨h.1, Ch.take h.2 k⟩
  | [], _ :: _, h, _ => h.elim
  | _ :: _, [], h, _ => h.elim
/-- The first k of them. -/
theorem Sq.take {α : Type} {E : El α} {w : World} {P : Nat → Prop} {A : Option Addr} {xs : List α} (h : Sq E w P A xs) (k : Nat) : Sq E w P A (xs.take k) := by
  obtain ⟨cs, h1, h2⟩ := h
  refine ⟨cs.take k, h1.take k, ?_⟩
  have e : cs.flatten = (cs.take k).flatten ++ (cs.drop k).flatten := by rw [← List.flatten_append, List.take_append_drop]
  rw [e] at h2
  exact h2.sub

/-- Where a number is first in a list, or -1. -/
def ixo : List Int → Int → Int
  | [], _ => -1
  | y :: l, x => if y = x then 0 else if ixo l x < 0 then -1 else ixo l x + 1
theorem ixo_yes : ∀ (z : List Int) (x : Int) (k : Nat), k < z.length → z.getD k 0 = x → (∀ j, j < k → z.getD j 0 ≠ x) → ixo z x = k
  | [], _, _, h, _, _ => absurd h (by simp)
  | y :: l, x, 0, _, h, _ => by unfold ixo; rw [if_pos (by simpa using h)]; rfl
  | y :: l, x, k + 1, h, h1, h2 => by
    have ih := ixo_yes l x k (by simpa using h) (by simpa using h1) (fun j hj => by have := h2 (j + 1) (by omega); simpa using this)
    unfold ixo
    rw [if_neg (by have := h2 0 (by omega); simpa using this), ih, if_neg (by omega)]; push_cast; rfl
theorem ixo_no : ∀ (z : List Int) (x : Int), (∀ j, j < z.length → z.getD j 0 ≠ x) → ixo z x = -1
  | [], _, _ => rfl
  | y :: l, x, h => by
    have ih := ixo_no l x (fun j hj => by have := h (j + 1) (by simpa using hj); simpa using this)
    unfold ixo
    rw [if_neg (by have := h 0 (by simp); simpa using this), ih, if_pos (by decide)]
theorem ixo_bd : ∀ (z : List Int) (x : Int), -1 ≤ ixo z x ∧ ixo z x < z.length
  | [], _ => by unfold ixo; simp
  | y :: l, x => by
    have ih := ixo_bd l x
    unfold ixo
    rw [List.length_cons]
    split
    · omega
    · split <;> omega
theorem ixo_mem : ∀ (z : List Int) (x : Int), decide (0 ≤ ixo z x) = z.contains x
  | [], _ => by unfold ixo; simp
  | y :: l, x => by
    have ih := ixo_mem l x
    have hb := ixo_bd l x
    unfold ixo
    rw [List.contains_cons, ← ih]
    by_cases h : y = x
    · rw [if_pos h, h]; simp
    · rw [if_neg h]
      have : (x == y) = false := by simpa using fun e : x = y => h e.symm
      rw [this, Bool.false_or]
      split
      · rename_i h2; rw [decide_eq_false (by omega), decide_eq_false (by omega)]
      · rename_i h2; rw [decide_eq_true (by omega), decide_eq_true (by omega)]

theorem Sts.take {w : World} {P : Nat → Prop} {A : Option Addr} {n : Nat} {S : List (List Int)} (h : Sts w P A n S) {k : Nat} (hk : k ≤ n) : Sts w P A k (S.take k) := ⟨by rw [List.length_take, h.1]; omega, h.2.take k⟩

end Go.Proofs.Ytgdcbfekekefiaa.Cur

namespace Go.Proofs.Ytgdcbfekekefiaa.Cur
open Go.RowKit Mem
set_option linter.unusedVariables false
set_option maxRecDepth 100000


/-- Are all of them nodes? -/
def ndb (l : List Int) : Bool := l.all fun x => decide (x ≤ 4294967295)
theorem ndb_yes {l : List Int} (h : ∀ j, j < l.length → l.getD j 0 ≤ 4294967295) : ndb l = true := by
  unfold ndb
  rw [List.all_eq_true]
  intro x hx
  obtain ⟨j, hj, e⟩ := List.mem_iff_getElem.1 hx
  have := h j hj
  rw [List.getD_eq_getElem?_getD, List.getElem?_eq_getElem hj] at this
  rw [decide_eq_true_eq, ← e]; exact this
theorem ndb_no {l : List Int} {j : Nat} (hj : j < l.length) (h : ¬ l.getD j 0 ≤ 4294967295) : ndb l = false := by
  cases e : ndb l with
  | false => rfl
  | true =>
    unfold ndb at e
    rw [List.all_eq_true] at e
    have := e _ (List.getElem_mem hj)
    rw [List.getD_eq_getElem?_getD, List.getElem?_eq_getElem hj] at h
    exact absurd (of_decide_eq_true this) h
theorem rises_le {l : List Int} (h : risesB l = true) : ∀ i j, i ≤ j → j < l.length → l.getD i 0 ≤ l.getD j 0 := by
  intro i j hij
  induction j with
  | zero => intro _; rw [show i = 0 by omega]; exact Int.le_refl _
  | succ j ih =>
    intro hj
    rcases Nat.lt_or_ge i (j + 1) with h1 | h1
    · have := (risesB_iff l).1 h j hj
      have := ih (by omega) (by omega)
      omega
    · rw [show i = j + 1 by omega]; exact Int.le_refl _
/-- All are nodes if the last is. -/
theorem ndb_last {l : List Int} (h : risesB l = true) (hl : 1 ≤ l.length) : ndb l = decide (l.getD (l.length - 1) 0 < 4294967296) := by
  by_cases hc : l.getD (l.length - 1) 0 < 4294967296
  · rw [decide_eq_true hc]
    exact ndb_yes fun j hj => by have := rises_le h j (l.length - 1) (by omega) (by omega); omega
  · rw [decide_eq_false hc]
    exact ndb_no (j := l.length - 1) (by omega) (by omega)
/-- Which set has a number, or -1. -/
def hli : List (List Int) → Int → Int
  | [], _ => -1
  | s :: S, x => if s.contains x = true then 0 else if hli S x < 0 then -1 else hli S x + 1
theorem hli_yes : ∀ (S : List (List Int)) (x : Int) (k : Nat), k < S.length → (S.getD k []).contains x = true → (∀ j, j < k → (S.getD j []).contains x = false) → hli S x = k
  | [], _, _, h, _, _ => absurd h (by simp)
  | y :: l, x, 0, _, h, _ => by unfold hli; rw [if_pos (by simpa using h)]; rfl
  | y :: l, x, k + 1, h, h1, h2 => by
    have ih := hli_yes l x k (by simpa using h) (by simpa using h1) (fun j hj => by have := h2 (j + 1) (by omega); simpa using this)
    unfold hli
    rw [if_neg (by have := h2 0 (by omega); simpa using this), ih, if_neg (by omega)]; push_cast; rfl
theorem hli_no : ∀ (S : List (List Int)) (x : Int), (∀ j, j < S.length → (S.getD j []).contains x = false) → hli S x = -1
  | [], _, _ => rfl
  | y :: l, x, h => by
    have ih := hli_no l x (fun j hj => by have := h (j + 1) (by simpa using hj); simpa using this)
    unfold hli
    rw [if_neg (by have := h 0 (by simp); simpa using this), ih, if_pos (by decide)]
theorem hli_bd : ∀ (S : List (List Int)) (x : Int), -1 ≤ hli S x ∧ hli S x < S.length
  | [], _ => by unfold hli; simp
  | y :: l, x => by
    have ih := hli_bd l x
    unfold hli
    rw [List.length_cons]
    split
    · omega
    · split <;> omega
theorem hli_mem : ∀ (S : List (List Int)) (x : Int), decide (0 ≤ hli S x) = S.any fun s => s.contains x
  | [], _ => by unfold hli; simp
  | y :: l, x => by
    have ih := hli_mem l x
    have hb := hli_bd l x
    unfold hli
    rw [List.any_cons, ← ih]
    cases h : y.contains x
    · rw [if_neg (by simp), Bool.false_or]
      split
      · rename_i h2; rw [decide_eq_false (by omega), decide_eq_false (by omega)]
      · rename_i h2; rw [decide_eq_true (by omega), decide_eq_true (by omega)]
    · rw [if_pos rfl]; simp
/-- What is told of it. -/
def hlv (S : List (List Int)) (x : Int) : Value := .tuple #[.int .i64 (if 0 ≤ hli S x then hli S x else 0), .bool (decide (0 ≤ hli S x))]
theorem hlv_yes {S : List (List Int)} {x : Int} {k : Nat} (h : hli S x = k) : hlv S x = .tuple #[.int .i64 k, .bool true] := by
  unfold hlv; rw [h, if_pos (by omega), decide_eq_true (by omega)]
theorem hlv_no {S : List (List Int)} {x : Int} (h : hli S x = -1) : hlv S x = .tuple #[.int .i64 0, .bool false] := by
  unfold hlv; rw [h, if_neg (by omega), decide_eq_false (by omega)]

end Go.Proofs.Ytgdcbfekekefiaa.Cur

namespace Go.Proofs.Ytgdcbfekekefiaa.Cur
open Go.RowKit Mem
set_option linter.unusedVariables false
set_option maxRecDepth 100000


/-- Is no node in two sets? -/
def apB (S : List (List Int)) : Bool := (List.range S.length).all fun i => !tw (S.take i) (S.getD i [])
theorem apB_yes {S : List (List Int)} (h : ∀ i, i < S.length → tw (S.take i) (S.getD i []) = false) : apB S = true := by
  unfold apB
  rw [List.all_eq_true]
  intro i hi
  rw [h i (List.mem_range.1 hi)]; rfl
theorem apB_no {S : List (List Int)} {i : Nat} (hi : i < S.length) (h : tw (S.take i) (S.getD i []) = true) : apB S = false := by
  cases e : apB S with
  | false => rfl
  | true =>
    unfold apB at e
    rw [List.all_eq_true] at e
    have := e i (List.mem_range.2 hi)
    rw [h] at this; cases this
theorem tw_no {S : List (List Int)} {l : List Int} (h : ∀ j, j < l.length → (S.any fun s => s.contains (l.getD j 0)) = false) : tw S l = false := by
  unfold tw
  rw [List.any_eq_false]
  intro s hs hh
  rw [List.any_eq_true] at hh
  obtain ⟨x, hx, hsx⟩ := hh
  obtain ⟨j, hj, e⟩ := List.mem_iff_getElem.1 hx
  have := h j hj
  rw [List.any_eq_false] at this
  refine this s hs ?_
  rw [List.getD_eq_getElem?_getD, List.getElem?_eq_getElem hj, Option.getD_some, e]; exact hsx
theorem tw_yes {S : List (List Int)} {l : List Int} {j : Nat} (hj : j < l.length) (h : (S.any fun s => s.contains (l.getD j 0)) = true) : tw S l = true := by
  unfold tw
  rw [List.any_eq_true] at h ⊢
  obtain ⟨s, hs, hx⟩ := h
  refine ⟨s, hs, ?_⟩
  rw [List.any_eq_true]
  exact ⟨_, getD_mem hj, hx⟩
theorem getD_len {S : List (List Int)} {M : Nat} (h : ∀ l ∈ S, l.length ≤ M) (k : Nat) : (S.getD k []).length ≤ M := by
  rw [List.getD_eq_getElem?_getD]
  rcases hk : S[k]? with _ | l
  · simp
  · exact h l (List.mem_of_getElem? hk)

end Go.Proofs.Ytgdcbfekekefiaa.Cur

namespace Go.Proofs.Ytgdcbfekekefiaa.Cur
open Go.RowKit Mem
set_option linter.unusedVariables false
set_option maxRecDepth 100000


/-- May a set stand alone? -/
def fne (l : List Int) : Bool := decide (1 ≤ l.length) && decide (l.length ≤ 8) && risesB l && ndb l
theorem seok_fne (S : List (List Int)) (l : List Int) : seok S l = (fne l && !tw S l) := by
  unfold seok fne
  by_cases h1 : 1 ≤ l.length
  · cases hr : risesB l
    · simp
    · rw [ndb_last hr h1]
  · rw [decide_eq_false h1]; simp
theorem sok_eq : ∀ (S A : List (List Int)), sok A S = (S.all fne && (List.range S.length).all fun i => !tw (A ++ S.take i) (S.getD i []))
  | [], A => rfl
  | l :: S, A => by
    unfold sok
    rw [seok_fne, sok_eq S (A ++ [l]), List.all_cons, List.length_cons, List.range_succ_eq_map, List.all_cons, List.all_map]
    have e : ((fun i => !tw (A ++ (l :: S).take i) ((l :: S).getD i [])) ∘ Nat.succ) = fun i => !tw (A ++ [l] ++ S.take i) (S.getD i []) := by
      funext i
      simp [List.getD_eq_getElem?_getD]
    rw [e]
    simp only [List.take_zero, List.append_nil, List.getD_cons_zero]
    cases fne l <;> cases tw A l <;> cases S.all fne <;> simp
theorem sok_ap (S : List (List Int)) : sok [] S = (S.all fne && apB S) := by
  rw [sok_eq]; unfold apB; simp only [List.nil_append]
/-- Are sets those of a right stripe? -/
def rsB (S : List (List Int)) : Bool := decide (1 ≤ S.length) && decide (S.length ≤ 8) && sok [] S
theorem stok_rs (s : Stp) : stok s = (decide (s.1 < s.2.1) && decide (s.2.1 ≤ 4611686018427387904) && rsB s.2.2) := by
  unfold stok rsB
  simp only [Bool.and_assoc]
theorem all_fne {S : List (List Int)} (h : ∀ j, j < S.length → fne (S.getD j []) = true) : S.all fne = true := by
  rw [List.all_eq_true]
  intro l hl
  obtain ⟨j, hj, e⟩ := List.mem_iff_getElem.1 hl
  have := h j hj
  rw [List.getD_eq_getElem?_getD, List.getElem?_eq_getElem hj, Option.getD_some, e] at this
  exact this
theorem not_all_fne {S : List (List Int)} {j : Nat} (hj : j < S.length) (h : fne (S.getD j []) = false) : S.all fne = false := by
  cases e : S.all fne with
  | false => rfl
  | true =>
    rw [List.all_eq_true] at e
    have := e _ (List.getElem_mem hj)
    rw [List.getD_eq_getElem?_getD, List.getElem?_eq_getElem hj, Option.getD_some] at h
    rw [h] at this; cases this
theorem rsB_no {S : List (List Int)} {j : Nat} (hj : j < S.length) (h : fne (S.getD j []) = false) : rsB S = false := by
  unfold rsB; rw [sok_ap, not_all_fne hj h]; simp
theorem rsB_end {S : List (List Int)} (h0 : 1 ≤ S.length) (h1 : S.length ≤ 8) (h : ∀ j, j < S.length → fne (S.getD j []) = true) : rsB S = apB S := by
  unfold rsB; rw [sok_ap, all_fne h, decide_eq_true h0, decide_eq_true h1]; simp

/-- A stripe as a value. -/
abbrev stagg (f t : Int) (A : Option Addr) (n m : Nat) : Value := .agg #[.int .u64 f, .int .u64 t, .slice A n m]
abbrev stc (f t : Int) (A : Option Addr) (n m : Nat) : Array Value := #[.int .u64 f, .int .u64 t, .slice A n m]
end Go.Proofs.Ytgdcbfekekefiaa.Cur

namespace Go.Proofs.Ytgdcbfekekefiaa.Cur
open Go.RowKit Mem
set_option linter.unusedVariables false
set_option maxRecDepth 100000


theorem has_yes {z : List Int} {x : Int} {j : Nat} (hj : j < z.length) (h : z.getD j 0 = x) : z.contains x = true := by
  rw [← h]; simpa using getD_mem hj
theorem has_no {z : List Int} {x : Int} (h : ∀ j, j < z.length → z.getD j 0 ≠ x) : z.contains x = false := by
  cases e : z.contains x with
  | false => rfl
  | true =>
    have hm : x ∈ z := by simpa using e
    obtain ⟨j, hj, e2⟩ := List.mem_iff_getElem.1 hm
    have := h j hj
    rw [List.getD_eq_getElem?_getD, List.getElem?_eq_getElem hj] at this
    exact absurd e2 this

set_option maxHeartbeats 1000000 in
theorem rhas_any (A : Option Addr) (n m : Nat) (z : List Int) (x : Int) (w : World) (hz : Us w A n z) (hn : n ≤ 1000000) :
    Calls Try.prog 16 #[.slice A n m, .int .u64 x] w (BPost (.bool (z.contains x)) w) := by
  unfold BPost
  have HL := Lib.hid hz.1
  have HC : Hid (n ≠ 0 → ∃ g o, A = some ⟨g, o, none⟩ ∧ g < w.heap.size ∧ ∀ w', Below w.heap.size w w' → ∀ k, k < n → w'.cell? ⟨g, o + k, none⟩ = some (.int .u64 (z.getD k 0))) := Lib.hid fun h => hz.cells (by omega)
  have HYES := Lib.hid (fun j => has_yes (z := z) (x := x) (j := j))
  have HNO := Lib.hid (has_no (z := z) (x := x))
  generalize z.contains x = r at *
  clear hz
  go_enter Try.func16, Try.ntmps16
  go_wp2
  go_loopw [5] (fun i wr => ∃ k : Nat, k ≤ n ∧ i = .int .i64 k ∧ Hid (∀ j, j < k → z.getD j 0 ≠ x) ∧ Below w.heap.size w wr) (fun i _ => n - (intOf i).toNat)
  case atStart => exact ⟨0, by omega, rfl, Lib.hid (by intro j hj; omega), Below.refl _ _⟩
  case round =>
    obtain ⟨k, hk, rfl, hj, hb⟩ := hrel
    by_cases hlt : k < n
    · obtain ⟨g, o, rfl, hg, hc⟩ := HC.out (by omega)
      have c0 := hc wr hb k hlt
      obtain ⟨y, hy⟩ : ∃ y, y = z.getD k 0 := ⟨_, rfl⟩
      rw [← hy] at c0
      have HY := Lib.hid hy
      have e2 : (k : Int) < n := by omega
      have e3 : IntKind.i64.wrap ((k : Int) + 1) = ((k + 1 : Nat) : Int) := IntWalk.i64_in _ (by omega)
      clear hc hy
      by_cases he : y = x
      · have hb2 : (y == x) = true := by simpa using he
        have HR : Hid (r = true) := Lib.hid (HYES.out k (by rw [HL.out]; exact hlt) (by rw [← HY.out]; exact he))
        have HB := Lib.hid hb
        clear he hj hb
        go_wp2
        go_ret
        exact ⟨by rw [HR.out]; rfl, HB.out⟩
      · have hb2 : (y == x) = false := by simpa using he
        have HNE := Lib.hid he
        clear he
        go_wp2
        go_roundw
        case rel => exact ⟨k + 1, by omega, by go_num, Lib.hid (fun j hjk => by
          rcases Nat.lt_or_ge j k with h | h
          · exact hj.out j h
          · obtain rfl : j = k := by omega
            rw [← HY.out]; exact HNE.out), hb⟩
        case measure => simp [intOf]; omega
    · obtain rfl : k = n := by omega
      go_wp2
      go_ret
      exact ⟨by rw [HNO.out (fun j hj2 => hj.out j (by rw [HL.out] at hj2; exact hj2))]; rfl, hb⟩

theorem tw_at {S : List (List Int)} {l : List Int} {i j : Nat} (hi : i < S.length) (hj : j < l.length) (h : (S.getD i []).contains (l.getD j 0) = true) : tw S l = true :=
  tw_yes hj (by
    rw [List.any_eq_true]
    refine ⟨S.getD i [], ?_, h⟩
    rw [List.getD_eq_getElem?_getD, List.getElem?_eq_getElem hi]
    exact List.getElem_mem hi)
theorem tw_none {S : List (List Int)} {l : List Int} (h : ∀ i, i < S.length → ∀ j, j < l.length → (S.getD i []).contains (l.getD j 0) = false) : tw S l = false :=
  tw_no fun j hj => by
    rw [List.any_eq_false]
    intro s hs hh
    obtain ⟨i, hi, e⟩ := List.mem_iff_getElem.1 hs
    have := h i hi j hj
    rw [List.getD_eq_getElem?_getD, List.getElem?_eq_getElem hi, Option.getD_some, e] at this
    rw [this] at hh; cases hh
theorem getD_take {S : List (List Int)} {k i : Nat} (h : i < k) : (S.take k).getD i [] = S.getD i [] := by
  rw [List.getD_eq_getElem?_getD, List.getD_eq_getElem?_getD, List.getElem?_take_of_lt h]

theorem sok_all : ∀ (S A : List (List Int)), sok A S = (List.range S.length).all fun i => seok (A ++ S.take i) (S.getD i [])
  | [], A => rfl
  | l :: S, A => by
    unfold sok
    rw [sok_all S (A ++ [l]), List.length_cons, List.range_succ_eq_map, List.all_cons, List.all_map]
    have e : ((fun i => seok (A ++ (l :: S).take i) ((l :: S).getD i [])) ∘ Nat.succ) = fun i => seok (A ++ [l] ++ S.take i) (S.getD i []) := by
      funext i
      simp [List.getD_eq_getElem?_getD]
    rw [e]
    simp
theorem sok_yes {S : List (List Int)} (h : ∀ i, i < S.length → seok (S.take i) (S.getD i []) = true) : sok [] S = true := by
  rw [sok_all, List.all_eq_true]
  intro i hi
  rw [List.nil_append]; exact h i (List.mem_range.1 hi)
theorem sok_no {S : List (List Int)} {i : Nat} (hi : i < S.length) (h : seok (S.take i) (S.getD i []) = false) : sok [] S = false := by
  cases e : sok [] S with
  | false => rfl
  | true =>
    rw [sok_all, List.all_eq_true] at e
    have := e i (List.mem_range.2 hi)
    rw [List.nil_append, h] at this; cases this

end Go.Proofs.Ytgdcbfekekefiaa.Cur
