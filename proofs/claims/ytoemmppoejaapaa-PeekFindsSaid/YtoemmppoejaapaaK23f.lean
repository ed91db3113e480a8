/- As the seat's text, without what nothing here names. -/
import Derived.Test.YtoemmppoejaapaaK1f
import Derived.Deep.Slices
import Derived.Deep.Strs
import Derived.ChangeSame
import Derived.Test.YtoemmppoejaapaaK5f
import Derived.IntWalk
namespace Go.Proofs.Ytoemmppoejaapaa.Cur
open Go.RowKit Mem Go.ChangeShapes Go.WideShapes
set_option linter.unusedVariables false
set_option maxRecDepth 100000
structure El (α : Type) where
  k : Nat
  R : World → (Nat → Prop) → List Value → α → Prop
  len : ∀ {w P c x}, R w P c x → c.length = k
  one : ∀ {w P c x}, R w P c x → ∀ u ∈ c, u.oneCell' = true
  keep : ∀ {w P c x} {w' : World}, R w P c x → (∀ b, P b → b < w.heap.size → w'.heap[b]? = w.heap[b]?) → R w' P c x
  mono : ∀ {w P c x} {Q : Nat → Prop}, R w P c x → (∀ b, P b → b < w.heap.size → Q b) → R w Q c x
def RwP (w : World) (P : Nat → Prop) (A : Option Addr) (xs : List Value) : Prop := 0 < xs.length → ∃ k o, A = some ⟨k, o, none⟩ ∧ P k ∧ ∀ i v, xs[i]? = some v → w.cell? ⟨k, o + i, none⟩ = some v
theorem RwP.rw {w : World} {P : Nat → Prop} {A : Option Addr} {xs : List Value} (h : RwP w P A xs) : Rw w A xs := fun hn => by
  obtain ⟨k, o, e, _, hc⟩ := h hn
  exact ⟨k, o, e, hc⟩
theorem RwP.keep {w w' : World} {P : Nat → Prop} {A : Option Addr} {xs : List Value} (h : RwP w P A xs) (hk : ∀ b, P b → b < w.heap.size → w'.heap[b]? = w.heap[b]?) : RwP w' P A xs := fun hn => by
  obtain ⟨k, o, e, hP, hc⟩ := h hn
  refine ⟨k, o, e, hP, fun i v hi => ?_⟩
  have h1 := hc i v hi
  exact (World.cell?_of_block (w := w) (hk k hP (lt_of_cell h1))).trans h1
theorem RwP.mono {w : World} {P Q : Nat → Prop} {A : Option Addr} {xs : List Value} (h : RwP w P A xs) (hq : ∀ b, P b → b < w.heap.size → Q b) : RwP w Q A xs := fun hn => by
  obtain ⟨k, o, e, hP, hc⟩ := h hn
  exact ⟨k, o, e, hq k hP (lt_of_cell (hc 0 _ (List.getElem?_eq_getElem hn))), hc⟩
variable {α : Type}
def Ch (E : El α) (w : World) (P : Nat → Prop) : List (List Value) → List α → Prop
  | [], [] => True
  | c :: cs, x :: xs => E.R w P c x ∧ Ch E w P cs xs
  | _, _ => False
theorem Ch.length {E : El α} {w : World} {P : Nat → Prop} : ∀ {cs : List (List Value)} {xs : List α}, Ch E w P cs xs → cs.length = xs.length
  | [], [], _ => rfl
  | c :: cs, x :: xs, h => by rw [List.length_cons, List.length_cons, Ch.length h.2]
  | [], _ :: _, h => h.elim
  | _ :: _, [], h => h.elim
theorem Ch.keep {E : El α} {w w' : World} {P : Nat → Prop} (hk : ∀ b, P b → b < w.heap.size → w'.heap[b]? = w.heap[b]?) : ∀ {cs : List (List Value)} {xs : List α}, Ch E w P cs xs → Ch E w' P cs xs
  | [], [], _ => trivial
  | c :: cs, x :: xs, h => ⟨E.keep h.1 hk, Ch.keep hk h.2⟩
  | [], _ :: _, h => h.elim
  | _ :: _, [], h => h.elim
theorem Ch.mono {E : El α} {w : World} {P Q : Nat → Prop} (hq : ∀ b, P b → b < w.heap.size → Q b) : ∀ {cs : List (List Value)} {xs : List α}, Ch E w P cs xs → Ch E w Q cs xs
  | [], [], _ => trivial
  | c :: cs, x :: xs, h => ⟨E.mono h.1 hq, Ch.mono hq h.2⟩
  | [], _ :: _, h => h.elim
  | _ :: _, [], h => h.elim
theorem Ch.snoc {E : El α} {w : World} {P : Nat → Prop} {c : List Value} {x : α} (hx : E.R w P c x) : ∀ {cs : List (List Value)} {xs : List α}, Ch E w P cs xs → Ch E w P (cs ++ [c]) (xs ++ [x])
  | [], [], _ => ⟨hx, trivial⟩
  | d :: cs, y :: xs, h => ⟨h.1, Ch.snoc hx h.2⟩
  | [], _ :: _, h => h.elim
  | _ :: _, [], h => h.elim
theorem Ch.flat {E : El α} {w : World} {P : Nat → Prop} : ∀ {cs : List (List Value)} {xs : List α}, Ch E w P cs xs → cs.flatten.length = xs.length * E.k
  | [], [], _ => by simp
  | c :: cs, x :: xs, h => by rw [List.flatten_cons, List.length_append, E.len h.1, Ch.flat h.2, List.length_cons, Nat.succ_mul]; omega
  | [], _ :: _, h => h.elim
  | _ :: _, [], h => h.elim
theorem Ch.ones {E : El α} {w : World} {P : Nat → Prop} : ∀ {cs : List (List Value)} {xs : List α}, Ch E w P cs xs → ∀ u ∈ cs.flatten, u.oneCell' = true
  | [], [], _ => fun u hu => by simp at hu
  | c :: cs, x :: xs, h => fun u hu => by
    rw [List.flatten_cons, List.mem_append] at hu
    rcases hu with hu | hu
    · exact E.one h.1 u hu
    · exact Ch.ones h.2 u hu
  | [], _ :: _, h => h.elim
  | _ :: _, [], h => h.elim
theorem Ch.at_ {E : El α} {w : World} {P : Nat → Prop} : ∀ {cs : List (List Value)} {xs : List α}, Ch E w P cs xs → ∀ (i : Nat) (x : α), xs[i]? = some x → ∃ c, E.R w P c x ∧ ∀ j u, c[j]? = some u → cs.flatten[i * E.k + j]? = some u
  | [], [], _, i, x, hx => by simp at hx
  | c :: cs, x0 :: xs, h, 0, x, hx => by
    simp at hx; subst hx
    refine ⟨c, h.1, fun j u hu => ?_⟩
    rw [Nat.zero_mul, Nat.zero_add, List.flatten_cons, List.getElem?_append_left (List.getElem?_eq_some_iff.1 hu).1]; exact hu
  | c :: cs, x0 :: xs, h, i + 1, x, hx => by
    obtain ⟨d, hd, hj⟩ := Ch.at_ h.2 i x (by simpa using hx)
    refine ⟨d, hd, fun j u hu => ?_⟩
    have hl := E.len h.1
    rw [List.flatten_cons, List.getElem?_append_right (by rw [hl, Nat.succ_mul]; omega), hl, show (i + 1) * E.k + j - E.k = i * E.k + j by rw [Nat.succ_mul]; omega]
    exact hj j u hu
  | [], _ :: _, h, _, _, _ => h.elim
  | _ :: _, [], h, _, _, _ => h.elim
def Sq (E : El α) (w : World) (P : Nat → Prop) (A : Option Addr) (xs : List α) : Prop := ∃ cs, Ch E w P cs xs ∧ RwP w P A cs.flatten
theorem Sq.keep {E : El α} {w w' : World} {P : Nat → Prop} {A : Option Addr} {xs : List α} (h : Sq E w P A xs) (hk : ∀ b, P b → b < w.heap.size → w'.heap[b]? = w.heap[b]?) : Sq E w' P A xs := by
  obtain ⟨cs, h1, h2⟩ := h
  exact ⟨cs, h1.keep hk, h2.keep hk⟩
theorem Sq.mono {E : El α} {w : World} {P Q : Nat → Prop} {A : Option Addr} {xs : List α} (h : Sq E w P A xs) (hq : ∀ b, P b → b < w.heap.size → Q b) : Sq E w Q A xs := by
  obtain ⟨cs, h1, h2⟩ := h
  exact ⟨cs, h1.mono hq, h2.mono hq⟩
theorem Sq.below {E : El α} {w w' : World} {P : Nat → Prop} {A : Option Addr} {xs : List α} (h : Sq E w P A xs) (hb : Below w.heap.size w w') : Sq E w' P A xs := h.keep fun b _ hlt => hb.block b hlt
theorem Sq.nil (E : El α) (w : World) (P : Nat → Prop) (A : Option Addr) : Sq E w P A [] := ⟨[], trivial, fun h => absurd h (by simp)⟩
theorem Sq.at_ {E : El α} {w : World} {P : Nat → Prop} {A : Option Addr} {xs : List α} (h : Sq E w P A xs) (hk : 0 < E.k) {i : Nat} {x : α} (hx : xs[i]? = some x) :
    ∃ g o c, A = some ⟨g, o, none⟩ ∧ P g ∧ g < w.heap.size ∧ E.R w P c x ∧ ∀ j u, c[j]? = some u → w.cell? ⟨g, o + i * E.k + j, none⟩ = some u := by
  obtain ⟨cs, h1, h2⟩ := h
  have hi := (List.getElem?_eq_some_iff.1 hx).1
  have hp : 0 < cs.flatten.length := by rw [h1.flat]; exact Nat.mul_pos (by omega) hk
  obtain ⟨g, o, e, hP, hc⟩ := h2 hp
  obtain ⟨c, hR, hj⟩ := h1.at_ i x hx
  refine ⟨g, o, c, e, hP, lt_of_cell (hc 0 _ (List.getElem?_eq_getElem hp)), hR, fun j u hu => ?_⟩
  have := hc _ _ (hj j u hu)
  rwa [← Nat.add_assoc] at this
def SlE (E : El α) : El (List α) where
  k := 1
  R := fun w P c xs => ∃ A m, c = [.slice A xs.length m] ∧ xs.length ≤ m ∧ (A = none → m = 0) ∧ Sq E w P A xs
  len := fun ⟨A, m, e, _⟩ => by rw [e]; rfl
  one := fun ⟨A, m, e, _⟩ u hu => by rw [e] at hu; simp at hu; subst hu; rfl
  keep := fun ⟨A, m, e, h1, h2, h3⟩ hk => ⟨A, m, e, h1, h2, h3.keep hk⟩
  mono := fun ⟨A, m, e, h1, h2, h3⟩ hq => ⟨A, m, e, h1, h2, h3.mono hq⟩
def U64E : El Int where
  k := 1
  R := fun _ _ c x => c = [.int .u64 x] ∧ 0 ≤ x ∧ x < 18446744073709551616
  len := fun ⟨e, _⟩ => by rw [e]; rfl
  one := fun ⟨e, _⟩ u hu => by rw [e] at hu; simp at hu; subst hu; rfl
  keep := fun h _ => h
  mono := fun h _ => h
def PrE {β : Type} (E : El α) (F : El β) : El (α × β) where
  k := E.k + F.k
  R := fun w P c x => ∃ d e, c = d ++ e ∧ E.R w P d x.1 ∧ F.R w P e x.2
  len := fun ⟨d, e, h, h1, h2⟩ => by rw [h, List.length_append, E.len h1, F.len h2]
  one := fun ⟨d, e, h, h1, h2⟩ u hu => by
    rw [h, List.mem_append] at hu
    rcases hu with hu | hu
    · exact E.one h1 u hu
    · exact F.one h2 u hu
  keep := fun ⟨d, e, h, h1, h2⟩ hk => ⟨d, e, h, E.keep h1 hk, F.keep h2 hk⟩
  mono := fun ⟨d, e, h, h1, h2⟩ hq => ⟨d, e, h, E.mono h1 hq, F.mono h2 hq⟩
theorem Sq.us {w : World} {P : Nat → Prop} {A : Option Addr} {z : List Int} (h : Sq U64E w P A z) : Us w A z.length z ∧ ∀ x ∈ z, 0 ≤ x ∧ x < 18446744073709551616 := by
  obtain ⟨cs, h1, h2⟩ := h
  have key : ∀ (cs : List (List Value)) (z : List Int), Ch U64E w P cs z → cs.flatten = uv z ∧ ∀ x ∈ z, 0 ≤ x ∧ x < 18446744073709551616 := by
    intro cs
    induction cs with
    | nil => intro z h; cases z with
      | nil => exact ⟨rfl, fun x hx => by simp at hx⟩
      | cons x z => exact h.elim
    | cons c cs ih => intro z h; cases z with
      | nil => exact h.elim
      | cons x z =>
        obtain ⟨⟨e, b⟩, h2⟩ := h
        obtain ⟨i1, i2⟩ := ih z h2
        refine ⟨by rw [List.flatten_cons, e, i1]; rfl, fun y hy => ?_⟩
        rcases List.mem_cons.1 hy with rfl | hy
        · exact b
        · exact i2 y hy
  obtain ⟨k1, k2⟩ := key cs z h1
  rw [k1] at h2
  exact ⟨⟨rfl, h2.rw⟩, k2⟩
theorem Us.sq {w : World} {A : Option Addr} {n : Nat} {z : List Int} (h : Us w A n z) (hb : ∀ x ∈ z, 0 ≤ x ∧ x < 18446744073709551616) {P : Nat → Prop} (hP : 0 < n → ∀ a, A = some a → P a.block) : Sq U64E w P A z := by
  refine ⟨z.map fun x => [.int .u64 x], ?_, ?_⟩
  · have : ∀ l : List Int, (∀ x ∈ l, 0 ≤ x ∧ x < 18446744073709551616) → Ch U64E w P (l.map fun x => [.int .u64 x]) l := by
      intro l
      induction l with
      | nil => intro _; trivial
      | cons x l ih => intro hl; exact ⟨⟨rfl, hl x (by simp)⟩, ih fun y hy => hl y (by simp [hy])⟩
    exact this z hb
  · have key : ∀ l : List Int, (l.map fun x => [Value.int .u64 x]).flatten = uv l := by
      intro l
      induction l with
      | nil => rfl
      | cons x l ih => rw [List.map_cons, List.flatten_cons, ih]; rfl
    have e := key z
    rw [e]
    intro hn
    obtain ⟨k, o, ea, hc⟩ := h.2 hn
    exact ⟨k, o, ea, hP (by rw [← h.1]; rw [List.length_map] at hn; exact hn) _ ea, hc⟩
def OwnQ (E : El α) (e : TypeId) (w : World) (B : Nat) (P : Nat → Prop) (v : Value) (xs : List α) : Prop :=
  ∃ cs, Ch E w P cs xs ∧ w.ownsRow B e E.k v xs.length cs.flatten ∧ ∀ g, v.ownBlock = some g → ¬ P g
theorem OwnQ.nil (E : El α) (e : TypeId) (w : World) (B : Nat) (P : Nat → Prop) : OwnQ E e w B P (.slice none 0 0) [] := ⟨[], trivial, World.ownsRow_nil w B e E.k, fun g h => by cases h⟩
theorem OwnQ.slice {E : El α} {e : TypeId} {w : World} {B : Nat} {P : Nat → Prop} {v : Value} {xs : List α} (h : OwnQ E e w B P v xs) : ∃ A c, v = .slice A xs.length c ∧ xs.length ≤ c ∧ (A = none → c = 0) ∧ Sq E w (fun b => P b ∨ v.ownBlock = some b) A xs := by
  obtain ⟨cs, h1, h2, _⟩ := h
  obtain ⟨A, c, rfl, hn, hc⟩ := own_slice h2
  refine ⟨A, c, rfl, hc, hn, cs, h1.mono fun b hb _ => .inl hb, fun hp => ?_⟩
  obtain ⟨k, o, ea, hcell⟩ := (own_rw h2 rfl).2.2.2 hp
  exact ⟨k, o, ea, .inr (by rw [ea]; rfl), hcell⟩
theorem OwnQ.below {E : El α} {e : TypeId} {w w' : World} {B : Nat} {P : Nat → Prop} {v : Value} {xs : List α} (h : OwnQ E e w B P v xs) (hb : Below w.heap.size w w') : OwnQ E e w' B P v xs := by
  obtain ⟨cs, h1, h2, h3⟩ := h
  exact ⟨cs, h1.keep fun b _ hlt => hb.block b hlt, own_below h2 hb, h3⟩
theorem OwnQ.mono {E : El α} {e : TypeId} {w : World} {B : Nat} {P Q : Nat → Prop} {v : Value} {xs : List α} (h : OwnQ E e w B P v xs) (hq : ∀ b, P b → b < w.heap.size → Q b) (hn : ∀ g, v.ownBlock = some g → ¬ Q g) : OwnQ E e w B Q v xs := by
  obtain ⟨cs, h1, h2, _⟩ := h
  exact ⟨cs, h1.mono hq, h2, hn⟩
theorem OwnQ.snoc {E : El α} {e : TypeId} {w w' : World} {B : Nat} {P : Nat → Prop} {v v' : Value} {xs : List α} {cs : List (List Value)} {c : List Value} {x : α} (h1 : Ch E w P cs xs) (h3 : ∀ g, v.ownBlock = some g → ¬ P g)
    (hx : E.R w P c x) (ho : w'.ownsRow B e E.k v' (xs.length + 1) (cs.flatten ++ c)) (hg : w.grownBy w' v.ownBlock) (hgr : Gr v.ownBlock v'.ownBlock w) : OwnQ E e w' B (fun b => P b ∧ b < w.heap.size) v' (xs ++ [x]) := by
  have hk : ∀ b, P b → b < w.heap.size → w'.heap[b]? = w.heap[b]? := fun b hb hlt => hg.block b hlt fun e => h3 b e.symm hb
  have hP : ∀ b, P b → b < w.heap.size → (P b ∧ b < w.heap.size) := fun b hb hlt => ⟨hb, hlt⟩
  refine ⟨cs ++ [c], ?_, by rw [List.length_append, List.flatten_append]; simpa using ho, fun g hgb hh => ?_⟩
  · exact Ch.snoc (E.keep (E.mono hx hP) fun b hb hlt => hk b hb.1 hlt) ((h1.mono hP).keep fun b hb hlt => hk b hb.1 hlt)
  · rcases hgr with e | ⟨g', e, hg'⟩
    · exact h3 g (by rw [← e]; exact hgb) hh.1
    · rw [e] at hgb; injection hgb with hgb; omega
theorem pick_n {p : Nat → List Value → α → Prop} : ∀ n : Nat, (∀ i, i < n → ∃ c x, p i c x) → ∃ (cs : List (List Value)) (xs : List α), cs.length = n ∧ xs.length = n ∧ ∀ i c x, cs[i]? = some c → xs[i]? = some x → p i c x
  | 0, _ => ⟨[], [], rfl, rfl, fun i c x h => by simp at h⟩
  | n + 1, h => by
    obtain ⟨cs, xs, h1, h2, h3⟩ := pick_n n fun i hi => h i (by omega)
    obtain ⟨c, x, hp⟩ := h n (by omega)
    refine ⟨cs ++ [c], xs ++ [x], by simp [h1], by simp [h2], fun i d y hd hy => ?_⟩
    have hi : i < n + 1 := by have := (List.getElem?_eq_some_iff.1 hd).1; simpa [h1] using this
    rcases Nat.lt_or_ge i n with hlt | hge
    · rw [List.getElem?_append_left (by omega)] at hd hy
      exact h3 i d y hd hy
    · obtain rfl : i = n := by omega
      rw [List.getElem?_append_right (by omega), h1, Nat.sub_self] at hd
      rw [List.getElem?_append_right (by omega), h2, Nat.sub_self] at hy
      simp at hd hy
      subst hd hy
      exact hp
theorem Ch.of {E : El α} {w : World} {P : Nat → Prop} : ∀ {cs : List (List Value)} {xs : List α}, cs.length = xs.length → (∀ (i : Nat) (c : List Value) (x : α), cs[i]? = some c → xs[i]? = some x → E.R w P c x) → Ch E w P cs xs
  | [], [], _, _ => trivial
  | c :: cs, x :: xs, hl, h => ⟨h 0 c x rfl rfl, Ch.of (by simpa using hl) fun i d y hd hy => h (i + 1) d y (by simpa using hd) (by simpa using hy)⟩
  | [], _ :: _, hl, _ => by simp at hl
  | _ :: _, [], hl, _ => by simp at hl
theorem flat_at {k : Nat} : ∀ {cs : List (List Value)}, (∀ c ∈ cs, c.length = k) → ∀ (t : Nat) (v : Value), cs.flatten[t]? = some v → ∃ i j c, t = i * k + j ∧ j < k ∧ cs[i]? = some c ∧ c[j]? = some v
  | [], _, t, v, h => by simp at h
  | c :: cs, hl, t, v, h => by
    have hc := hl c (by simp)
    rw [List.flatten_cons] at h
    by_cases ht : t < k
    · rw [List.getElem?_append_left (by omega)] at h
      exact ⟨0, t, c, by omega, ht, rfl, h⟩
    · rw [List.getElem?_append_right (by omega), hc] at h
      obtain ⟨i, j, d, e, hj, hd, hv⟩ := flat_at (fun d hd => hl d (by simp [hd])) (t - k) v h
      exact ⟨i + 1, j, d, by rw [Nat.succ_mul]; omega, hj, by simpa using hd, hv⟩
theorem addr_flatk {b o i j k : Nat} : ((⟨b, o, none⟩ : Addr).add (i * k)).add j = ⟨b, o + (i * k + j), none⟩ := by
  rw [Go.Deep.add_add]
  unfold Addr.add
  split
  · rename_i h
    rw [show i * k + j = 0 by omega]; rfl
  · rfl
def Opens (E : El α) (t : TypeId) : Prop := ∀ {H : Type} {enc : TypeId × Value → H} {w : World} {fuel : Nat} {cs : List Value} {x : DataW H × List MemPlace}, DataW.trod enc Try.prog w 0 (fun _ => true) true fuel t cs = some x → ∃ y, E.R w (fun _ => True) cs y
theorem opens_u64 {t : TypeId} (hu : Try.prog.underlying t = some (.int .u64)) : Opens U64E t := by
  intro H enc w fuel cs x h
  obtain ⟨y, e, _, r⟩ := DataW.trod_int hu h
  have := bounds_u64 r
  exact ⟨y, e, by omega, by omega⟩
theorem opens_slice {E : El α} {sl e : TypeId} (hu : Try.prog.underlying sl = some (.slice e)) (hc : Try.prog.cellsOf e = E.k) (hk : 0 < E.k) (ho : Opens E e) : Opens (SlE E) sl := by
  intro H enc w fuel cs x h
  rcases Go.Deep.open_slice hu h with ⟨rfl, _⟩ | ⟨a, n, m, k, _, D, Pl, rfl, _, hl, _, hkk, _, hi⟩
  · exact ⟨[], none, 0, rfl, Nat.le_refl _, fun _ => rfl, Sq.nil _ _ _ _⟩
  · have hkn : n ≤ k := by rw [hkk]; split <;> omega
    have each : ∀ i, i < n → ∃ (c : List Value) (y : α), E.R w (fun _ => True) c y ∧ ∀ j v, c[j]? = some v → w.cell? ((a.add (i * E.k)).add j) = some v := fun i hin => by
      obtain ⟨cs', h1, h2⟩ := hi i (by omega)
      rw [hc] at h1
      obtain ⟨_, hlen, hcell⟩ := World.cells?_some h1
      obtain ⟨y, hy⟩ := ho h2
      exact ⟨cs', y, hy, fun j v hv => by rw [hcell j (by rw [← hlen]; exact (List.getElem?_eq_some_iff.1 hv).1), hv]⟩
    obtain ⟨cs, xs, l1, l2, hp⟩ := pick_n n each
    have hch : Ch E w (fun _ => True) cs xs := Ch.of (by omega) fun i c x hc hx => (hp i c x hc hx).1
    refine ⟨xs, some a, m, by rw [l2], by omega, (fun e => by cases e), cs, hch, fun hpos => ?_⟩
    obtain ⟨b, off, spot⟩ := a
    have hcl : ∀ c ∈ cs, c.length = E.k := fun c hcm => by
      obtain ⟨i, hi, e⟩ := List.mem_iff_getElem.1 hcm
      have h1 : cs[i]? = some c := by rw [List.getElem?_eq_getElem hi, e]
      have h2 : xs[i]? = some xs[i] := List.getElem?_eq_getElem (by omega)
      exact E.len (hp i c _ h1 h2).1
    have hspot : spot = none := by
      obtain ⟨i, j, c, e, _, hci, hv⟩ := flat_at hcl 0 _ (List.getElem?_eq_getElem hpos)
      have hxi : xs[i]? = some (xs[i]'(by have := (List.getElem?_eq_some_iff.1 hci).1; omega)) := List.getElem?_eq_getElem _
      have := (hp i c _ hci hxi).2 j _ hv
      rw [Go.Deep.add_add, ← e] at this
      simpa [Addr.add] using World.cell?_spot this
    subst hspot
    refine ⟨b, off, rfl, trivial, fun t v hv => ?_⟩
    obtain ⟨i, j, c, e, _, hci, hcv⟩ := flat_at hcl t v hv
    have hxi : xs[i]? = some (xs[i]'(by have := (List.getElem?_eq_some_iff.1 hci).1; omega)) := List.getElem?_eq_getElem _
    have := (hp i c _ hci hxi).2 j v hcv
    rw [addr_flatk, ← e] at this
    exact this
theorem opens_pair {β : Type} {E : El α} {F : El β} {t : TypeId} {f0 f1 : Field} (hu : Try.prog.underlying t = some (.struct #[f0, f1])) (h0 : f0.offset = 0) (h1 : f1.offset = E.k) (hc : Try.prog.cellsOf t = E.k + F.k)
    (c0 : Try.prog.cellsOf f0.type = E.k) (c1 : Try.prog.cellsOf f1.type = F.k) (ho : Opens E f0.type) (ho1 : Opens F f1.type) : Opens (PrE E F) t := by
  intro H enc w fuel cs x h
  obtain ⟨y0, y1, n, _, hl, t0, t1⟩ := trod_struct2 hu h
  obtain ⟨a, ha⟩ := ho t0
  obtain ⟨b, hb⟩ := ho1 t1
  rw [h0, c0, List.drop_zero] at ha
  rw [h1, c1] at hb
  refine ⟨(a, b), cs.take E.k, (cs.drop E.k).take F.k, ?_, ha, hb⟩
  rw [List.take_of_length_le (l := cs.drop E.k) (by rw [List.length_drop, hl, hc]; omega), List.take_append_drop]
theorem opens_three {β γ : Type} {E : El α} {F : El β} {G : El γ} {t : TypeId} {f0 f1 f2 : Field} (hu : Try.prog.underlying t = some (.struct #[f0, f1, f2])) (h0 : f0.offset = 0) (h1 : f1.offset = E.k) (h2 : f2.offset = E.k + F.k) (hc : Try.prog.cellsOf t = E.k + F.k + G.k)
    (c0 : Try.prog.cellsOf f0.type = E.k) (c1 : Try.prog.cellsOf f1.type = F.k) (c2 : Try.prog.cellsOf f2.type = G.k) (ho : Opens E f0.type) (ho1 : Opens F f1.type) (ho2 : Opens G f2.type) : Opens (PrE E (PrE F G)) t := by
  intro H enc w fuel cs x h
  obtain ⟨y0, y1, y2, n, _, hl, t0, t1, t2⟩ := Go.Deep.trod_struct3 hu h
  obtain ⟨a, ha⟩ := ho t0
  obtain ⟨b, hb⟩ := ho1 t1
  obtain ⟨c, hcc⟩ := ho2 t2
  rw [h0, c0, List.drop_zero] at ha
  rw [h1, c1] at hb
  rw [h2, c2] at hcc
  refine ⟨(a, b, c), cs.take E.k, cs.drop E.k, (List.take_append_drop _ _).symm, ha, (cs.drop E.k).take F.k, (cs.drop (E.k + F.k)).take G.k, ?_, hb, hcc⟩
  rw [List.take_of_length_le (l := cs.drop (E.k + F.k)) (by rw [List.length_drop, hl, hc]; omega), ← List.drop_drop, List.take_append_drop]
theorem open_st {H : Type} {enc : TypeId × Value → H} {w : World} {base : Nat} {v : Value} {d : DataW H} {p : List MemPlace} {E : El α} {t : TypeId} {fs : Array Field} (hu : Try.prog.underlying t = some (.struct fs)) (ho : Opens E t)
    (g : Value.okWide Try.prog w .any base t v) (h : DataW.Trod enc Try.prog w 0 (fun _ => true) true t v d p) : ∃ cs x, v = .agg cs ∧ E.R w (fun _ => True) cs.toList x := by
  obtain ⟨cs, rfl, _⟩ := okWide_struct hu g
  obtain ⟨fuel, hf⟩ := h
  obtain ⟨x, hx⟩ := ho hf
  exact ⟨cs, x, rfl, by simpa [Value.cells] using hx⟩
end Go.Proofs.Ytoemmppoejaapaa.Cur
namespace Go.Proofs.Ytoemmppoejaapaa.Cur
set_option linter.unusedVariables false
end Go.Proofs.Ytoemmppoejaapaa.Cur
namespace Go.Proofs.Ytoemmppoejaapaa.Cur
open Go.RowKit Mem
set_option linter.unusedVariables false
def rg (z : List Int) (N : Nat) (p : Int) : Rs (List Int) := rgo z N p []
def mny (z : List Int) (mo p : Int) : Rs Int := (vm z mo p).bind 0 fun k p1 => if k = 0 then (0, 0, 3, p) else (k, p1, 0, 0)
def tw (S : List (List Int)) (l : List Int) : Bool := S.any fun s => l.any fun x => s.contains x
def stl (z : List Int) (S : List (List Int)) (p : Int) : Rs (List Int) :=
  (mny z 8 p).bind [] fun m p1 => (rg z m.toNat p1).bind [] fun l p2 => if 4294967296 ≤ l.getD (l.length - 1) 0 then ([], 0, 3, p1) else if tw S l then ([], 0, 13, p1) else (l, p2, 0, 0)
def ssg (z : List Int) : Nat → Int → List (List Int) → Rs (List (List Int))
  | 0, p, S => (S, p, 0, 0)
  | k + 1, p, S => (stl z S p).bind [] fun l p' => ssg z k p' (S ++ [l])
def sbds (S : List (List Int)) : Prop := ∀ l ∈ S, ∀ x ∈ l, 0 ≤ x ∧ x < 18446744073709551616
abbrev Stp := Int × Int × List (List Int)
def stp0 : Stp := (0, 0, [])
def str (z : List Int) (from_ p : Int) : Rs Stp :=
  if 4611686018427387904 < from_ then (stp0, 0, 3, p)
  else (vg z p).bind stp0 fun n p1 => if 4611686018427387904 - from_ ≤ n then (stp0, 0, 3, p)
    else (mny z 8 p1).bind stp0 fun k p2 => (ssg z k.toNat p2 []).bind stp0 fun S p3 => ((from_, from_ + n + 1, S), p3, 0, 0)
end Go.Proofs.Ytoemmppoejaapaa.Cur
namespace Go.Proofs.Ytoemmppoejaapaa.Cur
open Go.RowKit Mem
set_option linter.unusedVariables false
set_option maxRecDepth 100000
def Sts (w : World) (P : Nat → Prop) (A : Option Addr) (n : Nat) (S : List (List Int)) : Prop := S.length = n ∧ Sq (SlE U64E) w P A S
theorem Sts.keep {w w' : World} {P : Nat → Prop} {A : Option Addr} {n : Nat} {S : List (List Int)} (h : Sts w P A n S) (hk : ∀ b, P b → b < w.heap.size → w'.heap[b]? = w.heap[b]?) : Sts w' P A n S := ⟨h.1, h.2.keep hk⟩
theorem Sts.mono {w : World} {P Q : Nat → Prop} {A : Option Addr} {n : Nat} {S : List (List Int)} (h : Sts w P A n S) (hq : ∀ b, P b → b < w.heap.size → Q b) : Sts w Q A n S := ⟨h.1, h.2.mono hq⟩
theorem Sts.below {w w' : World} {P : Nat → Prop} {A : Option Addr} {n : Nat} {S : List (List Int)} (h : Sts w P A n S) (hb : Below w.heap.size w w') : Sts w' P A n S := ⟨h.1, h.2.below hb⟩
theorem Sts.cells {w : World} {P : Nat → Prop} {A : Option Addr} {n : Nat} {S : List (List Int)} (h : Sts w P A n S) (hn : n ≠ 0) :
    ∃ g o, A = some ⟨g, o, none⟩ ∧ P g ∧ g < w.heap.size ∧ ∀ k, k < n → ∃ a l m, (S.getD k []).length = l ∧ l ≤ m ∧ (a = none → m = 0) ∧ Us w a l (S.getD k []) ∧ (0 < l → ∀ ad, a = some ad → P ad.block) ∧ (∀ x ∈ S.getD k [], 0 ≤ x ∧ x < 18446744073709551616) ∧
      ∀ w', Below w.heap.size w w' → w'.cell? ⟨g, o + k, none⟩ = some (.slice a l m) := by
  obtain ⟨rfl, h⟩ := h
  obtain ⟨g, o, c, e, hP, hg, _⟩ := h.at_ (i := 0) (by decide) (List.getElem?_eq_getElem (Nat.pos_of_ne_zero hn))
  refine ⟨g, o, e, hP, hg, fun k hk => ?_⟩
  obtain ⟨g', o', c', e', hP', hg', ⟨a, m, hc, h1, h2, h3⟩, hcell⟩ := h.at_ (i := k) (by decide) (List.getElem?_eq_getElem hk)
  rw [e] at e'
  injection e' with e'
  injection e' with e1 e2
  subst e1 e2
  have hS : S.getD k [] = S[k] := by rw [List.getD_eq_getElem?_getD, List.getElem?_eq_getElem hk]; rfl
  rw [hS]
  obtain ⟨u1, u2⟩ := h3.us
  refine ⟨a, _, m, rfl, h1, h2, u1, fun hl ad ha => ?_, u2, fun w' hb => ?_⟩
  · obtain ⟨cs, c1, c2⟩ := h3
    obtain ⟨k', o', e2, hPk, _⟩ := c2 (by rw [c1.flat]; exact Nat.mul_pos hl (by decide))
    rw [e2] at ha
    injection ha with ha
    subst ha
    exact hPk
  have := hcell 0 _ (by rw [hc]; rfl)
  have e : o + k * (SlE U64E).k + 0 = o + k := by show o + k * 1 + 0 = o + k; omega
  rw [e] at this
  rw [← this]
  exact hb.cell (lt_of_cell this)
theorem RwP.sub {w : World} {P : Nat → Prop} {A : Option Addr} {xs ys : List Value} (h : RwP w P A (xs ++ ys)) : RwP w P A xs := fun hn => by
  obtain ⟨k, o, e, hP, hc⟩ := h (by rw [List.length_append]; omega)
  exact ⟨k, o, e, hP, fun i v hi => hc i v (by rw [List.getElem?_append_left (List.getElem?_eq_some_iff.1 hi).1]; exact hi)⟩
theorem Ch.take {α : Type} {E : El α} {w : World} {P : Nat → Prop} : ∀ {cs : List (List Value)} {xs : List α}, Ch E w P cs xs → ∀ k, Ch E w P (cs.take k) (xs.take k)
  | [], [], _, k => by rw [List.take_nil, List.take_nil]; trivial
  | c :: cs, x :: xs, h, 0 => trivial
  | c :: cs, x :: xs, h, k + 1 => ⟨h.1, Ch.take h.2 k⟩
  | [], _ :: _, h, _ => h.elim
  | _ :: _, [], h, _ => h.elim
theorem Sq.take {α : Type} {E : El α} {w : World} {P : Nat → Prop} {A : Option Addr} {xs : List α} (h : Sq E w P A xs) (k : Nat) : Sq E w P A (xs.take k) := by
  obtain ⟨cs, h1, h2⟩ := h
  refine ⟨cs.take k, h1.take k, ?_⟩
  have e : cs.flatten = (cs.take k).flatten ++ (cs.drop k).flatten := by rw [← List.flatten_append, List.take_append_drop]
  rw [e] at h2
  exact h2.sub
theorem Sts.take {w : World} {P : Nat → Prop} {A : Option Addr} {n : Nat} {S : List (List Int)} (h : Sts w P A n S) {k : Nat} (hk : k ≤ n) : Sts w P A k (S.take k) := ⟨by rw [List.length_take, h.1]; omega, h.2.take k⟩
end Go.Proofs.Ytoemmppoejaapaa.Cur
namespace Go.Proofs.Ytoemmppoejaapaa.Cur
open Go.RowKit Mem
set_option linter.unusedVariables false
set_option maxRecDepth 100000
def hli : List (List Int) → Int → Int
  | [], _ => -1
  | s :: S, x => if s.contains x = true then 0 else if hli S x < 0 then -1 else hli S x + 1
end Go.Proofs.Ytoemmppoejaapaa.Cur
namespace Go.Proofs.Ytoemmppoejaapaa.Cur
open Go.RowKit Mem
set_option linter.unusedVariables false
set_option maxRecDepth 100000
def apB (S : List (List Int)) : Bool := (List.range S.length).all fun i => !tw (S.take i) (S.getD i [])
theorem apB_yes {S : List (List Int)} (h : ∀ i, i < S.length → tw (S.take i) (S.getD i []) = false) : apB S = true := by
  unfold apB
  rw [List.all_eq_true]
  intro i hi
  rw [h i (List.mem_range.1 hi)]; rfl
theorem apB_no {S : List (List Int)} {i : Nat} (hi : i < S.length) (h : tw (S.take i) (S.getD i []) = true) : apB S = false := by
  cases e : apB S with
  | false => rfl
  | true =>
    unfold apB at e
    rw [List.all_eq_true] at e
    have := e i (List.mem_range.2 hi)
    rw [h] at this; cases this
end Go.Proofs.Ytoemmppoejaapaa.Cur
namespace Go.Proofs.Ytoemmppoejaapaa.Cur
open Go.RowKit Mem
set_option linter.unusedVariables false
set_option maxRecDepth 100000
abbrev stagg (f t : Int) (A : Option Addr) (n m : Nat) : Value := .agg #[.int .u64 f, .int .u64 t, .slice A n m]
end Go.Proofs.Ytoemmppoejaapaa.Cur
namespace Go.Proofs.Ytoemmppoejaapaa.Cur
open Go.RowKit Mem
set_option linter.unusedVariables false
set_option maxRecDepth 100000
theorem has_yes {z : List Int} {x : Int} {j : Nat} (hj : j < z.length) (h : z.getD j 0 = x) : z.contains x = true := by
  rw [← h]; simpa using getD_mem hj
theorem has_no {z : List Int} {x : Int} (h : ∀ j, j < z.length → z.getD j 0 ≠ x) : z.contains x = false := by
  cases e : z.contains x with
  | false => rfl
  | true =>
    have hm : x ∈ z := by simpa using e
    obtain ⟨j, hj, e2⟩ := List.mem_iff_getElem.1 hm
    have := h j hj
    rw [List.getD_eq_getElem?_getD, List.getElem?_eq_getElem hj] at this
    exact absurd e2 this
set_option maxHeartbeats 1000000 in
theorem rhas_any (A : Option Addr) (n m : Nat) (z : List Int) (x : Int) (w : World) (hz : Us w A n z) (hn : n ≤ 1000000) :
    Calls Try.prog 14 #[.slice A n m, .int .u64 x] w (BPost (.bool (z.contains x)) w) := by
  unfold BPost
  have HL := Lib.hid hz.1
  have HC : Hid (n ≠ 0 → ∃ g o, A = some ⟨g, o, none⟩ ∧ g < w.heap.size ∧ ∀ w', Below w.heap.size w w' → ∀ k, k < n → w'.cell? ⟨g, o + k, none⟩ = some (.int .u64 (z.getD k 0))) := Lib.hid fun h => hz.cells (by omega)
  have HYES := Lib.hid (fun j => has_yes (z := z) (x := x) (j := j))
  have HNO := Lib.hid (has_no (z := z) (x := x))
  generalize z.contains x = r at *
  clear hz
  go_enter Try.func14, Try.ntmps14
  go_wp2
  go_loopw [5] (fun i wr => ∃ k : Nat, k ≤ n ∧ i = .int .i64 k ∧ Hid (∀ j, j < k → z.getD j 0 ≠ x) ∧ Below w.heap.size w wr) (fun i _ => n - (intOf i).toNat)
  case atStart => exact ⟨0, by omega, rfl, Lib.hid (by intro j hj; omega), Below.refl _ _⟩
  case round =>
    obtain ⟨k, hk, rfl, hj, hb⟩ := hrel
    by_cases hlt : k < n
    · obtain ⟨g, o, rfl, hg, hc⟩ := HC.out (by omega)
      have c0 := hc wr hb k hlt
      obtain ⟨y, hy⟩ : ∃ y, y = z.getD k 0 := ⟨_, rfl⟩
      rw [← hy] at c0
      have HY := Lib.hid hy
      have e2 : (k : Int) < n := by omega
      have e3 : IntKind.i64.wrap ((k : Int) + 1) = ((k + 1 : Nat) : Int) := IntWalk.i64_in _ (by omega)
      clear hc hy
      by_cases he : y = x
      · have hb2 : (y == x) = true := by simpa using he
        have HR : Hid (r = true) := Lib.hid (HYES.out k (by rw [HL.out]; exact hlt) (by rw [← HY.out]; exact he))
        have HB := Lib.hid hb
        clear he hj hb
        go_wp2
        go_ret
        exact ⟨by rw [HR.out]; rfl, HB.out⟩
      · have hb2 : (y == x) = false := by simpa using he
        have HNE := Lib.hid he
        clear he
        go_wp2
        go_roundw
        case rel => exact ⟨k + 1, by omega, by go_num, Lib.hid (fun j hjk => by
          rcases Nat.lt_or_ge j k with h | h
          · exact hj.out j h
          · obtain rfl : j = k := by omega
            rw [← HY.out]; exact HNE.out), hb⟩
        case measure => simp [intOf]; omega
    · obtain rfl : k = n := by omega
      go_wp2
      go_ret
      exact ⟨by rw [HNO.out (fun j hj2 => hj.out j (by rw [HL.out] at hj2; exact hj2))]; rfl, hb⟩
end Go.Proofs.Ytoemmppoejaapaa.Cur
