/- As the seat's text, without what nothing here names. -/
import Derived.Test.YtmiimjgfainclaaGreatK1w
import Derived.Deep.Slices
import Derived.Deep.Strs
import Derived.ChangeSame
import Derived.Test.YtmiimjgfainclaaGreatK5w
import Derived.IntWalk
namespace Go.Proofs.YtmiimjgfainclaaGreat.Cur
open Go.RowKit Mem Go.ChangeShapes Go.WideShapes
set_option linter.unusedVariables false
set_option maxRecDepth 100000
structure El (α : Type) where
  k : Nat
  R : World → (Nat → Prop) → List Value → α → Prop
  len : ∀ {w P c x}, R w P c x → c.length = k
  one : ∀ {w P c x}, R w P c x → ∀ u ∈ c, u.oneCell' = true
  keep : ∀ {w P c x} {w' : World}, R w P c x → (∀ b, P b → b < w.heap.size → w'.heap[b]? = w.heap[b]?) → R w' P c x
  mono : ∀ {w P c x} {Q : Nat → Prop}, R w P c x → (∀ b, P b → b < w.heap.size → Q b) → R w Q c x
def RwP (w : World) (P : Nat → Prop) (A : Option Addr) (xs : List Value) : Prop := 0 < xs.length → ∃ k o, A = some ⟨k, o, none⟩ ∧ P k ∧ ∀ i v, xs[i]? = some v → w.cell? ⟨k, o + i, none⟩ = some v
theorem RwP.rw {w : World} {P : Nat → Prop} {A : Option Addr} {xs : List Value} (h : RwP w P A xs) : Rw w A xs := fun hn => by
  obtain ⟨k, o, e, _, hc⟩ := h hn
  exact ⟨k, o, e, hc⟩
theorem RwP.keep {w w' : World} {P : Nat → Prop} {A : Option Addr} {xs : List Value} (h : RwP w P A xs) (hk : ∀ b, P b → b < w.heap.size → w'.heap[b]? = w.heap[b]?) : RwP w' P A xs := fun hn => by
  obtain ⟨k, o, e, hP, hc⟩ := h hn
  refine ⟨k, o, e, hP, fun i v hi => ?_⟩
  have h1 := hc i v hi
  exact (World.cell?_of_block (w := w) (hk k hP (lt_of_cell h1))).trans h1
theorem RwP.mono {w : World} {P Q : Nat → Prop} {A : Option Addr} {xs : List Value} (h : RwP w P A xs) (hq : ∀ b, P b → b < w.heap.size → Q b) : RwP w Q A xs := fun hn => by
  obtain ⟨k, o, e, hP, hc⟩ := h hn
  exact ⟨k, o, e, hq k hP (lt_of_cell (hc 0 _ (List.getElem?_eq_getElem hn))), hc⟩
variable {α : Type}
def Ch (E : El α) (w : World) (P : Nat → Prop) : List (List Value) → List α → Prop
  | [], [] => True
  | c :: cs, x :: xs => E.R w P c x ∧ Ch E w P cs xs
  | _, _ => False
theorem Ch.length {E : El α} {w : World} {P : Nat → Prop} : ∀ {cs : List (List Value)} {xs : List α}, Ch E w P cs xs → cs.length = xs.length
  | [], [], _ => rfl
  | c :: cs, x :: xs, h => by rw [List.length_cons, List.length_cons, Ch.length h.2]
  | [], _ :: _, h => h.elim
  | _ :: _, [], h => h.elim
theorem Ch.keep {E : El α} {w w' : World} {P : Nat → Prop} (hk : ∀ b, P b → b < w.heap.size → w'.heap[b]? = w.heap[b]?) : ∀ {cs : List (List Value)} {xs : List α}, Ch E w P cs xs → Ch E w' P cs xs
  | [], [], _ => trivial
  | c :: cs, x :: xs, h => ⟨E.keep h.1 hk, Ch.keep hk h.2⟩
  | [], _ :: _, h => h.elim
  | _ :: _, [], h => h.elim
theorem Ch.mono {E : El α} {w : World} {P Q : Nat → Prop} (hq : ∀ b, P b → b < w.heap.size → Q b) : ∀ {cs : List (List Value)} {xs : List α}, Ch E w P cs xs → Ch E w Q cs xs
  | [], [], _ => trivial
  | c :: cs, x :: xs, h => ⟨E.mono h.1 hq, Ch.mono hq h.2⟩
  | [], _ :: _, h => h.elim
  | _ :: _, [], h => h.elim
theorem Ch.snoc {E : El α} {w : World} {P : Nat → Prop} {c : List Value} {x : α} (hx : E.R w P c x) : ∀ {cs : List (List Value)} {xs : List α}, Ch E w P cs xs → Ch E w P (cs ++ [c]) (xs ++ [x])
  | [], [], _ => ⟨hx, trivial⟩
  | d :: cs, y :: xs, h => ⟨h.1, Ch.snoc hx h.2⟩
  | [], _ :: _, h => h.elim
  | _ :: _, [], h => h.elim
theorem Ch.flat {E : El α} {w : World} {P : Nat → Prop} : ∀ {cs : List (List Value)} {xs : List α}, Ch E w P cs xs → cs.flatten.length = xs.length * E.k
  | [], [], _ => by simp
  | c :: cs, x :: xs, h => by rw [List.flatten_cons, List.length_append, E.len h.1, Ch.flat h.2, List.length_cons, Nat.succ_mul]; omega
  | [], _ :: _, h => h.elim
  | _ :: _, [], h => h.elim
theorem Ch.ones {E : El α} {w : World} {P : Nat → Prop} : ∀ {cs : List (List Value)} {xs : List α}, Ch E w P cs xs → ∀ u ∈ cs.flatten, u.oneCell' = true
  | [], [], _ => fun u hu => by simp at hu
  | c :: cs, x :: xs, h => fun u hu => by
    rw [List.flatten_cons, List.mem_append] at hu
    rcases hu with hu | hu
    · exact E.one h.1 u hu
    · exact Ch.ones h.2 u hu
  | [], _ :: _, h => h.elim
  | _ :: _, [], h => h.elim
theorem Ch.at_ {E : El α} {w : World} {P : Nat → Prop} : ∀ {cs : List (List Value)} {xs : List α}, Ch E w P cs xs → ∀ (i : Nat) (x : α), xs[i]? = some x → ∃ c, E.R w P c x ∧ ∀ j u, c[j]? = some u → cs.flatten[i * E.k + j]? = some u
  | [], [], _, i, x, hx => by simp at hx
  | c :: cs, x0 :: xs, h, 0, x, hx => by
    simp at hx; subst hx
    refine ⟨c, h.1, fun j u hu => ?_⟩
    rw [Nat.zero_mul, Nat.zero_add, List.flatten_cons, List.getElem?_append_left (List.getElem?_eq_some_iff.1 hu).1]; exact hu
  | c :: cs, x0 :: xs, h, i + 1, x, hx => by
    obtain ⟨d, hd, hj⟩ := Ch.at_ h.2 i x (by simpa using hx)
    refine ⟨d, hd, fun j u hu => ?_⟩
    have hl := E.len h.1
    rw [List.flatten_cons, List.getElem?_append_right (by rw [hl, Nat.succ_mul]; omega), hl, show (i + 1) * E.k + j - E.k = i * E.k + j by rw [Nat.succ_mul]; omega]
    exact hj j u hu
  | [], _ :: _, h, _, _, _ => h.elim
  | _ :: _, [], h, _, _, _ => h.elim
def Sq (E : El α) (w : World) (P : Nat → Prop) (A : Option Addr) (xs : List α) : Prop := ∃ cs, Ch E w P cs xs ∧ RwP w P A cs.flatten
theorem Sq.keep {E : El α} {w w' : World} {P : Nat → Prop} {A : Option Addr} {xs : List α} (h : Sq E w P A xs) (hk : ∀ b, P b → b < w.heap.size → w'.heap[b]? = w.heap[b]?) : Sq E w' P A xs := by
  obtain ⟨cs, h1, h2⟩ := h
  exact ⟨cs, h1.keep hk, h2.keep hk⟩
theorem Sq.mono {E : El α} {w : World} {P Q : Nat → Prop} {A : Option Addr} {xs : List α} (h : Sq E w P A xs) (hq : ∀ b, P b → b < w.heap.size → Q b) : Sq E w Q A xs := by
  obtain ⟨cs, h1, h2⟩ := h
  exact ⟨cs, h1.mono hq, h2.mono hq⟩
theorem Sq.below {E : El α} {w w' : World} {P : Nat → Prop} {A : Option Addr} {xs : List α} (h : Sq E w P A xs) (hb : Below w.heap.size w w') : Sq E w' P A xs := h.keep fun b _ hlt => hb.block b hlt
theorem Sq.nil (E : El α) (w : World) (P : Nat → Prop) (A : Option Addr) : Sq E w P A [] := ⟨[], trivial, fun h => absurd h (by simp)⟩
theorem Sq.at_ {E : El α} {w : World} {P : Nat → Prop} {A : Option Addr} {xs : List α} (h : Sq E w P A xs) (hk : 0 < E.k) {i : Nat} {x : α} (hx : xs[i]? = some x) :
    ∃ g o c, A = some ⟨g, o, none⟩ ∧ P g ∧ g < w.heap.size ∧ E.R w P c x ∧ ∀ j u, c[j]? = some u → w.cell? ⟨g, o + i * E.k + j, none⟩ = some u := by
  obtain ⟨cs, h1, h2⟩ := h
  have hi := (List.getElem?_eq_some_iff.1 hx).1
  have hp : 0 < cs.flatten.length := by rw [h1.flat]; exact Nat.mul_pos (by omega) hk
  obtain ⟨g, o, e, hP, hc⟩ := h2 hp
  obtain ⟨c, hR, hj⟩ := h1.at_ i x hx
  refine ⟨g, o, c, e, hP, lt_of_cell (hc 0 _ (List.getElem?_eq_getElem hp)), hR, fun j u hu => ?_⟩
  have := hc _ _ (hj j u hu)
  rwa [← Nat.add_assoc] at this
def SlE (E : El α) : El (List α) where
  k := 1
  R := fun w P c xs => ∃ A m, c = [.slice A xs.length m] ∧ xs.length ≤ m ∧ (A = none → m = 0) ∧ Sq E w P A xs
  len := fun ⟨A, m, e, _⟩ => by rw [e]; rfl
  one := fun ⟨A, m, e, _⟩ u hu => by rw [e] at hu; simp at hu; subst hu; rfl
  keep := fun ⟨A, m, e, h1, h2, h3⟩ hk => ⟨A, m, e, h1, h2, h3.keep hk⟩
  mono := fun ⟨A, m, e, h1, h2, h3⟩ hq => ⟨A, m, e, h1, h2, h3.mono hq⟩
def U64E : El Int where
  k := 1
  R := fun _ _ c x => c = [.int .u64 x] ∧ 0 ≤ x ∧ x < 18446744073709551616
  len := fun ⟨e, _⟩ => by rw [e]; rfl
  one := fun ⟨e, _⟩ u hu => by rw [e] at hu; simp at hu; subst hu; rfl
  keep := fun h _ => h
  mono := fun h _ => h
def PrE {β : Type} (E : El α) (F : El β) : El (α × β) where
  k := E.k + F.k
  R := fun w P c x => ∃ d e, c = d ++ e ∧ E.R w P d x.1 ∧ F.R w P e x.2
  len := fun ⟨d, e, h, h1, h2⟩ => by rw [h, List.length_append, E.len h1, F.len h2]
  one := fun ⟨d, e, h, h1, h2⟩ u hu => by
    rw [h, List.mem_append] at hu
    rcases hu with hu | hu
    · exact E.one h1 u hu
    · exact F.one h2 u hu
  keep := fun ⟨d, e, h, h1, h2⟩ hk => ⟨d, e, h, E.keep h1 hk, F.keep h2 hk⟩
  mono := fun ⟨d, e, h, h1, h2⟩ hq => ⟨d, e, h, E.mono h1 hq, F.mono h2 hq⟩
theorem Sq.us {w : World} {P : Nat → Prop} {A : Option Addr} {z : List Int} (h : Sq U64E w P A z) : Us w A z.length z ∧ ∀ x ∈ z, 0 ≤ x ∧ x < 18446744073709551616 := by
  obtain ⟨cs, h1, h2⟩ := h
  have key : ∀ (cs : List (List Value)) (z : List Int), Ch U64E w P cs z → cs.flatten = uv z ∧ ∀ x ∈ z, 0 ≤ x ∧ x < 18446744073709551616 := by
    intro cs
    induction cs with
    | nil => intro z h; cases z with
      | nil => exact ⟨rfl, fun x hx => by simp at hx⟩
      | cons x z => exact h.elim
    | cons c cs ih => intro z h; cases z with
      | nil => exact h.elim
      | cons x z =>
        obtain ⟨⟨e, b⟩, h2⟩ := h
        obtain ⟨i1, i2⟩ := ih z h2
        refine ⟨by rw [List.flatten_cons, e, i1]; rfl, fun y hy => ?_⟩
        rcases List.mem_cons.1 hy with rfl | hy
        · exact b
        · exact i2 y hy
  obtain ⟨k1, k2⟩ := key cs z h1
  rw [k1] at h2
  exact ⟨⟨rfl, h2.rw⟩, k2⟩
theorem Us.sq {w : World} {A : Option Addr} {n : Nat} {z : List Int} (h : Us w A n z) (hb : ∀ x ∈ z, 0 ≤ x ∧ x < 18446744073709551616) {P : Nat → Prop} (hP : 0 < n → ∀ a, A = some a → P a.block) : Sq U64E w P A z := by
  refine ⟨z.map fun x => [.int .u64 x], ?_, ?_⟩
  · have : ∀ l : List Int, (∀ x ∈ l, 0 ≤ x ∧ x < 18446744073709551616) → Ch U64E w P (l.map fun x => [.int .u64 x]) l := by
      intro l
      induction l with
      | nil => intro _; trivial
      | cons x l ih => intro hl; exact ⟨⟨rfl, hl x (by simp)⟩, ih fun y hy => hl y (by simp [hy])⟩
    exact this z hb
  · have key : ∀ l : List Int, (l.map fun x => [Value.int .u64 x]).flatten = uv l := by
      intro l
      induction l with
      | nil => rfl
      | cons x l ih => rw [List.map_cons, List.flatten_cons, ih]; rfl
    have e := key z
    rw [e]
    intro hn
    obtain ⟨k, o, ea, hc⟩ := h.2 hn
    exact ⟨k, o, ea, hP (by rw [← h.1]; rw [List.length_map] at hn; exact hn) _ ea, hc⟩
def OwnQ (E : El α) (e : TypeId) (w : World) (B : Nat) (P : Nat → Prop) (v : Value) (xs : List α) : Prop :=
  ∃ cs, Ch E w P cs xs ∧ w.ownsRow B e E.k v xs.length cs.flatten ∧ ∀ g, v.ownBlock = some g → ¬ P g
theorem OwnQ.nil (E : El α) (e : TypeId) (w : World) (B : Nat) (P : Nat → Prop) : OwnQ E e w B P (.slice none 0 0) [] := ⟨[], trivial, World.ownsRow_nil w B e E.k, fun g h => by cases h⟩
theorem OwnQ.slice {E : El α} {e : TypeId} {w : World} {B : Nat} {P : Nat → Prop} {v : Value} {xs : List α} (h : OwnQ E e w B P v xs) : ∃ A c, v = .slice A xs.length c ∧ xs.length ≤ c ∧ (A = none → c = 0) ∧ Sq E w (fun b => P b ∨ v.ownBlock = some b) A xs := by
  obtain ⟨cs, h1, h2, _⟩ := h
  obtain ⟨A, c, rfl, hn, hc⟩ := own_slice h2
  refine ⟨A, c, rfl, hc, hn, cs, h1.mono fun b hb _ => .inl hb, fun hp => ?_⟩
  obtain ⟨k, o, ea, hcell⟩ := (own_rw h2 rfl).2.2.2 hp
  exact ⟨k, o, ea, .inr (by rw [ea]; rfl), hcell⟩
theorem OwnQ.below {E : El α} {e : TypeId} {w w' : World} {B : Nat} {P : Nat → Prop} {v : Value} {xs : List α} (h : OwnQ E e w B P v xs) (hb : Below w.heap.size w w') : OwnQ E e w' B P v xs := by
  obtain ⟨cs, h1, h2, h3⟩ := h
  exact ⟨cs, h1.keep fun b _ hlt => hb.block b hlt, own_below h2 hb, h3⟩
theorem OwnQ.mono {E : El α} {e : TypeId} {w : World} {B : Nat} {P Q : Nat → Prop} {v : Value} {xs : List α} (h : OwnQ E e w B P v xs) (hq : ∀ b, P b → b < w.heap.size → Q b) (hn : ∀ g, v.ownBlock = some g → ¬ Q g) : OwnQ E e w B Q v xs := by
  obtain ⟨cs, h1, h2, _⟩ := h
  exact ⟨cs, h1.mono hq, h2, hn⟩
theorem OwnQ.snoc {E : El α} {e : TypeId} {w w' : World} {B : Nat} {P : Nat → Prop} {v v' : Value} {xs : List α} {cs : List (List Value)} {c : List Value} {x : α} (h1 : Ch E w P cs xs) (h3 : ∀ g, v.ownBlock = some g → ¬ P g)
    (hx : E.R w P c x) (ho : w'.ownsRow B e E.k v' (xs.length + 1) (cs.flatten ++ c)) (hg : w.grownBy w' v.ownBlock) (hgr : Gr v.ownBlock v'.ownBlock w) : OwnQ E e w' B (fun b => P b ∧ b < w.heap.size) v' (xs ++ [x]) := by
  have hk : ∀ b, P b → b < w.heap.size → w'.heap[b]? = w.heap[b]? := fun b hb hlt => hg.block b hlt fun e => h3 b e.symm hb
  have hP : ∀ b, P b → b < w.heap.size → (P b ∧ b < w.heap.size) := fun b hb hlt => ⟨hb, hlt⟩
  refine ⟨cs ++ [c], ?_, by rw [List.length_append, List.flatten_append]; simpa using ho, fun g hgb hh => ?_⟩
  · exact Ch.snoc (E.keep (E.mono hx hP) fun b hb hlt => hk b hb.1 hlt) ((h1.mono hP).keep fun b hb hlt => hk b hb.1 hlt)
  · rcases hgr with e | ⟨g', e, hg'⟩
    · exact h3 g (by rw [← e]; exact hgb) hh.1
    · rw [e] at hgb; injection hgb with hgb; omega
theorem pick_n {p : Nat → List Value → α → Prop} : ∀ n : Nat, (∀ i, i < n → ∃ c x, p i c x) → ∃ (cs : List (List Value)) (xs : List α), cs.length = n ∧ xs.length = n ∧ ∀ i c x, cs[i]? = some c → xs[i]? = some x → p i c x
  | 0, _ => ⟨[], [], rfl, rfl, fun i c x h => by simp at h⟩
  | n + 1, h => by
    obtain ⟨cs, xs, h1, h2, h3⟩ := pick_n n fun i hi => h i (by omega)
    obtain ⟨c, x, hp⟩ := h n (by omega)
    refine ⟨cs ++ [c], xs ++ [x], by simp [h1], by simp [h2], fun i d y hd hy => ?_⟩
    have hi : i < n + 1 := by have := (List.getElem?_eq_some_iff.1 hd).1; simpa [h1] using this
    rcases Nat.lt_or_ge i n with hlt | hge
    · rw [List.getElem?_append_left (by omega)] at hd hy
      exact h3 i d y hd hy
    · obtain rfl : i = n := by omega
      rw [List.getElem?_append_right (by omega), h1, Nat.sub_self] at hd
      rw [List.getElem?_append_right (by omega), h2, Nat.sub_self] at hy
      simp at hd hy
      subst hd hy
      exact hp
theorem Ch.of {E : El α} {w : World} {P : Nat → Prop} : ∀ {cs : List (List Value)} {xs : List α}, cs.length = xs.length → (∀ (i : Nat) (c : List Value) (x : α), cs[i]? = some c → xs[i]? = some x → E.R w P c x) → Ch E w P cs xs
  | [], [], _, _ => trivial
  | c :: cs, x :: xs, hl, h => ⟨h 0 c x rfl rfl, Ch.of (by simpa using hl) fun i d y hd hy => h (i + 1) d y (by simpa using hd) (by simpa using hy)⟩
  | [], _ :: _, hl, _ => by simp at hl
  | _ :: _, [], hl, _ => by simp at hl
theorem flat_at {k : Nat} : ∀ {cs : List (List Value)}, (∀ c ∈ cs, c.length = k) → ∀ (t : Nat) (v : Value), cs.flatten[t]? = some v → ∃ i j c, t = i * k + j ∧ j < k ∧ cs[i]? = some c ∧ c[j]? = some v
  | [], _, t, v, h => by simp at h
  | c :: cs, hl, t, v, h => by
    have hc := hl c (by simp)
    rw [List.flatten_cons] at h
    by_cases ht : t < k
    · rw [List.getElem?_append_left (by omega)] at h
      exact ⟨0, t, c, by omega, ht, rfl, h⟩
    · rw [List.getElem?_append_right (by omega), hc] at h
      obtain ⟨i, j, d, e, hj, hd, hv⟩ := flat_at (fun d hd => hl d (by simp [hd])) (t - k) v h
      exact ⟨i + 1, j, d, by rw [Nat.succ_mul]; omega, hj, by simpa using hd, hv⟩
theorem addr_flatk {b o i j k : Nat} : ((⟨b, o, none⟩ : Addr).add (i * k)).add j = ⟨b, o + (i * k + j), none⟩ := by
  rw [Go.Deep.add_add]
  unfold Addr.add
  split
  · rename_i h
    rw [show i * k + j = 0 by omega]; rfl
  · rfl
def Opens (E : El α) (t : TypeId) : Prop := ∀ {H : Type} {enc : TypeId × Value → H} {w : World} {fuel : Nat} {cs : List Value} {x : DataW H × List MemPlace}, DataW.trod enc Tryz.prog w 0 (fun _ => true) true fuel t cs = some x → ∃ y, E.R w (fun _ => True) cs y
theorem opens_u64 {t : TypeId} (hu : Tryz.prog.underlying t = some (.int .u64)) : Opens U64E t := by
  intro H enc w fuel cs x h
  obtain ⟨y, e, _, r⟩ := DataW.trod_int hu h
  have := bounds_u64 r
  exact ⟨y, e, by omega, by omega⟩
theorem opens_slice {E : El α} {sl e : TypeId} (hu : Tryz.prog.underlying sl = some (.slice e)) (hc : Tryz.prog.cellsOf e = E.k) (hk : 0 < E.k) (ho : Opens E e) : Opens (SlE E) sl := by
  intro H enc w fuel cs x h
  rcases Go.Deep.open_slice hu h with ⟨rfl, _⟩ | ⟨a, n, m, k, _, D, Pl, rfl, _, hl, _, hkk, _, hi⟩
  · exact ⟨[], none, 0, rfl, Nat.le_refl _, fun _ => rfl, Sq.nil _ _ _ _⟩
  · have hkn : n ≤ k := by rw [hkk]; split <;> omega
    have each : ∀ i, i < n → ∃ (c : List Value) (y : α), E.R w (fun _ => True) c y ∧ ∀ j v, c[j]? = some v → w.cell? ((a.add (i * E.k)).add j) = some v := fun i hin => by
      obtain ⟨cs', h1, h2⟩ := hi i (by omega)
      rw [hc] at h1
      obtain ⟨_, hlen, hcell⟩ := World.cells?_some h1
      obtain ⟨y, hy⟩ := ho h2
      exact ⟨cs', y, hy, fun j v hv => by rw [hcell j (by rw [← hlen]; exact (List.getElem?_eq_some_iff.1 hv).1), hv]⟩
    obtain ⟨cs, xs, l1, l2, hp⟩ := pick_n n each
    have hch : Ch E w (fun _ => True) cs xs := Ch.of (by omega) fun i c x hc hx => (hp i c x hc hx).1
    refine ⟨xs, some a, m, by rw [l2], by omega, (fun e => by cases e), cs, hch, fun hpos => ?_⟩
    obtain ⟨b, off, spot⟩ := a
    have hcl : ∀ c ∈ cs, c.length = E.k := fun c hcm => by
      obtain ⟨i, hi, e⟩ := List.mem_iff_getElem.1 hcm
      have h1 : cs[i]? = some c := by rw [List.getElem?_eq_getElem hi, e]
      have h2 : xs[i]? = some xs[i] := List.getElem?_eq_getElem (by omega)
      exact E.len (hp i c _ h1 h2).1
    have hspot : spot = none := by
      obtain ⟨i, j, c, e, _, hci, hv⟩ := flat_at hcl 0 _ (List.getElem?_eq_getElem hpos)
      have hxi : xs[i]? = some (xs[i]'(by have := (List.getElem?_eq_some_iff.1 hci).1; omega)) := List.getElem?_eq_getElem _
      have := (hp i c _ hci hxi).2 j _ hv
      rw [Go.Deep.add_add, ← e] at this
      simpa [Addr.add] using World.cell?_spot this
    subst hspot
    refine ⟨b, off, rfl, trivial, fun t v hv => ?_⟩
    obtain ⟨i, j, c, e, _, hci, hcv⟩ := flat_at hcl t v hv
    have hxi : xs[i]? = some (xs[i]'(by have := (List.getElem?_eq_some_iff.1 hci).1; omega)) := List.getElem?_eq_getElem _
    have := (hp i c _ hci hxi).2 j v hcv
    rw [addr_flatk, ← e] at this
    exact this
theorem opens_pair {β : Type} {E : El α} {F : El β} {t : TypeId} {f0 f1 : Field} (hu : Tryz.prog.underlying t = some (.struct #[f0, f1])) (h0 : f0.offset = 0) (h1 : f1.offset = E.k) (hc : Tryz.prog.cellsOf t = E.k + F.k)
    (c0 : Tryz.prog.cellsOf f0.type = E.k) (c1 : Tryz.prog.cellsOf f1.type = F.k) (ho : Opens E f0.type) (ho1 : Opens F f1.type) : Opens (PrE E F) t := by
  intro H enc w fuel cs x h
  obtain ⟨y0, y1, n, _, hl, t0, t1⟩ := trod_struct2 hu h
  obtain ⟨a, ha⟩ := ho t0
  obtain ⟨b, hb⟩ := ho1 t1
  rw [h0, c0, List.drop_zero] at ha
  rw [h1, c1] at hb
  refine ⟨(a, b), cs.take E.k, (cs.drop E.k).take F.k, ?_, ha, hb⟩
  rw [List.take_of_length_le (l := cs.drop E.k) (by rw [List.length_drop, hl, hc]; omega), List.take_append_drop]
theorem opens_three {β γ : Type} {E : El α} {F : El β} {G : El γ} {t : TypeId} {f0 f1 f2 : Field} (hu : Tryz.prog.underlying t = some (.struct #[f0, f1, f2])) (h0 : f0.offset = 0) (h1 : f1.offset = E.k) (h2 : f2.offset = E.k + F.k) (hc : Tryz.prog.cellsOf t = E.k + F.k + G.k)
    (c0 : Tryz.prog.cellsOf f0.type = E.k) (c1 : Tryz.prog.cellsOf f1.type = F.k) (c2 : Tryz.prog.cellsOf f2.type = G.k) (ho : Opens E f0.type) (ho1 : Opens F f1.type) (ho2 : Opens G f2.type) : Opens (PrE E (PrE F G)) t := by
  intro H enc w fuel cs x h
  obtain ⟨y0, y1, y2, n, _, hl, t0, t1, t2⟩ := Go.Deep.trod_struct3 hu h
  obtain ⟨a, ha⟩ := ho t0
  obtain ⟨b, hb⟩ := ho1 t1
  obtain ⟨c, hcc⟩ := ho2 t2
  rw [h0, c0, List.drop_zero] at ha
  rw [h1, c1] at hb
  rw [h2, c2] at hcc
  refine ⟨(a, b, c), cs.take E.k, cs.drop E.k, (List.take_append_drop _ _).symm, ha, (cs.drop E.k).take F.k, (cs.drop (E.k + F.k)).take G.k, ?_, hb, hcc⟩
  rw [List.take_of_length_le (l := cs.drop (E.k + F.k)) (by rw [List.length_drop, hl, hc]; omega), ← List.drop_drop, List.take_append_drop]
theorem OwnU.el {w : World} {B : Nat} {v : Value} {z : List Int} (h : OwnU w B v z) (hb : ∀ x ∈ z, 0 ≤ x ∧ x < 18446744073709551616) : (SlE U64E).R w (fun b => v.ownBlock = some b) [v] z := by
  obtain ⟨A, c, rfl⟩ := h.slice
  obtain ⟨_, h1, h2, h3⟩ := h.us
  exact ⟨A, c, rfl, h1, h2, h3.sq hb fun _ a ha => by rw [ha]; rfl⟩
end Go.Proofs.YtmiimjgfainclaaGreat.Cur
namespace Go.Proofs.YtmiimjgfainclaaGreat.Cur
set_option linter.unusedVariables false
end Go.Proofs.YtmiimjgfainclaaGreat.Cur
namespace Go.Proofs.YtmiimjgfainclaaGreat.Cur
open Go.RowKit Mem
set_option linter.unusedVariables false
def rg (z : List Int) (N : Nat) (p : Int) : Rs (List Int) := rgo z N p []
def mny (z : List Int) (mo p : Int) : Rs Int := (vm z mo p).bind 0 fun k p1 => if k = 0 then (0, 0, 3, p) else (k, p1, 0, 0)
def tw (S : List (List Int)) (l : List Int) : Bool := S.any fun s => l.any fun x => s.contains x
def seok (S : List (List Int)) (l : List Int) : Bool := decide (1 ≤ l.length) && decide (l.length ≤ 8) && risesB l && decide (l.getD (l.length - 1) 0 < 4294967296) && !tw S l
def stl (z : List Int) (S : List (List Int)) (p : Int) : Rs (List Int) :=
  (mny z 8 p).bind [] fun m p1 => (rg z m.toNat p1).bind [] fun l p2 => if 4294967296 ≤ l.getD (l.length - 1) 0 then ([], 0, 3, p1) else if tw S l then ([], 0, 13, p1) else (l, p2, 0, 0)
def seb (l : List Int) : List Int := vz l.length ++ rz l
def ssg (z : List Int) : Nat → Int → List (List Int) → Rs (List (List Int))
  | 0, p, S => (S, p, 0, 0)
  | k + 1, p, S => (stl z S p).bind [] fun l p' => ssg z k p' (S ++ [l])
def sok : List (List Int) → List (List Int) → Bool
  | _, [] => true
  | A, l :: S => seok A l && sok (A ++ [l]) S
def ssb (S : List (List Int)) : List Int := S.flatMap seb
def sbds (S : List (List Int)) : Prop := ∀ l ∈ S, ∀ x ∈ l, 0 ≤ x ∧ x < 18446744073709551616
abbrev Stp := Int × Int × List (List Int)
def stp0 : Stp := (0, 0, [])
def stok (s : Stp) : Bool := decide (s.1 < s.2.1) && decide (s.2.1 ≤ 4611686018427387904) && decide (1 ≤ s.2.2.length) && decide (s.2.2.length ≤ 8) && sok [] s.2.2
def stb (s : Stp) : List Int := vz (s.2.1 - s.1 - 1) ++ vz s.2.2.length ++ ssb s.2.2
def str (z : List Int) (from_ p : Int) : Rs Stp :=
  if 4611686018427387904 < from_ then (stp0, 0, 3, p)
  else (vg z p).bind stp0 fun n p1 => if 4611686018427387904 - from_ ≤ n then (stp0, 0, 3, p)
    else (mny z 8 p1).bind stp0 fun k p2 => (ssg z k.toNat p2 []).bind stp0 fun S p3 => ((from_, from_ + n + 1, S), p3, 0, 0)
theorem stok_parts {s : Stp} (h : stok s = true) : s.1 < s.2.1 ∧ s.2.1 ≤ 4611686018427387904 ∧ 1 ≤ s.2.2.length ∧ s.2.2.length ≤ 8 ∧ sok [] s.2.2 = true := by
  unfold stok at h
  simp only [Bool.and_eq_true, decide_eq_true_eq] at h
  exact ⟨h.1.1.1.1, h.1.1.1.2, h.1.1.2, h.1.2, h.2⟩
end Go.Proofs.YtmiimjgfainclaaGreat.Cur
namespace Go.Proofs.YtmiimjgfainclaaGreat.Cur
open Go.RowKit Mem
set_option linter.unusedVariables false
set_option maxRecDepth 100000
def Sts (w : World) (P : Nat → Prop) (A : Option Addr) (n : Nat) (S : List (List Int)) : Prop := S.length = n ∧ Sq (SlE U64E) w P A S
theorem Sts.keep {w w' : World} {P : Nat → Prop} {A : Option Addr} {n : Nat} {S : List (List Int)} (h : Sts w P A n S) (hk : ∀ b, P b → b < w.heap.size → w'.heap[b]? = w.heap[b]?) : Sts w' P A n S := ⟨h.1, h.2.keep hk⟩
theorem Sts.mono {w : World} {P Q : Nat → Prop} {A : Option Addr} {n : Nat} {S : List (List Int)} (h : Sts w P A n S) (hq : ∀ b, P b → b < w.heap.size → Q b) : Sts w Q A n S := ⟨h.1, h.2.mono hq⟩
theorem Sts.below {w w' : World} {P : Nat → Prop} {A : Option Addr} {n : Nat} {S : List (List Int)} (h : Sts w P A n S) (hb : Below w.heap.size w w') : Sts w' P A n S := ⟨h.1, h.2.below hb⟩
theorem Sts.cells {w : World} {P : Nat → Prop} {A : Option Addr} {n : Nat} {S : List (List Int)} (h : Sts w P A n S) (hn : n ≠ 0) :
    ∃ g o, A = some ⟨g, o, none⟩ ∧ P g ∧ g < w.heap.size ∧ ∀ k, k < n → ∃ a l m, (S.getD k []).length = l ∧ l ≤ m ∧ (a = none → m = 0) ∧ Us w a l (S.getD k []) ∧ (0 < l → ∀ ad, a = some ad → P ad.block) ∧ (∀ x ∈ S.getD k [], 0 ≤ x ∧ x < 18446744073709551616) ∧
      ∀ w', Below w.heap.size w w' → w'.cell? ⟨g, o + k, none⟩ = some (.slice a l m) := by
  obtain ⟨rfl, h⟩ := h
  obtain ⟨g, o, c, e, hP, hg, _⟩ := h.at_ (i := 0) (by decide) (List.getElem?_eq_getElem (Nat.pos_of_ne_zero hn))
  refine ⟨g, o, e, hP, hg, fun k hk => ?_⟩
  obtain ⟨g', o', c', e', hP', hg', ⟨a, m, hc, h1, h2, h3⟩, hcell⟩ := h.at_ (i := k) (by decide) (List.getElem?_eq_getElem hk)
  rw [e] at e'
  injection e' with e'
  injection e' with e1 e2
  subst e1 e2
  have hS : S.getD k [] = S[k] := by rw [List.getD_eq_getElem?_getD, List.getElem?_eq_getElem hk]; rfl
  rw [hS]
  obtain ⟨u1, u2⟩ := h3.us
  refine ⟨a, _, m, rfl, h1, h2, u1, fun hl ad ha => ?_, u2, fun w' hb => ?_⟩
  · obtain ⟨cs, c1, c2⟩ := h3
    obtain ⟨k', o', e2, hPk, _⟩ := c2 (by rw [c1.flat]; exact Nat.mul_pos hl (by decide))
    rw [e2] at ha
    injection ha with ha
    subst ha
    exact hPk
  have := hcell 0 _ (by rw [hc]; rfl)
  have e : o + k * (SlE U64E).k + 0 = o + k := by show o + k * 1 + 0 = o + k; omega
  rw [e] at this
  rw [← this]
  exact hb.cell (lt_of_cell this)
theorem RwP.sub {w : World} {P : Nat → Prop} {A : Option Addr} {xs ys : List Value} (h : RwP w P A (xs ++ ys)) : RwP w P A xs := fun hn => by
  obtain ⟨k, o, e, hP, hc⟩ := h (by rw [List.length_append]; omega)
  exact ⟨k, o, e, hP, fun i v hi => hc i v (by rw [List.getElem?_append_left (List.getElem?_eq_some_iff.1 hi).1]; exact hi)⟩
theorem Ch.take {α : Type} {E : El α} {w : World} {P : Nat → Prop} : ∀ {cs : List (List Value)} {xs : List α}, Ch E w P cs xs → ∀ k, Ch E w P (cs.take k) (xs.take k)
  | [], [], _, k => by rw [List.take_nil, List.take_nil]; trivial
  | c :: cs, x :: xs, h, 0 => trivial
  | c :: cs, x :: xs, h, k + 1 => ⟨h.1, Ch.take h.2 k⟩
  | [], _ :: _, h, _ => h.elim
  | _ :: _, [], h, _ => h.elim
theorem Sq.take {α : Type} {E : El α} {w : World} {P : Nat → Prop} {A : Option Addr} {xs : List α} (h : Sq E w P A xs) (k : Nat) : Sq E w P A (xs.take k) := by
  obtain ⟨cs, h1, h2⟩ := h
  refine ⟨cs.take k, h1.take k, ?_⟩
  have e : cs.flatten = (cs.take k).flatten ++ (cs.drop k).flatten := by rw [← List.flatten_append, List.take_append_drop]
  rw [e] at h2
  exact h2.sub
def ixo : List Int → Int → Int
  | [], _ => -1
  | y :: l, x => if y = x then 0 else if ixo l x < 0 then -1 else ixo l x + 1
theorem ixo_yes : ∀ (z : List Int) (x : Int) (k : Nat), k < z.length → z.getD k 0 = x → (∀ j, j < k → z.getD j 0 ≠ x) → ixo z x = k
  | [], _, _, h, _, _ => absurd h (by simp)
  | y :: l, x, 0, _, h, _ => by unfold ixo; rw [if_pos (by simpa using h)]; rfl
  | y :: l, x, k + 1, h, h1, h2 => by
    have ih := ixo_yes l x k (by simpa using h) (by simpa using h1) (fun j hj => by have := h2 (j + 1) (by omega); simpa using this)
    unfold ixo
    rw [if_neg (by have := h2 0 (by omega); simpa using this), ih, if_neg (by omega)]; push_cast; rfl
theorem ixo_no : ∀ (z : List Int) (x : Int), (∀ j, j < z.length → z.getD j 0 ≠ x) → ixo z x = -1
  | [], _, _ => rfl
  | y :: l, x, h => by
    have ih := ixo_no l x (fun j hj => by have := h (j + 1) (by simpa using hj); simpa using this)
    unfold ixo
    rw [if_neg (by have := h 0 (by simp); simpa using this), ih, if_pos (by decide)]
theorem ixo_bd : ∀ (z : List Int) (x : Int), -1 ≤ ixo z x ∧ ixo z x < z.length
  | [], _ => by unfold ixo; simp
  | y :: l, x => by
    have ih := ixo_bd l x
    unfold ixo
    rw [List.length_cons]
    split
    · omega
    · split <;> omega
theorem ixo_mem : ∀ (z : List Int) (x : Int), decide (0 ≤ ixo z x) = z.contains x
  | [], _ => by unfold ixo; simp
  | y :: l, x => by
    have ih := ixo_mem l x
    have hb := ixo_bd l x
    unfold ixo
    rw [List.contains_cons, ← ih]
    by_cases h : y = x
    · rw [if_pos h, h]; simp
    · rw [if_neg h]
      have : (x == y) = false := by simpa using fun e : x = y => h e.symm
      rw [this, Bool.false_or]
      split
      · rename_i h2; rw [decide_eq_false (by omega), decide_eq_false (by omega)]
      · rename_i h2; rw [decide_eq_true (by omega), decide_eq_true (by omega)]
theorem Sts.take {w : World} {P : Nat → Prop} {A : Option Addr} {n : Nat} {S : List (List Int)} (h : Sts w P A n S) {k : Nat} (hk : k ≤ n) : Sts w P A k (S.take k) := ⟨by rw [List.length_take, h.1]; omega, h.2.take k⟩
set_option maxHeartbeats 1000000 in
theorem sindex_any (A : Option Addr) (n m : Nat) (z : List Int) (x : Int) (w : World) (hz : Us w A n z) (hn : n ≤ 1000000) :
    Calls Tryz.prog 254 #[.slice A n m, .int .u64 x] w (BPost (.int .i64 (ixo z x)) w) := by
  unfold BPost
  have HL := Lib.hid hz.1
  have HC : Hid (n ≠ 0 → ∃ g o, A = some ⟨g, o, none⟩ ∧ g < w.heap.size ∧ ∀ w', Below w.heap.size w w' → ∀ k, k < n → w'.cell? ⟨g, o + k, none⟩ = some (.int .u64 (z.getD k 0))) := Lib.hid fun h => hz.cells (by omega)
  have HYES := Lib.hid (ixo_yes z x)
  have HNO := Lib.hid (ixo_no z x)
  generalize ixo z x = r at *
  clear hz
  go_enter Tryz.func254, Tryz.ntmps254
  go_wp2
  go_loopw [8] (fun i wr => ∃ k : Nat, k ≤ n ∧ i = .int .i64 k ∧ Hid (∀ j, j < k → z.getD j 0 ≠ x) ∧ Below w.heap.size w wr) (fun i _ => n - (intOf i).toNat)
  case atStart => exact ⟨0, by omega, rfl, Lib.hid (by intro j hj; omega), Below.refl _ _⟩
  case round =>
    obtain ⟨k, hk, rfl, hj, hb⟩ := hrel
    by_cases hlt : k < n
    · obtain ⟨g, o, rfl, hg, hc⟩ := HC.out (by omega)
      have c0 := hc wr hb k hlt
      obtain ⟨y, hy⟩ : ∃ y, y = z.getD k 0 := ⟨_, rfl⟩
      rw [← hy] at c0
      have HY := Lib.hid hy
      have e2 : (k : Int) < n := by omega
      have e3 : IntKind.i64.wrap ((k : Int) + 1) = ((k + 1 : Nat) : Int) := IntWalk.i64_in _ (by omega)
      clear hc hy
      by_cases he : x = y
      · have hb2 : (x == y) = true := by simpa using he
        have HR : Hid (r = k) := Lib.hid (HYES.out k (by rw [HL.out]; exact hlt) (by rw [← HY.out]; exact he.symm) hj.out)
        have HB := Lib.hid hb
        clear he hj hb
        go_wp2
        go_ret
        exact ⟨by rw [HR.out]; rfl, HB.out⟩
      · have hb2 : (x == y) = false := by simpa using he
        have HNE := Lib.hid he
        clear he
        go_wp2
        go_roundw
        case rel => exact ⟨k + 1, by omega, by go_num, Lib.hid (fun j hjk => by
          rcases Nat.lt_or_ge j k with h | h
          · exact hj.out j h
          · obtain rfl : j = k := by omega
            rw [← HY.out]; exact fun e => HNE.out e.symm), hb⟩
        case measure => simp [intOf]; omega
    · obtain rfl : k = n := by omega
      go_wp2
      go_ret
      exact ⟨by rw [HNO.out (fun j hj2 => hj.out j (by rw [HL.out] at hj2; exact hj2))]; rfl, hb⟩
theorem scontains_any (A : Option Addr) (n m : Nat) (z : List Int) (x : Int) (w : World) (hz : Us w A n z) (hn : n ≤ 1000000) :
    Calls Tryz.prog 244 #[.slice A n m, .int .u64 x] w (BPost (.bool (z.contains x)) w) := by
  unfold BPost
  have HV := Lib.hid (ixo_mem z x)
  have hcon := sindex_any A n m z x w hz hn
  unfold BPost at hcon
  generalize z.contains x = r at HV
  generalize ixo z x = i at HV hcon
  go_enter Tryz.func244, Tryz.ntmps244
  go_wp2_with fail
  refine hcon.mono ?_
  rintro e w' ⟨rfl, hb⟩
  go_wp2
  go_ret
  exact ⟨by rw [← HV.out]; rfl, hb⟩
end Go.Proofs.YtmiimjgfainclaaGreat.Cur
namespace Go.Proofs.YtmiimjgfainclaaGreat.Cur
open Go.RowKit Mem
set_option linter.unusedVariables false
set_option maxRecDepth 100000
def ndb (l : List Int) : Bool := l.all fun x => decide (x ≤ 4294967295)
theorem ndb_yes {l : List Int} (h : ∀ j, j < l.length → l.getD j 0 ≤ 4294967295) : ndb l = true := by
  unfold ndb
  rw [List.all_eq_true]
  intro x hx
  obtain ⟨j, hj, e⟩ := List.mem_iff_getElem.1 hx
  have := h j hj
  rw [List.getD_eq_getElem?_getD, List.getElem?_eq_getElem hj] at this
  rw [decide_eq_true_eq, ← e]; exact this
theorem ndb_no {l : List Int} {j : Nat} (hj : j < l.length) (h : ¬ l.getD j 0 ≤ 4294967295) : ndb l = false := by
  cases e : ndb l with
  | false => rfl
  | true =>
    unfold ndb at e
    rw [List.all_eq_true] at e
    have := e _ (List.getElem_mem hj)
    rw [List.getD_eq_getElem?_getD, List.getElem?_eq_getElem hj] at h
    exact absurd (of_decide_eq_true this) h
theorem rises_le {l : List Int} (h : risesB l = true) : ∀ i j, i ≤ j → j < l.length → l.getD i 0 ≤ l.getD j 0 := by
  intro i j hij
  induction j with
  | zero => intro _; rw [show i = 0 by omega]; exact Int.le_refl _
  | succ j ih =>
    intro hj
    rcases Nat.lt_or_ge i (j + 1) with h1 | h1
    · have := (risesB_iff l).1 h j hj
      have := ih (by omega) (by omega)
      omega
    · rw [show i = j + 1 by omega]; exact Int.le_refl _
theorem ndb_last {l : List Int} (h : risesB l = true) (hl : 1 ≤ l.length) : ndb l = decide (l.getD (l.length - 1) 0 < 4294967296) := by
  by_cases hc : l.getD (l.length - 1) 0 < 4294967296
  · rw [decide_eq_true hc]
    exact ndb_yes fun j hj => by have := rises_le h j (l.length - 1) (by omega) (by omega); omega
  · rw [decide_eq_false hc]
    exact ndb_no (j := l.length - 1) (by omega) (by omega)
def hli : List (List Int) → Int → Int
  | [], _ => -1
  | s :: S, x => if s.contains x = true then 0 else if hli S x < 0 then -1 else hli S x + 1
theorem hli_yes : ∀ (S : List (List Int)) (x : Int) (k : Nat), k < S.length → (S.getD k []).contains x = true → (∀ j, j < k → (S.getD j []).contains x = false) → hli S x = k
  | [], _, _, h, _, _ => absurd h (by simp)
  | y :: l, x, 0, _, h, _ => by unfold hli; rw [if_pos (by simpa using h)]; rfl
  | y :: l, x, k + 1, h, h1, h2 => by
    have ih := hli_yes l x k (by simpa using h) (by simpa using h1) (fun j hj => by have := h2 (j + 1) (by omega); simpa using this)
    unfold hli
    rw [if_neg (by have := h2 0 (by omega); simpa using this), ih, if_neg (by omega)]; push_cast; rfl
theorem hli_no : ∀ (S : List (List Int)) (x : Int), (∀ j, j < S.length → (S.getD j []).contains x = false) → hli S x = -1
  | [], _, _ => rfl
  | y :: l, x, h => by
    have ih := hli_no l x (fun j hj => by have := h (j + 1) (by simpa using hj); simpa using this)
    unfold hli
    rw [if_neg (by have := h 0 (by simp); simpa using this), ih, if_pos (by decide)]
theorem hli_bd : ∀ (S : List (List Int)) (x : Int), -1 ≤ hli S x ∧ hli S x < S.length
  | [], _ => by unfold hli; simp
  | y :: l, x => by
    have ih := hli_bd l x
    unfold hli
    rw [List.length_cons]
    split
    · omega
    · split <;> omega
theorem hli_mem : ∀ (S : List (List Int)) (x : Int), decide (0 ≤ hli S x) = S.any fun s => s.contains x
  | [], _ => by unfold hli; simp
  | y :: l, x => by
    have ih := hli_mem l x
    have hb := hli_bd l x
    unfold hli
    rw [List.any_cons, ← ih]
    cases h : y.contains x
    · rw [if_neg (by simp), Bool.false_or]
      split
      · rename_i h2; rw [decide_eq_false (by omega), decide_eq_false (by omega)]
      · rename_i h2; rw [decide_eq_true (by omega), decide_eq_true (by omega)]
    · rw [if_pos rfl]; simp
def hlv (S : List (List Int)) (x : Int) : Value := .tuple #[.int .i64 (if 0 ≤ hli S x then hli S x else 0), .bool (decide (0 ≤ hli S x))]
theorem hlv_yes {S : List (List Int)} {x : Int} {k : Nat} (h : hli S x = k) : hlv S x = .tuple #[.int .i64 k, .bool true] := by
  unfold hlv; rw [h, if_pos (by omega), decide_eq_true (by omega)]
theorem hlv_no {S : List (List Int)} {x : Int} (h : hli S x = -1) : hlv S x = .tuple #[.int .i64 0, .bool false] := by
  unfold hlv; rw [h, if_neg (by omega), decide_eq_false (by omega)]
set_option maxHeartbeats 1000000 in
theorem arenodes_any (A : Option Addr) (n m : Nat) (z : List Int) (w : World) (hz : Us w A n z) (hn : n ≤ 1000000) :
    Calls Tryz.prog 219 #[.slice A n m] w (BPost (.bool (ndb z)) w) := by
  unfold BPost
  have HL := Lib.hid hz.1
  have HC : Hid (n ≠ 0 → ∃ g o, A = some ⟨g, o, none⟩ ∧ g < w.heap.size ∧ ∀ w', Below w.heap.size w w' → ∀ k, k < n → w'.cell? ⟨g, o + k, none⟩ = some (.int .u64 (z.getD k 0))) := Lib.hid fun h => hz.cells (by omega)
  have HYES := Lib.hid (ndb_yes (l := z))
  have HNO := Lib.hid (fun j => ndb_no (l := z) (j := j))
  generalize ndb z = r at *
  clear hz
  go_enter Tryz.func219, Tryz.ntmps219
  go_wp2
  go_loopw [7] (fun i wr => ∃ k : Nat, k ≤ n ∧ i = .int .i64 k ∧ Hid (∀ j, j < k → z.getD j 0 ≤ 4294967295) ∧ Below w.heap.size w wr) (fun i _ => n - (intOf i).toNat)
  case atStart => exact ⟨0, by omega, rfl, Lib.hid (by intro j hj; omega), Below.refl _ _⟩
  case round =>
    obtain ⟨k, hk, rfl, hj, hb⟩ := hrel
    by_cases hlt : k < n
    · obtain ⟨g, o, rfl, hg, hc⟩ := HC.out (by omega)
      have c0 := hc wr hb k hlt
      obtain ⟨y, hy⟩ : ∃ y, y = z.getD k 0 := ⟨_, rfl⟩
      rw [← hy] at c0
      have HY := Lib.hid hy
      have e2 : (k : Int) < n := by omega
      have e3 : IntKind.i64.wrap ((k : Int) + 1) = ((k + 1 : Nat) : Int) := IntWalk.i64_in _ (by omega)
      clear hc hy
      by_cases he : 4294967295 < y
      · have HR : Hid (r = false) := Lib.hid (HNO.out k (by rw [HL.out]; exact hlt) (by rw [← HY.out]; omega))
        have HB := Lib.hid hb
        clear hj hb
        go_wp2
        go_ret
        exact ⟨by rw [HR.out]; rfl, HB.out⟩
      · go_wp2
        go_roundw
        case rel => exact ⟨k + 1, by omega, by go_num, Lib.hid (fun j hjk => by
          rcases Nat.lt_or_ge j k with h | h
          · exact hj.out j h
          · obtain rfl : j = k := by omega
            rw [← HY.out]; omega), hb⟩
        case measure => simp [intOf]; omega
    · obtain rfl : k = n := by omega
      go_wp2
      go_ret
      exact ⟨by rw [HYES.out (fun j hj2 => hj.out j (by rw [HL.out] at hj2; exact hj2))]; rfl, hb⟩
set_option maxHeartbeats 1000000 in
theorem holder_any (P : Nat → Prop) (A : Option Addr) (n m : Nat) (S : List (List Int)) (x : Int) (w : World) (hz : Sts w P A n S) (hn : n ≤ 1000000) (hlen : ∀ l ∈ S, l.length ≤ 1000000) :
    Calls Tryz.prog 232 #[.slice A n m, .int .u64 x] w (BPost (hlv S x) w) := by
  unfold BPost
  have HL := Lib.hid hz.1
  have HC := Lib.hid (fun h => hz.cells h)
  have HYES := Lib.hid (fun k h1 h2 h3 => hlv_yes (hli_yes S x k h1 h2 h3))
  have HNO := Lib.hid (fun h => hlv_no (hli_no S x h))
  have HLEN : Hid (∀ k, k < n → (S.getD k []).length ≤ 1000000) := Lib.hid fun k hk => by
    have hkl : k < S.length := by rw [hz.1]; exact hk
    rw [List.getD_eq_getElem?_getD, List.getElem?_eq_getElem hkl]
    exact hlen _ (List.getElem_mem hkl)
  generalize hlv S x = r at *
  clear hz hlen
  go_enter Tryz.func232, Tryz.ntmps232
  go_wp2
  go_loopw [10] (fun i wr => ∃ k : Nat, k ≤ n ∧ i = .int .i64 k ∧ Hid (∀ j, j < k → (S.getD j []).contains x = false) ∧ Below w.heap.size w wr) (fun i _ => n - (intOf i).toNat)
  case atStart => exact ⟨0, by omega, rfl, Lib.hid (by intro j hj; omega), Below.refl _ _⟩
  case round =>
    obtain ⟨k, hk, rfl, hj, hb⟩ := hrel
    by_cases hlt : k < n
    · obtain ⟨g, o, rfl, _, hg, hc⟩ := HC.out (by omega)
      obtain ⟨a, l, mm, hl, hlm, han, hus, _, _, hcell⟩ := hc k hlt
      have c0 := hcell wr hb
      have hlen := HLEN.out k hlt
      rw [hl] at hlen
      have hcon := scontains_any a l mm (S.getD k []) x wr (hus.below hb) hlen
      unfold BPost at hcon
      have HR1 := Lib.hid (HYES.out k (by rw [HL.out]; exact hlt))
      obtain ⟨v, hv⟩ : ∃ v, v = (S.getD k []).contains x := ⟨_, rfl⟩
      rw [← hv] at hcon HR1
      have HV := Lib.hid hv
      have e2 : (k : Int) < n := by omega
      have e3 : IntKind.i64.wrap ((k : Int) + 1) = ((k + 1 : Nat) : Int) := IntWalk.i64_in _ (by omega)
      clear hc hv hl hus hcell han
      go_wp2_with fail
      refine hcon.mono ?_
      rintro e w1 ⟨rfl, hb1⟩
      have hb2 := hb.trans (hb1.mono hb.size)
      clear hcon hb1 c0
      cases v
      · clear hb
        go_wp2
        go_roundw
        case rel => exact ⟨k + 1, by omega, by go_num, Lib.hid (fun j hjk => by
          rcases Nat.lt_or_ge j k with h | h
          · exact hj.out j h
          · obtain rfl : j = k := by omega
            exact HV.out.symm), hb2⟩
        case measure => simp [intOf]; omega
      · have HR := Lib.hid (HR1.out rfl hj.out)
        have HB := Lib.hid hb2
        clear hj hb hb2 HR1
        go_wp2
        go_ret2
        exact ⟨by rw [HR.out]; rfl, HB.out⟩
    · obtain rfl : k = n := by omega
      go_wp2
      go_ret2
      exact ⟨by rw [HNO.out (fun j hj2 => hj.out j (by rw [HL.out] at hj2; exact hj2))]; rfl, hb⟩
end Go.Proofs.YtmiimjgfainclaaGreat.Cur
namespace Go.Proofs.YtmiimjgfainclaaGreat.Cur
open Go.RowKit Mem
set_option linter.unusedVariables false
set_option maxRecDepth 100000
def apB (S : List (List Int)) : Bool := (List.range S.length).all fun i => !tw (S.take i) (S.getD i [])
theorem apB_yes {S : List (List Int)} (h : ∀ i, i < S.length → tw (S.take i) (S.getD i []) = false) : apB S = true := by
  unfold apB
  rw [List.all_eq_true]
  intro i hi
  rw [h i (List.mem_range.1 hi)]; rfl
theorem apB_no {S : List (List Int)} {i : Nat} (hi : i < S.length) (h : tw (S.take i) (S.getD i []) = true) : apB S = false := by
  cases e : apB S with
  | false => rfl
  | true =>
    unfold apB at e
    rw [List.all_eq_true] at e
    have := e i (List.mem_range.2 hi)
    rw [h] at this; cases this
theorem tw_no {S : List (List Int)} {l : List Int} (h : ∀ j, j < l.length → (S.any fun s => s.contains (l.getD j 0)) = false) : tw S l = false := by
  unfold tw
  rw [List.any_eq_false]
  intro s hs hh
  rw [List.any_eq_true] at hh
  obtain ⟨x, hx, hsx⟩ := hh
  obtain ⟨j, hj, e⟩ := List.mem_iff_getElem.1 hx
  have := h j hj
  rw [List.any_eq_false] at this
  refine this s hs ?_
  rw [List.getD_eq_getElem?_getD, List.getElem?_eq_getElem hj, Option.getD_some, e]; exact hsx
theorem tw_yes {S : List (List Int)} {l : List Int} {j : Nat} (hj : j < l.length) (h : (S.any fun s => s.contains (l.getD j 0)) = true) : tw S l = true := by
  unfold tw
  rw [List.any_eq_true] at h ⊢
  obtain ⟨s, hs, hx⟩ := h
  refine ⟨s, hs, ?_⟩
  rw [List.any_eq_true]
  exact ⟨_, getD_mem hj, hx⟩
theorem getD_len {S : List (List Int)} {M : Nat} (h : ∀ l ∈ S, l.length ≤ M) (k : Nat) : (S.getD k []).length ≤ M := by
  rw [List.getD_eq_getElem?_getD]
  rcases hk : S[k]? with _ | l
  · simp
  · exact h l (List.mem_of_getElem? hk)
set_option maxHeartbeats 2000000 in
theorem apart_any (P : Nat → Prop) (A : Option Addr) (n m : Nat) (S : List (List Int)) (w : World) (hz : Sts w P A n S) (hm : n ≤ m) (hn : n ≤ 1000000) (hlen : ∀ l ∈ S, l.length ≤ 1000000) :
    Calls Tryz.prog 220 #[.slice A n m] w (BPost (.bool (apB S)) w) := by
  unfold BPost
  have HL := Lib.hid hz.1
  have HC := Lib.hid (fun h => hz.cells h)
  have HZ := Lib.hid hz
  have HLEN := Lib.hid hlen
  have HYES := Lib.hid (apB_yes (S := S))
  have HNO := Lib.hid (fun i h1 => apB_no (S := S) (i := i) h1)
  have HSL : ∀ (k : Nat), k ≤ n → ∀ w', (Instr.slice 126 (.slice A n m) none (some (.int .i64 (k : Int))) none).run Tryz.prog w' = .ok (.slice A k m) w' := fun k hk w' => by
    have := run_slice_h (P := Tryz.prog) (w := w') 126 A n m Tryz.underlying126 .i64 (k : Int) (by omega) (by omega)
    have hs : ∀ w', (sizeOf 23).run Tryz.prog w' = .ok 1 w' := fun w' => by kernel_rfl
    have he : Tryz.prog.elem 126 = 23 := by kernel_rfl
    rw [this, Int.toNat_natCast, he, hs]
    have e0 : ∀ a : Addr, a.add 0 = a := fun a => by unfold Addr.add; simp
    simp [Result.andThen, sliced, e0]
  generalize apB S = r at *
  clear hz hlen
  go_enter Tryz.func220, Tryz.ntmps220
  go_wp2
  go_step3
  go_wp2
  go_step3
  go_wp2
  go_loopw [3, 10] (fun t i wr => t = .bool false ∧ ∃ k : Nat, k ≤ n ∧ i = .int .i64 k ∧ Hid (∀ j, j < k → tw (S.take j) (S.getD j []) = false) ∧ Below w.heap.size w wr) (fun _ i _ => n - (intOf i).toNat)
  case atStart => exact ⟨rfl, 0, by omega, rfl, Lib.hid (by intro j hj; omega), Below.refl _ _⟩
  case round =>
    obtain ⟨rfl, k, hk, rfl, hj, hb⟩ := hrel
    by_cases hlt : k < n
    · obtain ⟨g, o, rfl, _, hg, hc⟩ := HC.out (by omega)
      obtain ⟨a, l, mm, hl, hlm, han, hus, _, _, hcell⟩ := hc k hlt
      have c0 := hcell wr hb
      have hll := getD_len HLEN.out k
      rw [hl] at hll
      have HL2 := Lib.hid hl
      have HUC := Lib.hid (fun (h : l ≠ 0) => hus.cells (by omega))
      have hsl := HSL k (by omega)
      have HR1 := Lib.hid (HNO.out k (by rw [HL.out]; exact hlt))
      have HTY := Lib.hid (fun j => tw_yes (S := S.take k) (l := S.getD k []) (j := j))
      have HTN := Lib.hid (tw_no (S := S.take k) (l := S.getD k []))
      have HZK := Lib.hid (HZ.out.take (k := k) (by omega))
      have HLK : Hid (∀ l ∈ S.take k, l.length ≤ 1000000) := Lib.hid fun l hl => HLEN.out l (List.mem_of_mem_take hl)
      have e2 : (k : Int) < n := by omega
      have e3 : IntKind.i64.wrap ((k : Int) + 1) = ((k + 1 : Nat) : Int) := IntWalk.i64_in _ (by omega)
      have HB := Lib.hid hb
      clear hc hus hcell han hl hb HSL
      go_wp2
      clear c0
      go_loopw [3, 17] (fun t i wr => t = .bool false ∧ ∃ j : Nat, j ≤ l ∧ i = .int .i64 j ∧ Hid (∀ i, i < j → ((S.take k).any fun s => s.contains ((S.getD k []).getD i 0)) = false) ∧ Below w.heap.size w wr) (fun _ i _ => l - (intOf i).toNat)
      case atStart => exact ⟨rfl, 0, by omega, rfl, Lib.hid (by intro j hj; omega), HB.out⟩
      case round =>
        obtain ⟨rfl, j, hjl, rfl, hjj, hb⟩ := hrel
        by_cases hjt : j < l
        · obtain ⟨g2, o2, rfl, hg2, hc2⟩ := HUC.out (by omega)
          have c0 := hc2 _ hb j hjt
          have f2 : (j : Int) < l := by omega
          have f3 : IntKind.i64.wrap ((j : Int) + 1) = ((j + 1 : Nat) : Int) := IntWalk.i64_in _ (by omega)
          obtain ⟨x, hx⟩ : ∃ x, x = (S.getD k []).getD j 0 := ⟨_, rfl⟩
          rw [← hx] at c0
          have HX := Lib.hid hx
          clear hx hc2
          have hcon := holder_any P _ k m (S.take k) x wr (HZK.out.below hb) (by omega) HLK.out
          unfold BPost at hcon
          have HM := Lib.hid (hli_mem (S.take k) x)
          have HBD := Lib.hid (hli_bd (S.take k) x)
          have HVY := Lib.hid (fun (i : Nat) (h : hli (S.take k) x = i) => hlv_yes h)
          have HVN := Lib.hid (fun (h : hli (S.take k) x = -1) => hlv_no h)
          have HXJ := Lib.hid (HTY.out j (by rw [HL2.out]; exact hjt))
          rw [← HX.out] at HXJ
          generalize hlv (S.take k) x = vv at *
          generalize hli (S.take k) x = ii at *
          go_wp2_with fail
          refine hcon.mono ?_
          rintro e w1 ⟨rfl, hb1⟩
          have HB1 := Lib.hid (hb.trans (hb1.mono hb.size))
          clear hcon hb1 c0 hb
          by_cases hi : 0 ≤ ii
          · obtain ⟨i, rfl⟩ := Int.eq_ofNat_of_zero_le hi
            rw [HVY.out i rfl]
            have HR := Lib.hid (HR1.out (HXJ.out (by rw [← HM.out]; exact decide_eq_true hi)))
            clear hi
            go_wp2
            rw [Exit.noGoto_ret]
            go_ret
            exact ⟨by rw [HR.out]; rfl, HB1.out⟩
          · rw [HVN.out (by have := HBD.out; omega)]
            have HF : Hid (((S.take k).any fun s => s.contains x) = false) := Lib.hid (by rw [← HM.out]; exact decide_eq_false hi)
            clear hi
            go_wp2
            go_roundw
            case rel => exact ⟨rfl, j + 1, by omega, by go_num, Lib.hid (fun i hij => by
              rcases Nat.lt_or_ge i j with h | h
              · exact hjj.out i h
              · obtain rfl : i = j := by omega
                rw [← HX.out]; exact HF.out), HB1.out⟩
            case measure => simp [intOf]; omega
        · obtain rfl : j = l := by omega
          have HF := Lib.hid (HTN.out (fun i hi => hjj.out i (by rw [HL2.out] at hi; exact hi)))
          clear hjt
          go_wp2
          go_roundw
          case rel => exact ⟨rfl, k + 1, by omega, by go_num, Lib.hid (fun i hij => by
            rcases Nat.lt_or_ge i k with h | h
            · exact hj.out i h
            · obtain rfl : i = k := by omega
              exact HF.out), hb⟩
          case measure => simp [intOf]; omega
    · obtain rfl : k = n := by omega
      go_wp2
      rw [Exit.noGoto_ret]
      go_ret
      exact ⟨by rw [HYES.out (fun i hi => hj.out i (by rw [HL.out] at hi; exact hi))]; rfl, hb⟩
end Go.Proofs.YtmiimjgfainclaaGreat.Cur
namespace Go.Proofs.YtmiimjgfainclaaGreat.Cur
open Go.RowKit Mem
set_option linter.unusedVariables false
set_option maxRecDepth 100000
def fne (l : List Int) : Bool := decide (1 ≤ l.length) && decide (l.length ≤ 8) && risesB l && ndb l
theorem seok_fne (S : List (List Int)) (l : List Int) : seok S l = (fne l && !tw S l) := by
  unfold seok fne
  by_cases h1 : 1 ≤ l.length
  · cases hr : risesB l
    · simp
    · rw [ndb_last hr h1]
  · rw [decide_eq_false h1]; simp
theorem sok_eq : ∀ (S A : List (List Int)), sok A S = (S.all fne && (List.range S.length).all fun i => !tw (A ++ S.take i) (S.getD i []))
  | [], A => rfl
  | l :: S, A => by
    unfold sok
    rw [seok_fne, sok_eq S (A ++ [l]), List.all_cons, List.length_cons, List.range_succ_eq_map, List.all_cons, List.all_map]
    have e : ((fun i => !tw (A ++ (l :: S).take i) ((l :: S).getD i [])) ∘ Nat.succ) = fun i => !tw (A ++ [l] ++ S.take i) (S.getD i []) := by
      funext i
      simp [List.getD_eq_getElem?_getD]
    rw [e]
    simp only [List.take_zero, List.append_nil, List.getD_cons_zero]
    cases fne l <;> cases tw A l <;> cases S.all fne <;> simp
theorem sok_ap (S : List (List Int)) : sok [] S = (S.all fne && apB S) := by
  rw [sok_eq]; unfold apB; simp only [List.nil_append]
def rsB (S : List (List Int)) : Bool := decide (1 ≤ S.length) && decide (S.length ≤ 8) && sok [] S
theorem stok_rs (s : Stp) : stok s = (decide (s.1 < s.2.1) && decide (s.2.1 ≤ 4611686018427387904) && rsB s.2.2) := by
  unfold stok rsB
  simp only [Bool.and_assoc]
theorem all_fne {S : List (List Int)} (h : ∀ j, j < S.length → fne (S.getD j []) = true) : S.all fne = true := by
  rw [List.all_eq_true]
  intro l hl
  obtain ⟨j, hj, e⟩ := List.mem_iff_getElem.1 hl
  have := h j hj
  rw [List.getD_eq_getElem?_getD, List.getElem?_eq_getElem hj, Option.getD_some, e] at this
  exact this
theorem not_all_fne {S : List (List Int)} {j : Nat} (hj : j < S.length) (h : fne (S.getD j []) = false) : S.all fne = false := by
  cases e : S.all fne with
  | false => rfl
  | true =>
    rw [List.all_eq_true] at e
    have := e _ (List.getElem_mem hj)
    rw [List.getD_eq_getElem?_getD, List.getElem?_eq_getElem hj, Option.getD_some] at h
    rw [h] at this; cases this
theorem rsB_no {S : List (List Int)} {j : Nat} (hj : j < S.length) (h : fne (S.getD j []) = false) : rsB S = false := by
  unfold rsB; rw [sok_ap, not_all_fne hj h]; simp
theorem rsB_end {S : List (List Int)} (h0 : 1 ≤ S.length) (h1 : S.length ≤ 8) (h : ∀ j, j < S.length → fne (S.getD j []) = true) : rsB S = apB S := by
  unfold rsB; rw [sok_ap, all_fne h, decide_eq_true h0, decide_eq_true h1]; simp
set_option maxHeartbeats 4000000 in
theorem rightsets_any (P : Nat → Prop) (A : Option Addr) (n m : Nat) (S : List (List Int)) (w : World) (hz : Sts w P A n S) (hm : n ≤ m) (hn : n ≤ 1000000) (hlen : ∀ l ∈ S, l.length ≤ 1000000) :
    Calls Tryz.prog 198 #[.slice A n m] w (BPost (.bool (rsB S)) w) := by
  unfold BPost
  have HL := Lib.hid hz.1
  by_cases h1 : n < 1
  · have HR : Hid (rsB S = false) := Lib.hid (by unfold rsB; rw [decide_eq_false (by have := HL.out; omega)]; simp)
    clear hz hlen
    go_enter Tryz.func198, Tryz.ntmps198
    go_wp2
    go_ret
    exact ⟨by rw [HR.out]; rfl, Below.refl _ _⟩
  by_cases h2 : 8 < n
  · have HR : Hid (rsB S = false) := Lib.hid (by unfold rsB; rw [decide_eq_false (show ¬ S.length ≤ 8 by have := HL.out; omega)]; simp)
    clear hz hlen
    go_enter Tryz.func198, Tryz.ntmps198
    go_wp2
    go_ret
    exact ⟨by rw [HR.out]; rfl, Below.refl _ _⟩
  have HC := Lib.hid (hz.cells (by omega))
  have HZ := Lib.hid hz
  have HLEN := Lib.hid hlen
  have HNO := Lib.hid (fun j h => rsB_no (S := S) (j := j) h)
  have HEND := Lib.hid (rsB_end (S := S) (by have := HL.out; omega) (by have := HL.out; omega))
  generalize rsB S = r at *
  clear hz hlen
  obtain ⟨g, o, rfl, _, hg, hc⟩ := HC.out
  have HC2 := Lib.hid hc
  clear hc HC
  go_enter Tryz.func198, Tryz.ntmps198
  go_wp2
  go_loopw [15] (fun i wr => ∃ k : Nat, k ≤ n ∧ i = .int .i64 k ∧ Hid (∀ j, j < k → fne (S.getD j []) = true) ∧ Below w.heap.size w wr) (fun i _ => n - (intOf i).toNat)
  case atStart => exact ⟨0, by omega, rfl, Lib.hid (by intro j hj; omega), Below.refl _ _⟩
  case round =>
    obtain ⟨k, hk, rfl, hj, hb⟩ := hrel
    by_cases hlt : k < n
    · obtain ⟨a, l, mm, hl, hlm, han, hus, _, hby, hcell⟩ := HC2.out k hlt
      have c0 := hcell wr hb
      have hll := getD_len HLEN.out k
      rw [hl] at hll
      have HR1 := Lib.hid (HNO.out k (by rw [HL.out]; exact hlt))
      have e2 : (k : Int) < n := by omega
      have e3 : IntKind.i64.wrap ((k : Int) + 1) = ((k + 1 : Nat) : Int) := IntWalk.i64_in _ (by omega)
      have hus2 := hus.below hb
      have hrcon := rises_any a l mm (S.getD k []) wr hus2 hll hby
      have hncon := fun w' (h : Below w.heap.size w w') => arenodes_any a l mm (S.getD k []) w' (hus.below h) hll
      unfold BPost at hrcon hncon
      have HF : Hid (fne (S.getD k []) = (decide (1 ≤ l) && decide (l ≤ 8) && risesB (S.getD k []) && ndb (S.getD k []))) := Lib.hid (by unfold fne; rw [hl])
      have HJ := Lib.hid (fun (h : fne (S.getD k []) = true) (i : Nat) (hi : i < k + 1) => show fne (S.getD i []) = true by
        rcases Nat.lt_or_ge i k with h2 | h2
        · exact hj.out i h2
        · obtain rfl : i = k := by omega
          exact h)
      generalize fne (S.getD k []) = fv at *
      generalize risesB (S.getD k []) = rv at *
      generalize ndb (S.getD k []) = nv at *
      clear hl hus hus2 hby hcell hj
      by_cases h3 : l < 1
      · have HR := Lib.hid (HR1.out (by rw [HF.out, decide_eq_false (by omega)]; simp))
        clear hrcon hncon
        go_wp2
        go_ret
        exact ⟨by rw [HR.out]; rfl, hb⟩
      by_cases h4 : 8 < l
      · have HR := Lib.hid (HR1.out (by rw [HF.out, decide_eq_false (show ¬ l ≤ 8 by omega)]; simp))
        clear hrcon hncon
        go_wp2
        go_ret
        exact ⟨by rw [HR.out]; rfl, hb⟩
      have HF2 : Hid (fv = (rv && nv)) := Lib.hid (by rw [HF.out, decide_eq_true (by omega), decide_eq_true (by omega)]; simp)
      cases rv
      · have HR := Lib.hid (HR1.out (by rw [HF2.out]; rfl))
        clear hncon
        go_wp2_with fail
        refine hrcon.mono ?_
        rintro e w1 ⟨rfl, hb1⟩
        have HB1 := Lib.hid (hb.trans (hb1.mono hb.size))
        clear hrcon hb1 c0 hb
        go_wp2
        go_ret
        exact ⟨by rw [HR.out]; rfl, HB1.out⟩
      · go_wp2_with fail
        refine hrcon.mono ?_
        rintro e w1 ⟨rfl, hb1⟩
        have hb2 := hb.trans (hb1.mono hb.size)
        replace hncon := hncon w1 hb2
        clear hrcon hb1 c0 hb
        go_wp2_with fail
        refine hncon.mono ?_
        rintro e w2 ⟨rfl, hb3⟩
        have HB := Lib.hid (hb2.trans (hb3.mono hb2.size))
        clear hncon hb2 hb3
        cases nv
        · have HR := Lib.hid (HR1.out (by rw [HF2.out]; rfl))
          go_wp2
          go_ret
          exact ⟨by rw [HR.out]; rfl, HB.out⟩
        · have HJ2 := Lib.hid (HJ.out (by rw [HF2.out]; rfl))
          go_wp2
          go_roundw
          case rel => exact ⟨k + 1, by omega, by go_num, HJ2, HB.out⟩
          case measure => simp [intOf]; omega
    · obtain rfl : k = n := by omega
      have hcon := apart_any P _ k m S wr (HZ.out.below hb) hm hn HLEN.out
      rw [← HEND.out (fun i hi => hj.out i (by rw [HL.out] at hi; exact hi))] at hcon
      unfold BPost at hcon
      clear hlt
      go_wp2_with fail
      refine hcon.mono ?_
      rintro e w1 ⟨rfl, hb1⟩
      have HB := Lib.hid (hb.trans (hb1.mono hb.size))
      clear hcon hb hb1
      go_wp2
      go_ret
      exact ⟨rfl, HB.out⟩
abbrev stagg (f t : Int) (A : Option Addr) (n m : Nat) : Value := .agg #[.int .u64 f, .int .u64 t, .slice A n m]
abbrev stc (f t : Int) (A : Option Addr) (n m : Nat) : Array Value := #[.int .u64 f, .int .u64 t, .slice A n m]
set_option maxHeartbeats 2000000 in
theorem stright_any (P : Nat → Prop) (f t : Int) (A : Option Addr) (n m : Nat) (S : List (List Int)) (w : World) (hz : Sts w P A n S) (hm : n ≤ m) (hn : n ≤ 1000000) (hlen : ∀ l ∈ S, l.length ≤ 1000000) :
    Calls Tryz.prog 164 #[stagg f t A n m] w (BPost (.bool (stok (f, t, S))) w) := by
  have hX := Blk.new w (stc f t A n m) 128
  have hb := below_one w (.cells (stc f t A n m) 128)
  obtain ⟨x0, x1, x2⟩ := hX.c3
  have hcon := rightsets_any P A n m S _ (hz.below hb) hm hn hlen
  unfold BPost at hcon ⊢
  have HV : Hid (stok (f, t, S) = (decide (f < t) && decide (t ≤ 4611686018427387904) && rsB S)) := Lib.hid (stok_rs _)
  generalize stok (f, t, S) = V at *
  generalize rsB S = r at *
  clear hX hz hlen
  by_cases h1 : f < t
  · by_cases h2 : t ≤ 4611686018427387904
    · go_enter Tryz.func164, Tryz.ntmps164
      go_wp2_with fail
      refine hcon.mono ?_
      rintro e w1 ⟨rfl, hb1⟩
      have HB := Lib.hid (hb.trans (hb1.mono hb.size))
      have HVV : Hid (V = r) := Lib.hid (by rw [HV.out, decide_eq_true h1, decide_eq_true h2]; simp)
      clear hcon hb1
      go_wp2
      go_ret
      exact ⟨by rw [HVV.out]; rfl, HB.out⟩
    · have HVV : Hid (V = false) := Lib.hid (by rw [HV.out, decide_eq_false h2]; simp)
      clear hcon
      go_enter Tryz.func164, Tryz.ntmps164
      go_wp2
      go_ret
      exact ⟨by rw [HVV.out]; rfl, hb⟩
  · have HVV : Hid (V = false) := Lib.hid (by rw [HV.out, decide_eq_false h1]; simp)
    clear hcon
    go_enter Tryz.func164, Tryz.ntmps164
    go_wp2
    go_ret
    exact ⟨by rw [HVV.out]; rfl, hb⟩
end Go.Proofs.YtmiimjgfainclaaGreat.Cur
namespace Go.Proofs.YtmiimjgfainclaaGreat.Cur
open Go.RowKit Mem
set_option linter.unusedVariables false
set_option maxRecDepth 100000
theorem has_yes {z : List Int} {x : Int} {j : Nat} (hj : j < z.length) (h : z.getD j 0 = x) : z.contains x = true := by
  rw [← h]; simpa using getD_mem hj
theorem has_no {z : List Int} {x : Int} (h : ∀ j, j < z.length → z.getD j 0 ≠ x) : z.contains x = false := by
  cases e : z.contains x with
  | false => rfl
  | true =>
    have hm : x ∈ z := by simpa using e
    obtain ⟨j, hj, e2⟩ := List.mem_iff_getElem.1 hm
    have := h j hj
    rw [List.getD_eq_getElem?_getD, List.getElem?_eq_getElem hj] at this
    exact absurd e2 this
set_option maxHeartbeats 1000000 in
theorem rhas_any (A : Option Addr) (n m : Nat) (z : List Int) (x : Int) (w : World) (hz : Us w A n z) (hn : n ≤ 1000000) :
    Calls Tryz.prog 200 #[.slice A n m, .int .u64 x] w (BPost (.bool (z.contains x)) w) := by
  unfold BPost
  have HL := Lib.hid hz.1
  have HC : Hid (n ≠ 0 → ∃ g o, A = some ⟨g, o, none⟩ ∧ g < w.heap.size ∧ ∀ w', Below w.heap.size w w' → ∀ k, k < n → w'.cell? ⟨g, o + k, none⟩ = some (.int .u64 (z.getD k 0))) := Lib.hid fun h => hz.cells (by omega)
  have HYES := Lib.hid (fun j => has_yes (z := z) (x := x) (j := j))
  have HNO := Lib.hid (has_no (z := z) (x := x))
  generalize z.contains x = r at *
  clear hz
  go_enter Tryz.func200, Tryz.ntmps200
  go_wp2
  go_loopw [5] (fun i wr => ∃ k : Nat, k ≤ n ∧ i = .int .i64 k ∧ Hid (∀ j, j < k → z.getD j 0 ≠ x) ∧ Below w.heap.size w wr) (fun i _ => n - (intOf i).toNat)
  case atStart => exact ⟨0, by omega, rfl, Lib.hid (by intro j hj; omega), Below.refl _ _⟩
  case round =>
    obtain ⟨k, hk, rfl, hj, hb⟩ := hrel
    by_cases hlt : k < n
    · obtain ⟨g, o, rfl, hg, hc⟩ := HC.out (by omega)
      have c0 := hc wr hb k hlt
      obtain ⟨y, hy⟩ : ∃ y, y = z.getD k 0 := ⟨_, rfl⟩
      rw [← hy] at c0
      have HY := Lib.hid hy
      have e2 : (k : Int) < n := by omega
      have e3 : IntKind.i64.wrap ((k : Int) + 1) = ((k + 1 : Nat) : Int) := IntWalk.i64_in _ (by omega)
      clear hc hy
      by_cases he : y = x
      · have hb2 : (y == x) = true := by simpa using he
        have HR : Hid (r = true) := Lib.hid (HYES.out k (by rw [HL.out]; exact hlt) (by rw [← HY.out]; exact he))
        have HB := Lib.hid hb
        clear he hj hb
        go_wp2
        go_ret
        exact ⟨by rw [HR.out]; rfl, HB.out⟩
      · have hb2 : (y == x) = false := by simpa using he
        have HNE := Lib.hid he
        clear he
        go_wp2
        go_roundw
        case rel => exact ⟨k + 1, by omega, by go_num, Lib.hid (fun j hjk => by
          rcases Nat.lt_or_ge j k with h | h
          · exact hj.out j h
          · obtain rfl : j = k := by omega
            rw [← HY.out]; exact HNE.out), hb⟩
        case measure => simp [intOf]; omega
    · obtain rfl : k = n := by omega
      go_wp2
      go_ret
      exact ⟨by rw [HNO.out (fun j hj2 => hj.out j (by rw [HL.out] at hj2; exact hj2))]; rfl, hb⟩
theorem tw_at {S : List (List Int)} {l : List Int} {i j : Nat} (hi : i < S.length) (hj : j < l.length) (h : (S.getD i []).contains (l.getD j 0) = true) : tw S l = true :=
  tw_yes hj (by
    rw [List.any_eq_true]
    refine ⟨S.getD i [], ?_, h⟩
    rw [List.getD_eq_getElem?_getD, List.getElem?_eq_getElem hi]
    exact List.getElem_mem hi)
theorem tw_none {S : List (List Int)} {l : List Int} (h : ∀ i, i < S.length → ∀ j, j < l.length → (S.getD i []).contains (l.getD j 0) = false) : tw S l = false :=
  tw_no fun j hj => by
    rw [List.any_eq_false]
    intro s hs hh
    obtain ⟨i, hi, e⟩ := List.mem_iff_getElem.1 hs
    have := h i hi j hj
    rw [List.getD_eq_getElem?_getD, List.getElem?_eq_getElem hi, Option.getD_some, e] at this
    rw [this] at hh; cases hh
theorem getD_take {S : List (List Int)} {k i : Nat} (h : i < k) : (S.take k).getD i [] = S.getD i [] := by
  rw [List.getD_eq_getElem?_getD, List.getD_eq_getElem?_getD, List.getElem?_take_of_lt h]
set_option maxHeartbeats 2000000 in
theorem rtwice_any (P : Nat → Prop) (A : Option Addr) (n m : Nat) (S : List (List Int)) (k : Nat) (a : Option Addr) (l c : Nat) (z : List Int) (w : World) (hz : Sts w P A n S) (hk : k ≤ n) (hn : n ≤ 1000000) (hlen : ∀ l ∈ S, l.length ≤ 1000000) (hl : Us w a l z) (hln : l ≤ 1000000) :
    Calls Tryz.prog 171 #[.slice A n m, .int .i64 k, .slice a l c] w (BPost (.bool (tw (S.take k) z)) w) := by
  unfold BPost
  have HL := Lib.hid hz.1
  have HL2 := Lib.hid hl.1
  have HC := Lib.hid (fun h => hz.cells h)
  have HC2 := Lib.hid (fun (h : l ≠ 0) => hl.cells (by omega))
  have HLEN := Lib.hid hlen
  have hkl : (S.take k).length = k := by rw [List.length_take, hz.1]; omega
  have HYES : Hid (∀ i, i < k → ∀ j, j < l → (S.getD i []).contains (z.getD j 0) = true → tw (S.take k) z = true) := Lib.hid fun i hi j hj h => tw_at (i := i) (by omega) (by rw [hl.1]; exact hj) (by rw [getD_take hi]; exact h)
  have HNO : Hid ((∀ i, i < k → ∀ j, j < l → (S.getD i []).contains (z.getD j 0) = false) → tw (S.take k) z = false) := Lib.hid fun h => tw_none fun i hi j hj => by rw [hkl] at hi; rw [getD_take hi]; exact h i hi j (by rw [hl.1] at hj; exact hj)
  generalize tw (S.take k) z = r at *
  clear hz hlen hl hkl
  go_enter Tryz.func171, Tryz.ntmps171
  go_wp2
  go_loopw [7] (fun v wr => ∃ i : Nat, i ≤ k ∧ v = .int .i64 i ∧ Hid (∀ i', i' < i → ∀ j, j < l → (S.getD i' []).contains (z.getD j 0) = false) ∧ Below w.heap.size w wr) (fun i _ => k - (intOf i).toNat)
  case atStart => exact ⟨0, by omega, rfl, Lib.hid (by intro j hj; omega), Below.refl _ _⟩
  case round =>
    obtain ⟨i, hi, rfl, hii, hb⟩ := hrel
    by_cases hlt : i < k
    · obtain ⟨g, o, rfl, _, hg, hc⟩ := HC.out (by omega)
      obtain ⟨a1, l1, m1, hl1, hlm, han, hus, _, _, hcell⟩ := hc i (by omega)
      have hll := getD_len HLEN.out i
      rw [hl1] at hll
      have e2 : (i : Int) < k := by omega
      have e3 : IntKind.i64.wrap ((i : Int) + 1) = ((i + 1 : Nat) : Int) := IntWalk.i64_in _ (by omega)
      have HCELL := Lib.hid hcell
      have HUS := Lib.hid hus
      have HR1 := Lib.hid (HYES.out i hlt)
      have HB := Lib.hid hb
      have HN : i < n := by omega
      clear hc hus hcell han hl1 hb
      go_wp2
      go_loopw [8] (fun v wr => ∃ j : Nat, j ≤ l ∧ v = .int .i64 j ∧ Hid (∀ j', j' < j → (S.getD i []).contains (z.getD j' 0) = false) ∧ Below w.heap.size w wr) (fun i _ => l - (intOf i).toNat)
      case atStart => exact ⟨0, by omega, rfl, Lib.hid (by intro j hj; omega), HB.out⟩
      case round =>
        obtain ⟨j, hj, rfl, hjj, hb⟩ := hrel
        by_cases hjt : j < l
        · obtain ⟨g2, o2, rfl, hg2, hc2⟩ := HC2.out (by omega)
          have f2 : (j : Int) < l := by omega
          have f3 : IntKind.i64.wrap ((j : Int) + 1) = ((j + 1 : Nat) : Int) := IntWalk.i64_in _ (by omega)
          obtain ⟨x, hx⟩ : ∃ x, x = z.getD j 0 := ⟨_, rfl⟩
          have L1 : ∀ w', Below w.heap.size w w' → w'.cell? ⟨g2, o2 + j, none⟩ = some (.int .u64 x) := fun w' h => by rw [hx]; exact hc2 w' h j hjt
          have L2 : ∀ w', Below w.heap.size w w' → w'.cell? ⟨g, o + i, none⟩ = some (.slice a1 l1 m1) := fun w' h => HCELL.out w' h
          have HX := Lib.hid hx
          have hcon := fun w' (h : Below w.heap.size w w') => rhas_any a1 l1 m1 (S.getD i []) x w' (HUS.out.below h) hll
          have HRJ := Lib.hid (HR1.out j hjt)
          rw [← HX.out] at HRJ
          obtain ⟨v, hv⟩ : ∃ v, v = (S.getD i []).contains x := ⟨_, rfl⟩
          rw [← hv] at hcon HRJ
          have HV := Lib.hid hv
          have HCON := Lib.hid hcon
          clear hx hv hcon hc2
          have hS := hb.trans ((below_one' _).mono hb.size)
          go_wp2
          refine Seq.wp_region_seq (fun w' => Below w.heap.size w w') (by kernel_rfl) (by kernel_rfl) hS ?_
          repeat (first | (refine Seq.Seq.skip (by rfl) ?_; (try simp only [Act.put, List.setIfInBounds_toArray, List.set_cons_zero, List.set_cons_succ])) | (refine Seq.Seq.det ?_ (by rfl) (fun w hS => ?_) ?_; rotate_left; ((try dsimp only at hS); go_simp; (try rw [if_pos (by omega)]); with_reducible rfl); (try simp only [Act.put, List.setIfInBounds_toArray, List.set_cons_zero, List.set_cons_succ])))
          refine Seq.Seq.make (by rfl) (by rfl) (fun K Q' hK => ?_)
          go_simp
          go_at_call 200
          with_reducible refine (HCON.out _ hS).mono ?_
          rintro e w5 ⟨rfl, hb5⟩
          replace hS := hS.trans (hb5.mono hS.size)
          refine hK.out _ _ (hS) ?_
          clear hK K
          try simp only [Act.put, List.setIfInBounds_toArray, List.set_cons_zero, List.set_cons_succ]
          repeat (first | (refine Seq.Seq.skip (by rfl) ?_; (try simp only [Act.put, List.setIfInBounds_toArray, List.set_cons_zero, List.set_cons_succ])) | (refine Seq.Seq.det ?_ (by rfl) (fun w hS => ?_) ?_; rotate_left; ((try dsimp only at hS); go_simp; (try rw [if_pos (by omega)]); with_reducible rfl); (try simp only [Act.put, List.setIfInBounds_toArray, List.set_cons_zero, List.set_cons_succ])))
          refine Seq.Seq.nil ?_
          have HB2 := Lib.hid hS
          clear hb5 hS hb L1 L2
          cases v
          · go_wp2
            go_roundw
            case rel => exact ⟨j + 1, by omega, by go_num, Lib.hid (fun j' hj' => by
              rcases Nat.lt_or_ge j' j with h | h
              · exact hjj.out j' h
              · obtain rfl : j' = j := by omega
                rw [← HX.out]; exact HV.out.symm), HB2.out⟩
            case measure => simp [intOf]; omega
          · have HR := Lib.hid (HRJ.out rfl)
            go_wp2
            go_ret
            exact ⟨by rw [HR.out]; rfl, HB2.out⟩
        · obtain rfl : j = l := by omega
          clear hjt
          go_wp2
          go_roundw
          case rel => exact ⟨i + 1, by omega, by go_num, Lib.hid (fun i' hi' => by
            rcases Nat.lt_or_ge i' i with h | h
            · exact hii.out i' h
            · obtain rfl : i' = i := by omega
              exact hjj.out), hb⟩
          case measure => simp [intOf]; omega
    · obtain rfl : i = k := by omega
      go_wp2
      go_ret
      exact ⟨by rw [HNO.out hii.out]; rfl, hb⟩
theorem sok_all : ∀ (S A : List (List Int)), sok A S = (List.range S.length).all fun i => seok (A ++ S.take i) (S.getD i [])
  | [], A => rfl
  | l :: S, A => by
    unfold sok
    rw [sok_all S (A ++ [l]), List.length_cons, List.range_succ_eq_map, List.all_cons, List.all_map]
    have e : ((fun i => seok (A ++ (l :: S).take i) ((l :: S).getD i [])) ∘ Nat.succ) = fun i => seok (A ++ [l] ++ S.take i) (S.getD i []) := by
      funext i
      simp [List.getD_eq_getElem?_getD]
    rw [e]
    simp
theorem sok_yes {S : List (List Int)} (h : ∀ i, i < S.length → seok (S.take i) (S.getD i []) = true) : sok [] S = true := by
  rw [sok_all, List.all_eq_true]
  intro i hi
  rw [List.nil_append]; exact h i (List.mem_range.1 hi)
theorem sok_no {S : List (List Int)} {i : Nat} (hi : i < S.length) (h : seok (S.take i) (S.getD i []) = false) : sok [] S = false := by
  cases e : sok [] S with
  | false => rfl
  | true =>
    rw [sok_all, List.all_eq_true] at e
    have := e i (List.mem_range.2 hi)
    rw [List.nil_append, h] at this; cases this
set_option maxHeartbeats 4000000 in
theorem rright19_any (P : Nat → Prop) (f t : Int) (A : Option Addr) (n m : Nat) (S : List (List Int)) (w : World) (hz : Sts w P A n S) (hm : n ≤ m) (hn : n ≤ 1000000) (hlen : ∀ l ∈ S, l.length ≤ 1000000) :
    Calls Tryz.prog 119 #[stagg f t A n m] w (BPost (.bool (stok (f, t, S))) w) := by
  have hX := Blk.new w (stc f t A n m) 128
  have hb := below_one w (.cells (stc f t A n m) 128)
  obtain ⟨x0, x1, x2⟩ := hX.c3
  unfold BPost
  have HV : Hid (stok (f, t, S) = (decide (f < t) && decide (t ≤ 4611686018427387904) && decide (1 ≤ n) && decide (n ≤ 8) && sok [] S)) := Lib.hid (by unfold stok; simp only [hz.1])
  have HL := Lib.hid hz.1
  generalize stok (f, t, S) = V at *
  by_cases h1 : t ≤ f
  · have HVV : Hid (V = false) := Lib.hid (by rw [HV.out, decide_eq_false (show ¬ f < t by omega)]; simp)
    clear hX hz hlen
    go_enter Tryz.func119, Tryz.ntmps119
    go_wp2
    go_ret
    exact ⟨by rw [HVV.out]; rfl, hb⟩
  by_cases h2 : 4611686018427387904 < t
  · have HVV : Hid (V = false) := Lib.hid (by rw [HV.out, decide_eq_false (show ¬ t ≤ 4611686018427387904 by omega)]; simp)
    clear hX hz hlen
    go_enter Tryz.func119, Tryz.ntmps119
    go_wp2
    go_ret
    exact ⟨by rw [HVV.out]; rfl, hb⟩
  by_cases h3 : n < 1
  · have HVV : Hid (V = false) := Lib.hid (by rw [HV.out, decide_eq_false (show ¬ 1 ≤ n by omega)]; simp)
    clear hX hz hlen
    go_enter Tryz.func119, Tryz.ntmps119
    go_wp2
    go_ret
    exact ⟨by rw [HVV.out]; rfl, hb⟩
  by_cases h4 : 8 < n
  · have HVV : Hid (V = false) := Lib.hid (by rw [HV.out, decide_eq_false (show ¬ n ≤ 8 by omega)]; simp)
    clear hX hz hlen
    go_enter Tryz.func119, Tryz.ntmps119
    go_wp2
    go_ret
    exact ⟨by rw [HVV.out]; rfl, hb⟩
  have HVV : Hid (V = sok [] S) := Lib.hid (by rw [HV.out, decide_eq_true (by omega), decide_eq_true (by omega), decide_eq_true (by omega), decide_eq_true (by omega)]; simp)
  clear HV
  have HC := Lib.hid ((hz.below hb).cells (by omega))
  have HZ := Lib.hid (hz.below hb)
  have HLEN := Lib.hid hlen
  have HNO := Lib.hid (fun i h => sok_no (S := S) (i := i) h)
  have HYES := Lib.hid (sok_yes (S := S))
  generalize sok [] S = r at *
  obtain rfl := HVV.out
  clear hz hlen x0 x1 x2 HVV
  obtain ⟨g, o, rfl, _, hg, hc⟩ := HC.out
  have HC2 := Lib.hid hc
  have HX := Lib.hid hX
  obtain ⟨x0, x1, x2⟩ := hX.c3
  clear hc HC hX
  go_enter Tryz.func119, Tryz.ntmps119
  go_wp2
  clear x0 x1 x2
  generalize w.alloc (.cells (stc f t (some ⟨g, o, none⟩) n m) 128) = w0 at *
  go_loopw [3] (fun i wr => ∃ k : Nat, k ≤ n ∧ i = .int .i64 k ∧ Hid (∀ j, j < k → seok (S.take j) (S.getD j []) = true) ∧ Below w0.heap.size w0 wr) (fun i _ => n - (intOf i).toNat)
  case atStart => exact ⟨0, by omega, rfl, Lib.hid (by intro j hj; omega), Below.refl _ _⟩
  case round =>
    obtain ⟨k, hk, rfl, hj, hb0⟩ := hrel
    obtain ⟨x0, x1, x2⟩ := (HX.out.below hb0).c3
    by_cases hlt : k < n
    · obtain ⟨a, l, mm, hl, hlm, han, hus, _, hby, hcell⟩ := HC2.out k hlt
      have c0 := hcell wr hb0
      have hll := getD_len HLEN.out k
      rw [hl] at hll
      have HR1 := Lib.hid (HNO.out k (by rw [HL.out]; exact hlt))
      have e2 : (k : Int) < n := by omega
      have e3 : IntKind.i64.wrap ((k : Int) + 1) = ((k + 1 : Nat) : Int) := IntWalk.i64_in _ (by omega)
      have hrcon := rrises_any a l mm (S.getD k []) wr (hus.below hb0) hll hby
      have htcon := fun w' (h : Below w0.heap.size w0 w') => rtwice_any P (some ⟨g, o, none⟩) n m S k a l mm (S.getD k []) w' (HZ.out.below h) (by omega) hn HLEN.out (hus.below h) hll
      unfold BPost at hrcon htcon
      have HF : Hid (seok (S.take k) (S.getD k []) = (decide (1 ≤ l) && decide (l ≤ 8) && risesB (S.getD k []) && decide ((S.getD k []).getD (l - 1) 0 < 4294967296) && !tw (S.take k) (S.getD k []))) := Lib.hid (by unfold seok; rw [hl])
      have HJ := Lib.hid (fun (h : seok (S.take k) (S.getD k []) = true) (i : Nat) (hi : i < k + 1) => show seok (S.take i) (S.getD i []) = true by
        rcases Nat.lt_or_ge i k with h2 | h2
        · exact hj.out i h2
        · obtain rfl : i = k := by omega
          exact h)
      have HU := Lib.hid (fun (h : 0 < l) => (hus.cells h))
      generalize seok (S.take k) (S.getD k []) = fv at *
      generalize risesB (S.getD k []) = rv at *
      generalize tw (S.take k) (S.getD k []) = tv at *
      obtain ⟨y, hy⟩ : ∃ y, y = (S.getD k []).getD (l - 1) 0 := ⟨_, rfl⟩
      rw [← hy] at HF
      have HY := Lib.hid hy
      clear hl hus hby hcell hj hy
      by_cases h5 : l < 1
      · have HR := Lib.hid (HR1.out (by rw [HF.out, decide_eq_false (by omega)]; simp))
        clear hrcon htcon
        go_wp2
        go_ret
        exact ⟨by rw [HR.out]; rfl, hb.trans (hb0.mono hb.size)⟩
      by_cases h6 : 8 < l
      · have HR := Lib.hid (HR1.out (by rw [HF.out, decide_eq_false (show ¬ l ≤ 8 by omega)]; simp))
        clear hrcon htcon
        go_wp2
        go_ret
        exact ⟨by rw [HR.out]; rfl, hb.trans (hb0.mono hb.size)⟩
      have HF2 : Hid (fv = (rv && decide (y < 4294967296) && !tv)) := Lib.hid (by rw [HF.out, decide_eq_true (by omega), decide_eq_true (by omega)]; simp)
      obtain ⟨g2, o2, rfl, hg2, hc2⟩ := HU.out (by omega)
      cases rv
      · have HR := Lib.hid (HR1.out (by rw [HF2.out]; rfl))
        clear htcon hc2
        go_wp2_with fail
        refine hrcon.mono ?_
        rintro e w1 ⟨rfl, hb1⟩
        have HB1 := Lib.hid (hb.trans ((hb0.trans (hb1.mono hb0.size)).mono hb.size))
        clear hrcon hb1 c0
        go_wp2
        go_ret
        exact ⟨by rw [HR.out]; rfl, HB1.out⟩
      · go_wp2_with fail
        refine hrcon.mono ?_
        rintro e w1 ⟨rfl, hb1⟩
        have hb2 := hb0.trans (hb1.mono hb0.size)
        have c1 := hc2 w1 hb2 (l - 1) (by omega)
        rw [← HY.out] at c1
        have e4 : IntKind.i64.wrap ((l : Int) - 1) = ((l - 1 : Nat) : Int) := by rw [IntWalk.i64_in _ (by omega)]; omega
        have e5 : ((l - 1 : Nat) : Int) < l := by omega
        replace htcon := htcon w1 hb2
        clear hrcon hb1 c0 x0 x1 x2 hc2
        obtain ⟨x0, x1, x2⟩ := (HX.out.below hb2).c3
        by_cases h7 : 4294967296 ≤ y
        · have HR := Lib.hid (HR1.out (by rw [HF2.out, decide_eq_false (show ¬ y < 4294967296 by omega)]; simp))
          clear htcon
          go_wp2
          go_ret
          exact ⟨by rw [HR.out]; rfl, hb.trans (hb2.mono hb.size)⟩
        · go_wp2_with fail
          refine htcon.mono ?_
          rintro e w2 ⟨rfl, hb3⟩
          have HB := Lib.hid (hb2.trans (hb3.mono hb2.size))
          clear htcon hb2 hb3
          cases tv
          · have HJ2 := Lib.hid (HJ.out (by rw [HF2.out, decide_eq_true (by omega)]; rfl))
            go_wp2
            go_roundw
            case rel => exact ⟨k + 1, by omega, by go_num, HJ2, HB.out⟩
            case measure => simp [intOf]; omega
          · have HR := Lib.hid (HR1.out (by rw [HF2.out]; simp))
            go_wp2
            go_ret
            exact ⟨by rw [HR.out]; rfl, hb.trans (HB.out.mono hb.size)⟩
    · obtain rfl : k = n := by omega
      go_wp2
      go_ret
      exact ⟨by rw [HYES.out (fun i hi => hj.out i (by rw [HL.out] at hi; exact hi))]; rfl, hb.trans (hb0.mono hb.size)⟩
end Go.Proofs.YtmiimjgfainclaaGreat.Cur
