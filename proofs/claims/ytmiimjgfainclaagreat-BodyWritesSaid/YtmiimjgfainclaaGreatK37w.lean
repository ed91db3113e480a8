/- As the seat's text, without what nothing here names. -/
import Derived.Test.YtmiimjgfainclaaGreatK35w
import Derived.Test.YtmiimjgfainclaaGreatK34w
import Derived.Test.YtmiimjgfainclaaGreatK1w
import Derived.Test.YtmiimjgfainclaaGreatK24w
import Derived.Test.YtmiimjgfainclaaGreatLnkPw
import Derived.Test.YtmiimjgfainclaaGreatShelfw
namespace Go.Proofs.YtmiimjgfainclaaGreat.Cur
open Go.RowKit Mem Go.ChangeShapes Go.WideShapes
set_option linter.unusedVariables false
set_option maxRecDepth 100000
def U8E : El Int where
  k := 1
  R := fun _ _ c x => c = [.int .u8 x] ∧ 0 ≤ x ∧ x < 256
  len := fun ⟨e, _⟩ => by rw [e]; rfl
  one := fun ⟨e, _⟩ u hu => by rw [e] at hu; simp at hu; subst hu; rfl
  keep := fun h _ => h
  mono := fun h _ => h
theorem opens_u8 {t : TypeId} (hu : Tryz.prog.underlying t = some (.int .u8)) : Opens U8E t := by
  intro H enc w fuel cs x h
  obtain ⟨y, e, _, r⟩ := DataW.trod_int hu h
  have := bounds_u8 r
  exact ⟨y, e, by omega, by omega⟩
abbrev bv8 (z : List Int) : List Value := z.map (Value.int .u8)
theorem Sq.bs {w : World} {P : Nat → Prop} {A : Option Addr} {z : List Int} (h : Sq U8E w P A z) : Bs w A z.length z ∧ (∀ x ∈ z, 0 ≤ x ∧ x < 256) ∧ (0 < z.length → ∀ a, A = some a → P a.block) := by
  obtain ⟨cs, h1, h2⟩ := h
  have key : ∀ (cs : List (List Value)) (z : List Int), Ch U8E w P cs z → cs.flatten = bv8 z ∧ ∀ x ∈ z, 0 ≤ x ∧ x < 256 := by
    intro cs
    induction cs with
    | nil => intro z h; cases z with
      | nil => exact ⟨rfl, fun x hx => by simp at hx⟩
      | cons x z => exact h.elim
    | cons c cs ih => intro z h; cases z with
      | nil => exact h.elim
      | cons x z =>
        obtain ⟨⟨e, b⟩, h2⟩ := h
        obtain ⟨i1, i2⟩ := ih z h2
        refine ⟨by rw [List.flatten_cons, e, i1]; rfl, fun y hy => ?_⟩
        rcases List.mem_cons.1 hy with rfl | hy
        · exact b
        · exact i2 y hy
  obtain ⟨k1, k2⟩ := key cs z h1
  rw [k1] at h2
  refine ⟨⟨rfl, fun hn => ?_⟩, k2, fun hn a ha => ?_⟩
  · obtain ⟨k, o, e, _, hc⟩ := h2 (by rw [List.length_map]; exact hn)
    exact ⟨k, o, e, fun i x hx => hc i _ (by rw [List.getElem?_map, hx]; rfl)⟩
  · obtain ⟨k, o, e, hP, _⟩ := h2 (by rw [List.length_map]; exact hn)
    rw [e] at ha
    injection ha with ha
    subst ha
    exact hP
theorem Bs.sq {w : World} {A : Option Addr} {n : Nat} {z : List Int} (h : Bs w A n z) (hb : ∀ x ∈ z, 0 ≤ x ∧ x < 256) {P : Nat → Prop} (hP : 0 < n → ∀ a, A = some a → P a.block) : Sq U8E w P A z := by
  refine ⟨z.map fun x => [.int .u8 x], ?_, ?_⟩
  · have : ∀ l : List Int, (∀ x ∈ l, 0 ≤ x ∧ x < 256) → Ch U8E w P (l.map fun x => [.int .u8 x]) l := by
      intro l
      induction l with
      | nil => intro _; trivial
      | cons x l ih => intro hl; exact ⟨⟨rfl, hl x (by simp)⟩, ih fun y hy => hl y (by simp [hy])⟩
    exact this z hb
  · have key : ∀ l : List Int, (l.map fun x => [Value.int .u8 x]).flatten = bv8 l := by
      intro l
      induction l with
      | nil => rfl
      | cons x l ih => rw [List.map_cons, List.flatten_cons, ih]; rfl
    rw [key z]
    intro hn
    rw [List.length_map] at hn
    obtain ⟨k, o, ea, hc⟩ := h.2 (by rw [← h.1]; exact hn)
    refine ⟨k, o, ea, hP (by rw [← h.1]; exact hn) _ ea, fun i v hv => ?_⟩
    rw [List.getElem?_map, Option.map_eq_some_iff] at hv
    obtain ⟨x, hx, rfl⟩ := hv
    exact hc i x hx
abbrev En := List Lk × List Int
def en0 : En := ([], [])
abbrev EnE : El En := PrE (SlE LkE) (SlE U8E)
theorem ent_parts {w : World} {P : Nat → Prop} {c : List Value} {e : En} (h : EnE.R w P c e) :
    ∃ A m B k, c = [.slice A e.1.length m, .slice B e.2.length k] ∧ e.1.length ≤ m ∧ (A = none → m = 0) ∧ Lks w P A e.1.length e.1 ∧ e.2.length ≤ k ∧ (B = none → k = 0) ∧ Bs w B e.2.length e.2 ∧ (∀ x ∈ e.2, 0 ≤ x ∧ x < 256) ∧ Sq U8E w P B e.2 := by
  obtain ⟨d, f, rfl, ⟨A, m, rfl, h1, h2, h3⟩, B, k, rfl, h4, h5, h6⟩ := h
  obtain ⟨u1, u2, _⟩ := h6.bs
  exact ⟨A, m, B, k, rfl, h1, h2, ⟨rfl, h3⟩, h4, h5, u1, u2, h6⟩
theorem EnE.mk {w : World} {P : Nat → Prop} {A B : Option Addr} {n m r k : Nat} {L : List Lk} {D : List Int} (hL : Lks w P A n L) (hm : n ≤ m) (hn : A = none → m = 0) (hD : D.length = r) (hk : r ≤ k) (hb : B = none → k = 0) (h : Sq U8E w P B D) : EnE.R w P [.slice A n m, .slice B r k] (L, D) := by
  obtain ⟨rfl, hL⟩ := hL
  subst hD
  exact ⟨[_], [_], rfl, ⟨A, m, rfl, hm, hn, hL⟩, B, k, rfl, hk, hb, h⟩
def Ens (w : World) (P : Nat → Prop) (A : Option Addr) (n : Nat) (L : List En) : Prop := L.length = n ∧ Sq EnE w P A L
theorem Ens.keep {w w' : World} {P : Nat → Prop} {A : Option Addr} {n : Nat} {L : List En} (h : Ens w P A n L) (hk : ∀ b, P b → b < w.heap.size → w'.heap[b]? = w.heap[b]?) : Ens w' P A n L := ⟨h.1, h.2.keep hk⟩
theorem Ens.mono {w : World} {P Q : Nat → Prop} {A : Option Addr} {n : Nat} {L : List En} (h : Ens w P A n L) (hq : ∀ b, P b → b < w.heap.size → Q b) : Ens w Q A n L := ⟨h.1, h.2.mono hq⟩
theorem Ens.below {w w' : World} {P : Nat → Prop} {A : Option Addr} {n : Nat} {L : List En} (h : Ens w P A n L) (hb : Below w.heap.size w w') : Ens w' P A n L := ⟨h.1, h.2.below hb⟩
theorem Ens.cells {w : World} {P : Nat → Prop} {A : Option Addr} {n : Nat} {L : List En} (h : Ens w P A n L) (hn : n ≠ 0) :
    ∃ g o, A = some ⟨g, o, none⟩ ∧ P g ∧ g < w.heap.size ∧ ∀ i, i < n → ∃ K D a l m b r k, L.getD i en0 = (K, D) ∧ l ≤ m ∧ (a = none → m = 0) ∧ Lks w P a l K ∧ r ≤ k ∧ (b = none → k = 0) ∧ Bs w b r D ∧ (∀ x ∈ D, 0 ≤ x ∧ x < 256) ∧ Sq U8E w P b D ∧
      ∀ w', Below w.heap.size w w' → w'.cell? ⟨g, o + i * 2, none⟩ = some (.slice a l m) ∧ w'.cell? ⟨g, o + i * 2 + 1, none⟩ = some (.slice b r k) := by
  obtain ⟨rfl, h⟩ := h
  obtain ⟨g, o, c, e, hP, hg, _⟩ := h.at_ (i := 0) (by decide) (List.getElem?_eq_getElem (Nat.pos_of_ne_zero hn))
  refine ⟨g, o, e, hP, hg, fun i hi => ?_⟩
  obtain ⟨g', o', c', e', hP', hg', hR, hcell⟩ := h.at_ (i := i) (by decide) (List.getElem?_eq_getElem hi)
  rw [e] at e'
  injection e' with e'
  injection e' with e1 e2
  subst e1 e2
  have hS : L.getD i en0 = L[i] := by rw [List.getD_eq_getElem?_getD, List.getElem?_eq_getElem hi]; rfl
  obtain ⟨a, m, b, k, rfl, h1, h2, h3, h4, h5, h6, h7, h8⟩ := ent_parts hR
  rw [hS]
  refine ⟨L[i].1, L[i].2, a, _, m, b, _, k, rfl, h1, h2, h3, h4, h5, h6, h7, h8, fun w' hb => ⟨?_, ?_⟩⟩
  · have := hcell 0 _ rfl; exact (hb.cell (lt_of_cell this)).trans this
  · have := hcell 1 _ rfl; exact (hb.cell (lt_of_cell this)).trans this
section
variable {H : Type} {enc : TypeId × Value → H} {w : World} {base : Nat} {v : Value} {d : DataW H} {p : List MemPlace}
end
end Go.Proofs.YtmiimjgfainclaaGreat.Cur
namespace Go.Proofs.YtmiimjgfainclaaGreat.Cur
open Go.RowKit Mem
set_option linter.unusedVariables false
set_option maxRecDepth 100000
end Go.Proofs.YtmiimjgfainclaaGreat.Cur
namespace Go.Proofs.YtmiimjgfainclaaGreat.Cur
open Go.RowKit Mem
set_option linter.unusedVariables false
set_option maxRecDepth 100000
abbrev Hd := List Lk × Int
def hd0 : Hd := ([], 0)
def hrd (z : List Int) (pos mo p : Int) : Rs Hd := (lrd z pos p).bind hd0 fun L p1 => (vm z mo p1).bind hd0 fun v p2 => ((L, v), p2, 0, 0)
end Go.Proofs.YtmiimjgfainclaaGreat.Cur
namespace Go.Proofs.YtmiimjgfainclaaGreat.Cur
open Go.RowKit Mem
set_option linter.unusedVariables false
set_option maxRecDepth 100000
theorem bequal_any (A B : Option Addr) (n m c d : Nat) (y z : List Int) (w : World) (ha : Bs w A n y) (hb : Bs w B m z) (hy : ∀ x ∈ y, 0 ≤ x ∧ x < 256) (hz : ∀ x ∈ z, 0 ≤ x ∧ x < 256) :
    Calls Tryz.prog 69 #[.slice A n c, .slice B m d] w fun e w' => e = .returned (.bool (decide (y = z))) ∧ w = w' := by
  have h := Tryz.bytes_Equal (.slice A n c) (.slice B m d) y z w (run_convert_bs c ha) (run_convert_bs d hb)
  have hinj : (Lib.bytesOf y == Lib.bytesOf z) = decide (y = z) := by
    rw [Bool.eq_iff_iff, beq_iff_eq, decide_eq_true_eq]
    refine ⟨fun h => ?_, fun h => by rw [h]⟩
    rw [← Lib.strOfNums_toList, ← Lib.strOfNums_toList] at h
    exact strOfNums_inj hy hz (bstr_inj h)
  rw [hinj] at h
  exact h.mono fun e w' ⟨h1, h2⟩ => ⟨h1, h2.symm⟩
end Go.Proofs.YtmiimjgfainclaaGreat.Cur
