/- As the seat's text, without what nothing here names. -/
import Derived.Test.YtoemmppoejaapaaK32f
import Derived.Test.YtoemmppoejaapaaK25f
import Derived.BigQuiet
import Derived.Deep.QuietTactic
namespace Go.Proofs.Ytoemmppoejaapaa.Cur
open Go.RowKit Mem
set_option linter.unusedVariables false
abbrev Lk := Int × List Int
def lk0 : Lk := (0, [])
def lks (pos : Int) : Int → List Lk → Bool
  | _, [] => true
  | pr, s :: l => decide (pr < s.1) && decide (s.2.length ≤ 4) && flb pos s.2 && lks pos s.1 l
def lkok (pos : Int) (l : List Lk) : Bool := decide (l.length ≤ 16) && lks pos (-1) l
def lbd (l : List Lk) : Prop := ∀ s ∈ l, (0 ≤ s.1 ∧ s.1 < 18446744073709551616) ∧ ∀ x ∈ s.2, 0 ≤ x ∧ x < 18446744073709551616
def lkr (z : List Int) (pos pr p : Int) : Rs Lk :=
  (vg z p).bind lk0 fun x p1 => if 18446744073709551615 < pr + 1 + x then (lk0, 0, 13, p) else (dl z 4 pos p1).bind lk0 fun l p2 => ((pr + 1 + x, l), p2, 0, 0)
def lkgo (z : List Int) (pos : Int) : Nat → Int → Int → List Lk → Rs (List Lk)
  | 0, _, p, acc => (acc, p, 0, 0)
  | k + 1, pr, p, acc => (lkr z pos pr p).bind [] fun s p' => lkgo z pos k s.1 p' (acc ++ [s])
def lrd (z : List Int) (pos p : Int) : Rs (List Lk) := (vm z 16 p).bind [] fun n p1 => lkgo z pos n.toNat (-1) p1 []
theorem lks_parts {pos pr : Int} {s : Lk} {l : List Lk} (h : lks pos pr (s :: l) = true) : pr < s.1 ∧ s.2.length ≤ 4 ∧ flb pos s.2 = true ∧ lks pos s.1 l = true := by
  unfold lks at h
  simp only [Bool.and_eq_true, decide_eq_true_eq] at h
  exact ⟨h.1.1.1, h.1.1.2, h.1.2, h.2⟩
theorem lks_mk {pos pr : Int} {s : Lk} {l : List Lk} (h1 : pr < s.1) (h2 : s.2.length ≤ 4) (h3 : flb pos s.2 = true) (h4 : lks pos s.1 l = true) : lks pos pr (s :: l) = true := by
  unfold lks
  simp only [Bool.and_eq_true, decide_eq_true_eq]
  exact ⟨⟨⟨h1, h2⟩, h3⟩, h4⟩
theorem lkok_parts {pos : Int} {l : List Lk} (h : lkok pos l = true) : l.length ≤ 16 ∧ lks pos (-1) l = true := by
  unfold lkok at h
  simp only [Bool.and_eq_true, decide_eq_true_eq] at h
  exact h
theorem lkok_mk {pos : Int} {l : List Lk} (h1 : l.length ≤ 16) (h2 : lks pos (-1) l = true) : lkok pos l = true := by
  unfold lkok; rw [decide_eq_true h1, h2]; rfl
def ext (pos : Int) (s : Lk) : Lk := (s.1, pos :: s.2.take 3)
def fnl : List Lk → Int → Int
  | [], _ => -1
  | s :: l, x => if s.1 = x then 0 else if fnl l x < 0 then -1 else fnl l x + 1
theorem fnl_yes : ∀ (l : List Lk) (x : Int) (k : Nat), k < l.length → (l.getD k lk0).1 = x → (∀ j, j < k → (l.getD j lk0).1 ≠ x) → fnl l x = k
  | [], _, _, h, _, _ => absurd h (by simp)
  | s :: l, x, 0, _, h, _ => by unfold fnl; rw [if_pos (by simpa using h)]; rfl
  | s :: l, x, k + 1, hk, h, hj => by
    have ih := fnl_yes l x k (by simpa using hk) (by simpa using h) (fun j h2 => by have := hj (j + 1) (by omega); simpa using this)
    have h0 := hj 0 (by omega)
    unfold fnl
    rw [if_neg (by simpa using h0), ih, if_neg (by omega)]; omega
theorem fnl_no : ∀ (l : List Lk) (x : Int), (∀ j, j < l.length → (l.getD j lk0).1 ≠ x) → fnl l x = -1
  | [], _, _ => rfl
  | s :: l, x, h => by
    have ih := fnl_no l x (fun j hj => by have := h (j + 1) (by simpa using hj); simpa using this)
    have h0 := h 0 (by simp)
    unfold fnl
    rw [if_neg (by simpa using h0), ih, if_pos (by decide)]
end Go.Proofs.Ytoemmppoejaapaa.Cur
namespace Go.Proofs.Ytoemmppoejaapaa.Cur
open Go.RowKit Mem
set_option linter.unusedVariables false
set_option maxRecDepth 100000
abbrev LkE : El Lk := PrE U64E (SlE U64E)
def Lks (w : World) (P : Nat → Prop) (A : Option Addr) (n : Nat) (L : List Lk) : Prop := L.length = n ∧ Sq LkE w P A L
theorem Lks.keep {w w' : World} {P : Nat → Prop} {A : Option Addr} {n : Nat} {L : List Lk} (h : Lks w P A n L) (hk : ∀ b, P b → b < w.heap.size → w'.heap[b]? = w.heap[b]?) : Lks w' P A n L := ⟨h.1, h.2.keep hk⟩
theorem Lks.mono {w : World} {P Q : Nat → Prop} {A : Option Addr} {n : Nat} {L : List Lk} (h : Lks w P A n L) (hq : ∀ b, P b → b < w.heap.size → Q b) : Lks w Q A n L := ⟨h.1, h.2.mono hq⟩
theorem Lks.below {w w' : World} {P : Nat → Prop} {A : Option Addr} {n : Nat} {L : List Lk} (h : Lks w P A n L) (hb : Below w.heap.size w w') : Lks w' P A n L := ⟨h.1, h.2.below hb⟩
theorem us_block {w : World} {P : Nat → Prop} {A : Option Addr} {z : List Int} (h : Sq U64E w P A z) (hl : 0 < z.length) : ∀ ad, A = some ad → P ad.block := fun ad ha => by
  obtain ⟨cs, c1, c2⟩ := h
  obtain ⟨k', o', e2, hPk, _⟩ := c2 (by rw [c1.flat]; exact Nat.mul_pos hl (by decide))
  rw [e2] at ha
  injection ha with ha
  subst ha
  exact hPk
theorem link_parts {w : World} {P : Nat → Prop} {c : List Value} {s : Lk} (h : LkE.R w P c s) :
    ∃ A m, c = [.int .u64 s.1, .slice A s.2.length m] ∧ (0 ≤ s.1 ∧ s.1 < 18446744073709551616) ∧ s.2.length ≤ m ∧ (A = none → m = 0) ∧ Us w A s.2.length s.2 ∧ (∀ x ∈ s.2, 0 ≤ x ∧ x < 18446744073709551616) ∧ (0 < s.2.length → ∀ ad, A = some ad → P ad.block) ∧ Sq U64E w P A s.2 := by
  obtain ⟨d, e, rfl, ⟨rfl, b0⟩, A, m, rfl, h1, h2, h3⟩ := h
  obtain ⟨u1, u2⟩ := h3.us
  exact ⟨A, m, rfl, b0, h1, h2, u1, u2, fun hl => us_block h3 hl, h3⟩
theorem LkE.mk {w : World} {P : Nat → Prop} {x : Int} {A : Option Addr} {l m : Nat} {z : List Int} (hx : 0 ≤ x ∧ x < 18446744073709551616) (hl : z.length = l) (hm : l ≤ m) (hn : A = none → m = 0) (h : Sq U64E w P A z) : LkE.R w P [.int .u64 x, .slice A l m] (x, z) :=
  ⟨[_], [_], rfl, ⟨rfl, hx.1, hx.2⟩, A, m, by rw [hl], by rw [hl]; exact hm, hn, h⟩
theorem Lks.cells {w : World} {P : Nat → Prop} {A : Option Addr} {n : Nat} {L : List Lk} (h : Lks w P A n L) (hn : n ≠ 0) :
    ∃ g o, A = some ⟨g, o, none⟩ ∧ P g ∧ g < w.heap.size ∧ ∀ k, k < n → ∃ x z a l m, L.getD k lk0 = (x, z) ∧ (0 ≤ x ∧ x < 18446744073709551616) ∧ z.length = l ∧ l ≤ m ∧ (a = none → m = 0) ∧ Us w a l z ∧ (∀ y ∈ z, 0 ≤ y ∧ y < 18446744073709551616) ∧ (0 < l → ∀ ad, a = some ad → P ad.block) ∧ Sq U64E w P a z ∧
      ∀ w', Below w.heap.size w w' → w'.cell? ⟨g, o + k * 2, none⟩ = some (.int .u64 x) ∧ w'.cell? ⟨g, o + k * 2 + 1, none⟩ = some (.slice a l m) := by
  obtain ⟨rfl, h⟩ := h
  obtain ⟨g, o, c, e, hP, hg, _⟩ := h.at_ (i := 0) (by decide) (List.getElem?_eq_getElem (Nat.pos_of_ne_zero hn))
  refine ⟨g, o, e, hP, hg, fun k hk => ?_⟩
  obtain ⟨g', o', c', e', hP', hg', hR, hcell⟩ := h.at_ (i := k) (by decide) (List.getElem?_eq_getElem hk)
  rw [e] at e'
  injection e' with e'
  injection e' with e1 e2
  subst e1 e2
  have hS : L.getD k lk0 = L[k] := by rw [List.getD_eq_getElem?_getD, List.getElem?_eq_getElem hk]; rfl
  obtain ⟨a, m, rfl, b0, h1, h2, h3, h4, h5, h6⟩ := link_parts hR
  rw [hS]
  refine ⟨L[k].1, L[k].2, a, _, m, rfl, b0, rfl, h1, h2, h3, h4, h5, h6, fun w' hb => ⟨?_, ?_⟩⟩
  · have := hcell 0 _ rfl; exact (hb.cell (lt_of_cell this)).trans this
  · have := hcell 1 _ rfl; exact (hb.cell (lt_of_cell this)).trans this
theorem Lks.bds {w : World} {P : Nat → Prop} {A : Option Addr} {n : Nat} {L : List Lk} (h : Lks w P A n L) : lbd L := by
  intro s hs
  obtain ⟨k, hk, e⟩ := List.mem_iff_getElem.1 hs
  obtain ⟨cs, h1, _⟩ := h.2
  obtain ⟨c, hR, _⟩ := h1.at_ k s (by rw [List.getElem?_eq_getElem hk, e])
  obtain ⟨A, m, _, b0, _, _, _, h4, _⟩ := link_parts hR
  exact ⟨b0, h4⟩
theorem lks_of_cells {w : World} {P : Nat → Prop} {g n : Nat} {L : List Lk} (hl : L.length = n) (hg : P g) (h : ∀ i, i < n → ∃ a b, (w.cell? ⟨g, i * 2, none⟩ = some a ∧ w.cell? ⟨g, i * 2 + 1, none⟩ = some b) ∧ LkE.R w P [a, b] (L.getD i lk0)) : Lks w P (some ⟨g, 0, none⟩) n L := by
  obtain ⟨cs, xs, l1, l2, hp⟩ := pick_n (p := fun i c x => x = L.getD i lk0 ∧ ∃ u v, c = [u, v] ∧ (w.cell? ⟨g, i * 2, none⟩ = some u ∧ w.cell? ⟨g, i * 2 + 1, none⟩ = some v) ∧ LkE.R w P [u, v] (L.getD i lk0)) n fun i hi => by
    obtain ⟨a, b, h1, h2⟩ := h i hi
    exact ⟨[a, b], _, rfl, a, b, rfl, h1, h2⟩
  have hxs : xs = L := by
    apply List.ext_getElem (by omega)
    intro i h1 h2
    have := (hp i (cs[i]'(by omega)) xs[i] (List.getElem?_eq_getElem _) (List.getElem?_eq_getElem _)).1
    rw [this, List.getD_eq_getElem?_getD, List.getElem?_eq_getElem h2]; rfl
  subst hxs
  refine ⟨hl, cs, Ch.of (by omega) fun i c x hc hx => ?_, fun hpos => ⟨g, 0, rfl, hg, fun i v hv => ?_⟩⟩
  · obtain ⟨e, a, b, rfl, _, hR⟩ := hp i c x hc hx
    rw [e]; exact hR
  · have hlen : ∀ c ∈ cs, c.length = 2 := fun c hcm => by
      obtain ⟨i, hi, e⟩ := List.mem_iff_getElem.1 hcm
      obtain ⟨_, a, b, e2, _⟩ := hp i c _ (by rw [List.getElem?_eq_getElem hi, e]) (List.getElem?_eq_getElem (by omega))
      rw [e2]; rfl
    obtain ⟨i', j, c, e, hj, hci, hcv⟩ := flat_at hlen i v hv
    have hi' := (List.getElem?_eq_some_iff.1 hci).1
    obtain ⟨_, a, b, rfl, ⟨h1, h2⟩, _⟩ := hp i' c _ hci (List.getElem?_eq_getElem (by omega))
    rw [Nat.zero_add, e]
    rcases j with _ | _ | j
    · simp at hcv; subst hcv; exact h1
    · simp at hcv; subst hcv; exact h2
    · omega
abbrev lkagg (x : Int) (A : Option Addr) (n m : Nat) : Value := .agg #[.int .u64 x, .slice A n m]
abbrev lkc (x : Int) (A : Option Addr) (n m : Nat) : Array Value := #[.int .u64 x, .slice A n m]
theorem opens_link : Opens LkE 51 := opens_pair Try.underlying51 rfl rfl (by kernel_rfl) (by kernel_rfl) (by kernel_rfl) (opens_u64 Try.underlying22) (opens_slice Try.underlying34 (by kernel_rfl) (by decide) (opens_u64 Try.underlying22))
section
variable {H : Type} {enc : TypeId × Value → H} {w : World} {base : Nat} {v : Value} {d : DataW H} {p : List MemPlace}
end
end Go.Proofs.Ytoemmppoejaapaa.Cur
namespace Go.Proofs.Ytoemmppoejaapaa.Cur
open Go.RowKit Mem
set_option linter.unusedVariables false
set_option maxRecDepth 100000
def lkp (pr : Int) (L : List Lk) (k : Nat) : Int := ((((pr, []) : Lk) :: L).getD k lk0).1
theorem lkp_zero (pr : Int) (L : List Lk) : lkp pr L 0 = pr := rfl
theorem lkp_succ (pr : Int) (L : List Lk) (k : Nat) : lkp pr L (k + 1) = (L.getD k lk0).1 := rfl
def lko (pos pr : Int) (L : List Lk) (k : Nat) : Prop := lkp pr L k < (L.getD k lk0).1 ∧ (L.getD k lk0).2.length ≤ 4 ∧ flb pos (L.getD k lk0).2 = true
theorem lks_iff (pos : Int) : ∀ (L : List Lk) (pr : Int), lks pos pr L = true ↔ ∀ k, k < L.length → lko pos pr L k
  | [], pr => by simp [lks]
  | s :: L, pr => by
    have hp : ∀ k, lkp s.1 L k = lkp pr (s :: L) (k + 1) := fun k => by cases k <;> rfl
    constructor
    · intro h k hk
      obtain ⟨h1, h2, h3, h4⟩ := lks_parts h
      rcases k with _ | k
      · exact ⟨h1, h2, h3⟩
      · have := (lks_iff pos L s.1).1 h4 k (by simpa using hk)
        unfold lko at this ⊢
        rw [hp] at this
        exact this
    · intro h
      obtain ⟨h1, h2, h3⟩ := h 0 (by simp)
      refine lks_mk h1 h2 h3 ((lks_iff pos L s.1).2 fun k hk => ?_)
      have := h (k + 1) (by simpa using hk)
      unfold lko at this ⊢
      rw [hp]
      exact this
theorem lkok_yes {pos : Int} {L : List Lk} (hl : L.length ≤ 16) (h : ∀ k, k < L.length → lko pos (-1) L k) : lkok pos L = true := lkok_mk hl ((lks_iff pos L (-1)).2 h)
theorem lkok_at {pos : Int} {L : List Lk} (h : lkok pos L = true) {k : Nat} (hk : k < L.length) : lko pos (-1) L k := (lks_iff pos L (-1)).1 (lkok_parts h).2 k hk
theorem lkok_no {pos : Int} {L : List Lk} {k : Nat} (hk : k < L.length) (h : ¬ lko pos (-1) L k) : lkok pos L = false := by
  cases e : lkok pos L with
  | false => rfl
  | true => exact absurd (lkok_at e hk) h
theorem lkok_long {pos : Int} {L : List Lk} (h : 16 < L.length) : lkok pos L = false := by
  cases e : lkok pos L with
  | false => rfl
  | true => have := (lkok_parts e).1; omega
theorem lko_next {pos : Int} {L : List Lk} {k : Nat} (hj : ∀ j, j < k → lko pos (-1) L j) (h : lko pos (-1) L k) : ∀ j, j < k + 1 → lko pos (-1) L j := fun j hjk => by
  rcases Nat.lt_or_ge j k with h2 | h2
  · exact hj j h2
  · obtain rfl : j = k := by omega
    exact h
theorem Lks.ahead {w : World} {P : Nat → Prop} {g o n : Nat} {L : List Lk} (h : Lks w P (some ⟨g, o, none⟩) n L) {k : Nat} (hk : k < n) (h0 : 0 < k) :
    ∃ y, lkp (-1) L k = y ∧ (0 ≤ y ∧ y < 18446744073709551616) ∧ ∀ w', Below w.heap.size w w' → w'.cell? ⟨g, o + (k - 1) * 2, none⟩ = some (.int .u64 y) := by
  obtain ⟨g', o', e, hP, hg, hc⟩ := h.cells (by omega)
  injection e with e
  injection e with e1 e2
  subst e1 e2
  obtain ⟨x, z, a, l, m, h1, h2, _, _, _, _, _, _, _, h9⟩ := hc (k - 1) (by omega)
  refine ⟨x, ?_, h2, fun w' hb => (h9 w' hb).1⟩
  have := lkp_succ (-1) L (k - 1)
  rw [show k - 1 + 1 = k by omega, h1] at this
  exact this
set_option maxHeartbeats 4000000 in
theorem lkright_any (P : Nat → Prop) (pos : Int) (A : Option Addr) (n m : Nat) (L : List Lk) (w : World) (hz : Lks w P A n L) (p0 : 0 ≤ pos) (p1 : pos < 18446744073709551616) :
    Calls Try.prog 75 #[.int .u64 pos, .slice A n m] w (BPost (.bool (lkok pos L)) w) := by
  unfold BPost
  have HL := Lib.hid hz.1
  have HC := Lib.hid (fun h => hz.cells h)
  have HNO := Lib.hid (fun k hk h => lkok_no (pos := pos) (L := L) (k := k) hk h)
  have HYES := Lib.hid (lkok_yes (pos := pos) (L := L))
  have HLG := Lib.hid (lkok_long (pos := pos) (L := L))
  have HE := Lib.hid (And.intro p0 p1)
  have HZ := Lib.hid hz
  generalize lkok pos L = r at *
  clear hz p0 p1
  by_cases h16 : 16 < n
  · have HR := Lib.hid (HLG.out (by rw [HL.out]; exact h16))
    have e1 : 16 < (n : Int) := by omega
    clear h16
    go_enter Try.func75, Try.ntmps75
    go_wp2
    go_ret
    exact ⟨by rw [HR.out]; rfl, Below.refl _ _⟩
  · have e1 : ¬ 16 < (n : Int) := by omega
    go_enter Try.func75, Try.ntmps75
    go_wp2
    go_loopw [12] (fun i wr => ∃ k : Nat, k ≤ n ∧ i = .int .i64 k ∧ Hid (∀ j, j < k → lko pos (-1) L j) ∧ Below w.heap.size w wr) (fun i _ => n - (intOf i).toNat)
    case atStart => exact ⟨0, by omega, rfl, Lib.hid (by intro j hj; omega), Below.refl _ _⟩
    case round =>
      obtain ⟨k, hk, rfl, hj, hb⟩ := hrel
      by_cases hlt : k < n
      · obtain ⟨g, o, rfl, _, hg, hc⟩ := HC.out (by omega)
        obtain ⟨x, z, a, l, mm, he, xb, hl, hlm, han, hus, hzb, _, _, hcell⟩ := hc k hlt
        obtain ⟨c0, c1⟩ := hcell wr hb
        have HEQ := Lib.hid he
        have HLZ := Lib.hid hl
        have HUS := Lib.hid hus
        have HZB := Lib.hid hzb
        have e2 : (k : Int) < n := by omega
        have e3 : IntKind.i64.wrap ((k : Int) + 1) = ((k + 1 : Nat) : Int) := IntWalk.i64_in _ (by omega)
        have hX := Blk.new wr (lkc x a l mm) 51
        have hbW0 := hb.trans ((below_one wr (.cells (lkc x a l mm) 51)).mono hb.size)
        obtain ⟨x0, x1⟩ := hX.c2
        clear hc hcell he hl hus hzb han hX hlm
        by_cases h0 : k = 0
        · have HPX : Hid (lkp (-1) L k < x) := Lib.hid (by rw [h0, lkp_zero]; omega)
          have e4 : ¬ 0 < (k : Int) := by omega
          have e4n : ¬ 0 < k := by omega
          clear h0
          go_wp2
          go_quiet (fail)
          have hbW := fun n => below_drewN hbW0 n
          by_cases h4 : 4 < (l : Int)
          · have HRR : Hid (r = false) := Lib.hid (HNO.out k (by rw [HL.out]; exact hlt) (fun h => by have h5 := h.2.1; rw [HEQ.out] at h5; have h6 : z.length ≤ 4 := h5; rw [HLZ.out] at h6; omega))
            go_wp2
            go_ret
            exact ⟨by rw [HRR.out]; rfl, hbW _⟩
          · have hl4 : l ≤ 4 := by omega
            go_wp2_with fail
            refine (dfalls_any a l mm pos z _ (HUS.out.below (hbW _)) (by omega) HZB.out HE.out.1 HE.out.2).mono ?_
            rintro en w2 ⟨rfl, hb2⟩
            have hbd := (hbW _).trans (hb2.mono (hbW _).size)
            obtain ⟨fv, hfv⟩ : ∃ fv, fv = flb pos z := ⟨_, rfl⟩
            rw [← hfv]
            have HF := Lib.hid hfv
            clear hfv hb2 x0 x1
            cases fv
            · have HRR : Hid (r = false) := Lib.hid (HNO.out k (by rw [HL.out]; exact hlt) (fun h => by have h5 := h.2.2; rw [HEQ.out, ← HF.out] at h5; cases h5))
              go_wp2
              go_ret
              exact ⟨by rw [HRR.out]; rfl, hbd⟩
            · have HJ : Hid (lko pos (-1) L k) := Lib.hid ⟨by rw [HEQ.out]; exact HPX.out, by rw [HEQ.out]; show z.length ≤ 4; rw [HLZ.out]; exact hl4, by rw [HEQ.out]; exact HF.out.symm⟩
              go_wp2
              go_roundw
              case rel => exact ⟨k + 1, by omega, by go_num, Lib.hid (lko_next hj.out HJ.out), hbd⟩
              case measure => simp [intOf]; omega
        · obtain ⟨y, hy, yb, hya⟩ := HZ.out.ahead hlt (by omega)
          have d0 := hya _ hbW0
          have HY := Lib.hid hy
          have e4 : 0 < (k : Int) := by omega
          have e4n : 0 < k := by omega
          have e5 : IntKind.i64.wrap ((k : Int) - 1) = ((k - 1 : Nat) : Int) := by rw [IntWalk.i64_in _ (by omega)]; omega
          have e6 : ((k - 1 : Nat) : Int) < n := by omega
          clear h0 hy hya
          by_cases hxy : x ≤ y
          · have HRR : Hid (r = false) := Lib.hid (HNO.out k (by rw [HL.out]; exact hlt) (fun h => by have h5 := h.1; rw [HEQ.out, HY.out] at h5; have h6 : y < x := h5; omega))
            go_wp2
            go_quiet (fail)
            go_wp2
            go_ret
            exact ⟨by rw [HRR.out]; rfl, below_drewN hbW0 _⟩
          · have HPX : Hid (lkp (-1) L k < x) := Lib.hid (by rw [HY.out]; omega)
            go_wp2
            go_quiet (fail)
            have hbW := fun n => below_drewN hbW0 n
            by_cases h4 : 4 < (l : Int)
            · have HRR : Hid (r = false) := Lib.hid (HNO.out k (by rw [HL.out]; exact hlt) (fun h => by have h5 := h.2.1; rw [HEQ.out] at h5; have h6 : z.length ≤ 4 := h5; rw [HLZ.out] at h6; omega))
              go_wp2
              go_ret
              exact ⟨by rw [HRR.out]; rfl, hbW _⟩
            · have hl4 : l ≤ 4 := by omega
              go_wp2_with fail
              refine (dfalls_any a l mm pos z _ (HUS.out.below (hbW _)) (by omega) HZB.out HE.out.1 HE.out.2).mono ?_
              rintro en w2 ⟨rfl, hb2⟩
              have hbd := (hbW _).trans (hb2.mono (hbW _).size)
              obtain ⟨fv, hfv⟩ : ∃ fv, fv = flb pos z := ⟨_, rfl⟩
              rw [← hfv]
              have HF := Lib.hid hfv
              clear hfv hb2 x0 x1
              cases fv
              · have HRR : Hid (r = false) := Lib.hid (HNO.out k (by rw [HL.out]; exact hlt) (fun h => by have h5 := h.2.2; rw [HEQ.out, ← HF.out] at h5; cases h5))
                go_wp2
                go_ret
                exact ⟨by rw [HRR.out]; rfl, hbd⟩
              · have HJ : Hid (lko pos (-1) L k) := Lib.hid ⟨by rw [HEQ.out]; exact HPX.out, by rw [HEQ.out]; show z.length ≤ 4; rw [HLZ.out]; exact hl4, by rw [HEQ.out]; exact HF.out.symm⟩
                go_wp2
                go_roundw
                case rel => exact ⟨k + 1, by omega, by go_num, Lib.hid (lko_next hj.out HJ.out), hbd⟩
                case measure => simp [intOf]; omega
      · obtain rfl : k = n := by omega
        have HR := Lib.hid (HYES.out (by rw [HL.out]; omega) (fun i hi => hj.out i (by rw [HL.out] at hi; exact hi)))
        go_wp2
        go_ret
        exact ⟨by rw [HR.out]; rfl, hb⟩
end Go.Proofs.Ytoemmppoejaapaa.Cur
namespace Go.Proofs.Ytoemmppoejaapaa.Cur
open Go.RowKit Mem
set_option linter.unusedVariables false
set_option maxRecDepth 100000
def LkS (w w' : World) : Prop := Below w.heap.size w w'
end Go.Proofs.Ytoemmppoejaapaa.Cur
namespace Go.Proofs.Ytoemmppoejaapaa.Cur
open Go.RowKit Mem
set_option linter.unusedVariables false
set_option maxRecDepth 100000
end Go.Proofs.Ytoemmppoejaapaa.Cur
