/- As the seat's text, without what nothing here names. -/
import Derived.Test.YtgdcbfekekefiaaBtcEj
import Derived.Test.YtgdcbfekekefiaaK36j
import Derived.Lib.AppendZerosOnto
namespace Go.Proofs.Ytgdcbfekekefiaa.Cur
open Go.RowKit Mem
set_option linter.unusedVariables false
set_option maxRecDepth 100000
theorem slice_enh {w : World} {P : Nat → Prop} {A : Option Addr} {n : Nat} {L : List En} (m k : Nat) (hk : k ≤ n) (hm : n ≤ m) : ∀ w', (Instr.slice 23 (.slice A n m) none (some (.int .i64 (k : Int))) none).run Try.prog w' = .ok (.slice A k m) w' := fun w' => by
  have := run_slice_h (P := Try.prog) (w := w') 23 A n m Try.underlying23 .i64 (k : Int) (by omega) (by omega)
  have hs : ∀ w', (sizeOf 31).run Try.prog w' = .ok 2 w' := fun w' => by kernel_rfl
  have he : Try.prog.elem 23 = 31 := by kernel_rfl
  rw [this, Int.toNat_natCast, he, hs]
  have e0 : ∀ a : Addr, a.add 0 = a := fun a => by unfold Addr.add; simp
  simp [Result.andThen, sliced, e0]
def OwnC (P : Nat → Prop) (w : World) (B : Nat) (v : Value) (L : List En) : Prop := OwnQ EnE 31 w B (fun k => k < B ∧ P k) v L
theorem OwnC.below {P : Nat → Prop} {w w' : World} {B : Nat} {v : Value} {L : List En} (h : OwnC P w B v L) (hb : Below w.heap.size w w') : OwnC P w' B v L := OwnQ.below h hb
theorem OwnC.ge {P : Nat → Prop} {w : World} {B : Nat} {v : Value} {L : List En} (h : OwnC P w B v L) : ∀ g, v.ownBlock = some g → B ≤ g := by
  obtain ⟨cs, h1, h2, h3⟩ := h
  exact own_ge h2
theorem OwnC.app {P : Nat → Prop} {w w' : World} {B m : Nat} {v v' : Value} {L M : List En} {cs ds : List (List Value)} (h1 : Ch EnE w (fun k => k < B ∧ P k) cs L) (h2 : w.ownsRow B 31 2 v L.length cs.flatten) (hB : B ≤ w.heap.size) (hd : Ch EnE w (fun k => k < B ∧ P k) ds M)
    (hm : M.length = m) (ho : w'.ownsRow B 31 2 v' (L.length + m) (cs.flatten ++ ds.flatten)) (hg : w.grownBy w' v.ownBlock) : OwnC P w' B v' (L ++ M) := by
  have hk : ∀ b, (b < B ∧ P b) → b < w.heap.size → w'.heap[b]? = w.heap[b]? := fun b hb hlt => hg.block b hlt fun e => by have := own_ge h2 b e.symm; have h9 : b < B := hb.1; omega
  refine ⟨cs ++ ds, (h1.appc hd).keep hk, ?_, fun g hgb hh => by have := own_ge ho g hgb; have h9 : g < B := hh.1; omega⟩
  rw [List.flatten_append, List.length_append, hm]
  exact ho
theorem OwnC.nilbase {P : Nat → Prop} {w : World} {B B' : Nat} {v : Value} (h : OwnC P w B v []) (hB : B' ≤ B) : OwnC P w B' v [] := by
  obtain ⟨cs, h1, h2, h3⟩ := h
  have hcs : cs = [] := by
    cases cs with
    | nil => rfl
    | cons c cs => exact h1.elim
  subst hcs
  refine ⟨[], trivial, ⟨h2.1, h2.2.imp id fun ⟨g, cap, cur, e, hg, r⟩ => ⟨g, cap, cur, e, Nat.le_trans hB hg, r⟩⟩, fun g hg hh => ?_⟩
  have := own_ge h2 g hg
  have h9 : g < B' := hh.1
  omega
theorem egrow_any (P : Nat → Prop) (n : Nat) (h1 : 1 ≤ n) (hn : n ≤ 1000000) (w : World) : Calls Try.prog 69 #[.slice none 0 0, .int .i64 n] w (fun e w' => ∃ v, e = .returned v ∧ OwnC P w' w.heap.size v [] ∧ Below w.heap.size w w') := by
  obtain ⟨i, hi, hz, hs, hb⟩ : ∃ i, Try.prog.info? 31 = some i ∧ i.zero = some (.agg #[.slice none 0 0, .slice none 0 0]) ∧ i.size = 2 ∧ i.bytes = 48 := by
    have h := kindEN.info
    cases e : Try.prog.info? 31 with
    | none => rw [e] at h; cases h
    | some i => rw [e] at h; simp at h; exact ⟨i, rfl, h.1, h.2.1, h.2.2⟩
  obtain ⟨G, hG⟩ : ∃ G, G = grownCap w (0 + n) 0 31 := ⟨_, rfl⟩
  have hGn : n ≤ G := by have := grownCap_ge w (0 + n) 0 31; omega
  have hGm : G ≤ maxLen := by rw [hG]; exact grownCap_le_maxLen w (0 + n) 0 _ (by unfold maxLen; omega)
  obtain ⟨C, hC⟩ : ∃ C : Array Value, C = ([] : List Value).toArray ++ Builtin.zeroCells (Value.agg #[.slice none 0 0, .slice none 0 0]).cells n ++ Builtin.zeroCells (Value.agg #[.slice none 0 0, .slice none 0 0]).cells (G - (0 + n)) := ⟨_, rfl⟩
  have hCs : C.size = G * 2 := by
    rw [hC]
    simp [Builtin.zeroCells, Value.cells]
    omega
  have hrun : ∀ ty, (Builtin.append_ #[23, 3] ty #[.slice none 0 0, .int .i64 n]).run Try.prog w = .ok (.slice (some ⟨w.heap.size, 0, none⟩) n G) (w.drew.alloc (.cells C 31)) := fun ty => by
    have h := Lib.run_append_grow_zeros w 23 3 ty 31 i (.agg #[.slice none 0 0, .slice none 0 0]) .i64 .i64 kindEN.und Try.underlying3 hi hz none 0 0 [] (run_firstCells_none _ _ _ _ _) n (by omega) (by omega) (by omega) (by omega) (by rw [hb]; omega) (growslice_fits (by omega) (by rw [hb]; omega))
    rw [← hG, ← hC, Nat.zero_add] at h
    exact h
  have hB : Below w.heap.size w (w.drew.alloc (.cells C 31)) := (below_one' w).trans (below_one w.drew _)
  have hO : OwnC P (w.drew.alloc (.cells C 31)) w.heap.size (.slice (some ⟨w.heap.size, 0, none⟩) 0 G) [] :=
    ⟨[], trivial, ⟨rfl, .inr ⟨w.heap.size, G, C, rfl, Nat.le_refl _, heap_alloc_new w.drew _, Nat.zero_le _, hGm, hCs, by simp⟩⟩, fun g hg hh => by
      have e : w.heap.size = g := by injection hg
      have h9 : g < w.heap.size := hh.1
      omega⟩
  have HE := Lib.hid (And.intro hO hB)
  have e1 : IntKind.i64.wrap (n : Int) = (n : Int) := IntWalk.i64_in _ (by omega)
  have e2 : (0 : Int) < n := by omega
  have e3 : ¬ (n : Int) < 0 := by omega
  have e4 : (n : Int) ≤ G := by omega
  have hsl := slice_enh (w := w) (P := fun _ => True) (A := some ⟨w.heap.size, 0, none⟩) (L := []) (n := n) G 0 (by omega) hGn
  clear hO hB hi hz hs hb hG hC hCs hGn hGm
  go_enter Try.func69, Try.ntmps69
  go_wp2_with (at_builtin; refine Lib.wpList_append_run _ rfl _ _ _ _ rfl _ _ rfl rfl _ _ (hrun _) ?_)
  all_goals (go_ret; exact ⟨_, rfl, HE.out.1, HE.out.2⟩)
def Enr (w : World) (P : Nat → Prop) (A : Option Addr) (n : Nat) (S : List (List En)) : Prop := S.length = n ∧ Sq (SlE EnE) w P A S
theorem Enr.cells {w : World} {P : Nat → Prop} {A : Option Addr} {n : Nat} {S : List (List En)} (h : Enr w P A n S) (hn : n ≠ 0) :
    ∃ g o, A = some ⟨g, o, none⟩ ∧ P g ∧ g < w.heap.size ∧ ∀ k, k < n → ∃ a l m, (S.getD k []).length = l ∧ l ≤ m ∧ (a = none → m = 0) ∧ Ens w P a l (S.getD k []) ∧
      ∀ w', Below w.heap.size w w' → w'.cell? ⟨g, o + k, none⟩ = some (.slice a l m) := by
  obtain ⟨rfl, h⟩ := h
  obtain ⟨g, o, c, e, hP, hg, _⟩ := h.at_ (i := 0) (by decide) (List.getElem?_eq_getElem (Nat.pos_of_ne_zero hn))
  refine ⟨g, o, e, hP, hg, fun k hk => ?_⟩
  obtain ⟨g', o', c', e', hP', hg', ⟨a, m, hc, h1, h2, h3⟩, hcell⟩ := h.at_ (i := k) (by decide) (List.getElem?_eq_getElem hk)
  rw [e] at e'
  injection e' with e'
  injection e' with e1 e2
  subst e1 e2
  have hS : S.getD k [] = S[k] := by rw [List.getD_eq_getElem?_getD, List.getElem?_eq_getElem hk]; rfl
  rw [hS]
  refine ⟨a, _, m, rfl, h1, h2, ⟨rfl, h3⟩, fun w' hb => ?_⟩
  have := hcell 0 _ (by rw [hc]; rfl)
  have e : o + k * (SlE EnE).k + 0 = o + k := by show o + k * 1 + 0 = o + k; omega
  rw [e] at this
  rw [← this]
  exact hb.cell (lt_of_cell this)
def ECaPost (P : Nat → Prop) (L : List En) (w : World) (e : Ending) (w' : World) : Prop := ∃ A n m, e = .returned (.slice A n m) ∧ Below w.heap.size w w' ∧ Ens w' (fun k => w.heap.size ≤ k ∨ P k) A n L ∧ (A = none → m = 0)
set_option maxHeartbeats 2000000 in
theorem econcat_any (P : Nat → Prop) (A : Option Addr) (n m : Nat) (S : List (List En)) (w : World) (hz : Enr w P A n S) (hn : n ≠ 0) (hnm : n ≤ 1000) (h1 : 1 ≤ S.flatten.length) (hT : S.flatten.length ≤ 1000) :
    Calls Try.prog 55 #[.slice A n m] w (ECaPost P S.flatten w) := by
  have hlen : S.length = n := hz.1
  obtain ⟨g, o, rfl, _, _, hc⟩ := hz.cells hn
  have HC := Lib.hid hc
  have HLEN := Lib.hid hlen
  have HT := Lib.hid (And.intro h1 hT)
  have n0 : (0 : Int) < n := by omega
  clear hc hz hlen h1 hT hn
  go_enter Try.func55, Try.ntmps55
  go_wp2
  go_loopw [3, 11] (fun x y wr => ∃ k s : Nat, k ≤ n ∧ x = .int .i64 s ∧ y = .int .i64 k ∧ s ≤ 1000 ∧ Hid (s = (S.take k).flatten.length ∧ Below w.heap.size w wr)) (fun x y _ => 1001 - (intOf y).toNat)
  case atStart => exact ⟨0, 0, by omega, rfl, rfl, by omega, Lib.hid ⟨rfl, Below.refl _ _⟩⟩
  case round =>
    obtain ⟨k, s, hk, rfl, rfl, hs, HR⟩ := hrel
    obtain ⟨hs2, hw⟩ := HR.out
    have HW := Lib.hid hw
    clear HR
    by_cases hkn : k < n
    · have e1 : (k : Int) < n := by omega
      obtain ⟨a, l, m', q1, q2, q3, q4, q7⟩ := HC.out k hkn
      have c0 := q7 _ hw
      have hF := ftkl S (k := k) (by rw [HLEN.out]; exact hkn)
      have hL := ftkl_le S (k + 1)
      rw [hF, List.length_append, q1, ← hs2] at hL
      have hl : s + l ≤ 1000 := Nat.le_trans hL HT.out.2
      have e2 : IntKind.i64.wrap ((s : Int) + l) = ((s + l : Nat) : Int) := IntWalk.i64_in _ (by omega)
      have e3 : IntKind.i64.wrap ((k : Int) + 1) = ((k + 1 : Nat) : Int) := IntWalk.i64_in _ (by omega)
      have e4 : ¬ ((s + l : Nat) : Int) < 0 := by omega
      have HE : Hid (s + l = (S.take (k + 1)).flatten.length) := Lib.hid (by rw [hF, List.length_append, q1, ← hs2])
      clear q1 q4 q7 hF hL hs2 hw
      go_wp2
      go_roundw
      case rel => exact ⟨k + 1, s + l, by omega, by go_num, by go_num, hl, Lib.hid ⟨HE.out, HW.out⟩⟩
      case measure => simp [intOf]; omega
    · have hke : n = k := by omega
      subst hke
      have hs3 : s = S.flatten.length := by rw [hs2, List.take_of_length_le (by rw [HLEN.out]; omega)]
      have s1 : 1 ≤ s := by rw [hs3]; exact HT.out.1
      have HS := Lib.hid hs3
      clear hs2 hs3 hw
      go_wp2_with fail
      with_reducible refine (egrow_any P s s1 (by omega) _).mono ?_
      rintro e w1 ⟨v, rfl, ho, hb⟩
      have hB0 : w.heap.size ≤ wr.heap.size := HW.out.size
      have hBw : wr.heap.size ≤ w1.heap.size := hb.size
      have H0 : Hid (OwnC P w1 w.heap.size v [] ∧ Below w.heap.size w w1) := Lib.hid ⟨ho.nilbase hB0, HW.out.trans (hb.mono hB0)⟩
      clear ho hb
      go_wp2
      go_loopw [6, 27] (fun x y wr => ∃ k : Nat, k ≤ n ∧ y = .int .i64 k ∧ Hid (OwnC P wr w.heap.size x (S.take k).flatten ∧ Below w.heap.size w wr)) (fun x y _ => 1001 - (intOf y).toNat)
      case atStart => exact ⟨0, by omega, rfl, H0⟩
      case round =>
        clear H0
        obtain ⟨k, hk, rfl, HR⟩ := hrel
        obtain ⟨ho, hb⟩ := HR.out
        clear HR
        by_cases hkn : k < n
        · have e1 : (k : Int) < n := by omega
          obtain ⟨a, l, m', q1, q2, q3, q4, q7⟩ := HC.out k hkn
          have c0 := q7 _ hb
          have hF := ftkl S (k := k) (by rw [HLEN.out]; exact hkn)
          have hL := ftkl_le S (k + 1)
          rw [hF, List.length_append, q1] at hL
          have hl : (S.take k).flatten.length + l ≤ 1000000 := by have := HT.out.2; omega
          have e3 : IntKind.i64.wrap ((k : Int) + 1) = ((k + 1 : Nat) : Int) := IntWalk.i64_in _ (by omega)
          obtain ⟨ds, d1, d2, d3, d4⟩ := ((q4.mono (Q := fun b => b < w.heap.size ∧ P b) (fun b hp h => ⟨h, hp⟩)).below hb).2.raw
          rw [q1, show EnE.k = 2 from rfl] at d2
          have hB9 := hb.size
          obtain ⟨cs, g1, g2', g3⟩ := ho
          have g2 : wr.ownsRow w.heap.size 31 2 _ (S.take k).flatten.length cs.flatten := g2'
          clear g2'
          have HE := Lib.hid (fun (v' : Value) (w' : World) ho' hg' => (show OwnC P w' w.heap.size v' (S.take (k + 1)).flatten from by
            rw [hF]
            exact OwnC.app g1 g2 hB9 d1 q1 ho' hg'))
          have HB := Lib.hid (And.intro hb (own_ge g2))
          clear q1 q4 q7 hF hL d1 g1 g3
          go_wp2_with (at_builtin; go_must (refine list_append_rw kindEN rfl (.tmp 31) (.tmp 32) rfl w.heap.size _ _ _ rfl g2 a l m' ds.flatten rfl d2 d3 q3 d4 hl (by omega) hB9 ?_; intro v' w10 ho' hg' hgr'; have HN := Lib.hid (And.intro (HE.out _ _ ho' hg') (HB.out.1.grown hg' hB9 (fun k e => HB.out.2 k e))); clear ho' hg' hgr'))
          go_roundw
          case rel => exact ⟨k + 1, by omega, by go_num, HN⟩
          case measure => simp [intOf]; omega
        · have e1 : ¬ (k : Int) < n := by omega
          have HE : Hid (OwnC P wr w.heap.size _ S.flatten ∧ Below w.heap.size w wr) := Lib.hid ⟨by rw [← List.take_of_length_le (l := S) (i := k) (by rw [HLEN.out]; omega)]; exact ho, hb⟩
          obtain ⟨A9, c9, hv9, z1, z2, z3⟩ := OwnQ.slice HE.out.1
          obtain ⟨N9, hN9⟩ : ∃ N9, N9 = S.flatten.length := ⟨_, rfl⟩
          rw [← hN9] at hv9
          have HZ3 : Hid (Ens wr (fun k => w.heap.size ≤ k ∨ P k) A9 N9 S.flatten) := Lib.hid ⟨hN9.symm, z3.mono (fun k hk _ => hk.elim (fun h => .inr h.2) (fun h => .inl (OwnC.ge HE.out.1 k h)))⟩
          have HZ2 := Lib.hid z2
          clear ho hb z1 z2 z3 hN9
          subst hv9
          go_wp2
          go_ret
          exact ⟨_, _, _, rfl, HE.out.2, HZ3.out, HZ2.out⟩
end Go.Proofs.Ytgdcbfekekefiaa.Cur
