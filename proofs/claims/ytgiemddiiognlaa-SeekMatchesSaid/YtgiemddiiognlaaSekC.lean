/- Longest matches: the best one among those with some places that are yielded. -/
import Derived.Test.YtgiemddiiognlaaSekB
namespace Go.Proofs.Ytgiemddiiognlaa.Cur
open Go.RowKit Go.Shelf Mem
attribute [local go_sem] Oper.semAt_some
set_option linter.unusedVariables false
set_option maxRecDepth 100000


def stp (z : List Int) (a : Int) (s : Int × Int) (p : Nat) : Int × Int := if s.2 < mt z a.toNat p ∨ ((mt z a.toNat p : Nat) : Int) = s.2 ∧ a - p < s.1 ∧ ky z (a.toNat + (s.2 - 3).toNat) = ky z (p + (s.2 - 3).toNat) then (a - p, mt z a.toNat p) else s
def fld (z : List Int) (a : Int) (L : List Nat) (s : Int × Int) : Int × Int := L.foldl (stp z a) s
theorem fld_snoc (z : List Int) (a : Int) (L : List Nat) (p : Nat) (s : Int × Int) : fld z a (L ++ [p]) s = stp z a (fld z a L s) p := by unfold fld; rw [List.foldl_append]; rfl
theorem stp_ge (z : List Int) (a : Int) (s : Int × Int) (p : Nat) : s.2 ≤ (stp z a s p).2 := by
  unfold stp
  split
  · rename_i h; show s.2 ≤ ((mt z a.toNat p : Nat) : Int); omega
  · exact Int.le_refl _
theorem fld_ge (z : List Int) (a : Int) : ∀ (L : List Nat) (s : Int × Int), s.2 ≤ (fld z a L s).2
  | [], s => Int.le_refl _
  | p :: L, s => Int.le_trans (stp_ge z a s p) (fld_ge z a L _)
/-- With falling places a tie is never won. -/
theorem fld_bst {z : List Int} {a : Int} : ∀ (L : List Nat) (s : Int × Nat), L.Pairwise (· > ·) → (∀ p ∈ L, (p : Int) < a ∧ s.1 < a - p) → fld z a L (s.1, s.2) = ((bst z a L s).1, ((bst z a L s).2 : Int))
  | [], s, _, _ => rfl
  | p :: L, s, hs, hp => by
    obtain ⟨h1, h2⟩ := List.pairwise_cons.1 hs
    obtain ⟨p1, p2⟩ := hp p (by simp)
    show fld z a L (stp z a (s.1, s.2) p) = _
    rw [bst]
    by_cases h : s.2 < mt z a.toNat p
    · have e : stp z a (s.1, (s.2 : Int)) p = (a - p, ((mt z a.toNat p : Nat) : Int)) := by unfold stp; rw [if_pos (.inl (by show (s.2 : Int) < _; omega))]
      rw [e, if_pos h]
      exact fld_bst L (a - p, mt z a.toNat p) h2 fun q hq => ⟨(hp q (by simp [hq])).1, by have := h1 q hq; show a - (p : Int) < a - q; omega⟩
    · have e : stp z a (s.1, (s.2 : Int)) p = (s.1, (s.2 : Int)) := by
        unfold stp
        rw [if_neg]
        show ¬ ((s.2 : Int) < _ ∨ _ ∧ a - (p : Int) < s.1 ∧ _)
        omega
      rw [e, if_neg h]
      exact fld_bst L s h2 fun q hq => hp q (by simp [hq])

abbrev PLt (a : Int) := {p : Nat // (p : Int) < a}
/-- Between two rounds: the variables. -/
def BsI (w : World) (A : Option Addr) (n m : Nat) (z : List Int) (a : Int) (pre : List (PLt a)) (W : World) : Prop :=
  ((((((Boxed W w.heap.size 22 (.slice A n m) ∧ Boxed W (w.heap.size + 1) 3 (.int .i64 a)) ∧ Boxed W (w.heap.size + 1 + 1) 3 (.int .i64 (fld z a (pre.map Subtype.val) (0, 3)).1)) ∧ Boxed W (w.heap.size + 1 + 1 + 1) 3 (.int .i64 (fld z a (pre.map Subtype.val) (0, 3)).2)) ∧
    Boxed W (w.heap.size + 1 + 1 + 1 + 1) 3 (.int .i64 (pre.length : Nat))) ∧ Boxed W (w.heap.size + 1 + 1 + 1 + 1 + 1) 3 (.int .i64 (lim z a))) ∧ Below w.heap.size w W)
theorem BsI.own (w : World) (A : Option Addr) (n m : Nat) (z : List Int) (a : Int) {B : Nat} (h : w.heap.size ≤ B) : OwnFrom B (BsI w A n m z a) :=
  OwnFrom.and (OwnFrom.and (OwnFrom.and (OwnFrom.and (OwnFrom.and (OwnFrom.and (Own.from (boxed_own _ _ (fun _ => _)) _) (Own.from (boxed_own _ _ (fun _ => _)) _)) (Own.from (boxed_own _ _ (fun pre : List (PLt a) => .int .i64 (fld z a (pre.map Subtype.val) (0, 3)).1)) _)) (Own.from (boxed_own _ _ (fun pre : List (PLt a) => .int .i64 (fld z a (pre.map Subtype.val) (0, 3)).2)) _))
    (Own.from (boxed_own _ _ (fun pre : List (PLt a) => .int .i64 (pre.length : Nat))) _)) (Own.from (boxed_own _ _ (fun _ => _)) _)) (ownFrom_below (Nat.le_refl _) h)
def BsX (w : World) (A : Option Addr) (n m : Nat) (z : List Int) (a : Int) (cd : Code) (pre : List (PLt a)) (W : World) : Prop :=
  (cd = .exit 0 ∧ pre ≠ [] ∧ lim z a ≤ (fld z a (pre.dropLast.map Subtype.val) (0, 3)).2) ∧ BsI w A n m z a pre.dropLast W
theorem BsX.own (w : World) (A : Option Addr) (n m : Nat) (z : List Int) (a : Int) (cd : Code) {B : Nat} (h : w.heap.size ≤ B) : OwnFrom B (BsX w A n m z a cd) :=
  OwnFrom.and (ownFrom_pure _ _) (fun s X Y row hs hg hr => BsI.own w A n m z a h s.dropLast X Y row hs hg hr)
/-- What best gives. -/
def BestPost (z : List Int) (a : Int) (L : List Nat) (w : World) (e : Ending) (w' : World) : Prop :=
  ∃ t : Nat, t ≤ L.length ∧ e = .returned (.tuple #[.int .i64 (bst z a L (0, 3)).1, .int .i64 (if (bst z a L (0, 3)).1 = 0 then 0 else ((bst z a L (0, 3)).2 : Int)), .int .i64 t]) ∧ Below w.heap.size w w'

theorem keepsOthers_drewN (W : World) (q : Nat) : KeepsOthers W (W.drewN q) := ⟨Nat.le_refl _, fun _ _ h _ => h⟩
theorem BsI.mk {w : World} {A : Option Addr} {n m : Nat} {z : List Int} {a : Int} {pre : List (PLt a)} {W : World} {u v k : Int} (b0 : Boxed W w.heap.size 22 (.slice A n m)) (b1 : Boxed W (w.heap.size + 1) 3 (.int .i64 a)) (b2 : Boxed W (w.heap.size + 1 + 1) 3 (.int .i64 u)) (b3 : Boxed W (w.heap.size + 1 + 1 + 1) 3 (.int .i64 v))
    (b4 : Boxed W (w.heap.size + 1 + 1 + 1 + 1) 3 (.int .i64 k)) (b5 : Boxed W (w.heap.size + 1 + 1 + 1 + 1 + 1) 3 (.int .i64 (lim z a))) (hB : Below w.heap.size w W) (hst : fld z a (pre.map Subtype.val) (0, 3) = (u, v)) (hk : k = ((pre.length : Nat) : Int)) : BsI w A n m z a pre W := by
  subst hk
  refine ⟨⟨⟨⟨⟨⟨b0, b1⟩, ?_⟩, ?_⟩, b4⟩, b5⟩, hB⟩
  · rw [hst]; exact b2
  · rw [hst]; exact b3
theorem results_int3 {fn : Func} {p q r : Tmp} (h : fn.results = #[.cell p 3, .cell q 3, .cell r 3]) (tmps : Array Value) (w : World) (x y z : Addr) (u v s : Int) (hp : tmps.getD p undef = .pointer (some x)) (hq : tmps.getD q undef = .pointer (some y)) (hr : tmps.getD r undef = .pointer (some z))
    (cx : w.cell? x = some (.int .i64 u)) (cy : w.cell? y = some (.int .i64 v)) (cz : w.cell? z = some (.int .i64 s)) : (results fn tmps).run Try.prog w = .ok (.tuple #[.int .i64 u, .int .i64 v, .int .i64 s]) w := by
  have hp' : tmps[p]?.getD undef = .pointer (some x) := by simpa using hp
  have hq' : tmps[q]?.getD undef = .pointer (some y) := by simpa using hq
  have hr' : tmps[r]?.getD undef = .pointer (some z) := by simpa using hr
  simp only [results, h]
  go_simp
theorem len_snoc {α : Type} (pre : List α) (x : α) : ((pre.length : Nat) : Int) + 1 = (((pre ++ [x]).length : Nat) : Int) := by simp
set_option maxHeartbeats 8000000 in
theorem best_any {w : World} {A : Option Addr} {n m : Nat} {z : List Int} (a : Int) (gf : Nat) (lb : Array Value) (Ls : List (PLt a)) (hz : Bs w A n z) (hby : ∀ x ∈ z, 0 ≤ x ∧ x < 256) (hm : n ≤ m) (hn : n ≤ 60000) (ha : -9223372036854775808 ≤ a ∧ a ≤ 9223372036854775807)
    (hLs : (Ls.map Subtype.val).Pairwise (· > ·)) (hlen : Ls.length ≤ 100000) (eg : ∀ args w, (callFunc gf args).run Try.prog w = .ok (.enter gf args) w)
    (hseq : SeqStopsK Fence.wide 2 Try.prog gf lb (fun x : PLt a => #[Value.int .i64 ((x.1 : Nat) : Int)]) (Below w.heap.size) (fun ys => ys = Ls) (fun pre => pre <+: Ls) Ls.length w) :
    Calls Try.prog 17 #[.slice A n m, .int .i64 a, .func (.func gf) #[] lb] w (BestPost z a (Ls.map Subtype.val) w) := by
  have hzl := hz.1
  refine (callsIn_wide (n := 3)).1 ?_
  refine callsIn_of_wp_marks Try.func17 rfl trivial ?_ rfl
  refine wpIn_wide.2 ?_
  simp only [Try.ntmps17, List.size_toArray, List.length_cons, List.length_nil, Nat.reduceAdd, Nat.reduceSub, Array.replicate_succ, Array.replicate_zero, List.push_toArray, List.append_toArray, List.nil_append, List.cons_append]
  have hmo := fun w => most_any (w := w) (A := A) (m := m) a hzl (by omega) ha
  have HZ := Lib.hid hz
  have HBY := Lib.hid hby
  clear hz hby
  go_wp2_with fail
  refine (hmo _).mono ?_
  rintro e w1 ⟨rfl, rfl⟩
  clear hmo
  go_wp2_with fail
  have b0 := (((((Boxed.new w 22 (.slice A n m)).alloc (.cells #[.int .i64 a] 3)).alloc (.cells #[.int .i64 0] 3)).alloc (.cells #[.int .i64 3] 3)).alloc (.cells #[.int .i64 0] 3)).alloc (.cells #[.int .i64 (lim z a)] 3)
  have b1 := ((((Boxed.new (w.alloc (.cells #[.slice A n m] 22)) 3 (.int .i64 a)).alloc (.cells #[.int .i64 0] 3)).alloc (.cells #[.int .i64 3] 3)).alloc (.cells #[.int .i64 0] 3)).alloc (.cells #[.int .i64 (lim z a)] 3)
  have b2 := (((Boxed.new ((w.alloc (.cells #[.slice A n m] 22)).alloc (.cells #[.int .i64 a] 3)) 3 (.int .i64 0)).alloc (.cells #[.int .i64 3] 3)).alloc (.cells #[.int .i64 0] 3)).alloc (.cells #[.int .i64 (lim z a)] 3)
  have b3 := ((Boxed.new (((w.alloc (.cells #[.slice A n m] 22)).alloc (.cells #[.int .i64 a] 3)).alloc (.cells #[.int .i64 0] 3)) 3 (.int .i64 3)).alloc (.cells #[.int .i64 0] 3)).alloc (.cells #[.int .i64 (lim z a)] 3)
  have b4 := (Boxed.new ((((w.alloc (.cells #[.slice A n m] 22)).alloc (.cells #[.int .i64 a] 3)).alloc (.cells #[.int .i64 0] 3)).alloc (.cells #[.int .i64 3] 3)) 3 (.int .i64 0)).alloc (.cells #[.int .i64 (lim z a)] 3)
  have b5 := Boxed.new (((((w.alloc (.cells #[.slice A n m] 22)).alloc (.cells #[.int .i64 a] 3)).alloc (.cells #[.int .i64 0] 3)).alloc (.cells #[.int .i64 3] 3)).alloc (.cells #[.int .i64 0] 3)) 3 (.int .i64 (lim z a))
  simp only [World.size_alloc] at b0 b1 b2 b3 b4 b5
  have hsz : ((((((w.alloc (.cells #[.slice A n m] 22)).alloc (.cells #[.int .i64 a] 3)).alloc (.cells #[.int .i64 0] 3)).alloc (.cells #[.int .i64 3] 3)).alloc (.cells #[.int .i64 0] 3)).alloc (.cells #[.int .i64 (lim z a)] 3)).heap.size = w.heap.size + 1 + 1 + 1 + 1 + 1 + 1 := by simp only [World.size_alloc]
  have hB0 : Below w.heap.size w ((((((w.alloc (.cells #[.slice A n m] 22)).alloc (.cells #[.int .i64 a] 3)).alloc (.cells #[.int .i64 0] 3)).alloc (.cells #[.int .i64 3] 3)).alloc (.cells #[.int .i64 0] 3)).alloc (.cells #[.int .i64 (lim z a)] 3)) :=
    ((((((Below.refl w.heap.size w).alloc (by simp) _).alloc (by simp) _).alloc (by simp <;> omega) _).alloc (by simp <;> omega) _).alloc (by simp <;> omega) _).alloc (by simp <;> omega) _
  generalize (((((w.alloc (.cells #[.slice A n m] 22)).alloc (.cells #[.int .i64 a] 3)).alloc (.cells #[.int .i64 0] 3)).alloc (.cells #[.int .i64 3] 3)).alloc (.cells #[.int .i64 0] 3)).alloc (.cells #[.int .i64 (lim z a)] 3) = W0 at *
  refine (wpIn_wide (n := 3)).1 ?_
  refine wpIn_rangeFunc_ownG rfl (by omega) (gf := gf) (lb := lb) rfl trivial eg hseq belowK_t (belowK_b (by omega)) hB0 (fun _ => rfl) (BsI w A n m z a) (BsX w A n m z a) (BsI.own w A n m z a (by omega)) (fun cd => BsX.own w A n m z a cd (by omega))
    ⟨⟨⟨⟨⟨⟨b0, b1⟩, b2⟩, b3⟩, b4⟩, b5⟩, hB0⟩ ?a1 ?assign ?body ?done ?stop
  case assign =>
    intro l x W K hK
    gi_wp2
    exact hK
  case body =>
    rintro l pre ⟨p, hp⟩ W ⟨⟨⟨⟨⟨⟨b0, b1⟩, b2⟩, b3⟩, b4⟩, b5⟩, hB⟩ hlt
    have hge := fld_ge z a (pre.map Subtype.val) (0, 3)
    obtain ⟨⟨off, k⟩, hs⟩ : ∃ s, fld z a (pre.map Subtype.val) (0, 3) = s := ⟨_, rfl⟩
    rw [hs] at b2 b3 hge
    dsimp only at b2 b3 hge
    have HS := Lib.hid hs
    have c0 := b0.cell
    have c1 := b1.cell
    have c2 := b2.cell
    have c3 := b3.cell
    have c4 := b4.cell
    have c5 := b5.cell
    have f2 := b2.frozen
    have f3 := b3.frozen
    have f4 := b4.frozen
    clear hs
    by_cases hfull : lim z a ≤ k
    · gi_wp2
      refine ⟨KeepsFrom.refl _ _, ⟨rfl, by simp, by rw [List.dropLast_concat, HS.out]; exact hfull⟩, ?_⟩
      rw [List.dropLast_concat]
      exact ⟨⟨⟨⟨⟨⟨b0, b1⟩, by rw [HS.out]; exact b2⟩, by rw [HS.out]; exact b3⟩, b4⟩, b5⟩, hB⟩
    · have hl : 0 ≤ a ∧ a ≤ n ∧ lim z a = n - a := by
        unfold lim at *
        rw [hzl] at *
        split at hfull <;> rename_i h
        · rw [if_pos h]; exact ⟨h.1, h.2, rfl⟩
        · omega
      obtain ⟨an, rfl⟩ : ∃ an : Nat, a = an := ⟨a.toNat, by omega⟩
      obtain ⟨t, rfl⟩ : ∃ t : Nat, k = 3 + (t : Int) := ⟨(k - 3).toNat, by omega⟩
      have hp' : p < an := by omega
      have hat : an + t + 4 ≤ n := by omega
      have hpl : pre.length ≤ 100000 := by omega
      have hll : ¬ lim z (an : Int) ≤ 3 + (t : Int) := hfull
      have hlt3 : (pre.length : Int) + 1 ≤ 200000 := by omega
      obtain ⟨W1, hW1⟩ : ∃ W1, W.setCell ⟨w.heap.size + 1 + 1 + 1 + 1, 0, none⟩ (.int .i64 ((pre.length : Int) + 1)) = W1 := ⟨_, rfl⟩
      have hB1 : Below w.heap.size w W1 := by rw [← hW1]; exact hB.setCell (p := ⟨w.heap.size + 1 + 1 + 1 + 1, 0, none⟩) (by show w.heap.size ≤ w.heap.size + 1 + 1 + 1 + 1; omega) _
      have hB1' : Below w.heap.size W W1 := by rw [← hW1]; exact (Below.refl _ W).setCell (p := ⟨w.heap.size + 1 + 1 + 1 + 1, 0, none⟩) (by show w.heap.size ≤ w.heap.size + 1 + 1 + 1 + 1; omega) _
      have hKo : KeepsOthers W W1 := by rw [← hW1]; exact KeepsOthers.setCell _ _ _
      have a0 : Boxed W1 w.heap.size 22 (.slice A n m) := by rw [← hW1]; exact b0.other (by omega) _
      have a1 : Boxed W1 (w.heap.size + 1) 3 (.int .i64 (an : Int)) := by rw [← hW1]; exact b1.other (by omega) _
      have a2 : Boxed W1 (w.heap.size + 1 + 1) 3 (.int .i64 off) := by rw [← hW1]; exact b2.other (by omega) _
      have a3 : Boxed W1 (w.heap.size + 1 + 1 + 1) 3 (.int .i64 (3 + (t : Int))) := by rw [← hW1]; exact b3.other (by omega) _
      have a4 : Boxed W1 (w.heap.size + 1 + 1 + 1 + 1) 3 (.int .i64 ((pre.length : Int) + 1)) := by rw [← hW1]; exact b4.set _
      have a5 : Boxed W1 (w.heap.size + 1 + 1 + 1 + 1 + 1) 3 (.int .i64 (lim z (an : Int))) := by rw [← hW1]; exact b5.other (by omega) _
      have hz1 := HZ.out.below hB1
      have hmay := may_any an p t hz1 HBY.out hm (by omega) (by omega) hat
      rw [show ((3 + t : Nat) : Int) = 3 + (t : Int) by omega] at hmay
      have hmv : mv z an ((an : Int) - p) = (mt z an p : Nat) := by
        unfold mv
        rw [if_pos (by omega), Int.toNat_natCast, show ((an : Int) - (an - p)).toNat = p by omega]
      have hma := fun q : Nat => match_any (w := W1.drewN q) (m := m) (an : Int) ((an : Int) - p) (hz1.drewN q) HBY.out hm (by omega) ha
      unfold MatchPost at hma
      rw [hmv] at hma
      have hst : fld z an (List.map Subtype.val (pre ++ [(⟨p, hp⟩ : PLt (an : Int))])) (0, 3) = stp z an (off, 3 + (t : Int)) p := by rw [List.map_append, List.map_cons, List.map_nil, fld_snoc, HS.out]
      have hmtl := mt_le z an p
      have HST := Lib.hid hst
      have HMA := Lib.hid hma
      have HMAY := Lib.hid hmay
      clear hst hma hmay hmv hz1
      have d0 := a0.cell
      have d1 := a1.cell
      have d2 := a2.cell
      have d3 := a3.cell
      have g2 := a2.frozen
      have g3 := a3.frozen
      by_cases hkk : ky z (an + t) = ky z (p + t)
      · rw [decide_eq_true hkk] at HMAY
        obtain ⟨M, hM⟩ : ∃ M, mt z an p = M := ⟨_, rfl⟩
        rw [hM] at HMA hmtl
        by_cases hb : 3 + (t : Int) < M ∨ (M : Int) = 3 + (t : Int) ∧ (an : Int) - p < off
        · have hstp : stp z an (off, 3 + (t : Int)) p = ((an : Int) - p, (M : Int)) := by
            unfold stp
            rw [Int.toNat_natCast, hM, show (3 + (t : Int) - 3).toNat = t by omega, if_pos]
            rcases hb with h | ⟨h1, h2⟩
            · exact .inl h
            · exact .inr ⟨h1, h2, hkk⟩
          rw [hstp] at HST
          have HBE := Lib.hid (decide_eq_true hb)
          clear hkk hM hstp hb hl
          gi_wp2_with (first | (refine ⟨trivial, ?_⟩; gi_at_call 24; refine (CallsIn.inRound l (callsIn_wide.2 HMAY.out)).mono ?_; rintro e w' ⟨rfl, q1, rfl⟩) | (refine ⟨trivial, ?_⟩; gi_at_call 7; refine (CallsIn.inRound l (callsIn_wide.2 (HMA.out _))).mono ?_; rintro e w' ⟨rfl, q2, rfl⟩) | (refine ⟨trivial, ?_⟩; gi_at_call 9; refine (CallsIn.inRound l (callsIn_wide.2 (better_any _ _ _ _ _))).mono ?_; rintro e w' ⟨rfl, rfl⟩; rw [HBE.out]))
          refine ⟨((hKo.trans (keepsOthers_drewN _ _)).trans ((KeepsOthers.setCell _ _ _).trans (KeepsOthers.setCell _ _ _))).from _, ?_, ?_⟩
          · exact ((below_drewN hB1' _).setCell (p := ⟨w.heap.size + 1 + 1, 0, none⟩) (by show w.heap.size ≤ w.heap.size + 1 + 1; omega) _).setCell (p := ⟨w.heap.size + 1 + 1 + 1, 0, none⟩) (by show w.heap.size ≤ w.heap.size + 1 + 1 + 1; omega) _
          · have e0 : Boxed (W1.drewN (q1 + q2)) w.heap.size 22 (.slice A n m) := a0
            have e1 : Boxed (W1.drewN (q1 + q2)) (w.heap.size + 1) 3 (.int .i64 (an : Int)) := a1
            have e2 : Boxed (W1.drewN (q1 + q2)) (w.heap.size + 1 + 1) 3 (.int .i64 off) := a2
            have e3 : Boxed (W1.drewN (q1 + q2)) (w.heap.size + 1 + 1 + 1) 3 (.int .i64 (3 + (t : Int))) := a3
            have e4 : Boxed (W1.drewN (q1 + q2)) (w.heap.size + 1 + 1 + 1 + 1) 3 (.int .i64 ((pre.length : Int) + 1)) := a4
            have e5 : Boxed (W1.drewN (q1 + q2)) (w.heap.size + 1 + 1 + 1 + 1 + 1) 3 (.int .i64 (lim z (an : Int))) := a5
            exact BsI.mk ((e0.other (by omega) _).other (by omega) _) ((e1.other (by omega) _).other (by omega) _) ((e2.set _).other (by omega) _) ((e3.other (by omega) _).set _) ((e4.other (by omega) _).other (by omega) _) ((e5.other (by omega) _).other (by omega) _)
              (((below_drewN hB1 _).setCell (p := ⟨w.heap.size + 1 + 1, 0, none⟩) (by show w.heap.size ≤ w.heap.size + 1 + 1; omega) _).setCell (p := ⟨w.heap.size + 1 + 1 + 1, 0, none⟩) (by show w.heap.size ≤ w.heap.size + 1 + 1 + 1; omega) _) HST.out (len_snoc _ _)
        · have hstp : stp z an (off, 3 + (t : Int)) p = (off, 3 + (t : Int)) := by
            unfold stp
            rw [Int.toNat_natCast, hM, show (3 + (t : Int) - 3).toNat = t by omega, if_neg]
            exact fun h => hb (h.imp (fun h => h) fun h => ⟨h.1, h.2.1⟩)
          rw [hstp] at HST
          have HBE := Lib.hid (decide_eq_false hb)
          clear hkk hM hstp hb hl
          gi_wp2_with (first | (refine ⟨trivial, ?_⟩; gi_at_call 24; refine (CallsIn.inRound l (callsIn_wide.2 HMAY.out)).mono ?_; rintro e w' ⟨rfl, q1, rfl⟩) | (refine ⟨trivial, ?_⟩; gi_at_call 7; refine (CallsIn.inRound l (callsIn_wide.2 (HMA.out _))).mono ?_; rintro e w' ⟨rfl, q2, rfl⟩) | (refine ⟨trivial, ?_⟩; gi_at_call 9; refine (CallsIn.inRound l (callsIn_wide.2 (better_any _ _ _ _ _))).mono ?_; rintro e w' ⟨rfl, rfl⟩; rw [HBE.out]))
          refine ⟨(hKo.trans (keepsOthers_drewN _ _)).from _, below_drewN hB1' _, ?_⟩
          exact BsI.mk a0 a1 a2 a3 a4 a5 (below_drewN hB1 _) HST.out (len_snoc _ _)
      · rw [decide_eq_false hkk] at HMAY
        have hstp : stp z an (off, 3 + (t : Int)) p = (off, 3 + (t : Int)) := by
          have hk := mt_key (z := z) (a := an) (p := p) (t := t) (by omega) hkk
          unfold stp
          rw [Int.toNat_natCast, show (3 + (t : Int) - 3).toNat = t by omega, if_neg]
          rintro (h | ⟨_, _, h⟩)
          · have h : 3 + (t : Int) < (mt z an p : Nat) := h
            omega
          · exact hkk h
        rw [hstp] at HST
        clear hkk hstp hl
        gi_wp2_with (first | (refine ⟨trivial, ?_⟩; gi_at_call 24; refine (CallsIn.inRound l (callsIn_wide.2 HMAY.out)).mono ?_; rintro e w' ⟨rfl, q1, rfl⟩) | (refine ⟨trivial, ?_⟩; gi_at_call 7; refine (CallsIn.inRound l (callsIn_wide.2 (HMA.out _))).mono ?_; rintro e w' ⟨rfl, q2, rfl⟩) | (refine ⟨trivial, ?_⟩; gi_at_call 9; refine (CallsIn.inRound l (callsIn_wide.2 (better_any _ _ _ _ _))).mono ?_; rintro e w' ⟨rfl, rfl⟩; rw [HBE.out]))
        refine ⟨(hKo.trans (keepsOthers_drewN _ _)).from _, below_drewN hB1' _, ?_⟩
        exact BsI.mk a0 a1 a2 a3 a4 a5 (below_drewN hB1 _) HST.out (len_snoc _ _)
  case done =>
    rintro D ys W hD rfl hI hK
    have hB := hI.2
    have hfl : fld z a (ys.map Subtype.val) (0, 3) = ((bst z a (ys.map Subtype.val) (0, 3)).1, (((bst z a (ys.map Subtype.val) (0, 3)).2 : Nat) : Int)) :=
      fld_bst (ys.map Subtype.val) (0, 3) hLs fun p hp => by
        rw [List.mem_map] at hp
        obtain ⟨q, _, rfl⟩ := hp
        have := q.2
        exact ⟨this, by show 0 < a - _; omega⟩
    obtain ⟨⟨⟨⟨⟨⟨b0, b1⟩, b2⟩, b3⟩, b4⟩, b5⟩, _⟩ := hI
    rw [hfl] at b2 b3
    have ht : ys.length ≤ (ys.map Subtype.val).length := by rw [List.length_map]; exact Nat.le_refl _
    have ht2 : ys.length ≤ 100000 := hlen
    generalize ys.length = t at b4 ht ht2
    obtain ⟨⟨u, v⟩, hR⟩ : ∃ s, bst z a (ys.map Subtype.val) (0, 3) = s := ⟨_, rfl⟩
    rw [hR] at b2 b3
    have HR := Lib.hid hR
    have HT := Lib.hid ht
    clear hfl hR ht b0 b1 b5 hlen hLs
    have hDl : D < W.heap.size := (Array.getElem?_eq_some_iff.1 hK).1
    have c2 := b2.cell
    have c3 := b3.cell
    have c4 := b4.cell
    have f2 := b2.frozen
    have f3 := b3.frozen
    have f4 := b4.frozen
    by_cases h0 : u = 0
    · subst h0
      dsimp only
      go_wp2
      clear hseq HZ HBY eg
      go_region
      go_wp2
      have e2 := ((b2.set (.int .i64 0)).other (B' := w.heap.size + 1 + 1 + 1) (by omega) (.int .i64 0)).other (B' := w.heap.size + 1 + 1 + 1 + 1) (by omega) (.int .i64 (t : Int))
      have e3 := ((b3.other (B' := w.heap.size + 1 + 1) (by omega) (.int .i64 0)).set (.int .i64 0)).other (B' := w.heap.size + 1 + 1 + 1 + 1) (by omega) (.int .i64 (t : Int))
      have e4 := ((b4.other (B' := w.heap.size + 1 + 1) (by omega) (.int .i64 0)).other (B' := w.heap.size + 1 + 1 + 1) (by omega) (.int .i64 0)).set (.int .i64 (t : Int))
      have hBe := ((hB.setCell (p := ⟨w.heap.size + 1 + 1, 0, none⟩) (by show w.heap.size ≤ w.heap.size + 1 + 1; omega) (.int .i64 0)).setCell (p := ⟨w.heap.size + 1 + 1 + 1, 0, none⟩) (by show w.heap.size ≤ w.heap.size + 1 + 1 + 1; omega) (.int .i64 0)).setCell (p := ⟨w.heap.size + 1 + 1 + 1 + 1, 0, none⟩) (by show w.heap.size ≤ w.heap.size + 1 + 1 + 1 + 1; omega) (.int .i64 (t : Int))
      have hKe : (((W.setCell ⟨w.heap.size + 1 + 1, 0, none⟩ (.int .i64 0)).setCell ⟨w.heap.size + 1 + 1 + 1, 0, none⟩ (.int .i64 0)).setCell ⟨w.heap.size + 1 + 1 + 1 + 1, 0, none⟩ (.int .i64 (t : Int))).heap[D]? = some (.deferred (some [])) :=
        (Below.heap_setCell _ _ _ D (by show D ≠ w.heap.size + 1 + 1 + 1 + 1; omega)).trans ((Below.heap_setCell _ _ _ D (by show D ≠ w.heap.size + 1 + 1 + 1; omega)).trans ((Below.heap_setCell _ _ _ D (by show D ≠ w.heap.size + 1 + 1; omega)).trans hK))
      generalize ((W.setCell ⟨w.heap.size + 1 + 1, 0, none⟩ (.int .i64 0)).setCell ⟨w.heap.size + 1 + 1 + 1, 0, none⟩ (.int .i64 0)).setCell ⟨w.heap.size + 1 + 1 + 1 + 1, 0, none⟩ (.int .i64 (t : Int)) = We at *
      refine ⟨by simp, .inl ⟨_, _, rfl, run_takeDeferred hKe, ?_⟩⟩
      have k2 := cell_kept (W := We.drew) (W' := We.drew.putObj D (.deferred none)) e2.cell (grownBy_putObj' _ D (.deferred none)) (fun r e => by cases e; exact ⟨_, hKe, rfl⟩)
      have k3 := cell_kept (W := We.drew) (W' := We.drew.putObj D (.deferred none)) e3.cell (grownBy_putObj' _ D (.deferred none)) (fun r e => by cases e; exact ⟨_, hKe, rfl⟩)
      have k4 := cell_kept (W := We.drew) (W' := We.drew.putObj D (.deferred none)) e4.cell (grownBy_putObj' _ D (.deferred none)) (fun r e => by cases e; exact ⟨_, hKe, rfl⟩)
      have hBD : Below w.heap.size w (We.drew.putObj D (.deferred none)) := (hBe.trans (Below.mono (below_one' We) hBe.size)).trans (belowK_b (w := w) (Nat.le_refl _) We.drew D _ _ (by omega) hKe rfl rfl)
      refine ⟨_, results_int3 rfl _ _ _ _ _ _ _ _ rfl rfl rfl k2 k3 k4, t, HT.out, ?_, hBD⟩
      rw [HR.out]
      rfl
    · dsimp only
      go_wp2
      clear hseq HZ HBY eg
      go_region
      go_wp2
      have e2 := ((b2.set (.int .i64 u)).other (B' := w.heap.size + 1 + 1 + 1) (by omega) (.int .i64 (v : Int))).other (B' := w.heap.size + 1 + 1 + 1 + 1) (by omega) (.int .i64 (t : Int))
      have e3 := ((b3.other (B' := w.heap.size + 1 + 1) (by omega) (.int .i64 u)).set (.int .i64 (v : Int))).other (B' := w.heap.size + 1 + 1 + 1 + 1) (by omega) (.int .i64 (t : Int))
      have e4 := ((b4.other (B' := w.heap.size + 1 + 1) (by omega) (.int .i64 u)).other (B' := w.heap.size + 1 + 1 + 1) (by omega) (.int .i64 (v : Int))).set (.int .i64 (t : Int))
      have hBe := ((hB.setCell (p := ⟨w.heap.size + 1 + 1, 0, none⟩) (by show w.heap.size ≤ w.heap.size + 1 + 1; omega) (.int .i64 u)).setCell (p := ⟨w.heap.size + 1 + 1 + 1, 0, none⟩) (by show w.heap.size ≤ w.heap.size + 1 + 1 + 1; omega) (.int .i64 (v : Int))).setCell (p := ⟨w.heap.size + 1 + 1 + 1 + 1, 0, none⟩) (by show w.heap.size ≤ w.heap.size + 1 + 1 + 1 + 1; omega) (.int .i64 (t : Int))
      have hKe : (((W.setCell ⟨w.heap.size + 1 + 1, 0, none⟩ (.int .i64 u)).setCell ⟨w.heap.size + 1 + 1 + 1, 0, none⟩ (.int .i64 (v : Int))).setCell ⟨w.heap.size + 1 + 1 + 1 + 1, 0, none⟩ (.int .i64 (t : Int))).heap[D]? = some (.deferred (some [])) :=
        (Below.heap_setCell _ _ _ D (by show D ≠ w.heap.size + 1 + 1 + 1 + 1; omega)).trans ((Below.heap_setCell _ _ _ D (by show D ≠ w.heap.size + 1 + 1 + 1; omega)).trans ((Below.heap_setCell _ _ _ D (by show D ≠ w.heap.size + 1 + 1; omega)).trans hK))
      generalize ((W.setCell ⟨w.heap.size + 1 + 1, 0, none⟩ (.int .i64 u)).setCell ⟨w.heap.size + 1 + 1 + 1, 0, none⟩ (.int .i64 (v : Int))).setCell ⟨w.heap.size + 1 + 1 + 1 + 1, 0, none⟩ (.int .i64 (t : Int)) = We at *
      refine ⟨by simp, .inl ⟨_, _, rfl, run_takeDeferred hKe, ?_⟩⟩
      have k2 := cell_kept (W := We.drew) (W' := We.drew.putObj D (.deferred none)) e2.cell (grownBy_putObj' _ D (.deferred none)) (fun r e => by cases e; exact ⟨_, hKe, rfl⟩)
      have k3 := cell_kept (W := We.drew) (W' := We.drew.putObj D (.deferred none)) e3.cell (grownBy_putObj' _ D (.deferred none)) (fun r e => by cases e; exact ⟨_, hKe, rfl⟩)
      have k4 := cell_kept (W := We.drew) (W' := We.drew.putObj D (.deferred none)) e4.cell (grownBy_putObj' _ D (.deferred none)) (fun r e => by cases e; exact ⟨_, hKe, rfl⟩)
      have hBD : Below w.heap.size w (We.drew.putObj D (.deferred none)) := (hBe.trans (Below.mono (below_one' We) hBe.size)).trans (belowK_b (w := w) (Nat.le_refl _) We.drew D _ _ (by omega) hKe rfl rfl)
      refine ⟨_, results_int3 rfl _ _ _ _ _ _ _ _ rfl rfl rfl k2 k3 k4, t, HT.out, ?_, hBD⟩
      rw [HR.out]
      rw [if_neg h0]
  case stop =>
    rintro D cd pre W hD hpre ⟨⟨rfl, hne, hfull⟩, hI⟩ hK
    obtain ⟨ys, q, rfl⟩ : ∃ ys q, pre = ys ++ [q] := ⟨pre.dropLast, pre.getLast hne, (List.dropLast_concat_getLast hne).symm⟩
    rw [List.dropLast_concat] at hfull hI
    obtain ⟨rest, hrest⟩ := hpre
    rw [List.append_assoc] at hrest
    have hB := hI.2
    have hqa := q.2
    have hfl : fld z a (ys.map Subtype.val) (0, 3) = ((bst z a (ys.map Subtype.val) (0, 3)).1, (((bst z a (ys.map Subtype.val) (0, 3)).2 : Nat) : Int)) :=
      fld_bst (ys.map Subtype.val) (0, 3) (by rw [← hrest, List.map_append] at hLs; exact (List.pairwise_append.1 hLs).1) fun p hp => by
        rw [List.mem_map] at hp
        obtain ⟨q, _, rfl⟩ := hp
        have := q.2
        exact ⟨this, by show 0 < a - _; omega⟩
    obtain ⟨⟨⟨⟨⟨⟨b0, b1⟩, b2⟩, b3⟩, b4⟩, b5⟩, _⟩ := hI
    rw [hfl] at b2 b3 hfull
    have hall : bst z a (Ls.map Subtype.val) (0, 3) = bst z a (ys.map Subtype.val) (0, 3) := by
      rw [← hrest, List.map_append, bst_append]
      refine bst_full ?_ _
      unfold lim at hfull
      dsimp only at hfull
      split at hfull <;> omega
    have ht : ys.length ≤ (Ls.map Subtype.val).length := by rw [← hrest]; simp
    have ht2 : ys.length ≤ 100000 := by rw [List.length_map] at ht; omega
    generalize ys.length = t at b4 ht ht2
    obtain ⟨⟨u, v⟩, hR⟩ : ∃ s, bst z a (ys.map Subtype.val) (0, 3) = s := ⟨_, rfl⟩
    rw [hR] at b2 b3 hall
    have HR := Lib.hid hall
    have HT := Lib.hid ht
    clear hfl hR ht b0 b1 b5 hlen hLs hfull hall hrest hne
    refine wpIn_wide.2 ?_
    have hDl : D < W.heap.size := (Array.getElem?_eq_some_iff.1 hK).1
    have c2 := b2.cell
    have c3 := b3.cell
    have c4 := b4.cell
    have f2 := b2.frozen
    have f3 := b3.frozen
    have f4 := b4.frozen
    by_cases h0 : u = 0
    · subst h0
      dsimp only
      go_wp2
      clear hseq HZ HBY eg
      go_region
      go_wp2
      have e2 := ((b2.set (.int .i64 0)).other (B' := w.heap.size + 1 + 1 + 1) (by omega) (.int .i64 0)).other (B' := w.heap.size + 1 + 1 + 1 + 1) (by omega) (.int .i64 (t : Int))
      have e3 := ((b3.other (B' := w.heap.size + 1 + 1) (by omega) (.int .i64 0)).set (.int .i64 0)).other (B' := w.heap.size + 1 + 1 + 1 + 1) (by omega) (.int .i64 (t : Int))
      have e4 := ((b4.other (B' := w.heap.size + 1 + 1) (by omega) (.int .i64 0)).other (B' := w.heap.size + 1 + 1 + 1) (by omega) (.int .i64 0)).set (.int .i64 (t : Int))
      have hBe := ((hB.setCell (p := ⟨w.heap.size + 1 + 1, 0, none⟩) (by show w.heap.size ≤ w.heap.size + 1 + 1; omega) (.int .i64 0)).setCell (p := ⟨w.heap.size + 1 + 1 + 1, 0, none⟩) (by show w.heap.size ≤ w.heap.size + 1 + 1 + 1; omega) (.int .i64 0)).setCell (p := ⟨w.heap.size + 1 + 1 + 1 + 1, 0, none⟩) (by show w.heap.size ≤ w.heap.size + 1 + 1 + 1 + 1; omega) (.int .i64 (t : Int))
      have hKe : (((W.setCell ⟨w.heap.size + 1 + 1, 0, none⟩ (.int .i64 0)).setCell ⟨w.heap.size + 1 + 1 + 1, 0, none⟩ (.int .i64 0)).setCell ⟨w.heap.size + 1 + 1 + 1 + 1, 0, none⟩ (.int .i64 (t : Int))).heap[D]? = some (.deferred (some [])) :=
        (Below.heap_setCell _ _ _ D (by show D ≠ w.heap.size + 1 + 1 + 1 + 1; omega)).trans ((Below.heap_setCell _ _ _ D (by show D ≠ w.heap.size + 1 + 1 + 1; omega)).trans ((Below.heap_setCell _ _ _ D (by show D ≠ w.heap.size + 1 + 1; omega)).trans hK))
      generalize ((W.setCell ⟨w.heap.size + 1 + 1, 0, none⟩ (.int .i64 0)).setCell ⟨w.heap.size + 1 + 1 + 1, 0, none⟩ (.int .i64 0)).setCell ⟨w.heap.size + 1 + 1 + 1 + 1, 0, none⟩ (.int .i64 (t : Int)) = We at *
      refine ⟨by simp, .inl ⟨_, _, rfl, run_takeDeferred hKe, ?_⟩⟩
      have k2 := cell_kept (W := We.drew) (W' := We.drew.putObj D (.deferred none)) e2.cell (grownBy_putObj' _ D (.deferred none)) (fun r e => by cases e; exact ⟨_, hKe, rfl⟩)
      have k3 := cell_kept (W := We.drew) (W' := We.drew.putObj D (.deferred none)) e3.cell (grownBy_putObj' _ D (.deferred none)) (fun r e => by cases e; exact ⟨_, hKe, rfl⟩)
      have k4 := cell_kept (W := We.drew) (W' := We.drew.putObj D (.deferred none)) e4.cell (grownBy_putObj' _ D (.deferred none)) (fun r e => by cases e; exact ⟨_, hKe, rfl⟩)
      have hBD : Below w.heap.size w (We.drew.putObj D (.deferred none)) := (hBe.trans (Below.mono (below_one' We) hBe.size)).trans (belowK_b (w := w) (Nat.le_refl _) We.drew D _ _ (by omega) hKe rfl rfl)
      refine ⟨_, results_int3 rfl _ _ _ _ _ _ _ _ rfl rfl rfl k2 k3 k4, t, HT.out, ?_, hBD⟩
      rw [HR.out]
      rfl
    · dsimp only
      go_wp2
      clear hseq HZ HBY eg
      go_region
      go_wp2
      have e2 := ((b2.set (.int .i64 u)).other (B' := w.heap.size + 1 + 1 + 1) (by omega) (.int .i64 (v : Int))).other (B' := w.heap.size + 1 + 1 + 1 + 1) (by omega) (.int .i64 (t : Int))
      have e3 := ((b3.other (B' := w.heap.size + 1 + 1) (by omega) (.int .i64 u)).set (.int .i64 (v : Int))).other (B' := w.heap.size + 1 + 1 + 1 + 1) (by omega) (.int .i64 (t : Int))
      have e4 := ((b4.other (B' := w.heap.size + 1 + 1) (by omega) (.int .i64 u)).other (B' := w.heap.size + 1 + 1 + 1) (by omega) (.int .i64 (v : Int))).set (.int .i64 (t : Int))
      have hBe := ((hB.setCell (p := ⟨w.heap.size + 1 + 1, 0, none⟩) (by show w.heap.size ≤ w.heap.size + 1 + 1; omega) (.int .i64 u)).setCell (p := ⟨w.heap.size + 1 + 1 + 1, 0, none⟩) (by show w.heap.size ≤ w.heap.size + 1 + 1 + 1; omega) (.int .i64 (v : Int))).setCell (p := ⟨w.heap.size + 1 + 1 + 1 + 1, 0, none⟩) (by show w.heap.size ≤ w.heap.size + 1 + 1 + 1 + 1; omega) (.int .i64 (t : Int))
      have hKe : (((W.setCell ⟨w.heap.size + 1 + 1, 0, none⟩ (.int .i64 u)).setCell ⟨w.heap.size + 1 + 1 + 1, 0, none⟩ (.int .i64 (v : Int))).setCell ⟨w.heap.size + 1 + 1 + 1 + 1, 0, none⟩ (.int .i64 (t : Int))).heap[D]? = some (.deferred (some [])) :=
        (Below.heap_setCell _ _ _ D (by show D ≠ w.heap.size + 1 + 1 + 1 + 1; omega)).trans ((Below.heap_setCell _ _ _ D (by show D ≠ w.heap.size + 1 + 1 + 1; omega)).trans ((Below.heap_setCell _ _ _ D (by show D ≠ w.heap.size + 1 + 1; omega)).trans hK))
      generalize ((W.setCell ⟨w.heap.size + 1 + 1, 0, none⟩ (.int .i64 u)).setCell ⟨w.heap.size + 1 + 1 + 1, 0, none⟩ (.int .i64 (v : Int))).setCell ⟨w.heap.size + 1 + 1 + 1 + 1, 0, none⟩ (.int .i64 (t : Int)) = We at *
      refine ⟨by simp, .inl ⟨_, _, rfl, run_takeDeferred hKe, ?_⟩⟩
      have k2 := cell_kept (W := We.drew) (W' := We.drew.putObj D (.deferred none)) e2.cell (grownBy_putObj' _ D (.deferred none)) (fun r e => by cases e; exact ⟨_, hKe, rfl⟩)
      have k3 := cell_kept (W := We.drew) (W' := We.drew.putObj D (.deferred none)) e3.cell (grownBy_putObj' _ D (.deferred none)) (fun r e => by cases e; exact ⟨_, hKe, rfl⟩)
      have k4 := cell_kept (W := We.drew) (W' := We.drew.putObj D (.deferred none)) e4.cell (grownBy_putObj' _ D (.deferred none)) (fun r e => by cases e; exact ⟨_, hKe, rfl⟩)
      have hBD : Below w.heap.size w (We.drew.putObj D (.deferred none)) := (hBe.trans (Below.mono (below_one' We) hBe.size)).trans (belowK_b (w := w) (Nat.le_refl _) We.drew D _ _ (by omega) hKe rfl rfl)
      refine ⟨_, results_int3 rfl _ _ _ _ _ _ _ _ rfl rfl rfl k2 k3 k4, t, HT.out, ?_, hBD⟩
      rw [HR.out]
      rw [if_neg h0]
end Go.Proofs.Ytgiemddiiognlaa.Cur
