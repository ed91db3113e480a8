/- K13: ExpA ExpB ExpC ExpD ExpE ExpF ExpG ExpH ExpI ExpJ ExpK ExpL ExpM ExpN ExpO -/
import Derived.Test.YtmflnnfgkcmlhaaK12
import Derived.Deep.LoopGhost
import Derived.Test.YtmflnnfgkcmlhaaK4
import Derived.Test.YtmflnnfgkcmlhaaK1
import Derived.Deep.QuietTactic
import Derived.BigQuiet
/- Tokens expanded, as values: what keeps a token from being expanded (check); a copy's elements, one by one (again). -/
/- A copy's bytes, one by one (again); tokens expanded (build), for bytes. -/
/- Tokens expanded (build), for bytes; Tokens. -/
/- Tokens expanded, by the program and by the document: Tokens, With, Tokens. -/
/- Tokens expanded, by the document. -/
/- Tokens expanded: how many elements; live. -/
/- One written token expanded: as a value; by the program (extend). -/
/- One written token expanded, by the program (extend). -/
/- Written tokens expanded, by the program: the step of Bytes (its closure). -/
/- Written tokens expanded, by the program: all of them (visitWritten with the step of Bytes). -/
/- Written tokens expanded, by the program: Bytes. -/
/- How many bytes written tokens make, by the program: the step of Length. -/
/- How many bytes written tokens make, by the program: all of them (visitWritten with the step of Length); Length. -/
/- Written tokens expanded, by the document: head, Bytes. -/
/- How many bytes written tokens make, by the document. -/
namespace Go.Proofs.Ytmflnnfgkcmlhaa.Cur
open Go.RowKit Mem
set_option linter.unusedVariables false

/-- What keeps a token from being expanded behind so many bytes: its code. -/
def chk (n : Nat) (o l before bound : Int) : Int := if trun n o l || tcpy n o l then (if bound < before + tsz n o l then 11 else if before < o then 10 else 0) else 3

set_option maxHeartbeats 1000000 in
theorem check_any (A : Option Addr) (n m : Nat) (o l before bound : Int) (w : World) (h0 : 0 ≤ before) (h1 : before ≤ 1000000000000) (ho : -9223372036854775808 ≤ o ∧ o ≤ 9223372036854775807) :
    Calls Try.prog 100 #[tv A n m o l, .int .i64 before, .int .i64 bound] w (BPost (.int .i64 (chk n o l before bound)) w) := by
  unfold BPost
  obtain ⟨hX, hB⟩ := tbox w (.slice A n m) (.int .i64 o) (.int .i64 l) 33
  obtain ⟨c0, c1, c2⟩ := hX.c3
  clear hX
  have hsz := tsz_bd n o l
  obtain ⟨s, hs⟩ : ∃ s, s = tsz n o l := ⟨_, rfl⟩
  rw [← hs] at hsz
  have e1 : IntKind.i64.wrap (before + s) = before + s := IntWalk.i64_in _ (by omega)
  cases hr : (trun n o l || tcpy n o l)
  · have E : Hid (chk n o l before bound = 3) := Lib.hid (by unfold chk; rw [hr]; rfl)
    have HR := Lib.hid hr
    clear hr hs
    go_enter Try.func100, Try.ntmps100
    go_wp2_with fail
    refine (tright_any _ _ _ _ _ _).mono ?_
    rintro e w1 ⟨rfl, hb1⟩
    rw [HR.out]
    replace hB := hB.trans (hb1.mono hB.size)
    go_wp2
    go_ret
    exact ⟨by rw [E.out]; rfl, hB⟩
  · have HR := Lib.hid hr
    have HS := Lib.hid hs
    by_cases hb : bound < before + s
    · have E : Hid (chk n o l before bound = 11) := Lib.hid (by unfold chk; rw [hr, if_pos rfl, ← hs, if_pos hb])
      clear hr hs
      go_enter Try.func100, Try.ntmps100
      go_wp2_with fail
      refine (tright_any _ _ _ _ _ _).mono ?_
      rintro e w1 ⟨rfl, hb1⟩
      rw [HR.out]
      have hB1 := hB.trans (hb1.mono hB.size)
      obtain ⟨c0, c1, c2⟩ := (tbox w (.slice A n m) (.int .i64 o) (.int .i64 l) 33).1.below hb1 |>.c3
      go_wp2_with fail
      refine (tlen_any _ _ _ _ _ _).mono ?_
      rintro e w2 ⟨rfl, hb2⟩
      rw [← HS.out]
      replace hB1 := hB1.trans (hb2.mono hB1.size)
      go_wp2
      go_ret
      exact ⟨by rw [E.out]; rfl, hB1⟩
    · by_cases hc : before < o
      · have E : Hid (chk n o l before bound = 10) := Lib.hid (by unfold chk; rw [hr, if_pos rfl, ← hs, if_neg hb, if_pos hc])
        clear hr hs
        go_enter Try.func100, Try.ntmps100
        go_wp2_with fail
        refine (tright_any _ _ _ _ _ _).mono ?_
        rintro e w1 ⟨rfl, hb1⟩
        rw [HR.out]
        have hB1 := hB.trans (hb1.mono hB.size)
        have hX1 := (tbox w (.slice A n m) (.int .i64 o) (.int .i64 l) 33).1.below hb1
        obtain ⟨c0, c1, c2⟩ := hX1.c3
        go_wp2_with fail
        refine (tlen_any _ _ _ _ _ _).mono ?_
        rintro e w2 ⟨rfl, hb2⟩
        rw [← HS.out]
        replace hB1 := hB1.trans (hb2.mono hB1.size)
        obtain ⟨c0, c1, c2⟩ := (hX1.below hb2).c3
        go_wp2
        go_ret
        exact ⟨by rw [E.out]; rfl, hB1⟩
      · have E : Hid (chk n o l before bound = 0) := Lib.hid (by unfold chk; rw [hr, if_pos rfl, ← hs, if_neg hb, if_neg hc])
        clear hr hs
        go_enter Try.func100, Try.ntmps100
        go_wp2_with fail
        refine (tright_any _ _ _ _ _ _).mono ?_
        rintro e w1 ⟨rfl, hb1⟩
        rw [HR.out]
        have hB1 := hB.trans (hb1.mono hB.size)
        have hX1 := (tbox w (.slice A n m) (.int .i64 o) (.int .i64 l) 33).1.below hb1
        obtain ⟨c0, c1, c2⟩ := hX1.c3
        go_wp2_with fail
        refine (tlen_any _ _ _ _ _ _).mono ?_
        rintro e w2 ⟨rfl, hb2⟩
        rw [← HS.out]
        replace hB1 := hB1.trans (hb2.mono hB1.size)
        obtain ⟨c0, c1, c2⟩ := (hX1.below hb2).c3
        go_wp2
        go_ret
        exact ⟨by rw [E.out]; rfl, hB1⟩
/-- A copy's elements, one by one: each is what f makes of the one that lies o ahead of it. -/
def agn {α : Type} (d : α) (f : α → α) (z : List α) (o : Int) : Nat → List α
  | 0 => z
  | k + 1 => agn d f z o k ++ [f ((agn d f z o k).getD ((z.length + k : Nat) - o).toNat d)]
theorem agn_length {α : Type} (d : α) (f : α → α) (z : List α) (o : Int) (k : Nat) : (agn d f z o k).length = z.length + k := by
  induction k with
  | zero => rfl
  | succ k ih => rw [agn, List.length_append, ih]; rfl
end Go.Proofs.Ytmflnnfgkcmlhaa.Cur

namespace Go.Proofs.Ytmflnnfgkcmlhaa.Cur
open Go.RowKit Mem
set_option linter.unusedVariables false

theorem same_byte (x : Int) (w : World) : Calls Try.prog 69 #[.int .u8 x] w fun e w' => e = .returned (.int .u8 x) ∧ w = w' := by
  go_enter Try.func69, Try.ntmps69
  go_wp2
  go_ret
  exact ⟨rfl, rfl⟩

def AgPost (B : Nat) (z : List Int) (w : World) (e : Ending) (w' : World) : Prop := ∃ v', e = .returned v' ∧ Own w' B v' z ∧ Below B w w'

set_option maxRecDepth 100000 in
set_option maxHeartbeats 2000000 in
theorem again_byte (B : Nat) (v : Value) (z : List Int) (o : Int) (l : Nat) (w : World) (hv : Own w B v z) (hB : B ≤ w.heap.size) (hl : z.length + l ≤ 900000) (ho : 0 < l → 1 ≤ o ∧ o ≤ z.length) :
    Calls Try.prog 99 #[v, .int .i64 o, .int .i64 l, .func (.func 69) #[] #[]] w (AgPost B (agn 0 id z o l) w) := by
  go_enter Try.func99, Try.ntmps99
  go_wp2
  go_loopw [0, 10] (fun u i wr => ∃ k : Nat, k ≤ l ∧ i = .int .i64 k ∧ Own wr B u (agn 0 id z o k) ∧ Below B w wr) (fun _ i _ => l - (intOf i).toNat)
  case atStart => exact ⟨0, by omega, rfl, hv, Below.refl _ _⟩
  case round =>
    obtain ⟨k, hk, rfl, hu, hb⟩ := hrel
    by_cases hlt : k < l
    · obtain ⟨A, c, rfl, hbs, hnil, hle⟩ := hu.parts
      have hlen : (agn 0 id z o k).length = z.length + k := agn_length _ _ _ _ _
      obtain ⟨o1, o2⟩ := ho (by omega)
      obtain ⟨j, hj⟩ : ∃ j : Nat, ((z.length + k : Nat) : Int) - o = j := ⟨((z.length + k : Nat) - o).toNat, by omega⟩
      have hjl : j < (agn 0 id z o k).length := by omega
      obtain ⟨g, oo, rfl, hc⟩ := hbs.at_ hjl
      have HN : Hid (agn 0 id z o (k + 1) = agn 0 id z o k ++ [(agn 0 id z o k).getD j 0]) := Lib.hid (by rw [agn, hj, Int.toNat_natCast]; rfl)
      have e1 : IntKind.i64.wrap (((agn 0 id z o k).length : Int) - o) = j := by rw [hlen, hj]; exact IntWalk.i64_in _ (by omega)
      have hyl : (agn 0 id z o k).length ≤ 900000 := by omega
      have HLEN : Hid ((agn 0 id z o k).length + 1 ≤ 1000000) := Lib.hid (by omega)
      clear hlen hj
      generalize agn 0 id z o k = y at *
      generalize y.getD j 0 = x at *
      go_wp2_with fail
      refine (same_byte _ _).mono ?_
      rintro e w1 ⟨rfl, rfl⟩
      have hbA := below_one wr (.cells #[.int .u8 x] 5)
      have hoA := hu.below hbA
      have hbdA := hb.alloc (Nat.le_trans hB hb.size) (.cells #[.int .u8 x] 5)
      have hsA : Bs (wr.alloc (.cells #[.int .u8 x] 5)) (some ⟨wr.heap.size, 0, none⟩) 1 [x] := bs_new wr [x] 5
      have hB9 : B ≤ (wr.alloc (.cells #[.int .u8 x] 5)).heap.size := by have := hb.size; simp; omega
      have hgeA := own_ge hoA
      clear hu hb hc hbs hbA
      go_wp2_with (at_builtin; go_must (refine list_append_bs rfl (.tmp 12) (.tmp 22) rfl B _ y rfl hoA _ 1 _ [x] rfl hsA (by simp) HLEN.out hB9 ?_; intro v' w10 ho' hg'; have hbd10 := hbdA.grown hg' (by have := hB9; omega) (fun k hk => hgeA k hk); clear hoA hbdA hgeA hg' hsA))
      go_roundw
      case rel => exact ⟨k + 1, hlt, by go_num, by rw [HN.out]; exact ho', hbd10⟩
      case measure => simp [intOf]; omega
    · obtain rfl : k = l := by omega
      go_wp2
      go_ret
      exact ⟨_, rfl, hu, hb⟩
end Go.Proofs.Ytmflnnfgkcmlhaa.Cur

namespace Go.Proofs.Ytmflnnfgkcmlhaa.Cur
open Go.RowKit Mem
set_option linter.unusedVariables false

/-- What the first k tokens make, or the code and place of the first that is wrong. -/
def xp {α : Type} (own : Nat → List α) (d : α) (f : α → α) (T : List Tk) (bound : Int) : Nat → List α × Int × Int
  | 0 => ([], 0, 0)
  | k + 1 => if (xp own d f T bound k).2.1 ≠ 0 then xp own d f T bound k else
      if chk (T.getD k tk0).1.length (T.getD k tk0).2.1 (T.getD k tk0).2.2 ((xp own d f T bound k).1.length) bound ≠ 0 then
        ([], chk (T.getD k tk0).1.length (T.getD k tk0).2.1 (T.getD k tk0).2.2 ((xp own d f T bound k).1.length) bound, k)
      else (agn d f ((xp own d f T bound k).1 ++ own k) (T.getD k tk0).2.1 (T.getD k tk0).2.2.toNat, 0, 0)
section
variable {α : Type} {own : Nat → List α} {d : α} {f : α → α} {T : List Tk} {bound : Int}
theorem xp_stays {k j : Nat} (h : (xp own d f T bound k).2.1 ≠ 0) (hj : k ≤ j) : xp own d f T bound j = xp own d f T bound k := by
  induction j with
  | zero => obtain rfl : k = 0 := by omega
            rfl
  | succ j ih =>
    by_cases hk : k = j + 1
    · rw [hk]
    · have := ih (by omega)
      rw [xp, this, if_pos h]
theorem xp_bad {k n : Nat} {y : List α} (e : xp own d f T bound k = (y, 0, 0)) (hk : k < n) (hc : chk (T.getD k tk0).1.length (T.getD k tk0).2.1 (T.getD k tk0).2.2 y.length bound ≠ 0) :
    xp own d f T bound n = ([], chk (T.getD k tk0).1.length (T.getD k tk0).2.1 (T.getD k tk0).2.2 y.length bound, (k : Int)) := by
  have h : xp own d f T bound (k + 1) = ([], chk (T.getD k tk0).1.length (T.getD k tk0).2.1 (T.getD k tk0).2.2 y.length bound, (k : Int)) := by
    rw [xp, e]
    simp only
    rw [if_neg (by simp), if_pos hc]
  rw [xp_stays (k := k + 1) (by rw [h]; exact hc) (by omega), h]
theorem xp_more {k : Nat} {y : List α} (e : xp own d f T bound k = (y, 0, 0)) (hc : chk (T.getD k tk0).1.length (T.getD k tk0).2.1 (T.getD k tk0).2.2 y.length bound = 0) :
    xp own d f T bound (k + 1) = (agn d f (y ++ own k) (T.getD k tk0).2.1 (T.getD k tk0).2.2.toNat, 0, 0) := by
  rw [xp, e]
  simp only
  rw [if_neg (by simp), if_neg (by rw [hc]; simp)]
end
theorem chk_ok {n : Nat} {o l before bound : Int} (h : chk n o l before bound = 0) : (trun n o l = true ∨ tcpy n o l = true) ∧ before + tsz n o l ≤ bound ∧ o ≤ before := by
  unfold chk at h
  split at h
  · rename_i h1
    rw [Bool.or_eq_true] at h1
    split at h
    · exact absurd h (by decide)
    · split at h
      · exact absurd h (by decide)
      · exact ⟨h1, by omega, by omega⟩
  · exact absurd h (by decide)
theorem chk_run {n : Nat} {o l before bound : Int} (h : chk n o l before bound = 0) : 0 ≤ l ∧ l ≤ 1048576 ∧ before + (n + l) ≤ bound ∧ (0 < l → 1 ≤ o ∧ o ≤ before) ∧ tsz n o l = n + l := by
  obtain ⟨h1, h2, h3⟩ := chk_ok h
  rcases h1 with h1 | h1
  · have e := tsz_run h1
    unfold trun at h1
    rw [decide_eq_true_eq] at h1
    exact ⟨by omega, by omega, by omega, fun h => by omega, by omega⟩
  · have e := tsz_cpy h1
    unfold tcpy at h1
    rw [decide_eq_true_eq] at h1
    exact ⟨by omega, by omega, by omega, fun h => by omega, by omega⟩

theorem own_byte (i : Nat) (bx b o Lr Cr m n : Nat) (Ar : Option Addr) (t : Tk) (w : World) (hx : w.cell? ⟨bx, 0, none⟩ = some (.slice (some ⟨b, o, none⟩) n m)) (hi : i < n) (h : TkC w b (o + i * 3) Ar Lr Cr t) :
    Calls Try.prog 68 #[.int .i64 i, .pointer (some ⟨bx, 0, none⟩)] w fun e w' => e = .returned (.slice Ar Lr Cr) ∧ w = w' := by
  obtain ⟨c0, c1, c2, _⟩ := h
  go_enter Try.func68, Try.ntmps68
  go_wp2
  go_ret
  exact ⟨rfl, rfl⟩

def XpPost (g : List Int × Int × Int) (w : World) (e : Ending) (w' : World) : Prop :=
  ∃ v, e = .returned (.tuple #[v, .agg #[.int .i64 g.2.1, .int .i64 g.2.2]]) ∧ Own w' w.heap.size v g.1 ∧ Below w.heap.size w w'

theorem blk_belowB {w w' : World} {B b : Nat} {cs : Array Value} {t : Nat} (h : Blk w b cs t) (hb : Below B w w') (hB : b < B) : Blk w' b cs t := (hb.block b hB).trans h
/-- What holds whenever the run comes to the label. -/
def BJ (A : Option Addr) (n m bx : Nat) (T : List Tk) (bound : Int) (w : World) (a' : Act) (wr : World) : Prop :=
  ∃ (k : Nat) (y : List Int) (v u12 u13 u14 u15 u16 u17 u18 u19 u20 u21 u22 u23 u24 u25 u26 u27 u28 u29 u30 u31 u32 u33 u34 u35 u36 u37 u38 u39 u40 u41 u42 u43 u44 u45 u46 u47 : Value), a' = { tmps := #[.slice A n m, .int .i64 bound, .func (.func 68) #[] #[.pointer (some ⟨bx, 0, none⟩)], .func (.func 69) #[] #[], undef, undef, undef, undef, .slice none 0 0, .pointer (some ⟨w.heap.size, 0, none⟩), v, .int .i64 k, u12, u13, u14, u15, u16, u17, u18, u19, u20, u21, u22, u23, u24, u25, u26, u27, u28, u29, u30, u31, u32, u33, u34, u35, u36, u37, u38, u39, u40, u41, u42, u43, u44, u45, u46, u47], defers := [] } ∧
    k ≤ n ∧ Own wr (w.heap.size + 1) v y ∧ Blk wr w.heap.size #[.int .i64 0, .int .i64 0] 40 ∧ Below w.heap.size w wr ∧ Hid (xp (fun k => (T.getD k tk0).1) 0 id T bound k = (y, 0, 0)) ∧ Hid (y.length ≤ 800000)

set_option maxRecDepth 100000 in
set_option maxHeartbeats 4000000 in
theorem build_byte (A : Option Addr) (n m bx : Nat) (T : List Tk) (bound : Int) (w : World) (hT : TksL w A n T) (hx : Blk w bx #[.slice A n m] 24) (hok : ∀ t ∈ T, tkok t) (hn : n ≤ 100000) (hb : bound ≤ 800000) :
    Calls Try.prog 67 #[.slice A n m, .int .i64 bound, .func (.func 68) #[] #[.pointer (some ⟨bx, 0, none⟩)], .func (.func 69) #[] #[]] w (XpPost (xp (fun k => (T.getD k tk0).1) 0 id T bound n) w) := by
  have HT := Lib.hid hT
  have HX := Lib.hid hx
  have HOK := Lib.hid hok
  have hF := Blk.new w #[.int .i64 0, .int .i64 0] 40
  have hbF := below_one w (.cells #[.int .i64 0, .int .i64 0] 40)
  clear hT hx hok
  go_enter Try.func67, Try.ntmps67
  go_wp2
  refine jumps_skip 0 (BJ A n m bx T bound w) (fun a' _ => n - (intOf (a'.tmps.getD 11 undef)).toNat) rfl ?_ ?_
  · intro key
    have KEY := Lib.hid key
    clear key
    go_wp2_with fail
    go_step3
    rename_i Kq hKq
    have hJ : BJ A n m bx T bound w { tmps := #[.slice A n m, .int .i64 bound, .func (.func 68) #[] #[.pointer (some ⟨bx, 0, none⟩)], .func (.func 69) #[] #[], undef, undef, undef, undef, .slice none 0 0, .pointer (some ⟨w.heap.size, 0, none⟩), .slice none 0 0, .int .i64 0, undef, undef, undef, undef, undef, undef, undef, undef, undef, undef, undef, undef, undef, undef, undef, undef, undef, undef, undef, undef, undef, undef, undef, undef, undef, undef, undef, undef, undef, undef, undef, undef, undef, undef, undef, undef], defers := [] } (w.alloc (.cells #[.int .i64 0, .int .i64 0] 40)) :=
      ⟨0, [], _, _, _, _, _, _, _, _, _, _, _, _, _, _, _, _, _, _, _, _, _, _, _, _, _, _, _, _, _, _, _, _, _, _, _, _, _, rfl, by omega, Own.nil _ _, hF, hbF, Lib.hid rfl, Lib.hid (by simp)⟩
    exact hKq _ _ (KEY.out _ _ hJ)
  · clear hF hbF
    rintro a' wr ⟨k, y, v, u12, u13, u14, u15, u16, u17, u18, u19, u20, u21, u22, u23, u24, u25, u26, u27, u28, u29, u30, u31, u32, u33, u34, u35, u36, u37, u38, u39, u40, u41, u42, u43, u44, u45, u46, u47, rfl, hk, hu, hF, hbd, HY, HYB⟩
    obtain ⟨Av, cv, rfl, _⟩ := hu.parts
    by_cases hlt : k < n
    · obtain ⟨b, o, Ar, Lr, Cr, rfl, hC, hnil, hle⟩ := (HT.out.below hbd).2 k hlt
      have hkb : ((k : Int) == (n : Int)) = false := by simp; omega
      have hokt := tkok_getD HOK.out k
      have hlen := hC.2.2.2.1
      have hy8 : y.length ≤ 800000 := HYB.out
      have HXP := Lib.hid (fun hc => xp_bad (own := fun k => (T.getD k tk0).1) (d := 0) (f := id) (n := n) HY.out hlt hc)
      have HXM := Lib.hid (fun hc => xp_more (own := fun k => (T.getD k tk0).1) (d := 0) (f := id) HY.out hc)
      generalize T.getD k tk0 = t at *
      rw [hlen] at HXP HXM
      obtain ⟨hokb, hoko, _⟩ := hokt
      have hX := Blk.new wr #[.slice Ar Lr Cr, .int .i64 t.2.1, .int .i64 t.2.2] 33
      have hbX := below_one wr (.cells #[.slice Ar Lr Cr, .int .i64 t.2.1, .int .i64 t.2.2] 33)
      obtain ⟨x0, x1, x2⟩ := hX.c3
      have hC2 := hC.below hbX (Nat.le_refl _)
      have huX := hu.below hbX
      have hFX := hF.below hbX
      have hbdX := hbd.trans (hbX.mono hbd.size)
      obtain ⟨c0, c1, c2, _⟩ := hC
      clear hu hF hbX
      go_wp2_with fail
      refine (check_any _ _ _ _ _ _ _ _ (by omega) (by omega) hoko).mono ?_
      rintro e w1 ⟨rfl, hb1⟩
      obtain ⟨cc, hcc⟩ : ∃ cc, cc = chk Lr t.2.1 t.2.2 y.length bound := ⟨_, rfl⟩
      rw [← hcc] at HXP HXM ⊢
      replace huX := huX.below hb1
      replace hFX := hFX.below hb1
      replace hC2 := hC2.below hb1 (Nat.le_refl _)
      have hX1 := hX.below hb1
      replace hbdX := hbdX.trans (hb1.mono hbdX.size)
      clear hb1 x0 x1 x2 c0 c1 c2 hX
      by_cases hc : cc = 0
      · obtain ⟨l0, l1, l2, l3, _⟩ := chk_run (hcc.symm.trans hc)
        have HXN := Lib.hid (HXM.out hc)
        have hcb : (cc != 0) = false := by simpa using hc
        obtain ⟨ln, hln⟩ := Int.eq_ofNat_of_zero_le l0
        have HX2 := (HX.out.below hbdX).c1
        clear hc hcc HXP HXM
        go_wp2_with fail
        refine (own_byte k bx b o Lr Cr m n Ar t _ HX2 hlt hC2).mono ?_
        rintro e w2 ⟨rfl, rfl⟩
        obtain ⟨_, _, _, hlit⟩ := hC2
        have hgeA := own_ge huX
        have HLEN : Hid (y.length + Lr ≤ 1000000) := Lib.hid (by omega)
        have hB9 : w.heap.size + 1 ≤ w1.heap.size := hFX.lt
        have hXK := hX1
        go_wp2_with (at_builtin; go_must (refine list_append_gr rfl (.tmp 34) (.tmp 37) rfl (w.heap.size + 1) _ y rfl huX _ Lr Cr t.1 rfl hlit hnil HLEN.out hB9 ?_; intro v' w10 ho' hg' hgr; have hF10 := hFX.ks (Ks.of_grown (S := fun k => w.heap.size + 1 ≤ k) hg' hgeA) (by omega); have hbd10 := hbdX.grown hg' (by have := hB9; omega) (fun k hk => by have := hgeA k hk; omega); have hX10 := hX1.ks (Ks.of_grown (S := fun k => (Value.slice Av y.length cv).ownBlock = some k) hg' (fun k e => e)) (own_ne_blk huX hX1 (by decide)); obtain ⟨x0, x1, x2⟩ := hX10.c3; clear huX hFX hbdX hgeA hg' hgr hXK hlit hX1 hX10))
        have hBT : w.heap.size + 1 ≤ w10.heap.size := hF10.lt
        rw [hln] at l3 HXN l2
        refine (again_byte (w.heap.size + 1) v' (y ++ t.1) t.2.1 ln _ ho' hBT (by rw [List.length_append]; omega) (fun h => by rw [List.length_append]; have := l3 (by omega); omega)).mono ?_
        rintro e w12 ⟨v12, rfl, ho12, hb12⟩
        replace hF10 := blk_belowB hF10 hb12 (Nat.lt_succ_self _)
        replace hbd10 := hbd10.trans (hb12.mono (Nat.le_succ _))
        go_wp2_with fail
        go_step3
        refine ⟨rfl, ⟨k + 1, _, _, _, _, _, _, _, _, _, _, _, _, _, _, _, _, _, _, _, _, _, _, _, _, _, _, _, _, _, _, _, _, _, _, _, _, _, _, rfl, hlt, ho12, hF10, hbd10, by rw [Int.toNat_natCast] at HXN; exact HXN, Lib.hid (by rw [agn_length, List.length_append]; omega)⟩, ?_⟩
        simp [intOf]
        omega
      · have HXN := Lib.hid (HXP.out hc)
        have hcb : (cc != 0) = true := by simpa using hc
        have hfq : fq cc k = k := by unfold fq; rw [if_neg hc]
        clear hc hcc HXP HXM huX hX1 hC2
        go_wp2_with fail
        refine (fat_any _ _ _).mono ?_
        rintro e w2 ⟨rfl, hb2⟩
        rw [hfq]
        replace hFX := hFX.below hb2
        replace hbdX := hbdX.trans (hb2.mono hbdX.size)
        obtain ⟨f0, f1⟩ := hFX.c2
        obtain ⟨g0, g1⟩ := hFX.f2
        clear hb2
        go_wp2
        simp only [Exit.jump]
        refine bodyPost_ret (v := .tuple #[.slice none 0 0, .agg #[.int .i64 cc, .int .i64 k]]) (by simp [results, Try.results67, go_sem, f0, f1]) rfl ⟨_, by rw [HXN.out], by rw [HXN.out]; exact Own.nil _ _, ?_⟩
        exact (hbdX.setCell (Nat.le_refl _) _).setCell (Nat.le_refl _) _
    · obtain rfl : k = n := by omega
      obtain ⟨f0, f1⟩ := hF.c2
      obtain ⟨g0, g1⟩ := hF.f2
      go_wp2
      simp only [Exit.jump]
      refine bodyPost_ret (v := .tuple #[.slice Av y.length cv, .agg #[.int .i64 0, .int .i64 0]]) (by simp [results, Try.results67, go_sem, f0, f1]) rfl ⟨_, by rw [HY.out], by rw [HY.out]; exact (Own.far (Own.far hu (by show w.heap.size < _; have := hF.lt; omega) _) (by show w.heap.size < _; have := hF.lt; omega) _).base (fun g hg => by have := Own.ge hu g hg; omega), ?_⟩
      exact (hbd.setCell (Nat.le_refl _) _).setCell (Nat.le_refl _) _
end Go.Proofs.Ytmflnnfgkcmlhaa.Cur

namespace Go.Proofs.Ytmflnnfgkcmlhaa.Cur
open Go.RowKit Mem
set_option linter.unusedVariables false

/-- What tokens make, as bytes. -/
abbrev xpb (T : List Tk) (bound : Int) (k : Nat) : List Int × Int × Int := xp (fun k => (T.getD k tk0).1) 0 id T bound k

set_option maxHeartbeats 1000000 in
theorem etokens_any (A : Option Addr) (n m : Nat) (T : List Tk) (bound : Int) (w : World) (hT : TksL w A n T) (hok : ∀ t ∈ T, tkok t) (hn : n ≤ 100000) (hb : bound ≤ 800000) :
    Calls Try.prog 47 #[.slice A n m, .int .i64 bound] w (XpPost (xpb T bound n) w) := by
  unfold xpb
  have hX := (Blk.new w #[.slice A n m] 24).alloc (.cells #[.int .i64 0, .int .i64 0] 40)
  have hF := Blk.new (w.alloc (.cells #[.slice A n m] 24)) #[.int .i64 0, .int .i64 0] 40
  rw [show (w.alloc (.cells #[.slice A n m] 24)).heap.size = w.heap.size + 1 by simp] at hF
  have hb2 := below_two w (.cells #[.slice A n m] 24) (.cells #[.int .i64 0, .int .i64 0] 40)
  have x0 := hX.c1
  have hT2 := hT.below hb2
  have hbld := build_byte A n m _ T bound _ hT2 hX hok hn hb
  generalize xp (fun k => (T.getD k tk0).1) 0 id T bound n = g at *
  go_enter Try.func47, Try.ntmps47
  go_wp2_with fail
  refine hbld.mono ?_
  rintro e w1 ⟨v, rfl, ho, hb1⟩
  replace hF := hF.below hb1
  have hbd := hb2.trans (hb1.mono hb2.size)
  obtain ⟨f0, f1⟩ := hF.c2
  obtain ⟨g0, g1⟩ := hF.f2
  have hsz : w.heap.size + 2 ≤ ((w.alloc (.cells #[.slice A n m] 24)).alloc (.cells #[.int .i64 0, .int .i64 0] 40)).heap.size := by simp
  replace ho := ho.base (B' := w.heap.size + 2) (fun g hg => by have := Own.ge ho g hg; omega)
  obtain ⟨Av, cv, rfl⟩ := ho.slice
  clear hX hT hT2 hb2 hb1 x0
  go_wp2
  refine bodyPost_ret (v := .tuple #[.slice Av g.1.length cv, .agg #[.int .i64 g.2.1, .int .i64 g.2.2]]) (by simp [results, Try.results47, go_sem, f0, f1]) rfl ⟨_, rfl, ?_, ?_⟩
  · exact (Own.far (p := ⟨w.heap.size + 1, 1, none⟩) (Own.far (p := ⟨w.heap.size + 1, 0, none⟩) ho (by show w.heap.size + 1 < w.heap.size + 2; omega) _) (by show w.heap.size + 1 < w.heap.size + 2; omega) _).base (fun g hg => by have := Own.ge ho g hg; omega)
  · exact (hbd.setCell (by show w.heap.size ≤ w.heap.size + 1; omega) _).setCell (by show w.heap.size ≤ w.heap.size + 1; omega) _

def EWPost (g : List Int) (w : World) (e : Ending) (w' : World) : Prop := ∃ v, e = .returned v ∧ Own w' w.heap.size v g ∧ Below w.heap.size w w'

set_option maxRecDepth 100000 in
set_option maxHeartbeats 2000000 in
theorem rwith_any (A : Option Addr) (n m : Nat) (z : List Int) (Ar : Option Addr) (Lr Cr : Nat) (y : List Int) (o : Int) (l : Nat) (w : World) (hz : Bs w A n z) (hA : A = none → m = 0) (hy : Bs w Ar Lr y) (hAr : Ar = none → Cr = 0)
    (hsz : n + Lr + l ≤ 900000) (ho : 0 < l → 1 ≤ o ∧ o ≤ n ∧ Lr = 0) :
    Calls Try.prog 43 #[.slice A n m, tv Ar Lr Cr o l] w (EWPost (agn 0 id (z ++ y) o l) w) := by
  obtain ⟨hX, hB⟩ := tbox w (.slice Ar Lr Cr) (.int .i64 o) (.int .i64 l) 33
  obtain ⟨c0, c1, c2⟩ := hX.c3
  have hz2 := hz.below hB
  have hy2 := hy.below hB
  have hzl := hz.1
  have hyl := hy.1
  have hlt : w.heap.size + 1 ≤ (w.alloc (.cells #[.slice Ar Lr Cr, .int .i64 o, .int .i64 l] 33)).heap.size := by simp
  have H1 : Hid (([] : List Int).length + n ≤ 1000000) := Lib.hid (by simp; omega)
  have H2 : Hid (([] ++ z : List Int).length + Lr ≤ 1000000) := Lib.hid (by simp; omega)
  have HLY : Hid (y.length = Lr) := Lib.hid hyl
  have HLZ : Hid (z.length = n) := Lib.hid hzl
  clear hz hy hzl hyl
  go_enter Try.func43, Try.ntmps43
  go_wp2_with (at_builtin; go_must (first | (refine list_append_gr rfl (.tmp 7) (.tmp 8) rfl (w.heap.size + 1) _ [] rfl (Own.nil _ _) _ n m z rfl hz2 hA H1.out hlt ?_; intro v' w10 ho' hg' hgr; have hX10 := hX.ks (Ks.of_grown (S := fun k => False) hg' (fun k e => by cases e)) (fun h => h); have hy10 := hy2.below (Below.of_grown_none hg'); have hb10 := hB.grown hg' (by simp) (fun k hk => by cases hk); have hlt10 : w.heap.size + 1 ≤ w10.heap.size := hX10.lt; obtain ⟨d0, d1, d2⟩ := hX10.c3; clear hX hy2 hB hg' hgr hz2 c0 c1 c2) | (refine list_append_gr rfl (.tmp 10) (.tmp 12) rfl (w.heap.size + 1) _ ([] ++ z) rfl ho' _ Lr Cr y rfl hy10 hAr H2.out hlt10 ?_; intro v2 w20 ho2 hg2 hgr2; have hge2 := own_ge ho'; have hX20 := hX10.ks (Ks.of_grown (S := fun k => w.heap.size + 1 ≤ k) hg2 hge2) (by omega); have hb20 := hb10.grown hg2 (by omega) (fun k hk => by have := hge2 k hk; omega); clear hX10 hb10 hg2 hgr2 ho' hge2 hy10 d0 d1 d2)))
  rw [List.nil_append] at ho2
  have HLZY : Hid ((z ++ y).length = n + Lr) := Lib.hid (by rw [List.length_append, HLZ.out, HLY.out])
  go_loopw [5, 6] (fun u i wr => ∃ k : Nat, k ≤ l ∧ i = .int .i64 k ∧ Own wr (w.heap.size + 1) u (agn 0 id (z ++ y) o k) ∧ Blk wr w.heap.size #[.slice Ar Lr Cr, .int .i64 o, .int .i64 l] 33 ∧ Below w.heap.size w wr) (fun _ i _ => l - (intOf i).toNat)
  case atStart => exact ⟨0, by omega, rfl, ho2, hX20, hb20⟩
  case round =>
    clear hX20 hb20 ho2
    obtain ⟨k, hk, rfl, hu, hX, hb⟩ := hrel
    obtain ⟨c0, c1, c2⟩ := hX.c3
    obtain ⟨A1, k1, rfl, hbs, hnil, hle⟩ := hu.parts
    by_cases hkl : k < l
    · have hlen : (agn 0 id (z ++ y) o k).length = n + Lr + k := by rw [agn_length, HLZY.out]
      obtain ⟨o1, o2, o3⟩ := ho (by omega)
      subst o3
      obtain ⟨j, hj⟩ : ∃ j : Nat, (n : Int) + k - o = j := ⟨((n : Int) + k - o).toNat, by omega⟩
      have hjl : j < (agn 0 id (z ++ y) o k).length := by omega
      obtain ⟨g, oo, rfl, hc⟩ := hbs.at_ hjl
      have HN : Hid (agn 0 id (z ++ y) o (k + 1) = agn 0 id (z ++ y) o k ++ [(agn 0 id (z ++ y) o k).getD j 0]) := Lib.hid (by rw [agn, HLZY.out, show (((n + 0 + k : Nat) : Int) - o) = j by omega, Int.toNat_natCast]; rfl)
      have e0 : IntKind.i64.wrap ((n : Int) + k) = n + k := IntWalk.i64_in _ (by omega)
      have e1 : IntKind.i64.wrap ((n : Int) + k - o) = j := by rw [hj]; exact IntWalk.i64_in _ (by omega)
      have hyl : (agn 0 id (z ++ y) o k).length ≤ 900000 := by omega
      have HLEN : Hid ((agn 0 id (z ++ y) o k).length + 1 ≤ 1000000) := Lib.hid (by omega)
      clear hlen hj
      generalize agn 0 id (z ++ y) o k = yy at *
      generalize yy.getD j 0 = x at *
      have hbA := below_one wr (.cells #[.int .u8 x] 5)
      have hoA := hu.below hbA
      have hXA := hX.below hbA
      have hbdA := hb.trans (hbA.mono hb.size)
      have hsA : Bs (wr.alloc (.cells #[.int .u8 x] 5)) (some ⟨wr.heap.size, 0, none⟩) 1 [x] := bs_new wr [x] 5
      have hB9 : w.heap.size + 1 ≤ (wr.alloc (.cells #[.int .u8 x] 5)).heap.size := by have := hX.lt; simp; omega
      have hgeA := own_ge hoA
      clear hu hb hbs hbA hX
      go_wp2_with (at_builtin; go_must (refine list_append_bs rfl (.tmp 20) (.tmp 31) rfl (w.heap.size + 1) _ yy rfl hoA _ 1 _ [x] rfl hsA (by simp) HLEN.out hB9 ?_; intro v' w10 ho' hg'; have hX10 := hXA.ks (Ks.of_grown (S := fun k => w.heap.size + 1 ≤ k) hg' hgeA) (by omega); have hbd10 := hbdA.grown hg' (by have := hB9; omega) (fun k hk => by have := hgeA k hk; omega); clear hoA hbdA hgeA hg' hsA hXA))
      go_roundw
      case rel => exact ⟨k + 1, hkl, by go_num, by rw [HN.out]; exact ho', hX10, hbd10⟩
      case measure => simp [intOf]; omega
    · obtain rfl : k = l := by omega
      go_wp2
      go_ret
      exact ⟨_, rfl, hu.base (fun g hg => by have := Own.ge hu g hg; omega), hb⟩
end Go.Proofs.Ytmflnnfgkcmlhaa.Cur

namespace Go.Proofs.Ytmflnnfgkcmlhaa.Cur
open Go.RowKit Mem
set_option linter.unusedVariables false

theorem chk_cpy {n : Nat} {o l before bound : Int} (h : chk n o l before bound = 0) (hl : 0 < l) : n = 0 := by
  obtain ⟨h1, h2, h3⟩ := chk_ok h
  rcases h1 with h1 | h1
  · unfold trun at h1
    rw [decide_eq_true_eq] at h1
    omega
  · unfold tcpy at h1
    rw [decide_eq_true_eq] at h1
    exact h1.1


set_option maxRecDepth 100000 in
set_option maxHeartbeats 4000000 in
theorem rtokens_any (A : Option Addr) (n m : Nat) (T : List Tk) (bound : Int) (w : World) (hT : TksL w A n T) (hok : ∀ t ∈ T, tkok t) (hn : n ≤ 100000) (hb : bound ≤ 800000) :
    Calls Try.prog 23 #[.slice A n m, .int .i64 bound] w (XpPost (xpb T bound n) w) := by
  have HT := Lib.hid hT
  have HOK := Lib.hid hok
  have hF := Blk.new w #[.int .i64 0, .int .i64 0] 40
  have hbF := below_one w (.cells #[.int .i64 0, .int .i64 0] 40)
  clear hT hok
  go_enter Try.func23, Try.ntmps23
  go_wp2
  go_loopw [6, 7] (fun u i wr => ∃ (k : Nat) (y : List Int), k ≤ n ∧ i = .int .i64 k ∧ Own wr (w.heap.size + 1) u y ∧ Blk wr w.heap.size #[.int .i64 0, .int .i64 0] 40 ∧ Below w.heap.size w wr ∧ Hid (xpb T bound k = (y, 0, 0)) ∧ Hid (y.length ≤ 800000)) (fun _ i _ => n - (intOf i).toNat)
  case atStart => exact ⟨0, [], by omega, rfl, Own.nil _ _, hF, hbF, Lib.hid rfl, Lib.hid (by simp)⟩
  case round =>
    clear hF hbF
    obtain ⟨k, y, hk, rfl, hu, hF, hbd, HY, HYB⟩ := hrel
    obtain ⟨Av, cv, rfl, hbs, hnilv, hlev⟩ := hu.parts
    clear hbs
    by_cases hlt : k < n
    · obtain ⟨b, o, Ar, Lr, Cr, rfl, hC, hnil, hle⟩ := (HT.out.below hbd).2 k hlt
      have hokt := tkok_getD HOK.out k
      have hlen := hC.2.2.2.1
      have hy8 : y.length ≤ 800000 := HYB.out
      have HXP := Lib.hid (fun hc => xp_bad (own := fun k => (T.getD k tk0).1) (d := 0) (f := id) (n := n) HY.out hlt hc)
      have HXM := Lib.hid (fun hc => xp_more (own := fun k => (T.getD k tk0).1) (d := 0) (f := id) HY.out hc)
      generalize T.getD k tk0 = t at *
      rw [hlen] at HXP HXM
      obtain ⟨hokb, hoko, _⟩ := hokt
      have hCc := hC
      obtain ⟨c0, c1, c2, _⟩ := hCc
      go_wp2_with fail
      refine (rtright_any _ _ _ _ _ _).mono ?_
      rintro e w1 ⟨rfl, hb1⟩
      obtain ⟨rt, hrt⟩ : ∃ rt, rt = (trun Lr t.2.1 t.2.2 || tcpy Lr t.2.1 t.2.2) := ⟨_, rfl⟩
      rw [← hrt]
      replace hu := hu.below hb1
      replace hF := hF.below hb1
      replace hC := hC.below hb1 (Nat.le_refl _)
      replace hbd := hbd.trans (hb1.mono hbd.size)
      clear hb1
      cases rt
      · have h0 : chk Lr t.2.1 t.2.2 y.length bound = 3 := by unfold chk; rw [← hrt]; rfl
        rw [h0] at HXP
        have HXN := Lib.hid (HXP.out (by decide))
        have hfq : fq 3 k = k := rfl
        clear h0 HXP HXM hrt c0 c1 c2 hC
        go_wp2_with fail
        refine (rat_any _ _ _).mono ?_
        rintro e w9 ⟨rfl, hb9⟩
        rw [hfq]
        replace hF := hF.below hb9
        replace hbd := hbd.trans (hb9.mono hbd.size)
        obtain ⟨f0, f1⟩ := hF.c2
        obtain ⟨g0, g1⟩ := hF.f2
        clear hb9
        go_wp2
        refine bodyPost_ret (v := .tuple #[.slice none 0 0, .agg #[.int .i64 3, .int .i64 k]]) (by simp [results, Try.results23, go_sem, f0, f1]) rfl ⟨_, by rw [show xpb T bound n = _ from HXN.out], by rw [show xpb T bound n = _ from HXN.out]; exact Own.nil _ _, ?_⟩
        exact (hbd.setCell (Nat.le_refl _) _).setCell (Nat.le_refl _) _
      · obtain ⟨sz, hsz⟩ : ∃ sz, sz = tsz Lr t.2.1 t.2.2 := ⟨_, rfl⟩
        have hbsz := tsz_bd Lr t.2.1 t.2.2
        rw [← hsz] at hbsz
        have HSZ := Lib.hid hsz
        have e1 : IntKind.i64.wrap ((y.length : Int) + sz) = y.length + sz := IntWalk.i64_in _ (by omega)
        have HCK : Hid (chk Lr t.2.1 t.2.2 y.length bound = if bound < y.length + sz then 11 else if (y.length : Int) < t.2.1 then 10 else 0) := Lib.hid (by unfold chk; rw [← hrt, if_pos rfl, ← hsz])
        clear hsz hrt c0 c1 c2
        have hCc := hC
        obtain ⟨c0, c1, c2, _⟩ := hCc
        go_wp2_with fail
        refine (rtlen_any _ _ _ _ _ _).mono ?_
        rintro e w1 ⟨rfl, hb1⟩
        rw [← HSZ.out]
        replace hu := hu.below hb1
        replace hF := hF.below hb1
        replace hC := hC.below hb1 (Nat.le_refl _)
        replace hbd := hbd.trans (hb1.mono hbd.size)
        clear hb1
        clear c0 c1 c2
        by_cases hbo : bound < y.length + sz
        · have h0 := HCK.out
          rw [if_pos hbo] at h0
          rw [h0] at HXP
          have HXN := Lib.hid (HXP.out (by decide))
          have hfq : fq 11 k = k := rfl
          clear h0 HXP HXM HCK hC
          go_wp2_with fail
          refine (rat_any _ _ _).mono ?_
          rintro e w9 ⟨rfl, hb9⟩
          rw [hfq]
          replace hF := hF.below hb9
          replace hbd := hbd.trans (hb9.mono hbd.size)
          obtain ⟨f0, f1⟩ := hF.c2
          obtain ⟨g0, g1⟩ := hF.f2
          clear hb9
          go_wp2
          refine bodyPost_ret (v := .tuple #[.slice none 0 0, .agg #[.int .i64 11, .int .i64 k]]) (by simp [results, Try.results23, go_sem, f0, f1]) rfl ⟨_, by rw [show xpb T bound n = _ from HXN.out], by rw [show xpb T bound n = _ from HXN.out]; exact Own.nil _ _, ?_⟩
          exact (hbd.setCell (Nat.le_refl _) _).setCell (Nat.le_refl _) _
        · have hCc := hC
          obtain ⟨c0, c1, c2, _⟩ := hCc
          by_cases hof : (y.length : Int) < t.2.1
          · have h0 := HCK.out
            rw [if_neg hbo, if_pos hof] at h0
            rw [h0] at HXP
            have HXN := Lib.hid (HXP.out (by decide))
            have hfq : fq 10 k = k := rfl
            clear h0 HXP HXM HCK hC
            go_wp2_with fail
            refine (rat_any _ _ _).mono ?_
            rintro e w9 ⟨rfl, hb9⟩
            rw [hfq]
            replace hF := hF.below hb9
            replace hbd := hbd.trans (hb9.mono hbd.size)
            obtain ⟨f0, f1⟩ := hF.c2
            obtain ⟨g0, g1⟩ := hF.f2
            clear hb9
            go_wp2
            refine bodyPost_ret (v := .tuple #[.slice none 0 0, .agg #[.int .i64 10, .int .i64 k]]) (by simp [results, Try.results23, go_sem, f0, f1]) rfl ⟨_, by rw [show xpb T bound n = _ from HXN.out], by rw [show xpb T bound n = _ from HXN.out]; exact Own.nil _ _, ?_⟩
            exact (hbd.setCell (Nat.le_refl _) _).setCell (Nat.le_refl _) _
          · have h0 := HCK.out
            rw [if_neg hbo, if_neg hof] at h0
            obtain ⟨l0, l1, l2, l3, _⟩ := chk_run h0
            have l4 := chk_cpy h0
            have HXN := Lib.hid (HXM.out h0)
            obtain ⟨ln, hln⟩ := Int.eq_ofNat_of_zero_le l0
            have hln2 : t.2.2.toNat = ln := by rw [hln]; rfl
            rw [hln2] at HXN
            rw [hln] at l1 l2 l3 l4
            have HLN := Lib.hid hln
            have HL3 := Lib.hid l3
            have HL4 := Lib.hid l4
            have HLEN : Hid ((agn 0 id (y ++ t.1) t.2.1 ln).length ≤ 800000) := Lib.hid (by rw [agn_length, List.length_append, hC.2.2.2.1]; omega)
            have HL2 : Hid (y.length + Lr + ln ≤ 900000) := Lib.hid (by omega)
            clear h0 HXP HXM HCK hln hln2 l0 l1 l2 l3 l4
            go_wp2_with fail
            have hw := rwith_any Av y.length cv y Ar Lr Cr t.1 t.2.1 ln _ hu.bs.2 hnilv hC.2.2.2 hnil HL2.out (fun h => by have h1 := HL3.out (by omega); have h2 := HL4.out (by omega); omega)
            rw [← HLN.out] at hw
            refine hw.mono ?_
            rintro e w2 ⟨v2, rfl, ho2, hb2⟩
            have hFl := hF.lt
            replace ho2 := ho2.base (B' := w.heap.size + 1) (fun g hg => by have := Own.ge ho2 g hg; omega)
            replace hF := hF.below hb2
            replace hbd := hbd.trans (hb2.mono hbd.size)
            clear hb2 hC hw hu c0 c1 c2
            go_wp2
            go_roundw
            case rel => exact ⟨k + 1, _, hlt, by go_num, ho2, hF, hbd, HXN, HLEN⟩
            case measure => simp [intOf]; omega
    · obtain rfl : k = n := by omega
      obtain ⟨f0, f1⟩ := hF.c2
      obtain ⟨g0, g1⟩ := hF.f2
      go_wp2
      refine bodyPost_ret (v := .tuple #[.slice Av y.length cv, .agg #[.int .i64 0, .int .i64 0]]) (by simp [results, Try.results23, go_sem, f0, f1]) rfl ⟨_, by rw [HY.out], by rw [HY.out]; exact (Own.far (p := ⟨w.heap.size, 1, none⟩) (Own.far (p := ⟨w.heap.size, 0, none⟩) hu (Nat.lt_succ_self _) _) (Nat.lt_succ_self _) _).base (fun g hg => by have := Own.ge hu g hg; omega), ?_⟩
      exact (hbd.setCell (Nat.le_refl _) _).setCell (Nat.le_refl _) _
end Go.Proofs.Ytmflnnfgkcmlhaa.Cur

namespace Go.Proofs.Ytmflnnfgkcmlhaa.Cur
open Go.RowKit Mem
set_option linter.unusedVariables false

section
variable {α : Type} {own : Nat → List α} {d : α} {f : α → α} {T : List Tk} {bound : Int}
theorem xp_nil {k : Nat} (h : (xp own d f T bound k).2.1 ≠ 0) : (xp own d f T bound k).1 = [] := by
  induction k with
  | zero => exact absurd rfl h
  | succ k ih =>
    rw [xp] at h ⊢
    split
    · rename_i h1; exact ih h1
    · rename_i h1
      rw [if_neg h1] at h
      split
      · rfl
      · rename_i h2; rw [if_neg h2] at h; exact absurd rfl h
theorem xp_shape {k : Nat} (h : (xp own d f T bound k).2.1 = 0) : xp own d f T bound k = ((xp own d f T bound k).1, 0, 0) := by
  cases k with
  | zero => rfl
  | succ k =>
    rw [xp] at h ⊢
    split
    · rename_i h1; rw [if_pos h1] at h; exact absurd h h1
    · rename_i h1
      rw [if_neg h1] at h
      split
      · rename_i h2; rw [if_pos h2] at h; exact absurd h h2
      · rfl
theorem xp_tot (hown : ∀ k, (own k).length = (T.getD k tk0).1.length) {k : Nat} (h : (xp own d f T bound k).2.1 = 0) :
    ((xp own d f T bound k).1.length : Int) = ttot T k ∧ ((xp own d f T bound k).1.length : Int) ≤ max bound 0 := by
  induction k with
  | zero => exact ⟨rfl, by show (0 : Int) ≤ _; omega⟩
  | succ k ih =>
    rw [xp] at h ⊢
    by_cases h1 : (xp own d f T bound k).2.1 ≠ 0
    · rw [if_pos h1] at h; exact absurd h h1
    · rw [if_neg h1] at h ⊢
      by_cases h2 : chk (T.getD k tk0).1.length (T.getD k tk0).2.1 (T.getD k tk0).2.2 ((xp own d f T bound k).1.length) bound ≠ 0
      · rw [if_pos h2] at h; exact absurd h h2
      · rw [if_neg h2]
        obtain ⟨i1, _⟩ := ih (by simpa using h1)
        obtain ⟨l0, l1, l2, l3, l4⟩ := chk_run (n := (T.getD k tk0).1.length) (o := (T.getD k tk0).2.1) (l := (T.getD k tk0).2.2) (by simpa using h2)
        show ((agn _ _ _ _ _).length : Int) = ttot T k + tln _ ∧ ((agn _ _ _ _ _).length : Int) ≤ _
        unfold tln
        rw [agn_length, List.length_append, hown, l4]
        omega
end
theorem t12_bs : xpb [([7, 8], 0, 0), ([], 2, 5)] 9 2 = ([7, 8, 7, 8, 7, 8, 7], 0, 0) := by decide +kernel
theorem t12_at (w : World) (g : Nat) (hg : Bs w (some ⟨g, 0, none⟩) 2 [7, 8]) :
    TksL (w.alloc (.cells #[.slice (some ⟨g, 0, none⟩) 2 2, .int .i64 0, .int .i64 0, .slice none 0 0, .int .i64 2, .int .i64 5] 33)) (some ⟨w.heap.size, 0, none⟩) 2 [([7, 8], 0, 0), ([], 2, 5)] := by
  have hX := Blk.new w #[.slice (some ⟨g, 0, none⟩) 2 2, .int .i64 0, .int .i64 0, .slice none 0 0, .int .i64 2, .int .i64 5] 33
  have hb2 := below_one w (.cells #[.slice (some ⟨g, 0, none⟩) 2 2, .int .i64 0, .int .i64 0, .slice none 0 0, .int .i64 2, .int .i64 5] 33)
  have hbs1 := hg.below hb2
  generalize w.alloc (.cells #[.slice (some ⟨g, 0, none⟩) 2 2, .int .i64 0, .int .i64 0, .slice none 0 0, .int .i64 2, .int .i64 5] 33) = w2 at *
  refine ⟨rfl, fun i hi => ?_⟩
  rcases (show i = 0 ∨ i = 1 by omega) with h | h
  · subst h
    exact ⟨w.heap.size, 0, some ⟨g, 0, none⟩, 2, 2, rfl, ⟨hX.cell 0 rfl, hX.cell 1 rfl, hX.cell 2 rfl, hbs1⟩, fun h => (by cases h), Nat.le_refl _⟩
  · subst h
    exact ⟨w.heap.size, 0, none, 0, 0, rfl, ⟨hX.cell 3 rfl, hX.cell 4 rfl, hX.cell 5 rfl, Bs.none _⟩, fun _ => rfl, Nat.le_refl _⟩
theorem t12_ok : ∀ t ∈ ([([7, 8], 0, 0), ([], 2, 5)] : List Tk), tkok t := by
  intro t ht
  simp only [List.mem_cons, List.not_mem_nil, or_false] at ht
  rcases ht with rfl | rfl
  · refine ⟨fun x hx => ?_, by decide, by decide⟩
    simp only [List.mem_cons, List.not_mem_nil, or_false] at hx
    omega
  · exact ⟨fun x hx => absurd hx (by simp), by decide, by decide⟩

end Go.Proofs.Ytmflnnfgkcmlhaa.Cur

namespace Go.Proofs.Ytmflnnfgkcmlhaa.Cur
open Go.RowKit Mem
set_option linter.unusedVariables false

/-- The token at p expanded behind y. -/
def ex (z : List Int) (bound : Int) (y : List Int) (p : Int) : Rs (List Int) :=
  (hd z p).bind [] fun h p1 => if bound < (y.length : Int) + h.2 then ([], 0, 11, p) else
    (trb z h p1).bind [] fun t p2 => if (y.length : Int) < t.2.1 then ([], 0, 10, p1) else (agn 0 id (y ++ t.1) t.2.1 t.2.2.toNat, p2, 0, 0)

/-- What a reader without a fault does that reads g. -/
def ExSt {α : Type} (g : Rs α) (v : α) (p' c' q' : Int) : Prop := (g.2.2.1 = 0 ∧ v = g.1 ∧ p' = g.2.1 ∧ c' = 0 ∧ q' = 0) ∨ (g.2.2.1 ≠ 0 ∧ c' = g.2.2.1 ∧ q' = g.2.2.2)
theorem ExSt.bad {α : Type} {g : Rs α} {x : α} {y c q : Int} (e : g = (x, y, c, q)) (hc : c ≠ 0) (v : α) (p : Int) : ExSt g v p c q := by
  subst e; exact .inr ⟨hc, rfl, rfl⟩
theorem ExSt.good {α : Type} {g : Rs α} {x : α} {y : Int} (e : g = (x, y, 0, 0)) : ExSt g x y 0 0 := by
  subst e; exact .inl ⟨rfl, rfl, rfl, rfl, rfl⟩
/-- What a token expanded by extend leaves: B is where the row's blocks begin, b the reader. -/
def XdPost (b B : Nat) (s : Value) (n : Nat) (g : Rs (List Int)) (w : World) (e : Ending) (w' : World) : Prop :=
  ∃ v y p' c' q', e = .returned v ∧ Own w' B v y ∧ Ks (fun k => k = b ∨ B ≤ k) w w' ∧ IsRd w' b s p' c' q' ∧ 0 ≤ p' ∧ p' ≤ n ∧ ExSt g y p' c' q'
end Go.Proofs.Ytmflnnfgkcmlhaa.Cur

namespace Go.Proofs.Ytmflnnfgkcmlhaa.Cur
open Go.RowKit Mem
set_option linter.unusedVariables false

theorem Ks.of_belowB {S : Nat → Prop} {B : Nat} {w w' : World} (h : Below B w w') (hS : ∀ k, ¬ S k → k < B) : Ks S w w' := ⟨h.os, h.tape, h.output, h.size, fun k _ hb => h.block k (hS k hb)⟩
theorem IsRd.ks' {S : Nat → Prop} {w w' : World} {b : Nat} {s : Value} {p c q : Int} (h : IsRd w b s p c q) (k : Ks S w w') (hb : ¬ S b) : IsRd w' b s p c q := Blk.ks (cs := #[s, .int .i64 p, .int .i64 c, .int .i64 q]) h k hb



set_option maxRecDepth 100000 in
set_option maxHeartbeats 4000000 in
theorem extend_any (b B : Nat) (a : Option Addr) (n m : Nat) (z y : List Int) (p bound : Int) (v : Value) (w : World) (hr : IsRd w b (.slice a n m) p 0 0) (hz : Bs w a n z) (h0 : 0 ≤ p) (h1 : p ≤ n) (hm : n ≤ m) (hn : n ≤ 100000) (hby : ∀ x ∈ z, 0 ≤ x ∧ x < 256)
    (ho : Own w B v y) (hB : B ≤ w.heap.size) (hbB : b < B) (hy : y.length ≤ 800000) (hg : (ex z bound y p).2.2.1 = 0 → (ex z bound y p).1.length ≤ 800000) :
    Calls Try.prog 66 #[.pointer (some ⟨b, 0, none⟩), v, .int .i64 bound] w (XdPost b B (.slice a n m) n (ex z bound y p) w) := by
  have HBY := Lib.hid hby
  have HG := Lib.hid hg
  have HZL := Lib.hid hz.1
  have hks := Ks.refl (fun k => k = b ∨ B ≤ k) w
  obtain ⟨Av, cv, rfl⟩ := ho.slice
  clear hby hg
  go_enter Try.func66, Try.ntmps66
  go_wp2_with fail
  refine (at_any _ _ _ _ _ _ hr).mono ?_
  rintro e w0 ⟨rfl, rfl⟩
  go_wp2_with fail
  refine (thead_any _ _ _ _ _ _ _ _ _ hr hz h0 h1 (by omega) HBY.out).mono ?_
  rintro e w1 ⟨cp, k, p1, c1, q1, rfl, hk1, hr1, hs1⟩
  obtain ⟨p10, p11⟩ := hs1.place
  have HS1 := Lib.hid hs1
  have hB1 : B ≤ w1.heap.size := Nat.le_trans hB hk1.size
  replace ho : Own _ B _ y := own_kp ho hk1 (ho.ne_blk hr (by decide))
  replace hks := hks.trans (Ks.of_kp hk1 (.inl rfl))
  replace hz := hz.kp hr (by simp) hk1
  replace hr := hr1
  clear hr1 hk1 hs1 hB
  by_cases hc1 : c1 = 0
  · subst hc1
    obtain ⟨hsh, rfl⟩ := St.shape hd_q HS1.out
    obtain ⟨kr0, kr1⟩ := hd_rng HBY.out (by rw [hsh])
    rw [hsh] at kr0 kr1
    simp only at kr0 kr1
    have e1 : IntKind.i64.wrap ((y.length : Int) + k) = y.length + k := IntWalk.i64_in _ (by omega)
    have HX : Hid (ex z bound y p = if bound < (y.length : Int) + k then ([], 0, 11, p) else (trb z (cp, k) p1).bind [] fun t p2 => if (y.length : Int) < t.2.1 then ([], 0, 10, p1) else (agn 0 id (y ++ t.1) t.2.1 t.2.2.toNat, p2, 0, 0)) := Lib.hid (by unfold ex; rw [Rs.bind_of hsh])
    clear hsh HS1
    by_cases hov : bound < (y.length : Int) + k
    · have HX2 : Hid (ex z bound y p = ([], 0, 11, p)) := Lib.hid (by rw [HX.out, if_pos hov])
      go_wp2_with fail
      refine (fail_any _ _ _ _ _ _ _ _ hr).mono ?_
      rintro e w2 ⟨c2, q2, rfl, hk2, hr2, hf⟩
      obtain ⟨rfl, rfl⟩ : c2 = 11 ∧ q2 = p := by
        rcases hf with ⟨_, h2, h3⟩ | ⟨h2, _⟩
        · exact ⟨h2, h3⟩
        · exact absurd rfl h2
      have hB2 : B ≤ w2.heap.size := Nat.le_trans hB1 hk2.size
      replace ho : Own _ B _ y := own_kp ho hk2 (ho.ne_blk hr (by decide))
      replace hks := hks.trans (Ks.of_kp hk2 (.inl rfl))
      replace hz := hz.kp hr (by simp) hk2
      replace hr := hr2
      clear hr2 hk2 hf hov HX hB1
      have hBk := hB2
      cases cp
      · go_wp2_with fail
        refine (take_st _ _ _ _ _ _ _ _ _ _ hr hz p10 p11 hm (by omega)).mono ?_
        rintro e w3 ⟨vl, l, p3, c3, q3, rfl, hol, hk3, hr3, hs3⟩
        obtain ⟨p30, p31⟩ := hs3.place
        obtain ⟨rfl, rfl, rfl⟩ := hs3.stays (by decide : (11 : Int) ≠ 0)
        have hB3 : B ≤ w3.heap.size := Nat.le_trans hBk hk3.size
        replace ho : Own _ B _ y := own_kp ho hk3 (ho.ne_blk hr (by decide))
        replace hks := hks.trans (Ks.of_kp hk3 (.inl rfl))
        replace hz := hz.kp hr (by simp) hk3
        replace hr := hr3
        clear hr3 hk3 hs3
        have hge := own_ge ho
        obtain ⟨Al, ml, rfl, hbl, hnl, hlel⟩ := hol.parts
        have HLEN : Hid (y.length + ([] : List Int).length ≤ 1000000) := Lib.hid (by first | (simp; omega) | omega)
        go_wp2_with (at_builtin; go_must (refine list_append_gr rfl (.tmp 29) (.tmp 32) rfl B _ y rfl ho _ (([] : List Int)).length ml ([] : List Int) rfl hbl hnl HLEN.out hB3 ?_; intro v' w9 ho' hg' hgr; have hr9 : IsRd w9 b _ _ _ _ := hr.ks' (Ks.of_grown (S := fun k => B ≤ k) hg' hge) (by omega); have hks9 := hks.trans (Ks.of_grown (S := fun k => k = b ∨ B ≤ k) hg' (fun k e => .inr (hge k e))); clear hg' hgr hge ho hr hks hbl))
        go_ret
        exact ⟨_, _, _, _, _, rfl, ho', hks9, hr9, p30, p31, ExSt.bad HX2.out (by decide) _ _⟩
      · go_wp2_with fail
        refine (at_any _ _ _ _ _ _ hr).mono ?_
        rintro e w3 ⟨rfl, rfl⟩
        go_wp2_with fail
        refine (toffset_any _ _ _ _ _ _ _ _ _ hr hz p10 p11 (by omega) HBY.out).mono ?_
        rintro e w3 ⟨ofv, p3, c3, q3, rfl, hk3, hr3, hs3⟩
        obtain ⟨p30, p31⟩ := hs3.place
        obtain ⟨rfl, rfl, rfl⟩ := hs3.stays (by decide : (11 : Int) ≠ 0)
        have hB3 : B ≤ w3.heap.size := Nat.le_trans hBk hk3.size
        replace ho : Own _ B _ y := own_kp ho hk3 (ho.ne_blk hr (by decide))
        replace hks := hks.trans (Ks.of_kp hk3 (.inl rfl))
        replace hz := hz.kp hr (by simp) hk3
        replace hr := hr3
        clear hr3 hk3 hs3
        have hz0 : ¬ ((y.length : Int) < 0) := by omega
        have hcb : ((11 : Int) == (0 : Int)) = false := by first | rfl | (simpa using (by decide : (11 : Int) ≠ 0))
        go_wp2_with fail
        refine (good_any _ _ _ _ _ _ hr).mono ?_
        rintro e w4 ⟨rfl, hb4⟩
        rw [hcb]
        replace hr := hr.below hb4
        replace ho := ho.below hb4
        replace hks := hks.trans (Ks.of_below hb4)
        go_wp2
        go_ret
        exact ⟨_, _, _, _, _, rfl, ho, hks, hr, p30, p31, ExSt.bad HX2.out (by decide) _ _⟩
    · have HX2 := HX.out
      rw [if_neg hov] at HX2
      replace HX2 := Lib.hid HX2
      clear HX
      have hBk := hB1
      cases cp
      · go_wp2_with fail
        refine (take_st _ _ _ _ _ _ _ _ _ _ hr hz p10 p11 hm (by omega)).mono ?_
        rintro e w3 ⟨vl, l, p3, c3, q3, rfl, hol, hk3, hr3, hs3⟩
        obtain ⟨p30, p31⟩ := hs3.place
        have HS3 := Lib.hid hs3
        have hB3 : B ≤ w3.heap.size := Nat.le_trans hBk hk3.size
        replace ho : Own _ B _ y := own_kp ho hk3 (ho.ne_blk hr (by decide))
        replace hks := hks.trans (Ks.of_kp hk3 (.inl rfl))
        replace hz := hz.kp hr (by simp) hk3
        replace hr := hr3
        clear hr3 hk3 hs3
        by_cases hc3 : c3 = 0
        · subst hc3
          obtain ⟨hsh, rfl⟩ := St.shape (tk_q p10 (by have := HZL.out; omega)) HS3.out
          have hex : ex z bound y p = (y ++ l, p3, 0, 0) := by
            rw [HX2.out, trb_run, Rs.bind_of (v := (l, 0, 0)) (p' := p3) (by rw [Rs.bind_of hsh])]
            rw [if_neg (by show ¬ ((y.length : Int) < 0); omega)]
            rfl
          have hyl := HG.out (by rw [hex])
          rw [hex, List.length_append] at hyl
          have HEX := Lib.hid hex
          clear hsh hex HS3 HX2
          have hge := own_ge ho
          obtain ⟨Al, ml, rfl, hbl, hnl, hlel⟩ := hol.parts
          have HLEN : Hid (y.length + l.length ≤ 1000000) := Lib.hid (by first | (simp; omega) | omega)
          go_wp2_with (at_builtin; go_must (refine list_append_gr rfl (.tmp 29) (.tmp 32) rfl B _ y rfl ho _ (l).length ml l rfl hbl hnl HLEN.out hB3 ?_; intro v' w9 ho' hg' hgr; have hr9 : IsRd w9 b _ _ _ _ := hr.ks' (Ks.of_grown (S := fun k => B ≤ k) hg' hge) (by omega); have hks9 := hks.trans (Ks.of_grown (S := fun k => k = b ∨ B ≤ k) hg' (fun k e => .inr (hge k e))); clear hg' hgr hge ho hr hks hbl))
          go_ret
          exact ⟨_, _, _, _, _, rfl, ho', hks9, hr9, p30, p31, ExSt.good HEX.out⟩
        · obtain rfl : l = [] := HS3.out.nil hc3
          obtain ⟨g1, g2, g3⟩ := HS3.out.flt hc3
          have hex : ex z bound y p = ([], 0, c3, q3) := by
            rw [HX2.out, trb_run]
            have e : (tk z k p1).bind tk0 (fun y p2 => ((y, 0, 0), p2, 0, 0)) = (tk0, 0, c3, q3) := by rw [Rs.bind_bad g1, g2, g3]
            rw [e, Rs.bind_bad (by exact hc3)]
          have HEX := Lib.hid hex
          have HC3 := Lib.hid hc3
          clear hex g1 g2 g3 HS3 HX2 hc3
          have hge := own_ge ho
          obtain ⟨Al, ml, rfl, hbl, hnl, hlel⟩ := hol.parts
          have HLEN : Hid (y.length + ([] : List Int).length ≤ 1000000) := Lib.hid (by first | (simp; omega) | omega)
          go_wp2_with (at_builtin; go_must (refine list_append_gr rfl (.tmp 29) (.tmp 32) rfl B _ y rfl ho _ (([] : List Int)).length ml ([] : List Int) rfl hbl hnl HLEN.out hB3 ?_; intro v' w9 ho' hg' hgr; have hr9 : IsRd w9 b _ _ _ _ := hr.ks' (Ks.of_grown (S := fun k => B ≤ k) hg' hge) (by omega); have hks9 := hks.trans (Ks.of_grown (S := fun k => k = b ∨ B ≤ k) hg' (fun k e => .inr (hge k e))); clear hg' hgr hge ho hr hks hbl))
          go_ret
          exact ⟨_, _, _, _, _, rfl, ho', hks9, hr9, p30, p31, ExSt.bad HEX.out HC3.out _ _⟩
      · go_wp2_with fail
        refine (at_any _ _ _ _ _ _ hr).mono ?_
        rintro e w3 ⟨rfl, rfl⟩
        go_wp2_with fail
        refine (toffset_any _ _ _ _ _ _ _ _ _ hr hz p10 p11 (by omega) HBY.out).mono ?_
        rintro e w3 ⟨ofv, p3, c3, q3, rfl, hk3, hr3, hs3⟩
        obtain ⟨p30, p31⟩ := hs3.place
        have HS3 := Lib.hid hs3
        have hB3 : B ≤ w3.heap.size := Nat.le_trans hBk hk3.size
        replace ho : Own _ B _ y := own_kp ho hk3 (ho.ne_blk hr (by decide))
        replace hks := hks.trans (Ks.of_kp hk3 (.inl rfl))
        replace hz := hz.kp hr (by simp) hk3
        replace hr := hr3
        clear hr3 hk3 hs3
        by_cases hc3 : c3 = 0
        · subst hc3
          obtain ⟨hsh, rfl⟩ := St.shape ofs_q HS3.out
          have ho1 : 1 ≤ ofv := by
            obtain ⟨v1, v2, e3⟩ := ofs_ok (z := z) (p := p1) (by rw [hsh])
            rw [hsh] at e3
            have := vg_bd z p1 HBY.out
            have e4 : ofv = (vg z p1).1 + 1 := congrArg (fun x => x.1) e3
            omega
          have hex : ex z bound y p = if (y.length : Int) < ofv then ([], 0, 10, p1) else (agn 0 id (y ++ []) ofv k.toNat, p3, 0, 0) := by
            rw [HX2.out, trb_cpy, Rs.bind_of (v := ([], ofv, k)) (p' := p3) (by rw [Rs.bind_of hsh])]
          clear hsh HS3 HX2
          by_cases hof : (y.length : Int) < ofv
          · rw [if_pos hof] at hex
            have HEX := Lib.hid hex
            clear hex
            go_wp2_with fail
            refine (fail_any _ _ _ _ _ _ _ _ hr).mono ?_
            rintro e w4 ⟨c4, q4, rfl, hk4, hr4, hf⟩
            obtain ⟨rfl, rfl⟩ : c4 = 10 ∧ q4 = p1 := by
              rcases hf with ⟨_, h2, h3⟩ | ⟨h2, _⟩
              · exact ⟨h2, h3⟩
              · exact absurd rfl h2
            replace ho : Own _ B _ y := own_kp ho hk4 (ho.ne_blk hr (by decide))
            replace hks := hks.trans (Ks.of_kp hk4 (.inl rfl))
            replace hz := hz.kp hr (by simp) hk4
            replace hr := hr4
            clear hr4 hk4 hf
            go_wp2_with fail
            refine (good_any _ _ _ _ _ _ hr).mono ?_
            rintro e w5 ⟨rfl, hb5⟩
            rw [show ((10 : Int) == 0) = false from rfl]
            replace hr := hr.below hb5
            replace ho := ho.below hb5
            replace hks := hks.trans (Ks.of_below hb5)
            go_wp2
            go_ret
            exact ⟨_, _, _, _, _, rfl, ho, hks, hr, p30, p31, ExSt.bad HEX.out (by decide) _ _⟩
          · rw [if_neg hof, List.append_nil] at hex
            have hyl := HG.out (by rw [hex])
            rw [hex, agn_length] at hyl
            obtain ⟨ln, rfl⟩ := Int.eq_ofNat_of_zero_le (show 0 ≤ k by omega)
            rw [Int.toNat_natCast] at hex hyl
            have HEX := Lib.hid hex
            clear hex
            go_wp2_with fail
            refine (good_any _ _ _ _ _ _ hr).mono ?_
            rintro e w5 ⟨rfl, hb5⟩
            rw [show ((0 : Int) == 0) = true from rfl]
            replace hr := hr.below hb5
            replace ho := ho.below hb5
            replace hks := hks.trans (Ks.of_below hb5)
            have hB5 : B ≤ w5.heap.size := Nat.le_trans hB3 hb5.size
            clear hb5
            go_wp2_with fail
            refine (again_byte B _ y ofv ln _ ho hB5 (by omega) (fun _ => by omega)).mono ?_
            rintro e w6 ⟨v6, rfl, ho6, hb6⟩
            have hr6 := hr.ks' (Ks.of_belowB (S := fun k => B ≤ k) hb6 (fun k h => by omega)) (by omega)
            replace hks := hks.trans (Ks.of_belowB (S := fun k => k = b ∨ B ≤ k) hb6 (fun k h => by have := Nat.lt_of_not_le (fun e => h (.inr e)); exact this))
            go_wp2
            go_ret
            exact ⟨_, _, _, _, _, rfl, ho6, hks, hr6, p30, p31, ExSt.good HEX.out⟩
        · obtain rfl : ofv = 0 := HS3.out.nil hc3
          obtain ⟨g1, g2, g3⟩ := HS3.out.flt hc3
          have hex : ex z bound y p = ([], 0, c3, q3) := by
            rw [HX2.out, trb_cpy]
            have e : (ofs z p1).bind tk0 (fun o p2 => (([], o, k), p2, 0, 0)) = (tk0, 0, c3, q3) := by rw [Rs.bind_bad g1, g2, g3]
            rw [e, Rs.bind_bad (by exact hc3)]
          have HEX := Lib.hid hex
          have HC3 := Lib.hid hc3
          have hz0 : ¬ ((y.length : Int) < 0) := by omega
          have hcb : (c3 == (0 : Int)) = false := by simpa using hc3
          clear hex g1 g2 g3 HS3 HX2 hc3
          go_wp2_with fail
          refine (good_any _ _ _ _ _ _ hr).mono ?_
          rintro e w4 ⟨rfl, hb4⟩
          rw [hcb]
          replace hr := hr.below hb4
          replace ho := ho.below hb4
          replace hks := hks.trans (Ks.of_below hb4)
          go_wp2
          go_ret
          exact ⟨_, _, _, _, _, rfl, ho, hks, hr, p30, p31, ExSt.bad HEX.out HC3.out _ _⟩
  · have HX2 : Hid ((ex z bound y p).2.2.1 = c1 ∧ (ex z bound y p).2.2.2 = q1) := Lib.hid (by
      obtain ⟨g1, g2, g3⟩ := HS1.out.flt hc1
      unfold ex
      rw [Rs.bind_bad g1]
      exact ⟨g2.symm, g3.symm⟩)
    have hex : ∀ v p', ExSt (ex z bound y p) v p' c1 q1 := fun v p' => .inr ⟨by rw [HX2.out.1]; exact hc1, HX2.out.1.symm, HX2.out.2.symm⟩
    obtain ⟨rfl, rfl⟩ := hd_cp HS1.out hc1
    have HEX := Lib.hid hex
    have HC1 := Lib.hid hc1
    have e1 : IntKind.i64.wrap ((y.length : Int) + 0) = y.length := IntWalk.i64_in _ (by omega)
    clear hex HX2 HS1 hc1
    by_cases hov : bound < (y.length : Int)
    · go_wp2_with fail
      refine (fail_any _ _ _ _ _ _ _ _ hr).mono ?_
      rintro e w2 ⟨c2, q2, rfl, hk2, hr2, hf⟩
      obtain ⟨rfl, rfl⟩ : c2 = c1 ∧ q2 = q1 := by
        rcases hf with ⟨h2, _⟩ | ⟨_, h2, h3⟩
        · exact absurd h2 HC1.out
        · exact ⟨h2, h3⟩
      have hBk : B ≤ w2.heap.size := Nat.le_trans hB1 hk2.size
      replace ho : Own _ B _ y := own_kp ho hk2 (ho.ne_blk hr (by decide))
      replace hks := hks.trans (Ks.of_kp hk2 (.inl rfl))
      replace hz := hz.kp hr (by simp) hk2
      replace hr := hr2
      clear hr2 hk2 hf hov hB1
      go_wp2_with fail
      refine (take_st _ _ _ _ _ _ _ _ _ _ hr hz p10 p11 hm (by omega)).mono ?_
      rintro e w3 ⟨vl, l, p3, c3, q3, rfl, hol, hk3, hr3, hs3⟩
      obtain ⟨p30, p31⟩ := hs3.place
      obtain ⟨rfl, rfl, rfl⟩ := hs3.stays HC1.out
      have hB3 : B ≤ w3.heap.size := Nat.le_trans hBk hk3.size
      replace ho : Own _ B _ y := own_kp ho hk3 (ho.ne_blk hr (by decide))
      replace hks := hks.trans (Ks.of_kp hk3 (.inl rfl))
      replace hz := hz.kp hr (by simp) hk3
      replace hr := hr3
      clear hr3 hk3 hs3
      have hge := own_ge ho
      obtain ⟨Al, ml, rfl, hbl, hnl, hlel⟩ := hol.parts
      have HLEN : Hid (y.length + ([] : List Int).length ≤ 1000000) := Lib.hid (by first | (simp; omega) | omega)
      go_wp2_with (at_builtin; go_must (refine list_append_gr rfl (.tmp 29) (.tmp 32) rfl B _ y rfl ho _ (([] : List Int)).length ml ([] : List Int) rfl hbl hnl HLEN.out hB3 ?_; intro v' w9 ho' hg' hgr; have hr9 : IsRd w9 b _ _ _ _ := hr.ks' (Ks.of_grown (S := fun k => B ≤ k) hg' hge) (by omega); have hks9 := hks.trans (Ks.of_grown (S := fun k => k = b ∨ B ≤ k) hg' (fun k e => .inr (hge k e))); clear hg' hgr hge ho hr hks hbl))
      go_ret
      exact ⟨_, _, _, _, _, rfl, ho', hks9, hr9, p30, p31, HEX.out _ _⟩
    · have hBk := hB1
      go_wp2_with fail
      refine (take_st _ _ _ _ _ _ _ _ _ _ hr hz p10 p11 hm (by omega)).mono ?_
      rintro e w3 ⟨vl, l, p3, c3, q3, rfl, hol, hk3, hr3, hs3⟩
      obtain ⟨p30, p31⟩ := hs3.place
      obtain ⟨rfl, rfl, rfl⟩ := hs3.stays HC1.out
      have hB3 : B ≤ w3.heap.size := Nat.le_trans hBk hk3.size
      replace ho : Own _ B _ y := own_kp ho hk3 (ho.ne_blk hr (by decide))
      replace hks := hks.trans (Ks.of_kp hk3 (.inl rfl))
      replace hz := hz.kp hr (by simp) hk3
      replace hr := hr3
      clear hr3 hk3 hs3
      have hge := own_ge ho
      obtain ⟨Al, ml, rfl, hbl, hnl, hlel⟩ := hol.parts
      have HLEN : Hid (y.length + ([] : List Int).length ≤ 1000000) := Lib.hid (by first | (simp; omega) | omega)
      go_wp2_with (at_builtin; go_must (refine list_append_gr rfl (.tmp 29) (.tmp 32) rfl B _ y rfl ho _ (([] : List Int)).length ml ([] : List Int) rfl hbl hnl HLEN.out hB3 ?_; intro v' w9 ho' hg' hgr; have hr9 : IsRd w9 b _ _ _ _ := hr.ks' (Ks.of_grown (S := fun k => B ≤ k) hg' hge) (by omega); have hks9 := hks.trans (Ks.of_grown (S := fun k => k = b ∨ B ≤ k) hg' (fun k e => .inr (hge k e))); clear hg' hgr hge ho hr hks hbl))
      go_ret
      exact ⟨_, _, _, _, _, rfl, ho', hks9, hr9, p30, p31, HEX.out _ _⟩
end Go.Proofs.Ytmflnnfgkcmlhaa.Cur

namespace Go.Proofs.Ytmflnnfgkcmlhaa.Cur
open Go.RowKit Mem
set_option linter.unusedVariables false

def exs (z : List Int) (bound : Int) : Nat → Int → List Int → Rs (List Int)
  | 0, p, y => (y, p, 0, 0)
  | k + 1, p, y => if (z.length : Int) ≤ p then (y, p, 0, 0) else (ex z bound y p).bind [] fun y' p' => exs z bound k p' y'
theorem exs_stop {z : List Int} {bound : Int} {k : Nat} {p : Int} {y : List Int} (h : (z.length : Int) ≤ p) : exs z bound k p y = (y, p, 0, 0) := by
  cases k with
  | zero => rfl
  | succ k => show (if (z.length : Int) ≤ p then _ else _) = _; rw [if_pos h]
theorem exs_step {z : List Int} {bound : Int} {k : Nat} {p : Int} {y : List Int} (h : p < z.length) : exs z bound (k + 1) p y = (ex z bound y p).bind [] fun y' p' => exs z bound k p' y' := by
  show (if (z.length : Int) ≤ p then _ else _) = _; rw [if_neg (by omega)]
/-- What all written tokens make, or the code and place of the first fault. -/
def exg (z : List Int) (bound : Int) : Rs (List Int) := exs z bound (z.length + 1) 0 []
def exv (z : List Int) (bound : Int) : List Int × Int × Int := if (exg z bound).2.2.1 = 0 then ((exg z bound).1, 0, 0) else ([], (exg z bound).2.2.1, (exg z bound).2.2.2)

theorem ex_ok {z : List Int} {bound : Int} {y : List Int} {p : Int} (hby : ∀ x ∈ z, 0 ≤ x ∧ x < 256) (h0 : 0 ≤ p) (h1 : p ≤ z.length) (h : (ex z bound y p).2.2.1 = 0) :
    p + 1 ≤ (ex z bound y p).2.1 ∧ (ex z bound y p).2.1 ≤ z.length ∧ ex z bound y p = ((ex z bound y p).1, (ex z bound y p).2.1, 0, 0) := by
  obtain ⟨g1, g2⟩ := Rs.bind_ok h
  obtain ⟨v1, v2, e1⟩ := hd_ok' g1
  have e : ex z bound y p = if bound < (y.length : Int) + (hd z p).1.2 then ([], 0, 11, p) else (trb z (hd z p).1 (hd z p).2.1).bind [] fun t p2 => if (y.length : Int) < t.2.1 then ([], 0, 10, (hd z p).2.1) else (agn 0 id (y ++ t.1) t.2.1 t.2.2.toNat, p2, 0, 0) := g2
  by_cases hov : bound < (y.length : Int) + (hd z p).1.2
  · rw [if_pos hov] at e
    rw [e] at h
    exact absurd h (by show ¬ (11 : Int) = 0; decide)
  · rw [if_neg hov] at e
    rw [e] at h
    obtain ⟨t1, t2⟩ := Rs.bind_ok h
    have htr : tr z p = trb z (hd z p).1 (hd z p).2.1 := by unfold tr; rw [Rs.bind_of (v := (hd z p).1) (p' := (hd z p).2.1) (by rw [e1])]
    obtain ⟨k1, k2, k3, _⟩ := tr_once hby h0 h1 (by rw [htr]; exact t1)
    rw [htr] at k1 k2 k3
    rw [t2] at e h
    by_cases hof : (y.length : Int) < (trb z (hd z p).1 (hd z p).2.1).1.2.1
    · rw [if_pos hof] at h
      exact absurd h (by show ¬ (10 : Int) = 0; decide)
    · rw [if_neg hof] at e
      rw [e]
      exact ⟨k1, k2, rfl⟩

def StepPost (b B oc : Nat) (s : Value) (n : Nat) (g : Rs (List Int)) (w : World) (e : Ending) (w' : World) : Prop :=
  ∃ v y p' c' q', e = .returned (.tuple #[]) ∧ Own w' B v y ∧ Blk w' oc #[v] 22 ∧ Ks (fun k => k = b ∨ k = oc ∨ B ≤ k) w w' ∧ IsRd w' b s p' c' q' ∧ 0 ≤ p' ∧ p' ≤ n ∧ ExSt g y p' c' q'

set_option maxHeartbeats 1000000 in
theorem step_byte (b B oc bb : Nat) (a : Option Addr) (n m : Nat) (z y : List Int) (p bound : Int) (v : Value) (w : World) (hr : IsRd w b (.slice a n m) p 0 0) (hz : Bs w a n z) (h0 : 0 ≤ p) (h1 : p ≤ n) (hm : n ≤ m) (hn : n ≤ 100000) (hby : ∀ x ∈ z, 0 ≤ x ∧ x < 256)
    (ho : Own w B v y) (hB : B ≤ w.heap.size) (hbB : b < B) (hy : y.length ≤ 800000) (hg : (ex z bound y p).2.2.1 = 0 → (ex z bound y p).1.length ≤ 800000)
    (hoc : Blk w oc #[v] 22) (hbb : Blk w bb #[.int .i64 bound] 3) (hob : oc ≠ b) (hoB : oc < B) :
    Calls Try.prog 65 #[.pointer (some ⟨b, 0, none⟩), .pointer (some ⟨oc, 0, none⟩), .pointer (some ⟨bb, 0, none⟩)] w (StepPost b B oc (.slice a n m) n (ex z bound y p) w) := by
  obtain ⟨Av, cv, rfl⟩ := ho.slice
  have o0 := hoc.c1
  have b0 := hbb.c1
  have hx := extend_any b B a n m z y p bound _ w hr hz h0 h1 hm hn hby ho hB hbB hy hg
  clear hr hz hg ho hbb
  go_enter Try.func65, Try.ntmps65
  go_wp2_with fail
  refine hx.mono ?_
  rintro e w1 ⟨v1, y1, p1, c1, q1, rfl, ho1, hk1, hr1, p10, p11, hs1⟩
  have hoc1 := hoc.ks hk1 (fun h => by rcases h with h | h <;> omega)
  obtain ⟨A1, m1, rfl⟩ := ho1.slice
  clear o0 b0
  have o0 := hoc1.c1
  have o1 := hoc1.free 0
  have hkE := ((Ks.refl (fun k => k = b ∨ k = oc ∨ B ≤ k) w).trans' hk1 (fun i _ h => by rcases h with h | h; exact .inl h; exact .inr (.inr h))).trans (Ks.setCell w1 oc 0 (.slice A1 y1.length m1) (.inr (.inl rfl)))
  go_wp2
  go_end0
  exact ⟨_, y1, p1, c1, q1, rfl, ho1.far (p := ⟨oc, 0, none⟩) hoB _, hoc1.set 0 _, hkE, hr1.kp (Kp.setCell _ oc 0 _) hob.symm, p10, p11, hs1⟩
end Go.Proofs.Ytmflnnfgkcmlhaa.Cur

namespace Go.Proofs.Ytmflnnfgkcmlhaa.Cur
open Go.RowKit Mem
set_option linter.unusedVariables false

/-- How much a reader has still before it. -/
def rdm (n b : Nat) (w : World) : Nat := match w.cell? ⟨b, 2, none⟩, w.cell? ⟨b, 1, none⟩ with
  | some (.int _ c), some (.int _ p) => if c = 0 then ((n : Int) - p).toNat + 1 else 0
  | _, _ => 0
theorem rdm_of {n b : Nat} {w : World} {s : Value} {p c q : Int} (h : IsRd w b s p c q) : rdm n b w = if c = 0 then ((n : Int) - p).toNat + 1 else 0 := by
  obtain ⟨_, c1, c2, _⟩ := h.cells
  unfold rdm
  rw [c1, c2]
theorem exv_good {z : List Int} {bound : Int} {k : Nat} {p : Int} {y : List Int} (e : exg z bound = exs z bound k p y) (h : (z.length : Int) ≤ p) : exv z bound = (y, 0, 0) := by
  unfold exv; rw [e, exs_stop h]; rfl
theorem exv_bad {z : List Int} {bound c q : Int} (h : (exg z bound).2.2.1 = c ∧ (exg z bound).2.2.2 = q) (hc : c ≠ 0) : exv z bound = ([], c, q) := by
  unfold exv; rw [h.1, h.2, if_neg hc]

def VisPost (oc : Nat) (g : List Int × Int × Int) (w : World) (e : Ending) (w' : World) : Prop :=
  ∃ v y c q, e = .returned (.agg #[.int .i64 c, .int .i64 q]) ∧ Own w' w.heap.size v y ∧ Blk w' oc #[v] 22 ∧ Ks (fun k => k = oc) w w' ∧ ((c = 0 ∧ g = (y, 0, 0) ∧ q = 0) ∨ (c ≠ 0 ∧ g = ([], c, q)))

/-- What holds whenever the run comes to the label. -/
def VJ (a : Option Addr) (n m oc bb : Nat) (z : List Int) (bound : Int) (R : Int → List Int → Prop) (w : World) (a' : Act) (wr : World) : Prop :=
  ∃ (k : Nat) (p c q : Int) (y : List Int) (v u6 u7 u8 u9 u10 u11 u12 u13 u14 u15 u16 u17 u18 u19 : Value), a' = { tmps := #[.slice a n m, .func (.func 65) #[] #[.pointer (some ⟨oc, 0, none⟩), .pointer (some ⟨bb, 0, none⟩)], undef, undef, .pointer (some ⟨w.heap.size, 0, none⟩), .pointer (some ⟨w.heap.size + 1, 0, none⟩), u6, u7, u8, u9, u10, u11, u12, u13, u14, u15, u16, u17, u18, u19], defers := [] } ∧
    Own wr (w.heap.size + 2) v y ∧ Blk wr oc #[v] 22 ∧ Blk wr bb #[.int .i64 bound] 3 ∧ IsRd wr (w.heap.size + 1) (.slice a n n) p c q ∧ Blk wr w.heap.size #[.int .i64 0, .int .i64 0] 40 ∧ Ks (fun k => k = oc) w wr ∧ 0 ≤ p ∧ p ≤ n ∧
    ((c = 0 ∧ q = 0 ∧ Hid (R p y) ∧ Hid ((n : Int) - p < k ∧ exg z bound = exs z bound k p y)) ∨ (c ≠ 0 ∧ Hid ((exg z bound).2.2.1 = c ∧ (exg z bound).2.2.2 = q)))


set_option maxRecDepth 100000 in
set_option maxHeartbeats 4000000 in
theorem visit_byte (a : Option Addr) (n m oc bb : Nat) (z : List Int) (bound : Int) (R : Int → List Int → Prop) (w : World) (hz : Bs w a n z) (hm : n ≤ m) (hn : n ≤ 100000) (hby : ∀ x ∈ z, 0 ≤ x ∧ x < 256)
    (hoc : Blk w oc #[.slice none 0 0] 22) (hbb : Blk w bb #[.int .i64 bound] 3) (hzo : 0 < n → ∀ A, a = some A → ¬ A.block = oc)
    (hR0 : R 0 []) (hRs : ∀ p y, R p y → 0 ≤ p → p < n → (ex z bound y p).2.2.1 = 0 → R (ex z bound y p).2.1 (ex z bound y p).1) (hRl : ∀ p y, R p y → y.length ≤ 800000) :
    Calls Try.prog 64 #[.slice a n m, .func (.func 65) #[] #[.pointer (some ⟨oc, 0, none⟩), .pointer (some ⟨bb, 0, none⟩)]] w (VisPost oc (exv z bound) w) := by
  have HBY := Lib.hid hby
  have HZO := Lib.hid hzo
  have HR0 := Lib.hid hR0
  have HRS := Lib.hid hRs
  have HRL := Lib.hid hRl
  have hzl := hz.1
  have hocl := hoc.lt
  have hbbl := hbb.lt
  have hob : bb ≠ oc := by
    intro e
    subst e
    have h1 := hoc.c1
    rw [hbb.c1] at h1
    injection h1 with h1
    cases h1
  have hF := Blk.new w #[.int .i64 0, .int .i64 0] 40
  have hbF := below_one w (.cells #[.int .i64 0, .int .i64 0] 40)
  clear hby hzo hR0 hRs hRl
  go_enter Try.func64, Try.ntmps64
  go_wp2
  refine jumps_skip 0 (VJ a n m oc bb z bound R w) (fun _ wr => rdm n (w.heap.size + 1) wr) rfl ?_ ?_
  · intro key
    have KEY := Lib.hid key
    clear key
    go_wp2_with fail
    refine (new_any _ _ _ _ hm).mono ?_
    rintro e w1 ⟨rfl, hb1, hsz, hr1⟩
    rw [show (w.alloc (.cells #[.int .i64 0, .int .i64 0] 40)).heap.size = w.heap.size + 1 by simp] at hr1 ⊢
    have hF1 := hF.below hb1
    have hoc1 := (hoc.below hbF).below hb1
    have hbb1 := (hbb.below hbF).below hb1
    have hk1 := (Ks.of_below (S := fun k => k = oc) hbF).trans (Ks.of_below hb1)
    clear hb1
    go_wp2_with fail
    go_step3
    rename_i Kq hKq
    refine hKq _ _ (KEY.out _ _ ?_)
    exact ⟨z.length + 1, 0, 0, 0, [], _, _, _, _, _, _, _, _, _, _, _, _, _, _, _, rfl, Own.nil _ _, hoc1, hbb1, hr1, hF1, hk1, by omega, by omega, .inl ⟨rfl, rfl, HR0, Lib.hid ⟨by omega, rfl⟩⟩⟩
  · clear hF hbF hoc hbb
    rintro a' wr ⟨k, p, c, q, y, v, u6, u7, u8, u9, u10, u11, u12, u13, u14, u15, u16, u17, u18, u19, rfl, ho, hoc, hbb, hr, hF, hks, h0, h1, hst⟩
    obtain ⟨Av, cv, rfl, _⟩ := ho.parts
    rcases hst with ⟨rfl, rfl, HR, HE⟩ | ⟨hc, HE⟩
    · go_wp2_with fail
      refine (good_any _ _ _ _ _ _ hr).mono ?_
      rintro e w1 ⟨rfl, hb1⟩
      rw [show ((0 : Int) == 0) = true from rfl]
      have hmz := rdm_of (n := n) hr
      replace ho : Own _ (w.heap.size + 2) _ y := ho.below hb1
      replace hoc := hoc.below hb1
      replace hbb := hbb.below hb1
      replace hr := hr.below hb1
      replace hF := hF.below hb1
      replace hks := hks.trans (Ks.of_below hb1)
      clear hb1
      go_wp2_with fail
      refine (left_any _ _ _ _ _ _ _ _ hr h0 h1 (by omega)).mono ?_
      rintro e w2 ⟨rfl, j, rfl⟩
      have hb2 := below_drewN (Below.refl w1.heap.size w1) j
      replace ho : Own _ (w.heap.size + 2) _ y := ho.below hb2
      replace hoc := hoc.below hb2
      replace hbb := hbb.below hb2
      replace hr := hr.below hb2
      replace hF := hF.below hb2
      replace hks := hks.trans (Ks.of_below hb2)
      clear hb2
      generalize w1.drewN j = w2 at *
      by_cases hpn : p = n
      · have hng : ¬ 0 < (n : Int) - p := by omega
        have HX := Lib.hid (exv_good HE.out.2 (by omega))
        clear hmz hpn
        go_wp2_with fail
        refine (fault_any _ _ _ _ _ _ hr).mono ?_
        rintro e w3 ⟨rfl, hb3⟩
        replace ho : Own _ (w.heap.size + 2) _ y := ho.below hb3
        replace hoc := hoc.below hb3
        replace hbb := hbb.below hb3
        replace hr := hr.below hb3
        replace hF := hF.below hb3
        replace hks := hks.trans (Ks.of_below hb3)
        clear hb3
        obtain ⟨f0, f1⟩ := hF.c2
        obtain ⟨g0, g1⟩ := hF.f2
        go_wp2
        simp only [Exit.jump]
        refine bodyPost_ret (v := .agg #[.int .i64 0, .int .i64 0]) (by simp [results, Try.results64, go_sem, f0, f1]) rfl ⟨.slice Av y.length cv, y, 0, 0, rfl, ?_, ?_, ?_, .inl ⟨rfl, HX.out, rfl⟩⟩
        · exact (Own.far (p := ⟨w.heap.size, 1, none⟩) (Own.far (p := ⟨w.heap.size, 0, none⟩) ho (by show w.heap.size < w.heap.size + 2; omega) _) (by show w.heap.size < w.heap.size + 2; omega) _).base (fun g hg => by have := Own.ge ho g hg; omega)
        · exact (hoc.far 0 _ (by omega)).far 1 _ (by omega)
        · exact (hks.trans' (Ks.setCell (S := fun k => k = w.heap.size) w3 w.heap.size 0 _ rfl) (fun i hi e => by omega)).trans' (Ks.setCell (S := fun k => k = w.heap.size) _ w.heap.size 1 _ rfl) (fun i hi e => by omega)
      · have hgt : 0 < (n : Int) - p := by omega
        obtain ⟨k, rfl⟩ : ∃ k', k = k' + 1 := ⟨k - 1, by have := HE.out.1; omega⟩
        have hlt : p < n := by omega
        have hB : w.heap.size + 2 ≤ w2.heap.size := hr.lt
        have hz2 := hz.ks hks HZO.out
        have hst := step_byte (w.heap.size + 1) (w.heap.size + 2) oc bb a n n z y p bound _ w2 hr hz2 h0 h1 (Nat.le_refl _) hn HBY.out ho hB (Nat.lt_succ_self _) (HRL.out _ _ HR.out) (fun h => HRL.out _ _ (HRS.out _ _ HR.out h0 hlt h)) hoc hbb (by omega) (by omega)
        have HLT := Lib.hid hlt
        clear hpn hlt
        go_wp2_with fail
        refine hst.mono ?_
        rintro e w3 ⟨v3, y3, p3, c3, q3, rfl, ho3, hoc3, hk3, hr3, p30, p31, hs3⟩
        have hbb3 := hbb.ks hk3 (fun h => by omega)
        have hF3 := hF.ks hk3 (fun h => by omega)
        have hks3 := hks.trans' hk3 (fun i hi h => by omega)
        have hm3 := rdm_of (n := n) hr3
        clear hst hk3 ho hoc hbb hr hF hks hz2
        go_wp2_with fail
        go_step3
        refine ⟨rfl, ⟨k, p3, c3, q3, y3, _, _, _, _, _, _, _, _, _, _, _, _, _, _, _, rfl, ho3, hoc3, hbb3, hr3, hF3, hks3, p30, p31, ?_⟩, ?_⟩
        · rcases hs3 with ⟨s1, rfl, rfl, rfl, rfl⟩ | ⟨s1, rfl, rfl⟩
          · obtain ⟨e1, e2, e3⟩ := ex_ok HBY.out h0 (by have := HLT.out; omega) s1
            refine .inl ⟨rfl, rfl, Lib.hid (HRS.out _ _ HR.out h0 HLT.out s1), Lib.hid ⟨by have := HE.out.1; omega, ?_⟩⟩
            rw [HE.out.2, exs_step (by have := HLT.out; omega), Rs.bind_of e3]
          · refine .inr ⟨s1, Lib.hid ?_⟩
            rw [HE.out.2, exs_step (by have := HLT.out; omega), Rs.bind_bad s1]
            exact ⟨rfl, rfl⟩
        · show rdm n (w.heap.size + 1) w3 < rdm n (w.heap.size + 1) wr
          rw [hm3, hmz, if_pos trivial]
          have hlt := HLT.out
          rcases hs3 with ⟨s1, rfl, rfl, rfl, rfl⟩ | ⟨s1, rfl, rfl⟩
          · obtain ⟨e1, e2, e3⟩ := ex_ok HBY.out h0 (by omega) s1
            rw [if_pos rfl]
            omega
          · rw [if_neg s1]
            omega
    · have hcb : (c == 0) = false := by simpa using hc
      have HX := Lib.hid (exv_bad HE.out hc)
      have HC := Lib.hid hc
      clear hc
      go_wp2_with fail
      refine (good_any _ _ _ _ _ _ hr).mono ?_
      rintro e w1 ⟨rfl, hb1⟩
      rw [hcb]
      replace ho : Own _ (w.heap.size + 2) _ y := ho.below hb1
      replace hoc := hoc.below hb1
      replace hbb := hbb.below hb1
      replace hr := hr.below hb1
      replace hF := hF.below hb1
      replace hks := hks.trans (Ks.of_below hb1)
      clear hb1
      go_wp2_with fail
      refine (fault_any _ _ _ _ _ _ hr).mono ?_
      rintro e w3 ⟨rfl, hb3⟩
      replace ho : Own _ (w.heap.size + 2) _ y := ho.below hb3
      replace hoc := hoc.below hb3
      replace hbb := hbb.below hb3
      replace hr := hr.below hb3
      replace hF := hF.below hb3
      replace hks := hks.trans (Ks.of_below hb3)
      clear hb3
      obtain ⟨f0, f1⟩ := hF.c2
      obtain ⟨g0, g1⟩ := hF.f2
      go_wp2
      simp only [Exit.jump]
      refine bodyPost_ret (v := .agg #[.int .i64 c, .int .i64 q]) (by simp [results, Try.results64, go_sem, f0, f1]) rfl ⟨.slice Av y.length cv, y, c, q, rfl, ?_, ?_, ?_, .inr ⟨HC.out, HX.out⟩⟩
      · exact (Own.far (p := ⟨w.heap.size, 1, none⟩) (Own.far (p := ⟨w.heap.size, 0, none⟩) ho (by show w.heap.size < w.heap.size + 2; omega) _) (by show w.heap.size < w.heap.size + 2; omega) _).base (fun g hg => by have := Own.ge ho g hg; omega)
      · exact (hoc.far 0 _ (by omega)).far 1 _ (by omega)
      · exact (hks.trans' (Ks.setCell (S := fun k => k = w.heap.size) w3 w.heap.size 0 _ rfl) (fun i hi e => by omega)).trans' (Ks.setCell (S := fun k => k = w.heap.size) _ w.heap.size 1 _ rfl) (fun i hi e => by omega)
end Go.Proofs.Ytmflnnfgkcmlhaa.Cur

namespace Go.Proofs.Ytmflnnfgkcmlhaa.Cur
open Go.RowKit Mem
set_option linter.unusedVariables false

theorem ex_len {z : List Int} {bound : Int} {y : List Int} {p : Int} (hby : ∀ x ∈ z, 0 ≤ x ∧ x < 256) (h0 : 0 ≤ p) (h1 : p ≤ z.length) (h : (ex z bound y p).2.2.1 = 0) :
    ((ex z bound y p).1.length : Int) = y.length + (hd z p).1.2 ∧ ((ex z bound y p).1.length : Int) ≤ bound := by
  obtain ⟨g1, g2⟩ := Rs.bind_ok h
  obtain ⟨r1, r2⟩ := hd_rng hby g1
  obtain ⟨l1, l2⟩ := hd_pl hby h0 h1 g1
  have e : ex z bound y p = if bound < (y.length : Int) + (hd z p).1.2 then ([], 0, 11, p) else (trb z (hd z p).1 (hd z p).2.1).bind [] fun t p2 => if (y.length : Int) < t.2.1 then ([], 0, 10, (hd z p).2.1) else (agn 0 id (y ++ t.1) t.2.1 t.2.2.toNat, p2, 0, 0) := g2
  by_cases hov : bound < (y.length : Int) + (hd z p).1.2
  · rw [if_pos hov] at e
    rw [e] at h
    exact absurd h (by show ¬ (11 : Int) = 0; decide)
  · rw [if_neg hov] at e
    rw [e] at h
    obtain ⟨t1, t2⟩ := Rs.bind_ok h
    have hl := trb_len (cp := (hd z p).1.1) (k := (hd z p).1.2) (by omega) l2 (by omega) t1
    rw [t2] at e h
    by_cases hof : (y.length : Int) < (trb z (hd z p).1 (hd z p).2.1).1.2.1
    · rw [if_pos hof] at h
      exact absurd h (by show ¬ (10 : Int) = 0; decide)
    · rw [if_neg hof] at e
      rw [e]
      show ((agn _ _ _ _ _).length : Int) = _ ∧ ((agn _ _ _ _ _).length : Int) ≤ _
      rw [agn_length, List.length_append]
      have hl' : ((trb z (hd z p).1 (hd z p).2.1).1.1.length : Int) + ((trb z (hd z p).1 (hd z p).2.1).1.2.2.toNat : Int) = (hd z p).1.2 := hl
      omega

set_option maxRecDepth 100000 in
set_option maxHeartbeats 2000000 in
theorem ebytes_any (a : Option Addr) (n m : Nat) (z : List Int) (bound : Int) (R : Int → List Int → Prop) (w : World) (hz : Bs w a n z) (hm : n ≤ m) (hn : n ≤ 100000) (hby : ∀ x ∈ z, 0 ≤ x ∧ x < 256)
    (hR0 : R 0 []) (hRs : ∀ p y, R p y → 0 ≤ p → p < n → (ex z bound y p).2.2.1 = 0 → R (ex z bound y p).2.1 (ex z bound y p).1) (hRl : ∀ p y, R p y → y.length ≤ 800000) :
    Calls Try.prog 44 #[.slice a n m, .int .i64 bound] w (XpPost (exv z bound) w) := by
  have hX := ((Blk.new w #[.int .i64 bound] 3).alloc (.cells #[.int .i64 0, .int .i64 0] 40)).alloc (.cells #[.slice none 0 0] 22)
  have hF := (Blk.new (w.alloc (.cells #[.int .i64 bound] 3)) #[.int .i64 0, .int .i64 0] 40).alloc (.cells #[.slice none 0 0] 22)
  have hO := Blk.new ((w.alloc (.cells #[.int .i64 bound] 3)).alloc (.cells #[.int .i64 0, .int .i64 0] 40)) #[.slice none 0 0] 22
  rw [show (w.alloc (.cells #[.int .i64 bound] 3)).heap.size = w.heap.size + 1 by simp] at hF
  rw [show ((w.alloc (.cells #[.int .i64 bound] 3)).alloc (.cells #[.int .i64 0, .int .i64 0] 40)).heap.size = w.heap.size + 2 by simp] at hO
  have hb3 : Below w.heap.size w (((w.alloc (.cells #[.int .i64 bound] 3)).alloc (.cells #[.int .i64 0, .int .i64 0] 40)).alloc (.cells #[.slice none 0 0] 22)) := by
    have h2 := below_two w (.cells #[.int .i64 bound] 3) (.cells #[.int .i64 0, .int .i64 0] 40)
    exact h2.alloc h2.size _
  have hz3 := hz.below hb3
  have hsz : (((w.alloc (.cells #[.int .i64 bound] 3)).alloc (.cells #[.int .i64 0, .int .i64 0] 40)).alloc (.cells #[.slice none 0 0] 22)).heap.size = w.heap.size + 3 := by simp
  have hv := visit_byte a n m (w.heap.size + 2) w.heap.size z bound R _ hz3 hm hn hby hO hX (fun h A hA e => by have := hz.lt h A hA; omega) hR0 hRs hRl
  have HSH : Hid (∀ y q, exv z bound = (y, 0, q) → q = 0) := Lib.hid (fun y q h => by
    unfold exv at h
    split at h
    · injection h with _ h; injection h with _ h; exact h.symm
    · rename_i h1; injection h with _ h; injection h with h _; exact absurd h h1)
  clear hz hz3 hby hR0 hRs hRl
  generalize exv z bound = g at *
  go_enter Try.func44, Try.ntmps44
  go_wp2_with fail
  generalize (((w.alloc (.cells #[.int .i64 bound] 3)).alloc (.cells #[.int .i64 0, .int .i64 0] 40)).alloc (.cells #[.slice none 0 0] 22)) = w1 at *
  refine hv.mono ?_
  rintro e w2 ⟨v, y, c, q, rfl, ho, hO2, hk, hg⟩
  rw [hsz] at ho
  have hF2 := hF.ks hk (by omega)
  have hbd := Ks.below hb3 (Nat.le_refl _) hk (fun k e => by omega)
  replace ho := ho.base (B' := w.heap.size + 2) (fun g hg => by have := Own.ge ho g hg; omega)
  have hG := Blk.new w2 #[.int .i64 c, .int .i64 q] 40
  have hbG := below_one w2 (.cells #[.int .i64 c, .int .i64 q] 40)
  replace hF2 := hF2.below hbG
  replace hO2 := hO2.below hbG
  replace ho := ho.below hbG
  replace hbd := hbd.trans (hbG.mono hbd.size)
  obtain ⟨x0, x1⟩ := hG.c2
  clear hbG hk hX hF hO hv
  go_wp2_with fail
  refine (fgood_any _ _ _).mono ?_
  rintro e w3 ⟨rfl, hb3⟩
  replace hG := hG.below hb3
  replace hF2 := hF2.below hb3
  replace hO2 := hO2.below hb3
  replace ho := ho.below hb3
  replace hbd := hbd.trans (hb3.mono hbd.size)
  obtain ⟨f0, f1⟩ := hF2.c2
  obtain ⟨g0, g1⟩ := hF2.f2
  have hFl := hF2.lt
  have hGl := hG.lt
  obtain ⟨Av, cv, rfl⟩ := ho.slice
  have o0 := hO2.c1
  clear x0 x1
  obtain ⟨x0, x1⟩ := hG.c2
  clear hb3
  rcases hg with ⟨rfl, rfl, rfl⟩ | ⟨hc, rfl⟩
  · rw [show ((0 : Int) == 0) = true from rfl]
    go_wp2
    go_region
    go_wp2
    refine bodyPost_ret (v := .tuple #[.slice Av y.length cv, .agg #[.int .i64 0, .int .i64 0]]) (by simp [results, Try.results44, go_sem, f0, f1]) rfl ⟨_, rfl, ?_, ?_⟩
    · exact (Own.far (p := ⟨w.heap.size + 1, 1, none⟩) (Own.far (p := ⟨w.heap.size + 1, 0, none⟩) ho (by show w.heap.size + 1 < w.heap.size + 2; omega) _) (by show w.heap.size + 1 < w.heap.size + 2; omega) _).base (fun g hg => by have := Own.ge ho g hg; omega)
    · exact (hbd.drew.setCell (by show w.heap.size ≤ w.heap.size + 1; omega) _).setCell (by show w.heap.size ≤ w.heap.size + 1; omega) _
  · rw [show (c == 0) = false by simpa using hc]
    clear hc
    go_wp2
    go_region
    go_wp2
    refine bodyPost_ret (v := .tuple #[.slice none 0 0, .agg #[.int .i64 c, .int .i64 q]]) (by simp [results, Try.results44, go_sem, f0, f1]) rfl ⟨_, rfl, ?_, ?_⟩
    · exact Own.nil _ _
    · exact (hbd.drew.setCell (by show w.heap.size ≤ w.heap.size + 1; omega) _).setCell (by show w.heap.size ≤ w.heap.size + 1; omega) _
end Go.Proofs.Ytmflnnfgkcmlhaa.Cur


namespace Go.Proofs.Ytmflnnfgkcmlhaa.Cur
open Go.RowKit Mem
set_option linter.unusedVariables false

theorem tln_bd (t : Tk) : 0 ≤ tln t ∧ tln t ≤ 1048576 := tsz_bd _ _ _
def lens (z : List Int) : Nat → Int → Int → Rs Int
  | 0, p, t => (t, p, 0, 0)
  | k + 1, p, t => if (z.length : Int) ≤ p then (t, p, 0, 0) else (tr z p).bind 0 fun u p' => lens z k p' (t + tln u)
theorem lens_stop {z : List Int} {k : Nat} {p t : Int} (h : (z.length : Int) ≤ p) : lens z k p t = (t, p, 0, 0) := by
  cases k with
  | zero => rfl
  | succ k => show (if (z.length : Int) ≤ p then _ else _) = _; rw [if_pos h]
theorem lens_step {z : List Int} {k : Nat} {p t : Int} (h : p < z.length) : lens z (k + 1) p t = (tr z p).bind 0 fun u p' => lens z k p' (t + tln u) := by
  show (if (z.length : Int) ≤ p then _ else _) = _; rw [if_neg (by omega)]
/-- How many bytes all written tokens make, or the code and place of the first fault. -/
def leng (z : List Int) : Rs Int := lens z (z.length + 1) 0 0
def lenv (z : List Int) : Int × Int × Int := if (leng z).2.2.1 = 0 then ((leng z).1, 0, 0) else (0, (leng z).2.2.1, (leng z).2.2.2)

def LStepPost (b oc : Nat) (s : Value) (n : Nat) (t : Int) (g : Rs Tk) (p : Int) (w : World) (e : Ending) (w' : World) : Prop :=
  ∃ u p' c' q', e = .returned (.tuple #[]) ∧ Blk w' oc #[.int .i64 (t + tln u)] 3 ∧ Ks (fun k => k = b ∨ k = oc) w w' ∧ IsRd w' b s p' c' q' ∧ St tk0 n g p 0 0 u p' c' q'

end Go.Proofs.Ytmflnnfgkcmlhaa.Cur

namespace Go.Proofs.Ytmflnnfgkcmlhaa.Cur
open Go.RowKit Mem
set_option linter.unusedVariables false

theorem lenv_good {z : List Int} {k : Nat} {p t : Int} (e : leng z = lens z k p t) (h : (z.length : Int) ≤ p) : lenv z = (t, 0, 0) := by
  unfold lenv; rw [e, lens_stop h]; rfl
theorem lenv_bad {z : List Int} {c q : Int} (h : (leng z).2.2.1 = c ∧ (leng z).2.2.2 = q) (hc : c ≠ 0) : lenv z = (0, c, q) := by
  unfold lenv; rw [h.1, h.2, if_neg hc]

def VisLPost (oc : Nat) (g : Int × Int × Int) (w : World) (e : Ending) (w' : World) : Prop :=
  ∃ t c q, e = .returned (.agg #[.int .i64 c, .int .i64 q]) ∧ Blk w' oc #[.int .i64 t] 3 ∧ Ks (fun k => k = oc) w w' ∧ ((c = 0 ∧ g = (t, 0, 0) ∧ q = 0) ∨ (c ≠ 0 ∧ g = (0, c, q)))

def LnPost (g : Int × Int × Int) (w : World) (e : Ending) (w' : World) : Prop :=
  e = .returned (.tuple #[.int .i64 g.1, .agg #[.int .i64 g.2.1, .int .i64 g.2.2]]) ∧ Below w.heap.size w w'

end Go.Proofs.Ytmflnnfgkcmlhaa.Cur

namespace Go.Proofs.Ytmflnnfgkcmlhaa.Cur
open Go.RowKit Mem
set_option linter.unusedVariables false

/-- How many bytes a token makes, by its first number; 0: it is none. -/
def hv (x : Int) : Int := if (hdv x).2 ≤ 1048576 then (hdv x).2 else 0
theorem rhead_any (x : Int) (w : World) (x0 : 0 ≤ x) (x1 : x < 18446744073709551616) : Calls Try.prog 40 #[.int .u64 x] w fun e w' => e = .returned (.int .i64 (hv x)) ∧ w = w' := by
  have hm0 : 0 ≤ x % 2 ∧ x % 2 < 2 := by omega
  by_cases hcp : x % 2 = 1
  · have hce : (x % 2 == 0) = false := by simp; omega
    have hco : (x % 2 == 1) = true := by simpa using hcp
    have HV : hv x = if x / 2 + 4 ≤ 1048576 then x / 2 + 4 else 0 := by unfold hv hdv; rw [if_pos hcp]
    by_cases hb : x / 2 ≤ 1048572
    · rw [if_pos (by omega)] at HV
      have HV' := Lib.hid HV
      have e3 : IntKind.i64.wrap (x / 2) = x / 2 := IntWalk.i64_in _ (by omega)
      have e4 : IntKind.i64.wrap (x / 2 + 4) = x / 2 + 4 := IntWalk.i64_in _ (by omega)
      clear hcp HV hm0
      go_enter Try.func40, Try.ntmps40
      go_wp2
      go_ret
      exact ⟨by rw [HV'.out]; rfl, rfl⟩
    · rw [if_neg (by omega)] at HV
      have HV' := Lib.hid HV
      clear hcp HV hm0
      go_enter Try.func40, Try.ntmps40
      go_wp2
      go_ret
      exact ⟨by rw [HV'.out]; rfl, rfl⟩
  · have hce : (x % 2 == 0) = true := by simp; omega
    have hco : (x % 2 == 1) = false := by simpa using hcp
    have HV : hv x = if x / 2 + 1 ≤ 1048576 then x / 2 + 1 else 0 := by unfold hv hdv; rw [if_neg hcp]
    by_cases hb : x / 2 < 1048576
    · rw [if_pos (by omega)] at HV
      have HV' := Lib.hid HV
      have e3 : IntKind.i64.wrap (x / 2) = x / 2 := IntWalk.i64_in _ (by omega)
      have e4 : IntKind.i64.wrap (x / 2 + 1) = x / 2 + 1 := IntWalk.i64_in _ (by omega)
      clear hcp HV hm0
      go_enter Try.func40, Try.ntmps40
      go_wp2
      go_ret
      exact ⟨by rw [HV'.out]; rfl, rfl⟩
    · rw [if_neg (by omega)] at HV
      have HV' := Lib.hid HV
      clear hcp HV hm0
      go_enter Try.func40, Try.ntmps40
      go_wp2
      go_ret
      exact ⟨by rw [HV'.out]; rfl, rfl⟩

theorem ex_over {z : List Int} {bound : Int} {y : List Int} {p : Int} (h : (hd z p).2.2.1 = 0) (hb : bound < (y.length : Int) + (hd z p).1.2) : ex z bound y p = ([], 0, 11, p) := by
  obtain ⟨v1, v2, e1⟩ := hd_ok' h
  unfold ex
  rw [Rs.bind_of (v := (hd z p).1) (p' := (hd z p).2.1) (by rw [e1]), if_pos hb]
theorem ex_trbad {z : List Int} {bound : Int} {y : List Int} {p : Int} (hn : ¬ ((hd z p).2.2.1 = 0 ∧ bound < (y.length : Int) + (hd z p).1.2)) (h : (tr z p).2.2.1 ≠ 0) :
    (ex z bound y p).2.2.1 = (tr z p).2.2.1 ∧ (ex z bound y p).2.2.2 = (tr z p).2.2.2 := by
  by_cases hh : (hd z p).2.2.1 = 0
  · have hb : ¬ bound < (y.length : Int) + (hd z p).1.2 := fun e => hn ⟨hh, e⟩
    obtain ⟨v1, v2, e1⟩ := hd_ok' hh
    rw [tr_hd hh] at h ⊢
    unfold ex
    rw [Rs.bind_of (v := (hd z p).1) (p' := (hd z p).2.1) (by rw [e1]), if_neg hb, Rs.bind_bad h]
    exact ⟨rfl, rfl⟩
  · unfold ex tr
    rw [Rs.bind_bad hh, Rs.bind_bad hh]
    exact ⟨rfl, rfl⟩
theorem ex_trok {z : List Int} {bound : Int} {y : List Int} {p : Int} (hn : ¬ ((hd z p).2.2.1 = 0 ∧ bound < (y.length : Int) + (hd z p).1.2)) (h : tr z p = ((tr z p).1, (tr z p).2.1, 0, 0)) :
    (vg z p).2.2.1 = 0 ∧ ex z bound y p = if (y.length : Int) < (tr z p).1.2.1 then ([], 0, 10, (vg z p).2.1) else (agn 0 id (y ++ (tr z p).1.1) (tr z p).1.2.1 (tr z p).1.2.2.toNat, (tr z p).2.1, 0, 0) := by
  obtain ⟨hh, _⟩ := Rs.bind_ok (show ((hd z p).bind tk0 (trb z)).2.2.1 = 0 by have : (tr z p).2.2.1 = 0 := by rw [h]
                                                                              exact this)
  have hb : ¬ bound < (y.length : Int) + (hd z p).1.2 := fun e => hn ⟨hh, e⟩
  obtain ⟨v1, v2, e1⟩ := hd_ok' hh
  have h2 := h
  rw [tr_hd hh] at h2
  refine ⟨v1, ?_⟩
  unfold ex
  rw [Rs.bind_of (v := (hd z p).1) (p' := (hd z p).2.1) (by rw [e1]), if_neg hb, Rs.bind_of h2, tr_hd hh, show (hd z p).2.1 = (vg z p).2.1 by rw [e1]]


def LB (n m : Nat) (a : Option Addr) (z : List Int) (bound : Int) (R : Int → List Int → Prop) (w : World) (gk : Nat) (v : Value) (wr : World) : Prop :=
  ∃ (k : Nat) (pk : Int) (y : List Int), Own wr (w.heap.size + 2) v y ∧ Blk wr (w.heap.size + 1) (cvs (.slice a n m) pk 0 0) 61 ∧ Blk wr w.heap.size #[.int .i64 0, .int .i64 0] 40 ∧ Below w.heap.size w wr ∧ 0 ≤ pk ∧ pk ≤ n ∧
    gk = (n - pk).toNat + 1 ∧ Hid (R pk y) ∧ Hid ((n : Int) - pk < k ∧ exg z bound = exs z bound k pk y)

theorem exv_at {z : List Int} {bound : Int} {k : Nat} {p : Int} {y : List Int} (e : exg z bound = exs z bound (k + 1) p y) (h : p < z.length) (hc : (ex z bound y p).2.2.1 ≠ 0) : exv z bound = ([], (ex z bound y p).2.2.1, (ex z bound y p).2.2.2) := by
  refine exv_bad ?_ hc
  rw [e, exs_step h, Rs.bind_bad hc]
  exact ⟨rfl, rfl⟩

theorem hv_bd (x : Int) : hv x ≤ 1048576 := by unfold hv; split <;> omega
theorem hd_hv {z : List Int} {p x p1 : Int} (h : vg z p = (x, p1, 0, 0)) (x0 : 0 ≤ x) : (0 < hv x → hd z p = (hdv x, p1, 0, 0) ∧ (hdv x).2 = hv x) ∧ (¬ 0 < hv x → (hd z p).2.2.1 ≠ 0) := by
  have e : hd z p = if 1048576 < (hdv x).2 then ((false, 0), 0, 2, p) else (hdv x, p1, 0, 0) := by unfold hd; rw [Rs.bind_of h]
  have hp : 0 < (hdv x).2 := by unfold hdv; split <;> (simp only; omega)
  unfold hv
  constructor
  · intro h1
    split at h1
    · rename_i h2; rw [if_pos h2, e, if_neg (by omega)]; exact ⟨rfl, rfl⟩
    · exact absurd h1 (by omega)
  · intro h1
    split at h1
    · exact absurd hp h1
    · rename_i h2; rw [e, if_pos (by omega)]; show ¬ (2 : Int) = 0; decide

set_option maxRecDepth 100000 in
set_option maxHeartbeats 4000000 in
theorem rebytes_any (a : Option Addr) (n m : Nat) (z : List Int) (bound : Int) (R : Int → List Int → Prop) (w : World) (hz : Bs w a n z) (ha : a = none → m = 0) (hm : n ≤ m) (hn : n ≤ 100000) (hby : ∀ x ∈ z, 0 ≤ x ∧ x < 256)
    (hR0 : R 0 []) (hRs : ∀ p y, R p y → 0 ≤ p → p < n → (ex z bound y p).2.2.1 = 0 → R (ex z bound y p).2.1 (ex z bound y p).1) (hRl : ∀ p y, R p y → y.length ≤ 800000) :
    Calls Try.prog 18 #[.slice a n m, .int .i64 bound] w (XpPost (exv z bound) w) := by
  have HBY := Lib.hid hby
  have HA := Lib.hid ha
  have HRS := Lib.hid hRs
  have HRL := Lib.hid hRl
  have HR0 := Lib.hid hR0
  clear hby ha hRs hRl hR0
  have hzl := hz.1
  have hF := (Blk.new w #[.int .i64 0, .int .i64 0] 40).alloc (.cells (cvs (.slice a n m) 0 0 0) 61)
  have hC := Blk.new (w.alloc (.cells #[.int .i64 0, .int .i64 0] 40)) (cvs (.slice a n m) 0 0 0) 61
  rw [show (w.alloc (.cells #[.int .i64 0, .int .i64 0] 40)).heap.size = w.heap.size + 1 by simp] at hC
  have hbd := below_two w (.cells #[.int .i64 0, .int .i64 0] 40) (.cells (cvs (.slice a n m) 0 0 0) 61)
  go_enter Try.func18, Try.ntmps18
  go_wp2
  go_loopg [7] ((n : Nat) + 1) (fun gk v wr => LB n m a z bound R w gk v wr)
  case atStart => exact ⟨z.length + 1, 0, [], Own.nil _ _, hC, hF, hbd, by omega, by omega, by simp, HR0, Lib.hid ⟨by omega, rfl⟩⟩
  case round =>
    clear hC hF hbd HR0
    obtain ⟨k, pk, y, ho, hC, hF, hbd, k0, k1, hg, HR, H⟩ := hrel
    obtain ⟨Aw, cw, rfl, _, hnilw, _⟩ := ho.parts
    obtain ⟨c0, c1, c2, c3⟩ := hC.c4
    by_cases hkn : pk = n
    · have hng : ¬ pk < (n : Int) := by omega
      have HE := Lib.hid (exv_good H.out.2 (by omega))
      obtain ⟨f0, f1⟩ := hF.c2
      obtain ⟨g0, g1⟩ := hF.f2
      clear hkn
      go_wp2
      refine bodyPost_ret (v := .tuple #[.slice Aw y.length cw, .agg #[.int .i64 0, .int .i64 0]]) (by simp [results, Try.results18, go_sem, f0, f1]) rfl ⟨_, by rw [HE.out], ?_, ?_⟩
      · rw [HE.out]
        exact (Own.far (p := ⟨w.heap.size, 1, none⟩) (Own.far (p := ⟨w.heap.size, 0, none⟩) ho (by show w.heap.size < w.heap.size + 2; omega) _) (by show w.heap.size < w.heap.size + 2; omega) _).base (fun g hg => by have := Own.ge ho g hg; omega)
      · exact (hbd.setCell (Nat.le_refl _) _).setCell (Nat.le_refl _) _
    · have hgt : pk < (n : Int) := by omega
      have hlt : pk < z.length := by omega
      have HLT := Lib.hid hlt
      obtain ⟨k, rfl⟩ : ∃ k', k = k' + 1 := ⟨k - 1, by have := H.out.1; omega⟩
      have hyl := HRL.out _ _ HR.out
      clear hkn hlt
      go_wp2_with fail
      refine (rread_any _ _ _ _ _ _ _ _ (hz.below hbd) k0 k1 hm (by omega) HBY.out).mono ?_
      rintro e w1 ⟨x, p1, c1', q1, rfl, hb1, hs1⟩
      have hst := hs1.st hz.1 k0 k1 HBY.out
      obtain ⟨x0, x1⟩ := rd_lt hs1 hz.1 k0 k1 HBY.out
      obtain ⟨p10, p11⟩ := hst.place
      have HS := Lib.hid hst
      replace ho := ho.below hb1
      replace hF := hF.below hb1
      replace hC := hC.below hb1
      replace hbd := hbd.trans (hb1.mono hbd.size)
      clear hs1 hst hb1 c0 c1 c2 c3
      have hbD := below_one w1 (.cells (cvs (.slice a n m) p1 c1' q1) 61)
      have hD := Blk.new w1 (cvs (.slice a n m) p1 c1' q1) 61
      replace ho := ho.below hbD
      replace hF := hF.below hbD
      replace hC := hC.below hbD
      replace hbd := hbd.trans (hbD.mono hbd.size)
      obtain ⟨d0, d1, d2, d3⟩ := hD.c4
      obtain ⟨c0, c1, c2, c3⟩ := hC.c4
      clear hbD
      have hvb := hv_bd x
      obtain ⟨hh, hhx⟩ : ∃ hh, hh = hv x := ⟨_, rfl⟩
      rw [← hhx] at hvb
      have HHX := Lib.hid hhx
      clear hhx
      by_cases hc1 : c1' = 0
      · have hcb : (c1' == 0) = true := by simpa using hc1
        subst hc1
        obtain ⟨_, g0, gv, gp, gq⟩ := HS.out.good
        have hvg : vg z pk = (x, p1, 0, 0) := by rw [vg_shape g0, gv, gp]
        obtain ⟨q1', q2'⟩ := hd_hv hvg x0
        rw [← HHX.out] at q1' q2'
        clear g0 gv gp
        by_cases hpos : 0 < hh
        · obtain ⟨r1, r2⟩ := q1' hpos
          have e1 : IntKind.i64.wrap ((y.length : Int) + hh) = y.length + hh := IntWalk.i64_in _ (by omega)
          by_cases hov : bound < (y.length : Int) + hh
          · have HX : Hid (exv z bound = ([], 11, pk)) := Lib.hid (by
              have e := ex_over (z := z) (bound := bound) (y := y) (p := pk) (by rw [r1]) (by rw [r1, r2]; exact hov)
              have := exv_at H.out.2 HLT.out (by rw [e]; show ¬ (11 : Int) = 0; decide)
              rw [this, e])
            have hfq : fq 11 pk = pk := rfl
            clear r1 r2 q1' q2' hvg gq H HS
            go_wp2_with fail
            refine (rhead_any _ _ x0 x1).mono ?_
            rintro e w2 ⟨rfl, rfl⟩
            rw [← HHX.out]
            go_wp2_with fail
            refine (rhead_any _ _ x0 x1).mono ?_
            rintro e w2 ⟨rfl, rfl⟩
            rw [← HHX.out]
            go_wp2_with fail
            refine (rat_any _ _ _).mono ?_
            rintro e w9 ⟨rfl, hb9⟩
            rw [hfq]
            replace hF := hF.below hb9
            replace hbd := hbd.trans (hb9.mono hbd.size)
            clear hb9
            obtain ⟨f0, f1⟩ := hF.c2
            obtain ⟨g0, g1⟩ := hF.f2
            go_wp2
            refine bodyPost_ret (v := .tuple #[.slice none 0 0, .agg #[.int .i64 (11), .int .i64 (pk)]]) (by simp [results, Try.results18, go_sem, f0, f1]) rfl ⟨_, by rw [HX.out], by rw [HX.out]; exact Own.nil _ _, ?_⟩
            exact (hbd.setCell (Nat.le_refl _) _).setCell (Nat.le_refl _) _
          · have HN : Hid (¬ ((hd z pk).2.2.1 = 0 ∧ bound < (y.length : Int) + (hd z pk).1.2)) := Lib.hid (fun ⟨_, h⟩ => hov (by rw [r1, r2] at h; exact h))
            clear r1 r2 q1' q2' hvg gq
            go_wp2_with fail
            refine (rhead_any _ _ x0 x1).mono ?_
            rintro e w2 ⟨rfl, rfl⟩
            rw [← HHX.out]
            go_wp2_with fail
            refine (rhead_any _ _ x0 x1).mono ?_
            rintro e w2 ⟨rfl, rfl⟩
            rw [← HHX.out]
            go_wp2_with fail
            clear e1 hov hpos hcb
            refine (rtread_any _ _ _ _ _ _ _ _ (hz.below hbd) HA.out k0 k1 hm (by omega) HBY.out).mono ?_
            rintro e w3 ⟨v, t, p2, c2', q2, rfl, ho3, hb3, hs3⟩
            obtain ⟨p20, p21⟩ := hs3.place
            have HS3 := Lib.hid hs3
            obtain ⟨Au, mu, rfl, _, hnilu, _⟩ := ho3.parts
            replace ho := ho.below hb3
            replace hF := hF.below hb3
            replace hC := hC.below hb3
            replace hD := hD.below hb3
            replace hbd := hbd.trans (hb3.mono hbd.size)
            clear hs3 hb3 c0 c1 c2 c3 d0 d1 d2 d3
            have hDl := hD.lt
            go_upto_region 8 with (fail)
            have hb4 := below_two w3 (.cells (cvs (.slice a n m) p2 c2' q2) 61) (.cells #[.slice Au t.1.length mu, .int .i64 t.2.1, .int .i64 t.2.2] 33)
            have hE := (Blk.new w3 (cvs (.slice a n m) p2 c2' q2) 61).alloc (.cells #[.slice Au t.1.length mu, .int .i64 t.2.1, .int .i64 t.2.2] 33)
            have hX := Blk.new (w3.alloc (.cells (cvs (.slice a n m) p2 c2' q2) 61)) #[.slice Au t.1.length mu, .int .i64 t.2.1, .int .i64 t.2.2] 33
            rw [show (w3.alloc (.cells (cvs (.slice a n m) p2 c2' q2) 61)).heap.size = w3.heap.size + 1 by simp] at hX
            have hC3l := hC.lt
            replace ho := ho.below hb4
            replace ho3 := ho3.below hb4
            replace hF := hF.below hb4
            replace hC := hC.below hb4
            replace hD := hD.below hb4
            replace hbd := hbd.trans (hb4.mono hbd.size)
            generalize (w3.alloc (.cells (cvs (.slice a n m) p2 c2' q2) 61)).alloc (.cells #[.slice Au t.1.length mu, .int .i64 t.2.1, .int .i64 t.2.2] 33) = w4 at *
            clear hb4
            generalize w3.heap.size = X at *
            obtain ⟨e0', e1', e2', e3'⟩ := hE.c4
            by_cases hc2 : c2' = 0
            · have hcb2 : (c2' != 0) = false := by simpa using hc2
              subst hc2
              obtain ⟨_, g0, gv, gp, gq⟩ := HS3.out.good
              obtain ⟨t1, t2, t3, t4, t5, _⟩ := tr_once HBY.out k0 (by omega) g0
              obtain ⟨v1, hex⟩ := ex_trok HN.out t3
              have hp1 := St.pl HS.out v1
              rw [← gv, ← hp1, ← gp] at hex
              rw [← gv] at t4 t5
              rw [← gp] at t1
              subst gq
              have HEX := Lib.hid hex
              have HT4 := Lib.hid t4
              have HT1 := Lib.hid t1
              have hto := t5.2
              clear g0 gv gp t1 t2 t3 t4 t5 v1 hp1 hex HS3 HS
              obtain ⟨x0', x1', x2'⟩ := hX.c3
              obtain ⟨d0, d1, d2, d3⟩ := hD.c4
              by_cases hof : (y.length : Int) < t.2.1
              · have HX : Hid (exv z bound = ([], 10, p1)) := Lib.hid (by
                  have e := HEX.out
                  rw [if_pos hof] at e
                  have := exv_at H.out.2 HLT.out (by rw [e]; show ¬ (10 : Int) = 0; decide)
                  rw [this, e])
                have hfq : fq 10 p1 = p1 := rfl
                clear HEX HT4 H
                go_wp2_with fail
                refine (rat_any _ _ _).mono ?_
                rintro e w9 ⟨rfl, hb9⟩
                rw [hfq]
                replace hF := hF.below hb9
                replace hbd := hbd.trans (hb9.mono hbd.size)
                clear hb9
                obtain ⟨f0, f1⟩ := hF.c2
                obtain ⟨g0, g1⟩ := hF.f2
                go_wp2
                refine bodyPost_ret (v := .tuple #[.slice none 0 0, .agg #[.int .i64 (10), .int .i64 (p1)]]) (by simp [results, Try.results18, go_sem, f0, f1]) rfl ⟨_, by rw [HX.out], by rw [HX.out]; exact Own.nil _ _, ?_⟩
                exact (hbd.setCell (Nat.le_refl _) _).setCell (Nat.le_refl _) _
              · have hex := HEX.out
                rw [if_neg hof] at hex
                have hR2 := HRS.out _ _ HR.out k0 hgt (by rw [hex])
                rw [hex] at hR2
                have hyl2 := HRL.out _ _ hR2
                rw [agn_length, List.length_append] at hyl2
                obtain ⟨l0, l4⟩ : 0 ≤ t.2.2 ∧ (0 < t.2.2 → 1 ≤ t.2.1 ∧ t.1.length = 0) := by
                  have h4 := HT4.out
                  unfold tright trun tcpy at h4
                  rw [Bool.or_eq_true, decide_eq_true_eq, decide_eq_true_eq] at h4
                  rcases h4 with h4 | h4
                  · exact ⟨by omega, fun h => by omega⟩
                  · exact ⟨by omega, fun _ => ⟨by omega, by omega⟩⟩
                obtain ⟨ln, hln⟩ := Int.eq_ofNat_of_zero_le l0
                have hln2 : t.2.2.toNat = ln := by rw [hln]; rfl
                rw [hln2] at hR2 hyl2 hex
                have HR2 := Lib.hid hR2
                have HEX2 : Hid (exg z bound = exs z bound k p2 (agn 0 id (y ++ t.1) t.2.1 ln)) := Lib.hid (by rw [H.out.2, exs_step HLT.out, Rs.bind_of hex])
                have hw := rwith_any Aw y.length cw y Au t.1.length mu t.1 t.2.1 ln w4 ho.bs.2 hnilw ho3.bs.2 hnilu (by omega) (fun h => by rw [hln] at l4; have := l4 (by omega); omega)
                rw [← hln] at hw
                have HLN := Lib.hid hln
                have hCl := hC.lt
                clear HEX hex hR2 hln hln2 l0 l4 hyl2 HT4 d0 d1 d2 d3 hyl
                go_wp2_with fail
                refine hw.mono ?_
                rintro e w5 ⟨v2, rfl, ho5, hb5⟩
                replace ho5 := ho5.base (B' := w.heap.size + 2) (fun g hg => by have := Own.ge ho5 g hg; omega)
                replace hF := hF.below hb5
                replace hC := hC.below hb5
                replace hE := hE.below hb5
                replace hbd := hbd.trans (hb5.mono hbd.size)
                clear e0' e1' e2' e3'
                obtain ⟨c0, c1, c2, c3⟩ := hC.c4
                obtain ⟨f0, f1, f2, f3⟩ := hC.f4
                obtain ⟨e0', e1', e2', e3'⟩ := hE.c4
                obtain ⟨hC5, hk5⟩ := set4 hC (.slice a n m) (.int .i64 p2) (.int .i64 0) (.int .i64 0)
                have hF5 := blk_kp hF hk5 (by omega)
                have ho6 : Own _ _ _ (agn 0 id (y ++ t.1) t.2.1 ln) := own_kp ho5 hk5 (ho5.ne_blk hC (by decide))
                have hbd5 := Kp.below hbd (Nat.le_refl _) hk5 (by omega)
                clear hw hb5 ho ho3 hX hD ho5 x0' x1' x2' hF hbd hk5
                go_wp2
                go_roundg ((n - p2).toNat + 1)
                case measure => have := HT1.out; omega
                case rel => exact ⟨k, p2, _, ho6, hC5, hF5, hbd5, p20, p21, rfl, HR2.out, Lib.hid ⟨by have := H.out.1; have := HT1.out; omega, HEX2.out⟩⟩
            · have hcb2 : (c2' != 0) = true := by simpa using hc2
              obtain ⟨g1, g2, g3⟩ := HS3.out.flt hc2
              have HX : Hid (exv z bound = ([], c2', q2)) := Lib.hid (by
                obtain ⟨h1, h2⟩ := ex_trbad HN.out g1
                have := exv_at H.out.2 HLT.out (by rw [h1]; exact g1)
                rw [this, h1, h2, g2, g3])
              clear g1 g2 g3 HS3 HS hc2 H
              obtain ⟨f0, f1⟩ := hF.c2
              obtain ⟨g0, g1⟩ := hF.f2
              go_wp2
              go_region
              go_wp2
              refine bodyPost_ret (v := .tuple #[.slice none 0 0, .agg #[.int .i64 c2', .int .i64 q2]]) (by simp [results, Try.results18, go_sem, f0, f1]) rfl ⟨_, by rw [HX.out], by rw [HX.out]; exact Own.nil _ _, ?_⟩
              exact (hbd.drew.setCell (Nat.le_refl _) _).setCell (Nat.le_refl _) _
        · have HN : Hid (¬ ((hd z pk).2.2.1 = 0 ∧ bound < (y.length : Int) + (hd z pk).1.2)) := Lib.hid (fun ⟨h, _⟩ => q2' hpos h)
          clear q1' q2' hvg gq
          go_wp2_with fail
          refine (rhead_any _ _ x0 x1).mono ?_
          rintro e w2 ⟨rfl, rfl⟩
          rw [← HHX.out]
          go_wp2_with fail
          clear hpos hcb
          refine (rtread_any _ _ _ _ _ _ _ _ (hz.below hbd) HA.out k0 k1 hm (by omega) HBY.out).mono ?_
          rintro e w3 ⟨v, t, p2, c2', q2, rfl, ho3, hb3, hs3⟩
          obtain ⟨p20, p21⟩ := hs3.place
          have HS3 := Lib.hid hs3
          obtain ⟨Au, mu, rfl, _, hnilu, _⟩ := ho3.parts
          replace ho := ho.below hb3
          replace hF := hF.below hb3
          replace hC := hC.below hb3
          replace hD := hD.below hb3
          replace hbd := hbd.trans (hb3.mono hbd.size)
          clear hs3 hb3 c0 c1 c2 c3 d0 d1 d2 d3
          have hDl := hD.lt
          go_upto_region 8 with (fail)
          have hb4 := below_two w3 (.cells (cvs (.slice a n m) p2 c2' q2) 61) (.cells #[.slice Au t.1.length mu, .int .i64 t.2.1, .int .i64 t.2.2] 33)
          have hE := (Blk.new w3 (cvs (.slice a n m) p2 c2' q2) 61).alloc (.cells #[.slice Au t.1.length mu, .int .i64 t.2.1, .int .i64 t.2.2] 33)
          have hX := Blk.new (w3.alloc (.cells (cvs (.slice a n m) p2 c2' q2) 61)) #[.slice Au t.1.length mu, .int .i64 t.2.1, .int .i64 t.2.2] 33
          rw [show (w3.alloc (.cells (cvs (.slice a n m) p2 c2' q2) 61)).heap.size = w3.heap.size + 1 by simp] at hX
          have hC3l := hC.lt
          replace ho := ho.below hb4
          replace ho3 := ho3.below hb4
          replace hF := hF.below hb4
          replace hC := hC.below hb4
          replace hD := hD.below hb4
          replace hbd := hbd.trans (hb4.mono hbd.size)
          generalize (w3.alloc (.cells (cvs (.slice a n m) p2 c2' q2) 61)).alloc (.cells #[.slice Au t.1.length mu, .int .i64 t.2.1, .int .i64 t.2.2] 33) = w4 at *
          clear hb4
          generalize w3.heap.size = X at *
          obtain ⟨e0', e1', e2', e3'⟩ := hE.c4
          by_cases hc2 : c2' = 0
          · have hcb2 : (c2' != 0) = false := by simpa using hc2
            subst hc2
            obtain ⟨_, g0, gv, gp, gq⟩ := HS3.out.good
            obtain ⟨t1, t2, t3, t4, t5, _⟩ := tr_once HBY.out k0 (by omega) g0
            obtain ⟨v1, hex⟩ := ex_trok HN.out t3
            have hp1 := St.pl HS.out v1
            rw [← gv, ← hp1, ← gp] at hex
            rw [← gv] at t4 t5
            rw [← gp] at t1
            subst gq
            have HEX := Lib.hid hex
            have HT4 := Lib.hid t4
            have HT1 := Lib.hid t1
            have hto := t5.2
            clear g0 gv gp t1 t2 t3 t4 t5 v1 hp1 hex HS3 HS
            obtain ⟨x0', x1', x2'⟩ := hX.c3
            obtain ⟨d0, d1, d2, d3⟩ := hD.c4
            by_cases hof : (y.length : Int) < t.2.1
            · have HX : Hid (exv z bound = ([], 10, p1)) := Lib.hid (by
                have e := HEX.out
                rw [if_pos hof] at e
                have := exv_at H.out.2 HLT.out (by rw [e]; show ¬ (10 : Int) = 0; decide)
                rw [this, e])
              have hfq : fq 10 p1 = p1 := rfl
              clear HEX HT4 H
              go_wp2_with fail
              refine (rat_any _ _ _).mono ?_
              rintro e w9 ⟨rfl, hb9⟩
              rw [hfq]
              replace hF := hF.below hb9
              replace hbd := hbd.trans (hb9.mono hbd.size)
              clear hb9
              obtain ⟨f0, f1⟩ := hF.c2
              obtain ⟨g0, g1⟩ := hF.f2
              go_wp2
              refine bodyPost_ret (v := .tuple #[.slice none 0 0, .agg #[.int .i64 (10), .int .i64 (p1)]]) (by simp [results, Try.results18, go_sem, f0, f1]) rfl ⟨_, by rw [HX.out], by rw [HX.out]; exact Own.nil _ _, ?_⟩
              exact (hbd.setCell (Nat.le_refl _) _).setCell (Nat.le_refl _) _
            · have hex := HEX.out
              rw [if_neg hof] at hex
              have hR2 := HRS.out _ _ HR.out k0 hgt (by rw [hex])
              rw [hex] at hR2
              have hyl2 := HRL.out _ _ hR2
              rw [agn_length, List.length_append] at hyl2
              obtain ⟨l0, l4⟩ : 0 ≤ t.2.2 ∧ (0 < t.2.2 → 1 ≤ t.2.1 ∧ t.1.length = 0) := by
                have h4 := HT4.out
                unfold tright trun tcpy at h4
                rw [Bool.or_eq_true, decide_eq_true_eq, decide_eq_true_eq] at h4
                rcases h4 with h4 | h4
                · exact ⟨by omega, fun h => by omega⟩
                · exact ⟨by omega, fun _ => ⟨by omega, by omega⟩⟩
              obtain ⟨ln, hln⟩ := Int.eq_ofNat_of_zero_le l0
              have hln2 : t.2.2.toNat = ln := by rw [hln]; rfl
              rw [hln2] at hR2 hyl2 hex
              have HR2 := Lib.hid hR2
              have HEX2 : Hid (exg z bound = exs z bound k p2 (agn 0 id (y ++ t.1) t.2.1 ln)) := Lib.hid (by rw [H.out.2, exs_step HLT.out, Rs.bind_of hex])
              have hw := rwith_any Aw y.length cw y Au t.1.length mu t.1 t.2.1 ln w4 ho.bs.2 hnilw ho3.bs.2 hnilu (by omega) (fun h => by rw [hln] at l4; have := l4 (by omega); omega)
              rw [← hln] at hw
              have HLN := Lib.hid hln
              have hCl := hC.lt
              clear HEX hex hR2 hln hln2 l0 l4 hyl2 HT4 d0 d1 d2 d3 hyl
              go_wp2_with fail
              refine hw.mono ?_
              rintro e w5 ⟨v2, rfl, ho5, hb5⟩
              replace ho5 := ho5.base (B' := w.heap.size + 2) (fun g hg => by have := Own.ge ho5 g hg; omega)
              replace hF := hF.below hb5
              replace hC := hC.below hb5
              replace hE := hE.below hb5
              replace hbd := hbd.trans (hb5.mono hbd.size)
              clear e0' e1' e2' e3'
              obtain ⟨c0, c1, c2, c3⟩ := hC.c4
              obtain ⟨f0, f1, f2, f3⟩ := hC.f4
              obtain ⟨e0', e1', e2', e3'⟩ := hE.c4
              obtain ⟨hC5, hk5⟩ := set4 hC (.slice a n m) (.int .i64 p2) (.int .i64 0) (.int .i64 0)
              have hF5 := blk_kp hF hk5 (by omega)
              have ho6 : Own _ _ _ (agn 0 id (y ++ t.1) t.2.1 ln) := own_kp ho5 hk5 (ho5.ne_blk hC (by decide))
              have hbd5 := Kp.below hbd (Nat.le_refl _) hk5 (by omega)
              clear hw hb5 ho ho3 hX hD ho5 x0' x1' x2' hF hbd hk5
              go_wp2
              go_roundg ((n - p2).toNat + 1)
              case measure => have := HT1.out; omega
              case rel => exact ⟨k, p2, _, ho6, hC5, hF5, hbd5, p20, p21, rfl, HR2.out, Lib.hid ⟨by have := H.out.1; have := HT1.out; omega, HEX2.out⟩⟩
          · have hcb2 : (c2' != 0) = true := by simpa using hc2
            obtain ⟨g1, g2, g3⟩ := HS3.out.flt hc2
            have HX : Hid (exv z bound = ([], c2', q2)) := Lib.hid (by
              obtain ⟨h1, h2⟩ := ex_trbad HN.out g1
              have := exv_at H.out.2 HLT.out (by rw [h1]; exact g1)
              rw [this, h1, h2, g2, g3])
            clear g1 g2 g3 HS3 HS hc2 H
            obtain ⟨f0, f1⟩ := hF.c2
            obtain ⟨g0, g1⟩ := hF.f2
            go_wp2
            go_region
            go_wp2
            refine bodyPost_ret (v := .tuple #[.slice none 0 0, .agg #[.int .i64 c2', .int .i64 q2]]) (by simp [results, Try.results18, go_sem, f0, f1]) rfl ⟨_, by rw [HX.out], by rw [HX.out]; exact Own.nil _ _, ?_⟩
            exact (hbd.drew.setCell (Nat.le_refl _) _).setCell (Nat.le_refl _) _
      · have hcb : (c1' == 0) = false := by simpa using hc1
        have HN : Hid (¬ ((hd z pk).2.2.1 = 0 ∧ bound < (y.length : Int) + (hd z pk).1.2)) := Lib.hid (fun ⟨h, _⟩ => (HS.out.flt hc1).1 (hd_ok' h).1)
        clear hc1
        go_wp2_with fail
        clear hcb
        refine (rtread_any _ _ _ _ _ _ _ _ (hz.below hbd) HA.out k0 k1 hm (by omega) HBY.out).mono ?_
        rintro e w3 ⟨v, t, p2, c2', q2, rfl, ho3, hb3, hs3⟩
        obtain ⟨p20, p21⟩ := hs3.place
        have HS3 := Lib.hid hs3
        obtain ⟨Au, mu, rfl, _, hnilu, _⟩ := ho3.parts
        replace ho := ho.below hb3
        replace hF := hF.below hb3
        replace hC := hC.below hb3
        replace hD := hD.below hb3
        replace hbd := hbd.trans (hb3.mono hbd.size)
        clear hs3 hb3 c0 c1 c2 c3 d0 d1 d2 d3
        have hDl := hD.lt
        go_upto_region 8 with (fail)
        have hb4 := below_two w3 (.cells (cvs (.slice a n m) p2 c2' q2) 61) (.cells #[.slice Au t.1.length mu, .int .i64 t.2.1, .int .i64 t.2.2] 33)
        have hE := (Blk.new w3 (cvs (.slice a n m) p2 c2' q2) 61).alloc (.cells #[.slice Au t.1.length mu, .int .i64 t.2.1, .int .i64 t.2.2] 33)
        have hX := Blk.new (w3.alloc (.cells (cvs (.slice a n m) p2 c2' q2) 61)) #[.slice Au t.1.length mu, .int .i64 t.2.1, .int .i64 t.2.2] 33
        rw [show (w3.alloc (.cells (cvs (.slice a n m) p2 c2' q2) 61)).heap.size = w3.heap.size + 1 by simp] at hX
        have hC3l := hC.lt
        replace ho := ho.below hb4
        replace ho3 := ho3.below hb4
        replace hF := hF.below hb4
        replace hC := hC.below hb4
        replace hD := hD.below hb4
        replace hbd := hbd.trans (hb4.mono hbd.size)
        generalize (w3.alloc (.cells (cvs (.slice a n m) p2 c2' q2) 61)).alloc (.cells #[.slice Au t.1.length mu, .int .i64 t.2.1, .int .i64 t.2.2] 33) = w4 at *
        clear hb4
        generalize w3.heap.size = X at *
        obtain ⟨e0', e1', e2', e3'⟩ := hE.c4
        by_cases hc2 : c2' = 0
        · have hcb2 : (c2' != 0) = false := by simpa using hc2
          subst hc2
          obtain ⟨_, g0, gv, gp, gq⟩ := HS3.out.good
          obtain ⟨t1, t2, t3, t4, t5, _⟩ := tr_once HBY.out k0 (by omega) g0
          obtain ⟨v1, hex⟩ := ex_trok HN.out t3
          have hp1 := St.pl HS.out v1
          rw [← gv, ← hp1, ← gp] at hex
          rw [← gv] at t4 t5
          rw [← gp] at t1
          subst gq
          have HEX := Lib.hid hex
          have HT4 := Lib.hid t4
          have HT1 := Lib.hid t1
          have hto := t5.2
          clear g0 gv gp t1 t2 t3 t4 t5 v1 hp1 hex HS3 HS
          obtain ⟨x0', x1', x2'⟩ := hX.c3
          obtain ⟨d0, d1, d2, d3⟩ := hD.c4
          by_cases hof : (y.length : Int) < t.2.1
          · have HX : Hid (exv z bound = ([], 10, p1)) := Lib.hid (by
              have e := HEX.out
              rw [if_pos hof] at e
              have := exv_at H.out.2 HLT.out (by rw [e]; show ¬ (10 : Int) = 0; decide)
              rw [this, e])
            have hfq : fq 10 p1 = p1 := rfl
            clear HEX HT4 H
            go_wp2_with fail
            refine (rat_any _ _ _).mono ?_
            rintro e w9 ⟨rfl, hb9⟩
            rw [hfq]
            replace hF := hF.below hb9
            replace hbd := hbd.trans (hb9.mono hbd.size)
            clear hb9
            obtain ⟨f0, f1⟩ := hF.c2
            obtain ⟨g0, g1⟩ := hF.f2
            go_wp2
            refine bodyPost_ret (v := .tuple #[.slice none 0 0, .agg #[.int .i64 (10), .int .i64 (p1)]]) (by simp [results, Try.results18, go_sem, f0, f1]) rfl ⟨_, by rw [HX.out], by rw [HX.out]; exact Own.nil _ _, ?_⟩
            exact (hbd.setCell (Nat.le_refl _) _).setCell (Nat.le_refl _) _
          · have hex := HEX.out
            rw [if_neg hof] at hex
            have hR2 := HRS.out _ _ HR.out k0 hgt (by rw [hex])
            rw [hex] at hR2
            have hyl2 := HRL.out _ _ hR2
            rw [agn_length, List.length_append] at hyl2
            obtain ⟨l0, l4⟩ : 0 ≤ t.2.2 ∧ (0 < t.2.2 → 1 ≤ t.2.1 ∧ t.1.length = 0) := by
              have h4 := HT4.out
              unfold tright trun tcpy at h4
              rw [Bool.or_eq_true, decide_eq_true_eq, decide_eq_true_eq] at h4
              rcases h4 with h4 | h4
              · exact ⟨by omega, fun h => by omega⟩
              · exact ⟨by omega, fun _ => ⟨by omega, by omega⟩⟩
            obtain ⟨ln, hln⟩ := Int.eq_ofNat_of_zero_le l0
            have hln2 : t.2.2.toNat = ln := by rw [hln]; rfl
            rw [hln2] at hR2 hyl2 hex
            have HR2 := Lib.hid hR2
            have HEX2 : Hid (exg z bound = exs z bound k p2 (agn 0 id (y ++ t.1) t.2.1 ln)) := Lib.hid (by rw [H.out.2, exs_step HLT.out, Rs.bind_of hex])
            have hw := rwith_any Aw y.length cw y Au t.1.length mu t.1 t.2.1 ln w4 ho.bs.2 hnilw ho3.bs.2 hnilu (by omega) (fun h => by rw [hln] at l4; have := l4 (by omega); omega)
            rw [← hln] at hw
            have HLN := Lib.hid hln
            have hCl := hC.lt
            clear HEX hex hR2 hln hln2 l0 l4 hyl2 HT4 d0 d1 d2 d3 hyl
            go_wp2_with fail
            refine hw.mono ?_
            rintro e w5 ⟨v2, rfl, ho5, hb5⟩
            replace ho5 := ho5.base (B' := w.heap.size + 2) (fun g hg => by have := Own.ge ho5 g hg; omega)
            replace hF := hF.below hb5
            replace hC := hC.below hb5
            replace hE := hE.below hb5
            replace hbd := hbd.trans (hb5.mono hbd.size)
            clear e0' e1' e2' e3'
            obtain ⟨c0, c1, c2, c3⟩ := hC.c4
            obtain ⟨f0, f1, f2, f3⟩ := hC.f4
            obtain ⟨e0', e1', e2', e3'⟩ := hE.c4
            obtain ⟨hC5, hk5⟩ := set4 hC (.slice a n m) (.int .i64 p2) (.int .i64 0) (.int .i64 0)
            have hF5 := blk_kp hF hk5 (by omega)
            have ho6 : Own _ _ _ (agn 0 id (y ++ t.1) t.2.1 ln) := own_kp ho5 hk5 (ho5.ne_blk hC (by decide))
            have hbd5 := Kp.below hbd (Nat.le_refl _) hk5 (by omega)
            clear hw hb5 ho ho3 hX hD ho5 x0' x1' x2' hF hbd hk5
            go_wp2
            go_roundg ((n - p2).toNat + 1)
            case measure => have := HT1.out; omega
            case rel => exact ⟨k, p2, _, ho6, hC5, hF5, hbd5, p20, p21, rfl, HR2.out, Lib.hid ⟨by have := H.out.1; have := HT1.out; omega, HEX2.out⟩⟩
        · have hcb2 : (c2' != 0) = true := by simpa using hc2
          obtain ⟨g1, g2, g3⟩ := HS3.out.flt hc2
          have HX : Hid (exv z bound = ([], c2', q2)) := Lib.hid (by
            obtain ⟨h1, h2⟩ := ex_trbad HN.out g1
            have := exv_at H.out.2 HLT.out (by rw [h1]; exact g1)
            rw [this, h1, h2, g2, g3])
          clear g1 g2 g3 HS3 HS hc2 H
          obtain ⟨f0, f1⟩ := hF.c2
          obtain ⟨g0, g1⟩ := hF.f2
          go_wp2
          go_region
          go_wp2
          refine bodyPost_ret (v := .tuple #[.slice none 0 0, .agg #[.int .i64 c2', .int .i64 q2]]) (by simp [results, Try.results18, go_sem, f0, f1]) rfl ⟨_, by rw [HX.out], by rw [HX.out]; exact Own.nil _ _, ?_⟩
          exact (hbd.drew.setCell (Nat.le_refl _) _).setCell (Nat.le_refl _) _
end Go.Proofs.Ytmflnnfgkcmlhaa.Cur

namespace Go.Proofs.Ytmflnnfgkcmlhaa.Cur
open Go.RowKit Mem
set_option linter.unusedVariables false

def LC (n m : Nat) (a : Option Addr) (z : List Int) (w : World) (gk : Nat) (v : Value) (wr : World) : Prop :=
  ∃ (k : Nat) (pk t : Int), v = .int .i64 t ∧ Blk wr (w.heap.size + 1) (cvs (.slice a n m) pk 0 0) 61 ∧ Blk wr w.heap.size #[.int .i64 0, .int .i64 0] 40 ∧ Below w.heap.size w wr ∧ 0 ≤ pk ∧ pk ≤ n ∧
    gk = (n - pk).toNat + 1 ∧ Hid (0 ≤ t ∧ t ≤ 1048576 * pk) ∧ Hid ((n : Int) - pk < k ∧ leng z = lens z k pk t)

theorem lenv_at {z : List Int} {k : Nat} {p t : Int} (e : leng z = lens z (k + 1) p t) (h : p < z.length) (hc : (tr z p).2.2.1 ≠ 0) : lenv z = (0, (tr z p).2.2.1, (tr z p).2.2.2) := by
  refine lenv_bad ?_ hc
  rw [e, lens_step h, Rs.bind_bad hc]
  exact ⟨rfl, rfl⟩

end Go.Proofs.Ytmflnnfgkcmlhaa.Cur
