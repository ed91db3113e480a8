/- Tokens expanded (build), for bytes; Tokens. -/
import Derived.Test.YtklkflfdianbpaaExpB
import Derived.Test.YtklkflfdianbpaaK4
namespace Go.Proofs.Ytklkflfdianbpaa.Cur
open Go.RowKit Mem
set_option linter.unusedVariables false

/-- What the first k tokens make, or the code and place of the first that is wrong. -/
def xp {α : Type} (own : Nat → List α) (d : α) (f : α → α) (T : List Tk) (bound : Int) : Nat → List α × Int × Int
  | 0 => ([], 0, 0)
  | k + 1 => if (xp own d f T bound k).2.1 ≠ 0 then xp own d f T bound k else
      if chk (T.getD k tk0).1.length (T.getD k tk0).2.1 (T.getD k tk0).2.2 ((xp own d f T bound k).1.length) bound ≠ 0 then
        ([], chk (T.getD k tk0).1.length (T.getD k tk0).2.1 (T.getD k tk0).2.2 ((xp own d f T bound k).1.length) bound, k)
      else (agn d f ((xp own d f T bound k).1 ++ own k) (T.getD k tk0).2.1 (T.getD k tk0).2.2.toNat, 0, 0)
section
variable {α : Type} {own : Nat → List α} {d : α} {f : α → α} {T : List Tk} {bound : Int}
theorem xp_stays {k j : Nat} (h : (xp own d f T bound k).2.1 ≠ 0) (hj : k ≤ j) : xp own d f T bound j = xp own d f T bound k := by
  induction j with
  | zero => obtain rfl : k = 0 := by omega
            rfl
  | succ j ih =>
    by_cases hk : k = j + 1
    · rw [hk]
    · have := ih (by omega)
      rw [xp, this, if_pos h]
theorem xp_bad {k n : Nat} {y : List α} (e : xp own d f T bound k = (y, 0, 0)) (hk : k < n) (hc : chk (T.getD k tk0).1.length (T.getD k tk0).2.1 (T.getD k tk0).2.2 y.length bound ≠ 0) :
    xp own d f T bound n = ([], chk (T.getD k tk0).1.length (T.getD k tk0).2.1 (T.getD k tk0).2.2 y.length bound, (k : Int)) := by
  have h : xp own d f T bound (k + 1) = ([], chk (T.getD k tk0).1.length (T.getD k tk0).2.1 (T.getD k tk0).2.2 y.length bound, (k : Int)) := by
    rw [xp, e]
    simp only
    rw [if_neg (by simp), if_pos hc]
  rw [xp_stays (k := k + 1) (by rw [h]; exact hc) (by omega), h]
theorem xp_more {k : Nat} {y : List α} (e : xp own d f T bound k = (y, 0, 0)) (hc : chk (T.getD k tk0).1.length (T.getD k tk0).2.1 (T.getD k tk0).2.2 y.length bound = 0) :
    xp own d f T bound (k + 1) = (agn d f (y ++ own k) (T.getD k tk0).2.1 (T.getD k tk0).2.2.toNat, 0, 0) := by
  rw [xp, e]
  simp only
  rw [if_neg (by simp), if_neg (by rw [hc]; simp)]
end
theorem chk_ok {n : Nat} {o l before bound : Int} (h : chk n o l before bound = 0) : (trun n o l = true ∨ tcpy n o l = true) ∧ before + tsz n o l ≤ bound ∧ o ≤ before := by
  unfold chk at h
  split at h
  · rename_i h1
    rw [Bool.or_eq_true] at h1
    split at h
    · exact absurd h (by decide)
    · split at h
      · exact absurd h (by decide)
      · exact ⟨h1, by omega, by omega⟩
  · exact absurd h (by decide)
theorem chk_run {n : Nat} {o l before bound : Int} (h : chk n o l before bound = 0) : 0 ≤ l ∧ l ≤ 1048576 ∧ before + (n + l) ≤ bound ∧ (0 < l → 1 ≤ o ∧ o ≤ before) ∧ tsz n o l = n + l := by
  obtain ⟨h1, h2, h3⟩ := chk_ok h
  rcases h1 with h1 | h1
  · have e := tsz_run h1
    unfold trun at h1
    rw [decide_eq_true_eq] at h1
    exact ⟨by omega, by omega, by omega, fun h => by omega, by omega⟩
  · have e := tsz_cpy h1
    unfold tcpy at h1
    rw [decide_eq_true_eq] at h1
    exact ⟨by omega, by omega, by omega, fun h => by omega, by omega⟩

theorem own_byte (i : Nat) (bx b o Lr Cr m n : Nat) (Ar : Option Addr) (t : Tk) (w : World) (hx : w.cell? ⟨bx, 0, none⟩ = some (.slice (some ⟨b, o, none⟩) n m)) (hi : i < n) (h : TkC w b (o + i * 3) Ar Lr Cr t) :
    Calls Try.prog 23 #[.int .i64 i, .pointer (some ⟨bx, 0, none⟩)] w fun e w' => e = .returned (.slice Ar Lr Cr) ∧ w = w' := by
  obtain ⟨c0, c1, c2, _⟩ := h
  go_enter Try.func23, Try.ntmps23
  go_wp2
  go_ret
  exact ⟨rfl, rfl⟩

def XpPost (g : List Int × Int × Int) (w : World) (e : Ending) (w' : World) : Prop :=
  ∃ v, e = .returned (.tuple #[v, .agg #[.int .i64 g.2.1, .int .i64 g.2.2]]) ∧ Own w' w.heap.size v g.1 ∧ Below w.heap.size w w'

theorem blk_belowB {w w' : World} {B b : Nat} {cs : Array Value} {t : Nat} (h : Blk w b cs t) (hb : Below B w w') (hB : b < B) : Blk w' b cs t := (hb.block b hB).trans h
/-- What holds whenever the run comes to the label. -/
def BJ (A : Option Addr) (n m bx : Nat) (T : List Tk) (bound : Int) (w : World) (a' : Act) (wr : World) : Prop :=
  ∃ (k : Nat) (y : List Int) (v u12 u13 u14 u15 u16 u17 u18 u19 u20 u21 u22 u23 u24 u25 u26 u27 u28 u29 u30 u31 u32 u33 u34 u35 u36 u37 u38 u39 u40 u41 u42 u43 u44 u45 u46 u47 : Value), a' = { tmps := #[.slice A n m, .int .i64 bound, .func (.func 23) #[] #[.pointer (some ⟨bx, 0, none⟩)], .func (.func 24) #[] #[], undef, undef, undef, undef, .slice none 0 0, .pointer (some ⟨w.heap.size, 0, none⟩), v, .int .i64 k, u12, u13, u14, u15, u16, u17, u18, u19, u20, u21, u22, u23, u24, u25, u26, u27, u28, u29, u30, u31, u32, u33, u34, u35, u36, u37, u38, u39, u40, u41, u42, u43, u44, u45, u46, u47], defers := [] } ∧
    k ≤ n ∧ Own wr (w.heap.size + 1) v y ∧ Blk wr w.heap.size #[.int .i64 0, .int .i64 0] 28 ∧ Below w.heap.size w wr ∧ Hid (xp (fun k => (T.getD k tk0).1) 0 id T bound k = (y, 0, 0)) ∧ Hid (y.length ≤ 800000)

set_option maxRecDepth 100000 in
set_option maxHeartbeats 4000000 in
theorem build_byte (A : Option Addr) (n m bx : Nat) (T : List Tk) (bound : Int) (w : World) (hT : TksL w A n T) (hx : Blk w bx #[.slice A n m] 22) (hok : ∀ t ∈ T, tkok t) (hn : n ≤ 100000) (hb : bound ≤ 800000) :
    Calls Try.prog 22 #[.slice A n m, .int .i64 bound, .func (.func 23) #[] #[.pointer (some ⟨bx, 0, none⟩)], .func (.func 24) #[] #[]] w (XpPost (xp (fun k => (T.getD k tk0).1) 0 id T bound n) w) := by
  have HT := Lib.hid hT
  have HX := Lib.hid hx
  have HOK := Lib.hid hok
  have hF := Blk.new w #[.int .i64 0, .int .i64 0] 28
  have hbF := below_one w (.cells #[.int .i64 0, .int .i64 0] 28)
  clear hT hx hok
  go_enter Try.func22, Try.ntmps22
  go_wp2
  refine jumps_skip 0 (BJ A n m bx T bound w) (fun a' _ => n - (intOf (a'.tmps.getD 11 undef)).toNat) rfl ?_ ?_
  · intro key
    have KEY := Lib.hid key
    clear key
    go_wp2_with fail
    go_step3
    rename_i Kq hKq
    have hJ : BJ A n m bx T bound w { tmps := #[.slice A n m, .int .i64 bound, .func (.func 23) #[] #[.pointer (some ⟨bx, 0, none⟩)], .func (.func 24) #[] #[], undef, undef, undef, undef, .slice none 0 0, .pointer (some ⟨w.heap.size, 0, none⟩), .slice none 0 0, .int .i64 0, undef, undef, undef, undef, undef, undef, undef, undef, undef, undef, undef, undef, undef, undef, undef, undef, undef, undef, undef, undef, undef, undef, undef, undef, undef, undef, undef, undef, undef, undef, undef, undef, undef, undef, undef, undef], defers := [] } (w.alloc (.cells #[.int .i64 0, .int .i64 0] 28)) :=
      ⟨0, [], _, _, _, _, _, _, _, _, _, _, _, _, _, _, _, _, _, _, _, _, _, _, _, _, _, _, _, _, _, _, _, _, _, _, _, _, _, rfl, by omega, Own.nil _ _, hF, hbF, Lib.hid rfl, Lib.hid (by simp)⟩
    exact hKq _ _ (KEY.out _ _ hJ)
  · clear hF hbF
    rintro a' wr ⟨k, y, v, u12, u13, u14, u15, u16, u17, u18, u19, u20, u21, u22, u23, u24, u25, u26, u27, u28, u29, u30, u31, u32, u33, u34, u35, u36, u37, u38, u39, u40, u41, u42, u43, u44, u45, u46, u47, rfl, hk, hu, hF, hbd, HY, HYB⟩
    obtain ⟨Av, cv, rfl, _⟩ := hu.parts
    by_cases hlt : k < n
    · obtain ⟨b, o, Ar, Lr, Cr, rfl, hC, hnil, hle⟩ := (HT.out.below hbd).2 k hlt
      have hkb : ((k : Int) == (n : Int)) = false := by simp; omega
      have hokt := tkok_getD HOK.out k
      have hlen := hC.2.2.2.1
      have hy8 : y.length ≤ 800000 := HYB.out
      have HXP := Lib.hid (fun hc => xp_bad (own := fun k => (T.getD k tk0).1) (d := 0) (f := id) (n := n) HY.out hlt hc)
      have HXM := Lib.hid (fun hc => xp_more (own := fun k => (T.getD k tk0).1) (d := 0) (f := id) HY.out hc)
      generalize T.getD k tk0 = t at *
      rw [hlen] at HXP HXM
      obtain ⟨hokb, hoko, _⟩ := hokt
      have hX := Blk.new wr #[.slice Ar Lr Cr, .int .i64 t.2.1, .int .i64 t.2.2] 34
      have hbX := below_one wr (.cells #[.slice Ar Lr Cr, .int .i64 t.2.1, .int .i64 t.2.2] 34)
      obtain ⟨x0, x1, x2⟩ := hX.c3
      have hC2 := hC.below hbX (Nat.le_refl _)
      have huX := hu.below hbX
      have hFX := hF.below hbX
      have hbdX := hbd.trans (hbX.mono hbd.size)
      obtain ⟨c0, c1, c2, _⟩ := hC
      clear hu hF hbX
      go_wp2_with fail
      refine (check_any _ _ _ _ _ _ _ _ (by omega) (by omega) hoko).mono ?_
      rintro e w1 ⟨rfl, hb1⟩
      obtain ⟨cc, hcc⟩ : ∃ cc, cc = chk Lr t.2.1 t.2.2 y.length bound := ⟨_, rfl⟩
      rw [← hcc] at HXP HXM ⊢
      replace huX := huX.below hb1
      replace hFX := hFX.below hb1
      replace hC2 := hC2.below hb1 (Nat.le_refl _)
      have hX1 := hX.below hb1
      replace hbdX := hbdX.trans (hb1.mono hbdX.size)
      clear hb1 x0 x1 x2 c0 c1 c2 hX
      by_cases hc : cc = 0
      · obtain ⟨l0, l1, l2, l3, _⟩ := chk_run (hcc.symm.trans hc)
        have HXN := Lib.hid (HXM.out hc)
        have hcb : (cc != 0) = false := by simpa using hc
        obtain ⟨ln, hln⟩ := Int.eq_ofNat_of_zero_le l0
        have HX2 := (HX.out.below hbdX).c1
        clear hc hcc HXP HXM
        go_wp2_with fail
        refine (own_byte k bx b o Lr Cr m n Ar t _ HX2 hlt hC2).mono ?_
        rintro e w2 ⟨rfl, rfl⟩
        obtain ⟨_, _, _, hlit⟩ := hC2
        have hgeA := own_ge huX
        have HLEN : Hid (y.length + Lr ≤ 1000000) := Lib.hid (by omega)
        have hB9 : w.heap.size + 1 ≤ w1.heap.size := hFX.lt
        have hXK := hX1
        go_wp2_with (at_builtin; go_must (refine list_append_gr rfl (.tmp 34) (.tmp 37) rfl (w.heap.size + 1) _ y rfl huX _ Lr Cr t.1 rfl hlit hnil HLEN.out hB9 ?_; intro v' w10 ho' hg' hgr; have hF10 := hFX.ks (Ks.of_grown (S := fun k => w.heap.size + 1 ≤ k) hg' hgeA) (by omega); have hbd10 := hbdX.grown hg' (by have := hB9; omega) (fun k hk => by have := hgeA k hk; omega); have hX10 := hX1.ks (Ks.of_grown (S := fun k => (Value.slice Av y.length cv).ownBlock = some k) hg' (fun k e => e)) (own_ne_blk huX hX1 (by decide)); obtain ⟨x0, x1, x2⟩ := hX10.c3; clear huX hFX hbdX hgeA hg' hgr hXK hlit hX1 hX10))
        have hBT : w.heap.size + 1 ≤ w10.heap.size := hF10.lt
        rw [hln] at l3 HXN l2
        refine (again_byte (w.heap.size + 1) v' (y ++ t.1) t.2.1 ln _ ho' hBT (by rw [List.length_append]; omega) (fun h => by rw [List.length_append]; have := l3 (by omega); omega)).mono ?_
        rintro e w12 ⟨v12, rfl, ho12, hb12⟩
        replace hF10 := blk_belowB hF10 hb12 (Nat.lt_succ_self _)
        replace hbd10 := hbd10.trans (hb12.mono (Nat.le_succ _))
        go_wp2_with fail
        go_step3
        refine ⟨rfl, ⟨k + 1, _, _, _, _, _, _, _, _, _, _, _, _, _, _, _, _, _, _, _, _, _, _, _, _, _, _, _, _, _, _, _, _, _, _, _, _, _, _, rfl, hlt, ho12, hF10, hbd10, by rw [Int.toNat_natCast] at HXN; exact HXN, Lib.hid (by rw [agn_length, List.length_append]; omega)⟩, ?_⟩
        simp [intOf]
        omega
      · have HXN := Lib.hid (HXP.out hc)
        have hcb : (cc != 0) = true := by simpa using hc
        have hfq : fq cc k = k := by unfold fq; rw [if_neg hc]
        clear hc hcc HXP HXM huX hX1 hC2
        go_wp2_with fail
        refine (fat_any _ _ _).mono ?_
        rintro e w2 ⟨rfl, hb2⟩
        rw [hfq]
        replace hFX := hFX.below hb2
        replace hbdX := hbdX.trans (hb2.mono hbdX.size)
        obtain ⟨f0, f1⟩ := hFX.c2
        obtain ⟨g0, g1⟩ := hFX.f2
        clear hb2
        go_wp2
        simp only [Exit.jump]
        refine bodyPost_ret (v := .tuple #[.slice none 0 0, .agg #[.int .i64 cc, .int .i64 k]]) (by simp [results, Try.results22, go_sem, f0, f1]) rfl ⟨_, by rw [HXN.out], by rw [HXN.out]; exact Own.nil _ _, ?_⟩
        exact (hbdX.setCell (Nat.le_refl _) _).setCell (Nat.le_refl _) _
    · obtain rfl : k = n := by omega
      obtain ⟨f0, f1⟩ := hF.c2
      obtain ⟨g0, g1⟩ := hF.f2
      go_wp2
      simp only [Exit.jump]
      refine bodyPost_ret (v := .tuple #[.slice Av y.length cv, .agg #[.int .i64 0, .int .i64 0]]) (by simp [results, Try.results22, go_sem, f0, f1]) rfl ⟨_, by rw [HY.out], by rw [HY.out]; exact (Own.far (Own.far hu (by show w.heap.size < _; have := hF.lt; omega) _) (by show w.heap.size < _; have := hF.lt; omega) _).base (fun g hg => by have := Own.ge hu g hg; omega), ?_⟩
      exact (hbd.setCell (Nat.le_refl _) _).setCell (Nat.le_refl _) _
end Go.Proofs.Ytklkflfdianbpaa.Cur
