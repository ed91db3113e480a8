/- Tokens expanded (build) for the depths of copies; Deep. -/
import Derived.Test.YtklkflfdianbpaaExpP
namespace Go.Proofs.Ytklkflfdianbpaa.Cur
open Go.RowKit Mem
set_option linter.unusedVariables false

/-- A run's own depths. -/
def zro (T : List Tk) (k : Nat) : List Int := List.replicate (T.getD k tk0).1.length 0
theorem OwnI.far {w : World} {B : Nat} {v : Value} {z : List Int} (h : OwnI w B v z) {p : Addr} (hp : p.block < B) (u : Value) : OwnI (w.setCell p u) B v z :=
  own_block h fun k hk => Below.heap_setCell w p u k (by have := own_gej h k hk; omega)
theorem made_zero (n : Nat) : madeCells #[.int .i64 0] n = (iv (List.replicate n 0)).toArray := by
  unfold madeCells
  apply Array.ext
  · simp
  · intro i h1 h2
    simp [Nat.mod_one]
theorem deep_own (i bx b o Lr Cr m n : Nat) (Ar : Option Addr) (t : Tk) (w : World) (hx : w.cell? ⟨bx, 0, none⟩ = some (.slice (some ⟨b, o, none⟩) n m)) (hi : i < n) (hL : Lr ≤ 2000000) (h : TkC w b (o + i * 3) Ar Lr Cr t) :
    Calls Try.prog 44 #[.int .i64 i, .pointer (some ⟨bx, 0, none⟩)] w fun e w' => ∃ g, e = .returned (.slice (some ⟨g, 0, none⟩) Lr Lr) ∧ Rw w' (some ⟨g, 0, none⟩) (iv (List.replicate Lr 0)) ∧ Below w.heap.size w w' := by
  obtain ⟨c0, c1, c2, _⟩ := h
  obtain ⟨i0, hi0, hz0, hz1, hz2⟩ := info_parts (P := Try.prog) (e := 3) (z := .int .i64 0) (size := 1) (bytes := 8) (by kernel_rfl)
  have hmk := fun w => run_make (P := Try.prog) w 44 3 i0 (.int .i64 0) Try.underlying44 hi0 hz0 .i64 .i64 (Lr : Int) (Lr : Int) (by omega) (by omega) (by rw [hz2]; omega) (by omega)
  go_enter Try.func44, Try.ntmps44
  go_wp2
  go_ret
  refine ⟨_, rfl, ?_, below_one w _⟩
  rw [made_zero]
  exact rw_newj w (iv (List.replicate Lr 0)) 3

def XpIPost (g : List Int × Int × Int) (w : World) (e : Ending) (w' : World) : Prop :=
  ∃ v, e = .returned (.tuple #[v, .agg #[.int .i64 g.2.1, .int .i64 g.2.2]]) ∧ OwnI w' w.heap.size v g.1 ∧ Below w.heap.size w w'

/-- What holds whenever the run comes to the label. -/
def BJI (A : Option Addr) (n m bx : Nat) (T : List Tk) (bound : Int) (w : World) (a' : Act) (wr : World) : Prop :=
  ∃ (k : Nat) (y : List Int) (v u12 u13 u14 u15 u16 u17 u18 u19 u20 u21 u22 u23 u24 u25 u26 u27 u28 u29 u30 u31 u32 u33 u34 u35 u36 u37 u38 u39 u40 u41 u42 u43 u44 u45 u46 u47 : Value), a' = { tmps := #[.slice A n m, .int .i64 bound, .func (.func 44) #[] #[.pointer (some ⟨bx, 0, none⟩)], .func (.func 45) #[] #[], undef, undef, undef, undef, .slice none 0 0, .pointer (some ⟨w.heap.size, 0, none⟩), v, .int .i64 k, u12, u13, u14, u15, u16, u17, u18, u19, u20, u21, u22, u23, u24, u25, u26, u27, u28, u29, u30, u31, u32, u33, u34, u35, u36, u37, u38, u39, u40, u41, u42, u43, u44, u45, u46, u47], defers := [] } ∧
    k ≤ n ∧ OwnI wr (w.heap.size + 1) v y ∧ Blk wr w.heap.size #[.int .i64 0, .int .i64 0] 28 ∧ Below w.heap.size w wr ∧ Hid (xp (zro T) 0 (· + 1) T bound k = (y, 0, 0)) ∧ Hid (y.length ≤ 1048576 ∧ ∀ x ∈ y, 0 ≤ x ∧ x ≤ y.length)

set_option maxRecDepth 100000 in
set_option maxHeartbeats 4000000 in
theorem build_int (A : Option Addr) (n m bx : Nat) (T : List Tk) (bound : Int) (w : World) (hT : TksL w A n T) (hx : Blk w bx #[.slice A n m] 22) (hok : ∀ t ∈ T, tkok t) (hn : n ≤ 100000) (hb : bound ≤ 1048576) :
    Calls Try.prog 46 #[.slice A n m, .int .i64 bound, .func (.func 44) #[] #[.pointer (some ⟨bx, 0, none⟩)], .func (.func 45) #[] #[]] w (XpIPost (xp (zro T) 0 (· + 1) T bound n) w) := by
  have HT := Lib.hid hT
  have HX := Lib.hid hx
  have HOK := Lib.hid hok
  have hF := Blk.new w #[.int .i64 0, .int .i64 0] 28
  have hbF := below_one w (.cells #[.int .i64 0, .int .i64 0] 28)
  clear hT hx hok
  go_enter Try.func46, Try.ntmps46
  go_wp2
  refine jumps_skip 0 (BJI A n m bx T bound w) (fun a' _ => n - (intOf (a'.tmps.getD 11 undef)).toNat) rfl ?_ ?_
  · intro key
    have KEY := Lib.hid key
    clear key
    go_wp2_with fail
    go_step3
    rename_i Kq hKq
    have hJ : BJI A n m bx T bound w { tmps := #[.slice A n m, .int .i64 bound, .func (.func 44) #[] #[.pointer (some ⟨bx, 0, none⟩)], .func (.func 45) #[] #[], undef, undef, undef, undef, .slice none 0 0, .pointer (some ⟨w.heap.size, 0, none⟩), .slice none 0 0, .int .i64 0, undef, undef, undef, undef, undef, undef, undef, undef, undef, undef, undef, undef, undef, undef, undef, undef, undef, undef, undef, undef, undef, undef, undef, undef, undef, undef, undef, undef, undef, undef, undef, undef, undef, undef, undef, undef], defers := [] } (w.alloc (.cells #[.int .i64 0, .int .i64 0] 28)) :=
      ⟨0, [], _, _, _, _, _, _, _, _, _, _, _, _, _, _, _, _, _, _, _, _, _, _, _, _, _, _, _, _, _, _, _, _, _, _, _, _, _, rfl, by omega, OwnI.nil _ _, hF, hbF, Lib.hid rfl, Lib.hid ⟨by simp, by simp⟩⟩
    exact hKq _ _ (KEY.out _ _ hJ)
  · clear hF hbF
    rintro a' wr ⟨k, y, v, u12, u13, u14, u15, u16, u17, u18, u19, u20, u21, u22, u23, u24, u25, u26, u27, u28, u29, u30, u31, u32, u33, u34, u35, u36, u37, u38, u39, u40, u41, u42, u43, u44, u45, u46, u47, rfl, hk, hu, hF, hbd, HY, HYB⟩
    obtain ⟨Av, cv, rfl⟩ := hu.slice
    by_cases hlt : k < n
    · obtain ⟨b, o, Ar, Lr, Cr, rfl, hC, hnil, hle⟩ := (HT.out.below hbd).2 k hlt
      have hkb : ((k : Int) == (n : Int)) = false := by simp; omega
      have hokt := tkok_getD HOK.out k
      have hlen := hC.2.2.2.1
      have hy8 : y.length ≤ 1048576 := HYB.out.1
      have HXP := Lib.hid (fun hc => xp_bad (own := zro T) (d := 0) (f := (· + 1)) (n := n) HY.out hlt hc)
      have HXM := Lib.hid (fun hc => xp_more (own := zro T) (d := 0) (f := (· + 1)) HY.out hc)
      have hzk : zro T k = List.replicate Lr 0 := by unfold zro; rw [hlen]
      rw [hzk] at HXM
      generalize T.getD k tk0 = t at *
      rw [hlen] at HXP HXM
      obtain ⟨hokb, hoko, _⟩ := hokt
      have hX := Blk.new wr #[.slice Ar Lr Cr, .int .i64 t.2.1, .int .i64 t.2.2] 34
      have hbX := below_one wr (.cells #[.slice Ar Lr Cr, .int .i64 t.2.1, .int .i64 t.2.2] 34)
      obtain ⟨x0, x1, x2⟩ := hX.c3
      have hC2 := hC.below hbX (Nat.le_refl _)
      have huX : OwnI _ _ _ y := own_below hu hbX
      have hFX := hF.below hbX
      have hbdX := hbd.trans (hbX.mono hbd.size)
      obtain ⟨c0, c1, c2, _⟩ := hC
      clear hu hF hbX
      go_wp2_with fail
      refine (check_any _ _ _ _ _ _ _ _ (by omega) (by omega) hoko).mono ?_
      rintro e w1 ⟨rfl, hb1⟩
      obtain ⟨cc, hcc⟩ : ∃ cc, cc = chk Lr t.2.1 t.2.2 y.length bound := ⟨_, rfl⟩
      rw [← hcc] at HXP HXM ⊢
      replace huX : OwnI _ _ _ y := own_below huX hb1
      replace hFX := hFX.below hb1
      replace hC2 := hC2.below hb1 (Nat.le_refl _)
      have hX1 := hX.below hb1
      replace hbdX := hbdX.trans (hb1.mono hbdX.size)
      clear hb1 x0 x1 x2 c0 c1 c2 hX
      by_cases hc : cc = 0
      · obtain ⟨l0, l1, l2, l3, _⟩ := chk_run (hcc.symm.trans hc)
        have HXN := Lib.hid (HXM.out hc)
        have hcb : (cc != 0) = false := by simpa using hc
        obtain ⟨ln, hln⟩ := Int.eq_ofNat_of_zero_le l0
        have HX2 := (HX.out.below hbdX).c1
        clear hc hcc HXP HXM
        go_wp2_with fail
        refine (deep_own k bx b o Lr Cr m n Ar t _ HX2 hlt (by omega) hC2).mono ?_
        rintro e w2 ⟨g, rfl, hsA, hb2⟩
        replace huX : OwnI _ _ _ y := own_below huX hb2
        replace hFX := hFX.below hb2
        replace hbdX := hbdX.trans (hb2.mono hbdX.size)
        replace hX1 := hX1.below hb2
        have hgeA := own_gej huX
        have HLEN : Hid (y.length + Lr ≤ 4000000) := Lib.hid (by omega)
        have hB9 : w.heap.size + 1 ≤ w2.heap.size := hFX.lt
        have hXK := hX1
        clear hC2 hb2
        go_wp2_with (at_builtin; go_must (refine list_append_rl kindJ rfl (.tmp 34) (.tmp 37) rfl (w.heap.size + 1) _ _ _ rfl huX _ Lr Lr (iv (List.replicate Lr 0)) rfl (by simp) hsA (fun h => by cases h) (by simp [Value.oneCell']) HLEN.out (by omega) hB9 ?_; intro v' w10 ho' hg' hgr; have hF10 := hFX.ks (Ks.of_grown (S := fun k => w.heap.size + 1 ≤ k) hg' hgeA) (by omega); have hbd10 := hbdX.grown hg' (by have := hB9; omega) (fun k hk => by have := hgeA k hk; omega); have hX10 := hX1.ks (Ks.of_grown (S := fun k => (Value.slice Av y.length cv).ownBlock = some k) hg' (fun k e => e)) (own_ne_blk huX hX1 (by decide)); obtain ⟨x0, x1, x2⟩ := hX10.c3; have H9 : OwnI w10 (w.heap.size + 1) v' (y ++ List.replicate Lr 0) := (by unfold OwnI; rw [List.length_append, List.length_replicate]; unfold iv; rw [List.map_append]; exact ho'); clear huX hFX hbdX hgeA hg' hgr hXK hX1 hX10 ho' hsA))
        have hBT : w.heap.size + 1 ≤ w10.heap.size := hF10.lt
        rw [hln] at l3 HXN l2
        have HZB : Hid (∀ x ∈ y ++ List.replicate Lr 0, 0 ≤ x ∧ x ≤ ((y.length + Lr : Nat) : Int)) := Lib.hid (fun x hx => by
          rcases List.mem_append.1 hx with h | h
          · have := HYB.out.2 x h
            omega
          · have := List.eq_of_mem_replicate h
            omega)
        refine (again_int (w.heap.size + 1) v' (y ++ List.replicate Lr 0) t.2.1 ln _ H9 hBT (by rw [List.length_append, List.length_replicate]; omega) (fun h => by rw [List.length_append, List.length_replicate]; have := l3 (by omega); omega) (fun x hx => by have := HZB.out x hx; omega)).mono ?_
        rintro e w12 ⟨v12, rfl, ho12, hb12⟩
        replace hF10 := blk_belowB hF10 hb12 (Nat.lt_succ_self _)
        replace hbd10 := hbd10.trans (hb12.mono (Nat.le_succ _))
        go_wp2_with fail
        go_step3
        refine ⟨rfl, ⟨k + 1, _, _, _, _, _, _, _, _, _, _, _, _, _, _, _, _, _, _, _, _, _, _, _, _, _, _, _, _, _, _, _, _, _, _, _, _, _, _, rfl, hlt, ho12, hF10, hbd10, by rw [Int.toNat_natCast] at HXN; exact HXN, Lib.hid ⟨by unfold dp; rw [agn_length, List.length_append, List.length_replicate]; omega, fun x hx => by have h1 := dp_bd HZB.out (by omega) ln x hx; unfold dp; rw [agn_length, List.length_append, List.length_replicate]; omega⟩⟩, ?_⟩
        simp [intOf]
        omega
      · have HXN := Lib.hid (HXP.out hc)
        have hcb : (cc != 0) = true := by simpa using hc
        have hfq : fq cc k = k := by unfold fq; rw [if_neg hc]
        clear hc hcc HXP HXM huX hX1 hC2
        go_wp2_with fail
        refine (fat_any _ _ _).mono ?_
        rintro e w2 ⟨rfl, hb2⟩
        rw [hfq]
        replace hFX := hFX.below hb2
        replace hbdX := hbdX.trans (hb2.mono hbdX.size)
        obtain ⟨f0, f1⟩ := hFX.c2
        obtain ⟨g0, g1⟩ := hFX.f2
        clear hb2
        go_wp2
        simp only [Exit.jump]
        refine bodyPost_ret (v := .tuple #[.slice none 0 0, .agg #[.int .i64 cc, .int .i64 k]]) (by simp [results, Try.results46, go_sem, f0, f1]) rfl ⟨_, by rw [HXN.out], by rw [HXN.out]; exact OwnI.nil _ _, ?_⟩
        exact (hbdX.setCell (Nat.le_refl _) _).setCell (Nat.le_refl _) _
    · obtain rfl : k = n := by omega
      obtain ⟨f0, f1⟩ := hF.c2
      obtain ⟨g0, g1⟩ := hF.f2
      go_wp2
      simp only [Exit.jump]
      refine bodyPost_ret (v := .tuple #[.slice Av y.length cv, .agg #[.int .i64 0, .int .i64 0]]) (by simp [results, Try.results46, go_sem, f0, f1]) rfl ⟨_, by rw [HY.out], by rw [HY.out]; exact own_base (OwnI.far (OwnI.far hu (Nat.lt_succ_self _) _) (Nat.lt_succ_self _) _) (fun g hg => by have := own_gej hu g hg; omega), ?_⟩
      exact (hbd.setCell (Nat.le_refl _) _).setCell (Nat.le_refl _) _
end Go.Proofs.Ytklkflfdianbpaa.Cur
