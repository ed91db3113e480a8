/- A run's own origins; tokens expanded (build) for origins; Origins. -/
import Derived.Test.YtklkflfdianbpaaExpR
namespace Go.Proofs.Ytklkflfdianbpaa.Cur
open Go.RowKit Mem
set_option linter.unusedVariables false

def orig (i : Nat) (L : Nat) : List (Int × Int) := (List.range L).map fun j : Nat => ((i : Int), (j : Int))
theorem orig_len (i L : Nat) : (orig i L).length = L := by unfold orig; simp
theorem orig_succ (i L : Nat) : orig i (L + 1) = orig i L ++ [((i : Int), (L : Int))] := by unfold orig; rw [List.range_succ, List.map_append]; rfl
def org (i k L : Nat) : List (Int × Int) := orig i k ++ List.replicate (L - k) (0, 0)
theorem org_len {i k L : Nat} (h : k ≤ L) : (org i k L).length = L := by unfold org; rw [List.length_append, orig_len, List.length_replicate]; omega
theorem pv_zero : ∀ n, pv (List.replicate n (0, 0)) = List.replicate (n * 2) (.int .i64 0)
  | 0 => rfl
  | n + 1 => by rw [List.replicate_succ, pv, pv_zero n, show (n + 1) * 2 = n * 2 + 1 + 1 by omega]; rfl
theorem made_pairs (n : Nat) : madeCells #[.int .i64 0, .int .i64 0] (n * 2) = (pv (List.replicate n (0, 0))).toArray := by
  rw [pv_zero]
  unfold madeCells
  apply Array.ext
  · simp
  · intro i h1 h2
    have : i % 2 = 0 ∨ i % 2 = 1 := by omega
    rcases this with h | h <;> simp [h]
theorem pv_set (A Z : List (Int × Int)) (a b x y : Int) : ((pv (A ++ (a, b) :: Z)).set (A.length * 2) (.int .i64 x)).set (A.length * 2 + 1) (.int .i64 y) = pv (A ++ (x, y) :: Z) := by
  rw [pv_append, List.set_append_right _ _ (by rw [pv_len]; exact Nat.le_refl _), pv_len, Nat.sub_self, List.set_append_right _ _ (by rw [pv_len]; omega), pv_len, show A.length * 2 + 1 - A.length * 2 = 1 by omega, pv_append]
  rfl
theorem org_set {i k L : Nat} (h : k < L) : ((pv (org i k L)).set (k * 2) (.int .i64 i)).set (k * 2 + 1) (.int .i64 k) = pv (org i (k + 1) L) := by
  have := pv_set (orig i k) (List.replicate (L - (k + 1)) (0, 0)) 0 0 i k
  rw [orig_len] at this
  unfold org
  rw [show L - k = (L - (k + 1)) + 1 by omega, List.replicate_succ, this, orig_succ, List.append_assoc]
  rfl
theorem org_put {w : World} {b i k L : Nat} {t : Nat} (h : Blk w b (pv (org i k L)).toArray t) (hk : k < L) :
    Blk ((w.setCell ⟨b, k * 2, none⟩ (.int .i64 i)).setCell ⟨b, k * 2 + 1, none⟩ (.int .i64 k)) b (pv (org i (k + 1) L)).toArray t := by
  have := (h.set (k * 2) (.int .i64 i)).set (k * 2 + 1) (.int .i64 k)
  rw [List.setIfInBounds_toArray, List.setIfInBounds_toArray, org_set hk] at this
  exact this

set_option maxHeartbeats 2000000 in
theorem origin_own (i bx b o Lr Cr m n : Nat) (Ar : Option Addr) (t : Tk) (w : World) (hx : w.cell? ⟨bx, 0, none⟩ = some (.slice (some ⟨b, o, none⟩) n m)) (hi : i < n) (hL : Lr ≤ 2000000) (h : TkC w b (o + i * 3) Ar Lr Cr t) :
    Calls Try.prog 41 #[.int .i64 i, .pointer (some ⟨bx, 0, none⟩)] w fun e w' => ∃ g, e = .returned (.slice (some ⟨g, 0, none⟩) Lr Lr) ∧ Rw w' (some ⟨g, 0, none⟩) (pv (orig i Lr)) ∧ Below w.heap.size w w' := by
  obtain ⟨c0, c1, c2, _⟩ := h
  obtain ⟨i0, hi0, hz0, hz1, hz2⟩ := info_parts (P := Try.prog) (e := 47) (z := .agg #[.int .i64 0, .int .i64 0]) (size := 2) (bytes := 16) (by kernel_rfl)
  have hmk := fun w => run_make (P := Try.prog) w 41 47 i0 (.agg #[.int .i64 0, .int .i64 0]) Try.underlying41 hi0 hz0 .i64 .i64 (Lr : Int) (Lr : Int) (by omega) (by omega) (by rw [hz2]; omega) (by omega)
  go_enter Try.func41, Try.ntmps41
  go_wp2
  have hX : Blk (w.alloc (.cells (madeCells #[.int .i64 0, .int .i64 0] (Lr * 2)) 47)) w.heap.size (pv (org i 0 Lr)).toArray 47 := by rw [made_pairs]; unfold org orig; exact Blk.new w _ _
  have hA := below_one w (.cells (madeCells #[.int .i64 0, .int .i64 0] (Lr * 2)) 47)
  generalize w.alloc (.cells (madeCells #[.int .i64 0, .int .i64 0] (Lr * 2)) 47) = w1 at *
  obtain ⟨bk, hbk⟩ : ∃ bk, w.heap.size = bk := ⟨_, rfl⟩
  rw [hbk] at hX
  simp only [hbk]
  have HBK := Lib.hid hbk
  have HX := Lib.hid hX
  have HA := Lib.hid hA
  clear hbk hX hA hmk c0 c1 c2 hx
  go_loopw [15] (fun v15 wr => ∃ k : Nat, k ≤ Lr ∧ v15 = .int .i64 k ∧ Blk wr bk (pv (org i k Lr)).toArray 47 ∧ Below w.heap.size w wr) (fun v15 _ => Lr - (intOf v15).toNat)
  case atStart => exact ⟨0, Nat.zero_le _, rfl, HX.out, HA.out⟩
  case round =>
    obtain ⟨k, hk, rfl, hB, hb⟩ := hrel
    by_cases hlt : k < Lr
    · have H1 := Lib.hid (org_put hB hlt)
      have H2 := Lib.hid ((hb.setCell (p := ⟨bk, k * 2, none⟩) (by rw [← HBK.out]; exact Nat.le_refl _) (.int .i64 i)).setCell (p := ⟨bk, k * 2 + 1, none⟩) (by rw [← HBK.out]; exact Nat.le_refl _) (.int .i64 k))
      obtain ⟨q0, q1⟩ := pv_get (org i k Lr) k (by rw [org_len hk]; exact hlt)
      have hv0 := hB.cell (k * 2) (by simpa using q0)
      have hv1 := hB.cell (k * 2 + 1) (by simpa using q1)
      have hf0 := hB.free (k * 2)
      have hf1 := hB.free (k * 2 + 1)
      have hki : (k : Int) < Lr := by omega
      generalize ((org i k Lr).getD k (0, 0)).1 = x at *
      generalize ((org i k Lr).getD k (0, 0)).2 = y at *
      clear q0 q1 hB hb
      go_wp2
      go_roundw
      case rel => exact ⟨k + 1, hlt, by go_num, H1.out, H2.out⟩
      case measure => simp [intOf]; omega
    · obtain rfl : k = Lr := by omega
      have H1 := Lib.hid hB
      have H2 := Lib.hid hb
      clear hB hb
      go_wp2
      go_ret
      refine ⟨bk, rfl, ?_, H2.out⟩
      have h1 := H1.out
      rw [show org i k k = orig i k by unfold org; simp] at h1
      exact fun _ => ⟨_, _, rfl, fun j v hj => by
        rw [Nat.zero_add]
        exact h1.cell j (by simpa using hj)⟩

def ogs (T : List Tk) (k : Nat) : List (Int × Int) := orig k (T.getD k tk0).1.length
def XpPPost (g : List (Int × Int) × Int × Int) (w : World) (e : Ending) (w' : World) : Prop :=
  ∃ v, e = .returned (.tuple #[v, .agg #[.int .i64 g.2.1, .int .i64 g.2.2]]) ∧ OwnP w' w.heap.size v g.1 ∧ Below w.heap.size w w'

/-- What holds whenever the run comes to the label. -/
def BJP (A : Option Addr) (n m bx : Nat) (T : List Tk) (bound : Int) (w : World) (a' : Act) (wr : World) : Prop :=
  ∃ (k : Nat) (y : List (Int × Int)) (v u12 u13 u14 u15 u16 u17 u18 u19 u20 u21 u22 u23 u24 u25 u26 u27 u28 u29 u30 u31 u32 u33 u34 u35 u36 u37 u38 u39 u40 u41 u42 u43 u44 u45 u46 u47 : Value), a' = { tmps := #[.slice A n m, .int .i64 bound, .func (.func 41) #[] #[.pointer (some ⟨bx, 0, none⟩)], .func (.func 43) #[] #[], undef, undef, undef, undef, .slice none 0 0, .pointer (some ⟨w.heap.size, 0, none⟩), v, .int .i64 k, u12, u13, u14, u15, u16, u17, u18, u19, u20, u21, u22, u23, u24, u25, u26, u27, u28, u29, u30, u31, u32, u33, u34, u35, u36, u37, u38, u39, u40, u41, u42, u43, u44, u45, u46, u47], defers := [] } ∧
    k ≤ n ∧ OwnP wr (w.heap.size + 1) v y ∧ Blk wr w.heap.size #[.int .i64 0, .int .i64 0] 28 ∧ Below w.heap.size w wr ∧ Hid (xp (ogs T) (0, 0) id T bound k = (y, 0, 0)) ∧ Hid (y.length ≤ 1048576)

set_option maxRecDepth 100000 in
set_option maxHeartbeats 4000000 in
theorem build_2int (A : Option Addr) (n m bx : Nat) (T : List Tk) (bound : Int) (w : World) (hT : TksL w A n T) (hx : Blk w bx #[.slice A n m] 22) (hok : ∀ t ∈ T, tkok t) (hn : n ≤ 100000) (hb : bound ≤ 1048576) :
    Calls Try.prog 42 #[.slice A n m, .int .i64 bound, .func (.func 41) #[] #[.pointer (some ⟨bx, 0, none⟩)], .func (.func 43) #[] #[]] w (XpPPost (xp (ogs T) (0, 0) id T bound n) w) := by
  have HT := Lib.hid hT
  have HX := Lib.hid hx
  have HOK := Lib.hid hok
  have hF := Blk.new w #[.int .i64 0, .int .i64 0] 28
  have hbF := below_one w (.cells #[.int .i64 0, .int .i64 0] 28)
  clear hT hx hok
  go_enter Try.func42, Try.ntmps42
  go_wp2
  refine jumps_skip 0 (BJP A n m bx T bound w) (fun a' _ => n - (intOf (a'.tmps.getD 11 undef)).toNat) rfl ?_ ?_
  · intro key
    have KEY := Lib.hid key
    clear key
    go_wp2_with fail
    go_step3
    rename_i Kq hKq
    have hJ : BJP A n m bx T bound w { tmps := #[.slice A n m, .int .i64 bound, .func (.func 41) #[] #[.pointer (some ⟨bx, 0, none⟩)], .func (.func 43) #[] #[], undef, undef, undef, undef, .slice none 0 0, .pointer (some ⟨w.heap.size, 0, none⟩), .slice none 0 0, .int .i64 0, undef, undef, undef, undef, undef, undef, undef, undef, undef, undef, undef, undef, undef, undef, undef, undef, undef, undef, undef, undef, undef, undef, undef, undef, undef, undef, undef, undef, undef, undef, undef, undef, undef, undef, undef, undef], defers := [] } (w.alloc (.cells #[.int .i64 0, .int .i64 0] 28)) :=
      ⟨0, [], _, _, _, _, _, _, _, _, _, _, _, _, _, _, _, _, _, _, _, _, _, _, _, _, _, _, _, _, _, _, _, _, _, _, _, _, _, rfl, by omega, OwnP.nil _ _, hF, hbF, Lib.hid rfl, Lib.hid (by simp)⟩
    exact hKq _ _ (KEY.out _ _ hJ)
  · clear hF hbF
    rintro a' wr ⟨k, y, v, u12, u13, u14, u15, u16, u17, u18, u19, u20, u21, u22, u23, u24, u25, u26, u27, u28, u29, u30, u31, u32, u33, u34, u35, u36, u37, u38, u39, u40, u41, u42, u43, u44, u45, u46, u47, rfl, hk, hu, hF, hbd, HY, HYB⟩
    obtain ⟨Av, cv, rfl⟩ := hu.slice
    by_cases hlt : k < n
    · obtain ⟨b, o, Ar, Lr, Cr, rfl, hC, hnil, hle⟩ := (HT.out.below hbd).2 k hlt
      have hkb : ((k : Int) == (n : Int)) = false := by simp; omega
      have hokt := tkok_getD HOK.out k
      have hlen := hC.2.2.2.1
      have hy8 : y.length ≤ 1048576 := HYB.out
      have HXP := Lib.hid (fun hc => xp_bad (own := ogs T) (d := (0, 0)) (f := id) (n := n) HY.out hlt hc)
      have HXM := Lib.hid (fun hc => xp_more (own := ogs T) (d := (0, 0)) (f := id) HY.out hc)
      have hzk : ogs T k = orig k Lr := by unfold ogs; rw [hlen]
      rw [hzk] at HXM
      generalize T.getD k tk0 = t at *
      rw [hlen] at HXP HXM
      obtain ⟨hokb, hoko, _⟩ := hokt
      have hX := Blk.new wr #[.slice Ar Lr Cr, .int .i64 t.2.1, .int .i64 t.2.2] 34
      have hbX := below_one wr (.cells #[.slice Ar Lr Cr, .int .i64 t.2.1, .int .i64 t.2.2] 34)
      obtain ⟨x0, x1, x2⟩ := hX.c3
      have hC2 := hC.below hbX (Nat.le_refl _)
      have huX : OwnP _ _ _ y := own_below hu hbX
      have hFX := hF.below hbX
      have hbdX := hbd.trans (hbX.mono hbd.size)
      obtain ⟨c0, c1, c2, _⟩ := hC
      clear hu hF hbX
      go_wp2_with fail
      refine (check_any _ _ _ _ _ _ _ _ (by omega) (by omega) hoko).mono ?_
      rintro e w1 ⟨rfl, hb1⟩
      obtain ⟨cc, hcc⟩ : ∃ cc, cc = chk Lr t.2.1 t.2.2 y.length bound := ⟨_, rfl⟩
      rw [← hcc] at HXP HXM ⊢
      replace huX : OwnP _ _ _ y := own_below huX hb1
      replace hFX := hFX.below hb1
      replace hC2 := hC2.below hb1 (Nat.le_refl _)
      have hX1 := hX.below hb1
      replace hbdX := hbdX.trans (hb1.mono hbdX.size)
      clear hb1 x0 x1 x2 c0 c1 c2 hX
      by_cases hc : cc = 0
      · obtain ⟨l0, l1, l2, l3, _⟩ := chk_run (hcc.symm.trans hc)
        have HXN := Lib.hid (HXM.out hc)
        have hcb : (cc != 0) = false := by simpa using hc
        obtain ⟨ln, hln⟩ := Int.eq_ofNat_of_zero_le l0
        have HX2 := (HX.out.below hbdX).c1
        clear hc hcc HXP HXM
        go_wp2_with fail
        refine (origin_own k bx b o Lr Cr m n Ar t _ HX2 hlt (by omega) hC2).mono ?_
        rintro e w2 ⟨g, rfl, hsA, hb2⟩
        replace huX : OwnP _ _ _ y := own_below huX hb2
        replace hFX := hFX.below hb2
        replace hbdX := hbdX.trans (hb2.mono hbdX.size)
        replace hX1 := hX1.below hb2
        have hgeA := own_gej huX
        have HLEN : Hid (y.length + Lr ≤ 4000000) := Lib.hid (by omega)
        have hB9 : w.heap.size + 1 ≤ w2.heap.size := hFX.lt
        have hXK := hX1
        clear hC2 hb2
        go_wp2_with (at_builtin; go_must (refine list_append_rl kindP rfl (.tmp 34) (.tmp 37) rfl (w.heap.size + 1) _ _ _ rfl huX _ Lr Lr (pv (orig k Lr)) rfl (by rw [pv_len, orig_len]) hsA (fun h => by cases h) (pv_one _) HLEN.out (by omega) hB9 ?_; intro v' w10 ho' hg' hgr; have hF10 := hFX.ks (Ks.of_grown (S := fun k => w.heap.size + 1 ≤ k) hg' hgeA) (by omega); have hbd10 := hbdX.grown hg' (by have := hB9; omega) (fun k hk => by have := hgeA k hk; omega); have hX10 := hX1.ks (Ks.of_grown (S := fun k => (Value.slice Av y.length cv).ownBlock = some k) hg' (fun k e => e)) (own_ne_blk huX hX1 (by decide)); obtain ⟨x0, x1, x2⟩ := hX10.c3; have H9 : OwnP w10 (w.heap.size + 1) v' (y ++ orig k Lr) := (by unfold OwnP; rw [List.length_append, orig_len]; rw [pv_append]; exact ho'); clear huX hFX hbdX hgeA hg' hgr hXK hX1 hX10 ho' hsA))
        have hBT : w.heap.size + 1 ≤ w10.heap.size := hF10.lt
        rw [hln] at l3 HXN l2
        refine (again_2int (w.heap.size + 1) v' (y ++ orig k Lr) t.2.1 ln _ H9 hBT (by rw [List.length_append, orig_len]; omega) (fun h => by rw [List.length_append, orig_len]; have := l3 (by omega); omega)).mono ?_
        rintro e w12 ⟨v12, rfl, ho12, hb12⟩
        replace hF10 := blk_belowB hF10 hb12 (Nat.lt_succ_self _)
        replace hbd10 := hbd10.trans (hb12.mono (Nat.le_succ _))
        go_wp2_with fail
        go_step3
        refine ⟨rfl, ⟨k + 1, _, _, _, _, _, _, _, _, _, _, _, _, _, _, _, _, _, _, _, _, _, _, _, _, _, _, _, _, _, _, _, _, _, _, _, _, _, _, rfl, hlt, ho12, hF10, hbd10, by rw [Int.toNat_natCast] at HXN; exact HXN, Lib.hid (by rw [agn_length, List.length_append, orig_len]; omega)⟩, ?_⟩
        simp [intOf]
        omega
      · have HXN := Lib.hid (HXP.out hc)
        have hcb : (cc != 0) = true := by simpa using hc
        have hfq : fq cc k = k := by unfold fq; rw [if_neg hc]
        clear hc hcc HXP HXM huX hX1 hC2
        go_wp2_with fail
        refine (fat_any _ _ _).mono ?_
        rintro e w2 ⟨rfl, hb2⟩
        rw [hfq]
        replace hFX := hFX.below hb2
        replace hbdX := hbdX.trans (hb2.mono hbdX.size)
        obtain ⟨f0, f1⟩ := hFX.c2
        obtain ⟨g0, g1⟩ := hFX.f2
        clear hb2
        go_wp2
        simp only [Exit.jump]
        refine bodyPost_ret (v := .tuple #[.slice none 0 0, .agg #[.int .i64 cc, .int .i64 k]]) (by simp [results, Try.results42, go_sem, f0, f1]) rfl ⟨_, by rw [HXN.out], by rw [HXN.out]; exact OwnP.nil _ _, ?_⟩
        exact (hbdX.setCell (Nat.le_refl _) _).setCell (Nat.le_refl _) _
    · obtain rfl : k = n := by omega
      obtain ⟨f0, f1⟩ := hF.c2
      obtain ⟨g0, g1⟩ := hF.f2
      go_wp2
      simp only [Exit.jump]
      refine bodyPost_ret (v := .tuple #[.slice Av y.length cv, .agg #[.int .i64 0, .int .i64 0]]) (by simp [results, Try.results42, go_sem, f0, f1]) rfl ⟨_, by rw [HY.out], by rw [HY.out]; exact own_base (OwnP.far (OwnP.far hu (Nat.lt_succ_self _) _) (Nat.lt_succ_self _) _) (fun g hg => by have := own_gej hu g hg; omega), ?_⟩
      exact (hbd.setCell (Nat.le_refl _) _).setCell (Nat.le_refl _) _


/-- The origins of what tokens make. -/
abbrev xpo (T : List Tk) (bound : Int) (k : Nat) : List (Int × Int) × Int × Int := xp (ogs T) (0, 0) id T bound k
set_option maxHeartbeats 1000000 in
theorem eorigins_any (A : Option Addr) (n m : Nat) (T : List Tk) (w : World) (hT : TksL w A n T) (hok : ∀ t ∈ T, tkok t) (hn : n ≤ 100000) :
    Calls Try.prog 18 #[.slice A n m] w fun e w' => ∃ v, e = .returned (.tuple #[v, .bool ((xpo T 1048576 n).2.1 == 0)]) ∧ OwnP w' w.heap.size v (xpo T 1048576 n).1 ∧ Below w.heap.size w w' := by
  unfold xpo
  have hX := Blk.new w #[.slice A n m] 22
  have hb2 := below_one w (.cells #[.slice A n m] 22)
  have x0 := hX.c1
  have hT2 := hT.below hb2
  have hbld := build_2int A n m _ T 1048576 _ hT2 hX hok hn (by omega)
  generalize xp (ogs T) (0, 0) id T 1048576 n = g at *
  go_enter Try.func18, Try.ntmps18
  go_wp2_with fail
  refine hbld.mono ?_
  rintro e w1 ⟨v, rfl, ho, hb1⟩
  have hbd := hb2.trans (hb1.mono hb2.size)
  have hsz : w.heap.size + 1 ≤ (w.alloc (.cells #[.slice A n m] 22)).heap.size := by simp
  replace ho : OwnP _ (w.heap.size + 1) _ _ := own_base ho (fun g hg => by have := own_gej ho g hg; omega)
  obtain ⟨Av, cv, rfl⟩ := ho.slice
  have hbF := below_one w1 (.cells #[.int .i64 g.2.1, .int .i64 g.2.2] 28)
  have hbd2 := Lib.hid (hbd.trans (hbF.mono hbd.size))
  have ho2 : Hid (OwnP _ (w.heap.size + 1) _ _) := Lib.hid (own_below ho hbF)
  clear hX hT hT2 hb2 hb1 hbd hbF ho
  go_wp2_with fail
  refine (fgood_any _ _ _).mono ?_
  rintro e w3 ⟨rfl, hb3⟩
  have H1 := Lib.hid (hbd2.out.trans (hb3.mono hbd2.out.size))
  have H2 := Lib.hid (own_below ho2.out hb3)
  clear hb3
  go_wp2
  go_ret2
  exact ⟨_, rfl, own_base H2.out (fun g hg => by have := own_gej H2.out g hg; omega), H1.out⟩

end Go.Proofs.Ytklkflfdianbpaa.Cur
