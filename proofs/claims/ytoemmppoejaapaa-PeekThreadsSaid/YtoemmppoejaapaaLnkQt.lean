/- As the seat's text, without what nothing here names. -/
import Derived.Test.YtoemmppoejaapaaK36t
namespace Go.Proofs.Ytoemmppoejaapaa.Cur
open Go.RowKit Mem
set_option linter.unusedVariables false
set_option maxRecDepth 100000
def LCfPost (P : Nat → Prop) (L : List Lk) (w : World) (e : Ending) (w' : World) : Prop := ∃ A n m, e = .returned (.slice A n m) ∧ Below w.heap.size w w' ∧ Lks w' (fun b => P b ∨ w.heap.size ≤ b) A n L ∧ (A = none → m = 0) ∧ ∀ a, A = some a → w.heap.size ≤ a.block
def OwnP (P : Nat → Prop) (w : World) (B : Nat) (v : Value) (L : List Lk) : Prop := OwnQ LkE 51 w B (fun k => k < B ∧ P k) v L
theorem OwnP.below {P : Nat → Prop} {w w' : World} {B : Nat} {v : Value} {L : List Lk} (h : OwnP P w B v L) (hb : Below w.heap.size w w') : OwnP P w' B v L := OwnQ.below h hb
theorem OwnP.ge {P : Nat → Prop} {w : World} {B : Nat} {v : Value} {L : List Lk} (h : OwnP P w B v L) : ∀ g, v.ownBlock = some g → B ≤ g := by
  obtain ⟨cs, h1, h2, h3⟩ := h
  exact own_ge h2
theorem OwnP.app {P : Nat → Prop} {w w' : World} {B m : Nat} {v v' : Value} {L M : List Lk} {cs ds : List (List Value)} (h1 : Ch LkE w (fun k => k < B ∧ P k) cs L) (h2 : w.ownsRow B 51 2 v L.length cs.flatten) (hB : B ≤ w.heap.size) (hd : Ch LkE w (fun k => k < B ∧ P k) ds M)
    (hm : M.length = m) (ho : w'.ownsRow B 51 2 v' (L.length + m) (cs.flatten ++ ds.flatten)) (hg : w.grownBy w' v.ownBlock) : OwnP P w' B v' (L ++ M) := by
  have hk : ∀ b, (b < B ∧ P b) → b < w.heap.size → w'.heap[b]? = w.heap[b]? := fun b hb hlt => hg.block b hlt fun e => by have := own_ge h2 b e.symm; omega
  refine ⟨cs ++ ds, (h1.appc hd).keep hk, ?_, fun g hgb hh => by have := own_ge ho g hgb; have h9 : g < B := hh.1; omega⟩
  rw [List.flatten_append, List.length_append, hm]
  exact ho
theorem OwnP.push {P : Nat → Prop} {W w : World} {v : Value} {L : List Lk} (h : OwnP P w W.heap.size v L) (hb : Below W.heap.size W w) {c1 c2 : Value} {s : Lk} (hs : LkE.R w (fun b => b < W.heap.size ∧ P b) [c1, c2] s) :
    ∃ xs, (w.alloc (.cells #[c1, c2] 51)).ownsRow W.heap.size 51 2 v L.length xs ∧ W.heap.size ≤ (w.alloc (.cells #[c1, c2] 51)).heap.size ∧ Rw (w.alloc (.cells #[c1, c2] 51)) (some ⟨w.heap.size, 0, none⟩) [c1, c2] ∧
      ∀ v' w', w'.ownsRow W.heap.size 51 2 v' (L.length + 1) (xs ++ [c1, c2]) → (w.alloc (.cells #[c1, c2] 51)).grownBy w' v.ownBlock → OwnP P w' W.heap.size v' (L ++ [s]) ∧ Below W.heap.size W w' := by
  have hA := below_one w (.cells #[c1, c2] 51)
  obtain ⟨cs, g1, g2, g3⟩ := h.below hA
  have hB : W.heap.size ≤ (w.alloc (.cells #[c1, c2] 51)).heap.size := by have := hb.size; simp; omega
  refine ⟨cs.flatten, g2, hB, rw_new w [c1, c2] 51, fun v' w' ho hg => ⟨?_, ?_⟩⟩
  · exact OwnP.app (M := [s]) (ds := [[c1, c2]]) g1 g2 hB ⟨LkE.keep hs (fun b hb9 hl => hA.block b hl), trivial⟩ rfl (by simpa using ho) hg
  · exact (hb.trans (hA.mono hb.size)).grown hg hB (fun k e => own_ge g2 k e)
set_option maxHeartbeats 8000000 in
theorem rwithf_any (P : Nat → Prop) (A : Option Addr) (n m : Nat) (L : List Lk) (x : Int) (B : Option Addr) (nb cb : Nat) (z : List Int) (w : World) (hz : Lks w P A n L) (hn : n ≤ 900) (hx : 0 ≤ x ∧ x < 18446744073709551616) (hu : Us w B nb z) (hzb : ∀ y ∈ z, 0 ≤ y ∧ y < 18446744073709551616) (hnb : nb ≤ cb) (hbn : B = none → cb = 0) (hPB : 0 < nb → ∀ a, B = some a → P a.block) :
    Calls Try.prog 40 #[.slice A n m, lkagg x B nb cb] w (LCfPost P (wth L (x, z)) w) := by
  have HL := Lib.hid hz.1
  have hX := Blk.new w (lkc x B nb cb) 51
  have hbX := below_one w (.cells (lkc x B nb cb) 51)
  have hfc := rfind_any P A n m L x _ (hz.below hbX) (by omega)
  unfold BPost at hfc
  have hs0 : (w.alloc (.cells (lkc x B nb cb) 51)).heap.size = w.heap.size + 1 := by simp
  obtain ⟨x0, x1⟩ := hX.c2
  generalize hw0 : w.alloc (.cells (lkc x B nb cb) 51) = w0 at *
  have HW0 := Lib.hid hw0
  clear hw0
  have HEL := Lib.hid (LkE.mk (w := w0) (P := fun b => b < w0.heap.size ∧ P b) hx hu.1 hnb hbn ((hu.below hbX).sq hzb (fun h0 ad ha => ⟨(hu.below hbX).2.lt (by rw [List.length_map, hu.1]; exact h0) ad ha, hPB h0 ad ha⟩)))
  have HZ : Hid (Lks w0 (fun b => b < w0.heap.size ∧ P b) A n L) := Lib.hid ((hz.below hbX).mono (fun b hb h => ⟨h, hb⟩))
  have HAT := Lib.hid (fun k (hk : k < L.length) => wth_at (s := (x, z)) hk)
  have HMID := Lib.hid (fun h => wth_mid (L := L) (s := (x, z)) h)
  have HG1 := Lib.hid (gtl_spec L x)
  have HG2 := Lib.hid (gtl_le L x)
  have HTK := Lib.hid (fun k hk => tk_one (L := wth L (x, z)) (k := k) hk)
  have HFB := Lib.hid (fnl_bd L x)
  have HWL := Lib.hid (wth_len L (x, z))
  have HEND := Lib.hid (fun k (h : (wth L (x, z)).length ≤ k) => List.take_of_length_le h)
  have HWN : Hid (L.length = 0 → (wth L (x, z)).length = 1) := Lib.hid (fun h => by have := wth_len L (x, z); omega)
  have HBX := Lib.hid hbX
  dsimp only at HAT HMID
  generalize wth L (x, z) = W at *
  generalize hf : fnl L x = f at *
  generalize gtl L x = gt at *
  have HX := Lib.hid hX
  clear hz hu hzb hX hf
  go_enter Try.func40, Try.ntmps40
  go_wp2_with fail
  rw [HW0.out]
  with_reducible refine hfc.mono ?_
  rintro e w1 ⟨rfl, hb1⟩
  have H0 : Hid (dbq f gt 0 = false ∧ OwnP P w1 w0.heap.size (.slice none 0 0) (W.take (wcn f gt 0)) ∧ Below w0.heap.size w0 w1) := Lib.hid ⟨dbq_no (by omega), by
    rw [show wcn f gt 0 = 0 from if_neg (by omega), List.take_zero]
    exact OwnQ.nil _ _ _ _ _, hb1⟩
  clear hfc hb1 x0 x1 hbX HW0
  go_wp2
  go_loopw [5, 7, 8] (fun v d i wr => ∃ (k : Nat) (db : Bool), k ≤ n ∧ i = .int .i64 k ∧ d = .bool db ∧ Hid (dbq f gt k = db ∧ OwnP P wr w0.heap.size v (W.take (wcn f gt k)) ∧ Below w0.heap.size w0 wr)) (fun _ _ i _ => n - (intOf i).toNat)
  case atStart => exact ⟨0, false, by omega, rfl, rfl, H0⟩
  case round =>
    clear H0
    obtain ⟨k, db, hk, rfl, rfl, HR⟩ := hrel
    obtain ⟨hdb, ho, hb⟩ := HR.out
    have hdb0 := Lib.hid hdb
    clear HR
    obtain ⟨Y, hY⟩ : ∃ Y, Y = W.take (wcn f gt k) := ⟨_, rfl⟩
    rw [← hY] at ho
    have HY := Lib.hid hY
    have HY1 : Hid (Y.length + 1 ≤ 1000000) := Lib.hid (by have := HWL.out.1; rw [HL.out] at this; rw [hY, List.length_take]; omega)
    clear hY
    have hdb2 : db = true ↔ ((f < 0 ∧ gt < k) ∨ (0 ≤ f ∧ f < (k : Int))) := by rw [← hdb]; exact decide_eq_true_iff
    have hbD := hb.trans ((below_one' wr).mono hb.size)
    by_cases hlt : k < n
    · obtain ⟨g, o, rfl, _, hg, hc⟩ := HZ.out.cells (by omega)
      obtain ⟨y, zz, a, l, mm, he, yb, hl, hlm, han, hus, hzzb, _, hsq, hcell⟩ := hc k hlt
      have hkL : k < L.length := by rw [HL.out]; exact hlt
      have HEY := Lib.hid (LkE.mk (w := w0) (P := fun b => b < w0.heap.size ∧ P b) yb hl hlm han hsq)
      obtain ⟨t1, t2⟩ := HAT.out k hkL
      have hg1 := HG1.out
      have HEQ := Lib.hid he
      rw [he] at t1 t2
      have HCELL := Lib.hid hcell
      have HY2 : Hid ((Y ++ [(x, z)]).length + 1 ≤ 1000000) := Lib.hid (by have := HWL.out.1; rw [HL.out] at this; rw [HY.out, List.length_append, List.length_take]; simp; omega)
      have L1 : ∀ w', LkS w0 w' → w'.cell? ⟨g, o + k * 2, none⟩ = some (.int .u64 y) ∧ w'.cell? ⟨g, o + k * 2 + 1, none⟩ = some (.slice a l mm) := fun w' h => hcell w' h
      have L2 : ∀ w', LkS w0 w' → w'.cell? ⟨w.heap.size, 0, none⟩ = some (.int .u64 x) ∧ w'.cell? ⟨w.heap.size, 1, none⟩ = some (.slice B nb cb) := fun w' h => (HX.out.below h).c2
      have hS : LkS w0 wr.drew := hbD
      have hoD := ho.below (below_one' wr)
      have e2 : (k : Int) < n := by omega
      have e3 : IntKind.i64.wrap ((k : Int) + 1) = ((k + 1 : Nat) : Int) := IntWalk.i64_in _ (by omega)
      have HSY := fun w' (h : Below w0.heap.size w0 w') => LkE.keep HEY.out (fun b _ hl => h.block b hl)
      have HSX := fun w' (h : Below w0.heap.size w0 w') => LkE.keep HEL.out (fun b _ hl => h.block b hl)
      replace ho := hoD
      replace hb := hbD
      clear hc hcell he hl hlm han hus hzzb hsq hoD hbD hdb
      by_cases hf : f < 0
      · have df : decide (f < 0) = true := decide_eq_true hf
        have hfk : ((k : Int) == f) = false := by simp; omega
        obtain ⟨u1, u2, u3⟩ := t2 hf
        cases db
        · have hkg : k ≤ gt := by
            rcases Nat.lt_or_ge gt k with h | h
            · have := hdb2.2 (.inl ⟨hf, h⟩); cases this
            · exact h
          have hc1 : wcn f gt k = k := if_neg (by omega)
          by_cases hkg2 : k = gt
          · have hxy : x < y := by
              have h9 := hg1.2 (by rw [← hkg2]; exact hkL)
              rw [← hkg2, HEQ.out] at h9
              dsimp only at h9
              exact h9
            have dxy : decide (x < y) = true := decide_eq_true hxy
            have hm := HMID.out hf
            rw [← hkg2] at hm
            have HC : Hid (W.take (wcn f gt (k + 1)) = (Y ++ [(x, z)]) ++ [(y, zz)]) := Lib.hid (by
              rw [show wcn f gt (k + 1) = k + 1 + 1 from if_pos ⟨hf, by omega⟩, HTK.out (k + 1) (by omega), HTK.out k (by omega), u3 (by omega), hm, HY.out, hc1])
            have HDN : Hid (dbq f gt (k + 1) = true) := Lib.hid (dbq_yes (.inl ⟨hf, by omega⟩))
            clear hxy hdb2 t1 t2 u1 u2 u3 hc1 hf hg1 hm hkg2
            go_wp2
            refine Seq.wp_region_seq (LkS w0) (by kernel_rfl) (by kernel_rfl) hS ?_
            generalize wr.drew = wd at *
            repeat (first | (refine Seq.Seq.skip (by rfl) ?_; (try simp only [Act.put, List.setIfInBounds_toArray, List.set_cons_zero, List.set_cons_succ])) | (refine Seq.Seq.det ?_ (by rfl) (fun w hS => ?_) ?_; rotate_left; ((try dsimp only at hS); go_simp; (try rw [if_pos (by omega)]); with_reducible rfl); (try simp only [Act.put, List.setIfInBounds_toArray, List.set_cons_zero, List.set_cons_succ])))
            refine Seq.Seq.nil ?_
            have c0 := (L1 wd hS).1
            have c1 := (L1 wd hS).2
            have b0 := (L2 wd hS).1
            have b1 := (L2 wd hS).2
            clear L1 L2 hS
            obtain ⟨xs1, a2, a3, a4, a5⟩ := ho.push hb (HSX _ hb)
            clear ho
            go_wp2_with (at_builtin; go_must (first | (refine list_append_rw kindLK rfl (.tmp 35) (.tmp 37) rfl w0.heap.size _ _ xs1 rfl a2 _ 1 _ [.int .u64 x, .slice B nb cb] rfl rfl a4 (by simp) (by simp [Value.oneCell']) HY1.out (by omega) a3 ?_; intro v9 w9 ho9 hg9 hgr9; have HN := Lib.hid (a5 v9 w9 ho9 hg9); clear ho9 hg9 hgr9 a2 a3 a4 a5; obtain ⟨xs2, a2, a3, a4, a5⟩ := HN.out.1.push HN.out.2 (HSY _ HN.out.2); have c0 := (HCELL.out w9 HN.out.2).1; have c1 := (HCELL.out w9 HN.out.2).2) | (refine list_append_rw kindLK rfl (.tmp 46) (.tmp 51) rfl w0.heap.size _ _ xs2 rfl a2 _ 1 _ [.int .u64 y, .slice a l mm] rfl rfl a4 (by simp) (by simp [Value.oneCell']) HY2.out (by omega) a3 ?_; intro v9 w9 ho9 hg9 hgr9; have HN2 := Lib.hid (a5 v9 w9 ho9 hg9); clear ho9 hg9 hgr9 a2 a3 a4 a5)))
            go_roundw
            case rel => exact ⟨k + 1, true, by omega, by go_num, rfl, Lib.hid ⟨HDN.out, by rw [HC.out]; exact HN2.out.1, HN2.out.2⟩⟩
            case measure => simp [intOf]; omega
          · have hxy : ¬ x < y := by
              have h9 := hg1.1 k (by omega)
              rw [HEQ.out] at h9
              dsimp only at h9
              omega
            have dxy : decide (x < y) = false := decide_eq_false hxy
            have HC : Hid (W.take (wcn f gt (k + 1)) = Y ++ [(y, zz)]) := Lib.hid (by
              rw [show wcn f gt (k + 1) = k + 1 from if_neg (by omega), HTK.out k (by omega), u2 (by omega), HY.out, hc1])
            have HDN : Hid (dbq f gt (k + 1) = false) := Lib.hid (dbq_no (by omega))
            clear hxy hdb2 t1 t2 u1 u2 u3 hc1 hf hg1
            go_wp2
            refine Seq.wp_region_seq (LkS w0) (by kernel_rfl) (by kernel_rfl) hS ?_
            generalize wr.drew = wd at *
            repeat (first | (refine Seq.Seq.skip (by rfl) ?_; (try simp only [Act.put, List.setIfInBounds_toArray, List.set_cons_zero, List.set_cons_succ])) | (refine Seq.Seq.det ?_ (by rfl) (fun w hS => ?_) ?_; rotate_left; ((try dsimp only at hS); go_simp; (try rw [if_pos (by omega)]); with_reducible rfl); (try simp only [Act.put, List.setIfInBounds_toArray, List.set_cons_zero, List.set_cons_succ])))
            refine Seq.Seq.nil ?_
            have c0 := (L1 wd hS).1
            have c1 := (L1 wd hS).2
            have b0 := (L2 wd hS).1
            have b1 := (L2 wd hS).2
            clear L1 L2 hS
            obtain ⟨xs1, a2, a3, a4, a5⟩ := ho.push hb (HSY _ hb)
            clear ho hb
            go_wp2_with (at_builtin; go_must (refine list_append_rw kindLK rfl (.tmp 46) (.tmp 51) rfl w0.heap.size _ _ xs1 rfl a2 _ 1 _ [.int .u64 y, .slice a l mm] rfl rfl a4 (by simp) (by simp [Value.oneCell']) HY1.out (by omega) a3 ?_; intro v9 w9 ho9 hg9 hgr9; have HN := Lib.hid (a5 v9 w9 ho9 hg9); clear ho9 hg9 hgr9 a2 a3 a4 a5))
            go_roundw
            case rel => exact ⟨k + 1, false, by omega, by go_num, rfl, Lib.hid ⟨HDN.out, by rw [HC.out]; exact HN.out.1, HN.out.2⟩⟩
            case measure => simp [intOf]; omega
        · have hkg : gt < k := by
            rcases hdb2.1 rfl with h | h
            · exact h.2
            · omega
          have HC : Hid (W.take (wcn f gt (k + 1)) = Y ++ [(y, zz)]) := Lib.hid (by
            rw [show wcn f gt (k + 1) = k + 1 + 1 from if_pos ⟨hf, by omega⟩, HTK.out (k + 1) (by omega), u3 (by omega), HY.out, show wcn f gt k = k + 1 from if_pos ⟨hf, hkg⟩])
          have HDN : Hid (dbq f gt (k + 1) = true) := Lib.hid (dbq_yes (.inl ⟨hf, by omega⟩))
          clear hdb2 t1 t2 u1 u2 u3 hf hg1
          go_wp2
          refine Seq.wp_region_seq (LkS w0) (by kernel_rfl) (by kernel_rfl) hS ?_
          generalize wr.drew = wd at *
          repeat (first | (refine Seq.Seq.skip (by rfl) ?_; (try simp only [Act.put, List.setIfInBounds_toArray, List.set_cons_zero, List.set_cons_succ])) | (refine Seq.Seq.det ?_ (by rfl) (fun w hS => ?_) ?_; rotate_left; ((try dsimp only at hS); go_simp; (try rw [if_pos (by omega)]); with_reducible rfl); (try simp only [Act.put, List.setIfInBounds_toArray, List.set_cons_zero, List.set_cons_succ])))
          refine Seq.Seq.nil ?_
          have c0 := (L1 wd hS).1
          have c1 := (L1 wd hS).2
          have b0 := (L2 wd hS).1
          have b1 := (L2 wd hS).2
          clear L1 L2 hS
          obtain ⟨xs1, a2, a3, a4, a5⟩ := ho.push hb (HSY _ hb)
          clear ho hb
          go_wp2_with (at_builtin; go_must (refine list_append_rw kindLK rfl (.tmp 46) (.tmp 51) rfl w0.heap.size _ _ xs1 rfl a2 _ 1 _ [.int .u64 y, .slice a l mm] rfl rfl a4 (by simp) (by simp [Value.oneCell']) HY1.out (by omega) a3 ?_; intro v9 w9 ho9 hg9 hgr9; have HN := Lib.hid (a5 v9 w9 ho9 hg9); clear ho9 hg9 hgr9 a2 a3 a4 a5))
          go_roundw
          case rel => exact ⟨k + 1, true, by omega, by go_num, rfl, Lib.hid ⟨HDN.out, by rw [HC.out]; exact HN.out.1, HN.out.2⟩⟩
          case measure => simp [intOf]; omega
      · have df : decide (f < 0) = false := decide_eq_false hf
        obtain ⟨u1, u2⟩ := t1 (by omega)
        have hc1 : wcn f gt k = k := if_neg (by omega)
        have hc2 : wcn f gt (k + 1) = k + 1 := if_neg (by omega)
        by_cases hfk : f = k
        · have hfb : ((k : Int) == f) = true := by simp; omega
          rw [if_pos hfk] at u2
          have HC : Hid (W.take (wcn f gt (k + 1)) = Y ++ [(x, z)]) := Lib.hid (by
            rw [hc2, HTK.out k (by omega), u2, HY.out, hc1])
          have HDN : Hid (dbq f gt (k + 1) = true) := Lib.hid (dbq_yes (.inr ⟨by omega, by omega⟩))
          clear hdb2 t1 t2 u1 u2 hf hg1 hc1 hc2 hfk
          go_wp2
          refine Seq.wp_region_seq (LkS w0) (by kernel_rfl) (by kernel_rfl) hS ?_
          generalize wr.drew = wd at *
          repeat (first | (refine Seq.Seq.skip (by rfl) ?_; (try simp only [Act.put, List.setIfInBounds_toArray, List.set_cons_zero, List.set_cons_succ])) | (refine Seq.Seq.det ?_ (by rfl) (fun w hS => ?_) ?_; rotate_left; ((try dsimp only at hS); go_simp; (try rw [if_pos (by omega)]); with_reducible rfl); (try simp only [Act.put, List.setIfInBounds_toArray, List.set_cons_zero, List.set_cons_succ])))
          refine Seq.Seq.nil ?_
          have c0 := (L1 wd hS).1
          have c1 := (L1 wd hS).2
          have b0 := (L2 wd hS).1
          have b1 := (L2 wd hS).2
          clear L1 L2 hS
          obtain ⟨xs1, a2, a3, a4, a5⟩ := ho.push hb (HSX _ hb)
          clear ho hb
          go_wp2_with (at_builtin; go_must (refine list_append_rw kindLK rfl (.tmp 42) (.tmp 44) rfl w0.heap.size _ _ xs1 rfl a2 _ 1 _ [.int .u64 x, .slice B nb cb] rfl rfl a4 (by simp) (by simp [Value.oneCell']) HY1.out (by omega) a3 ?_; intro v9 w9 ho9 hg9 hgr9; have HN := Lib.hid (a5 v9 w9 ho9 hg9); clear ho9 hg9 hgr9 a2 a3 a4 a5))
          go_roundw
          case rel => exact ⟨k + 1, true, by omega, by go_num, rfl, Lib.hid ⟨HDN.out, by rw [HC.out]; exact HN.out.1, HN.out.2⟩⟩
          case measure => simp [intOf]; omega
        · have hfb : ((k : Int) == f) = false := by simp; omega
          rw [if_neg hfk] at u2
          have HC : Hid (W.take (wcn f gt (k + 1)) = Y ++ [(y, zz)]) := Lib.hid (by
            rw [hc2, HTK.out k (by omega), u2, HY.out, hc1])
          have HDN : Hid (dbq f gt (k + 1) = db) := Lib.hid (by
            rw [← hdb0.out]
            unfold dbq
            exact decide_eq_decide.2 (by omega))
          clear hdb2 t1 t2 u1 u2 hf hg1 hc1 hc2 hfk
          go_wp2
          refine Seq.wp_region_seq (LkS w0) (by kernel_rfl) (by kernel_rfl) hS ?_
          generalize wr.drew = wd at *
          repeat (first | (refine Seq.Seq.skip (by rfl) ?_; (try simp only [Act.put, List.setIfInBounds_toArray, List.set_cons_zero, List.set_cons_succ])) | (refine Seq.Seq.det ?_ (by rfl) (fun w hS => ?_) ?_; rotate_left; ((try dsimp only at hS); go_simp; (try rw [if_pos (by omega)]); with_reducible rfl); (try simp only [Act.put, List.setIfInBounds_toArray, List.set_cons_zero, List.set_cons_succ])))
          refine Seq.Seq.nil ?_
          have c0 := (L1 wd hS).1
          have c1 := (L1 wd hS).2
          have b0 := (L2 wd hS).1
          have b1 := (L2 wd hS).2
          clear L1 L2 hS
          obtain ⟨xs1, a2, a3, a4, a5⟩ := ho.push hb (HSY _ hb)
          clear ho hb
          go_wp2_with (at_builtin; go_must (refine list_append_rw kindLK rfl (.tmp 46) (.tmp 51) rfl w0.heap.size _ _ xs1 rfl a2 _ 1 _ [.int .u64 y, .slice a l mm] rfl rfl a4 (by simp) (by simp [Value.oneCell']) HY1.out (by omega) a3 ?_; intro v9 w9 ho9 hg9 hgr9; have HN := Lib.hid (a5 v9 w9 ho9 hg9); clear ho9 hg9 hgr9 a2 a3 a4 a5))
          go_roundw
          case rel => exact ⟨k + 1, db, by omega, by go_num, rfl, Lib.hid ⟨HDN.out, by rw [HC.out]; exact HN.out.1, HN.out.2⟩⟩
          case measure => simp [intOf]; omega
    · obtain rfl : k = n := by omega
      by_cases hdd : db = true
      · subst hdd
        have HC : Hid (Y = W) := Lib.hid (by
          rw [HY.out]
          refine HEND.out _ ?_
          rcases hdb2.1 rfl with h | h
          · rw [show wcn f gt k = k + 1 from if_pos h]
            have := HWL.out.1
            rw [HL.out] at this
            exact this
          · rw [show wcn f gt k = k from if_neg (by omega)]
            by_cases h0 : k = 0
            · omega
            · have := ((HAT.out 0 (by rw [HL.out]; omega)).1 (by omega)).1
              rw [this, HL.out]; exact Nat.le_refl _)
        have hge9 := OwnP.ge ho
        have HGE := Lib.hid hge9
        obtain ⟨A9, c9, hv9, z1, z2, z3⟩ := OwnQ.slice ho
        have HZ4 : Hid (∀ a, A9 = some a → w.heap.size ≤ a.block) := Lib.hid (fun a e => Nat.le_trans HBX.out.size (hge9 a.block (by rw [hv9, e]; rfl)))
        clear hge9
        have HZ3 : Hid (Lks wr (fun b => P b ∨ w.heap.size ≤ b) A9 Y.length W) := Lib.hid ⟨by rw [HC.out], by rw [← HC.out]; exact z3.mono (fun b hb _ => hb.elim (fun h => .inl h.2) (fun h => .inr (Nat.le_trans HBX.out.size (HGE.out b h))))⟩
        have HZ2 := Lib.hid z2
        have HBE := Lib.hid (HBX.out.trans (hb.mono HBX.out.size))
        clear ho hb z1 z2 z3 hbD hdb2 hdb
        subst hv9
        go_wp2
        go_ret
        exact ⟨_, _, _, rfl, HBE.out, HZ3.out, HZ2.out, HZ4.out⟩
      · have hdf : db = false := by simpa using hdd
        subst hdf
        have hfe : f < 0 ∧ gt = k := by
          have h9 := hdb2.2
          have h8 := HFB.out
          have h7 := HG2.out
          rw [HL.out] at h8 h7
          by_cases hf : f < 0
          · refine ⟨hf, ?_⟩
            rcases Nat.lt_or_ge gt k with h | h
            · have := h9 (.inl ⟨hf, h⟩); cases this
            · omega
          · have := h9 (.inr ⟨by omega, by omega⟩); cases this
        obtain ⟨b0, b1⟩ := (HX.out.below hb).c2
        have HC : Hid (Y ++ [(x, z)] = W) := Lib.hid (by
          have hm := HMID.out hfe.1
          rw [hfe.2] at hm
          have hwl : W.length = k + 1 := by
            by_cases h0 : k = 0
            · rw [HWN.out (by rw [HL.out, h0]), h0]
            · have := ((HAT.out 0 (by rw [HL.out]; omega)).2 hfe.1).1
              rw [this, HL.out]
          rw [HY.out, show wcn f gt k = k from if_neg (by omega)]
          have h5 := HTK.out k (by omega)
          rw [hm] at h5
          rw [← h5]
          exact HEND.out _ (by omega))
        obtain ⟨xs1, a2, a3, a4, a5⟩ := ho.push hb (LkE.keep HEL.out (fun b _ hl => hb.block b hl))
        clear ho hfe hdb2 hdb hdd hbD
        go_wp2_with (at_builtin; go_must (refine list_append_rw kindLK rfl (.tmp 55) (.tmp 57) rfl w0.heap.size _ _ xs1 rfl a2 _ 1 _ [.int .u64 x, .slice B nb cb] rfl rfl a4 (by simp) (by simp [Value.oneCell']) HY1.out (by omega) a3 ?_; intro v9 w9 ho9 hg9 hgr9; have HN := Lib.hid (a5 v9 w9 ho9 hg9); clear ho9 hg9 hgr9 a2 a3 a4 a5 hb; obtain ⟨N9, hN9⟩ : ∃ N9, N9 = (Y ++ [(x, z)]).length := ⟨_, rfl⟩; have hge9 := OwnP.ge HN.out.1; have HGE := Lib.hid hge9; obtain ⟨A9, c9, hv9, z1, z2, z3⟩ := OwnQ.slice HN.out.1; rw [← hN9] at hv9; have HZ4 : Hid (∀ a, A9 = some a → w.heap.size ≤ a.block) := Lib.hid (fun a e => Nat.le_trans HBX.out.size (hge9 a.block (by rw [hv9, e]; rfl))); clear hge9; have HZ3 : Hid (Lks w9 (fun b => P b ∨ w.heap.size ≤ b) A9 N9 W) := Lib.hid ⟨by rw [← HC.out, hN9], by rw [← HC.out]; exact z3.mono (fun b hb _ => hb.elim (fun h => .inl h.2) (fun h => .inr (Nat.le_trans HBX.out.size (HGE.out b h))))⟩; have HZ2 := Lib.hid z2; have HBE := Lib.hid (HBX.out.trans (HN.out.2.mono HBX.out.size)); clear z1 z2 z3 hN9; subst hv9))
        go_ret
        exact ⟨_, _, _, rfl, HBE.out, HZ3.out, HZ2.out, HZ4.out⟩
end Go.Proofs.Ytoemmppoejaapaa.Cur
