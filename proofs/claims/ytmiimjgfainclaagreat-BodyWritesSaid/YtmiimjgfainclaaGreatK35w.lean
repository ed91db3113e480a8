/- As the seat's text, without what nothing here names. -/
import Derived.Test.YtmiimjgfainclaaGreatK33w
import Derived.Test.YtmiimjgfainclaaGreatK25w
import Derived.Test.YtmiimjgfainclaaGreatK34w
import Derived.Test.YtmiimjgfainclaaGreatK1w
namespace Go.Proofs.YtmiimjgfainclaaGreat.Cur
open Go.RowKit Mem
set_option linter.unusedVariables false
set_option maxRecDepth 100000
def blen (M : Nat) (L : List Lk) : Prop := ∀ s ∈ L, s.2.length ≤ M
theorem blen.at_ {M : Nat} {L : List Lk} (h : blen M L) (k : Nat) : (L.getD k lk0).2.length ≤ M := by
  rw [List.getD_eq_getElem?_getD]
  rcases hk : L[k]? with _ | s
  · show ([] : List Int).length ≤ M; simp
  · exact h s (List.mem_of_getElem? hk)
theorem blen.le {M N : Nat} {L : List Lk} (h : blen M L) (hl : M ≤ N) : blen N L := fun s hs => Nat.le_trans (h s hs) hl
theorem lk_dec (x : Int) (z : List Int) (x2 : Int) (z2 : List Int) : decide (((x, z) : Lk) = (x2, z2)) = (decide (x = x2) && decide (z = z2)) := by
  simp only [Prod.mk.injEq, Bool.decide_and]
set_option maxHeartbeats 1000000 in
theorem lkeq_any (x : Int) (A : Option Addr) (n c : Nat) (z : List Int) (x2 : Int) (B : Option Addr) (m d : Nat) (z2 : List Int) (w : World) (ha : Us w A n z) (hb : Us w B m z2) (hn : n ≤ 1000000) (hm : m ≤ 1000000) :
    Calls Tryz.prog 121 #[lkagg x A n c, lkagg x2 B m d] w (BPost (.bool (decide (((x, z) : Lk) = (x2, z2)))) w) := by
  have hX := (Blk.new w (lkc x A n c) 124).alloc (.cells (lkc x2 B m d) 124)
  have hY := Blk.new (w.alloc (.cells (lkc x A n c) 124)) (lkc x2 B m d) 124
  rw [show (w.alloc (.cells (lkc x A n c) 124)).heap.size = w.heap.size + 1 by simp] at hY
  have hbd := below_two w (.cells (lkc x A n c) 124) (.cells (lkc x2 B m d) 124)
  unfold BPost
  have HV : Hid (decide (((x, z) : Lk) = (x2, z2)) = (decide (x = x2) && decide (z = z2))) := Lib.hid (lk_dec _ _ _ _)
  generalize decide (((x, z) : Lk) = (x2, z2)) = V at *
  obtain ⟨x0, x1⟩ := hX.c2
  obtain ⟨y0, y1⟩ := hY.c2
  have hcon := sequal_any A B n m c d z z2 _ (ha.below hbd) (hb.below hbd) hn hm
  unfold BPost at hcon
  generalize decide (z = z2) = sv at *
  clear ha hb hX hY
  by_cases hf : x = x2
  · have hfb : (x == x2) = true := by simpa using hf
    rw [decide_eq_true hf] at HV
    clear hf
    go_enter Tryz.func121, Tryz.ntmps121
    go_wp2_with fail
    refine hcon.mono ?_
    rintro e w1 ⟨rfl, hb1⟩
    have HB := Lib.hid (hbd.trans (hb1.mono hbd.size))
    clear hcon hb1
    go_wp2
    go_ret
    exact ⟨by rw [HV.out]; rfl, HB.out⟩
  · have hfb : (x == x2) = false := by simpa using hf
    rw [decide_eq_false hf] at HV
    clear hf hcon
    go_enter Tryz.func121, Tryz.ntmps121
    go_wp2
    go_ret
    exact ⟨by rw [HV.out]; rfl, hbd⟩
set_option maxHeartbeats 1000000 in
theorem rone_any (x : Int) (A : Option Addr) (n c : Nat) (z : List Int) (x2 : Int) (B : Option Addr) (m d : Nat) (z2 : List Int) (w : World) (ha : Us w A n z) (hb : Us w B m z2) (hn : n ≤ 1000000) (hm : m ≤ 1000000) :
    Calls Tryz.prog 122 #[lkagg x A n c, lkagg x2 B m d] w (BPost (.bool (decide (((x, z) : Lk) = (x2, z2)))) w) := by
  have hX := (Blk.new w (lkc x A n c) 124).alloc (.cells (lkc x2 B m d) 124)
  have hY := Blk.new (w.alloc (.cells (lkc x A n c) 124)) (lkc x2 B m d) 124
  rw [show (w.alloc (.cells (lkc x A n c) 124)).heap.size = w.heap.size + 1 by simp] at hY
  have hbd := below_two w (.cells (lkc x A n c) 124) (.cells (lkc x2 B m d) 124)
  unfold BPost
  have HV : Hid (decide (((x, z) : Lk) = (x2, z2)) = (decide (x = x2) && decide (z = z2))) := Lib.hid (lk_dec _ _ _ _)
  generalize decide (((x, z) : Lk) = (x2, z2)) = V at *
  obtain ⟨x0, x1⟩ := hX.c2
  obtain ⟨y0, y1⟩ := hY.c2
  have hcon := rsame5_gen A B n m c d z z2 _ (ha.below hbd) (hb.below hbd) hn hm
  unfold BPost at hcon
  generalize decide (z = z2) = sv at *
  clear ha hb hX hY
  by_cases hf : x = x2
  · have hfb : (x == x2) = true := by simpa using hf
    rw [decide_eq_true hf] at HV
    clear hf
    go_enter Tryz.func122, Tryz.ntmps122
    go_wp2_with fail
    refine hcon.mono ?_
    rintro e w1 ⟨rfl, hb1⟩
    have HB := Lib.hid (hbd.trans (hb1.mono hbd.size))
    clear hcon hb1
    go_wp2
    go_ret
    exact ⟨by rw [HV.out]; rfl, HB.out⟩
  · have hfb : (x == x2) = false := by simpa using hf
    rw [decide_eq_false hf] at HV
    clear hf hcon
    go_enter Tryz.func122, Tryz.ntmps122
    go_wp2
    go_ret
    exact ⟨by rw [HV.out]; rfl, hbd⟩
set_option maxHeartbeats 4000000 in
theorem lequalf_any (P Q : Nat → Prop) (A B : Option Addr) (n m c d : Nat) (L M : List Lk) (w : World) (ha : Lks w P A n L) (hb : Lks w Q B m M) (hn : n ≤ 1000000) (hm : m ≤ 1000000) (h1 : blen 1000000 L) (h2 : blen 1000000 M) :
    Calls Tryz.prog 120 #[.slice A n c, .slice B m d, .func (.func 121) #[] #[]] w (BPost (.bool (decide (L = M))) w) := by
  unfold BPost
  have HL := Lib.hid ha.1
  have HL2 := Lib.hid hb.1
  have HN1 := Lib.hid (fun k => h1.at_ k)
  have HN2 := Lib.hid (fun k => h2.at_ k)
  have HC := Lib.hid (fun h => ha.cells h)
  have HC2 := Lib.hid (fun h => hb.cells h)
  have HYES := Lib.hid (lq_yes (d := lk0) (x := L) (y := M))
  have HLEN := Lib.hid (lq_len (x := L) (y := M))
  have HNO := Lib.hid (fun i => lq_at (d := lk0) (x := L) (y := M) i)
  generalize decide (L = M) = r at *
  clear ha hb h1 h2
  by_cases hnm : n = m
  case neg =>
    have hb2 : ((n : Int) != (m : Int)) = true := by simp; omega
    have HR := Lib.hid (HLEN.out (by rw [HL.out, HL2.out]; exact hnm))
    go_enter Tryz.func120, Tryz.ntmps120
    go_wp2
    go_ret
    exact ⟨by rw [HR.out]; rfl, Below.refl _ _⟩
  subst hnm
  have hb2 : ((n : Int) != (n : Int)) = false := by simp
  go_enter Tryz.func120, Tryz.ntmps120
  go_wp2
  go_loopw [17] (fun i wr => ∃ k : Nat, k ≤ n ∧ i = .int .i64 k ∧ Hid (∀ j, j < k → L.getD j lk0 = M.getD j lk0) ∧ Below w.heap.size w wr) (fun i _ => n - (intOf i).toNat)
  case atStart => exact ⟨0, by omega, rfl, Lib.hid (by intro j hj; omega), Below.refl _ _⟩
  case round =>
    obtain ⟨k, hk, rfl, hj, hb⟩ := hrel
    by_cases hlt : k < n
    · obtain ⟨g, o, rfl, _, hg, hc⟩ := HC.out (by omega)
      obtain ⟨g', o', rfl, _, hg', hc'⟩ := HC2.out (by omega)
      obtain ⟨x, z, a1, l1, m1, he1, _, hl1, _, _, hus1, _, _, _, hcell1⟩ := hc k hlt
      obtain ⟨x2, z2, a2, l2, m2, he2, _, hl2, _, _, hus2, _, _, _, hcell2⟩ := hc' k hlt
      have hp1 := HN1.out k
      have hp2 := HN2.out k
      have HNK := Lib.hid (HNO.out k)
      have HEQ : Hid (((x, z) : Lk) = (x2, z2) → L.getD k lk0 = M.getD k lk0) := Lib.hid (by rw [he1, he2]; exact id)
      rw [he1, he2] at HNK
      rw [he1] at hp1
      rw [he2] at hp2
      dsimp only at hp1 hp2
      rw [hl1] at hp1
      rw [hl2] at hp2
      have ek : (k : Int) < n := by omega
      have e3 : IntKind.i64.wrap ((k : Int) + 1) = ((k + 1 : Nat) : Int) := IntWalk.i64_in _ (by omega)
      have hbA := hb.trans ((below_one wr (.cells (lkc x a1 l1 m1) 124)).mono hb.size)
      have hbX := hb.trans ((below_two wr (.cells (lkc x a1 l1 m1) 124) (.cells (lkc x2 a2 l2 m2) 124)).mono hb.size)
      have hX := (Blk.new wr (lkc x a1 l1 m1) 124).alloc (.cells (lkc x2 a2 l2 m2) 124)
      have hY := Blk.new (wr.alloc (.cells (lkc x a1 l1 m1) 124)) (lkc x2 a2 l2 m2) 124
      rw [show (wr.alloc (.cells (lkc x a1 l1 m1) 124)).heap.size = wr.heap.size + 1 by simp] at hY
      obtain ⟨c0, c1⟩ := hcell1 wr hb
      obtain ⟨d0, d1⟩ := hcell2 _ hbA
      obtain ⟨x0, x1⟩ := hX.c2
      obtain ⟨y0, y1⟩ := hY.c2
      have hcon := lkeq_any x a1 l1 m1 z x2 a2 l2 m2 z2 _ (hus1.below hbX) (hus2.below hbX) hp1 hp2
      have HDEC : Hid (decide (((x, z) : Lk) = (x2, z2)) = true ↔ ((x, z) : Lk) = (x2, z2)) := Lib.hid decide_eq_true_iff
      unfold BPost at hcon
      generalize decide (((x, z) : Lk) = (x2, z2)) = dv at *
      clear hc hc' hus1 hus2 hl1 hl2 hcell1 hcell2 he1 he2 hp1 hp2 hX hY hb hbA
      go_wp2_with fail
      refine hcon.mono ?_
      rintro e w1 ⟨rfl, hb1⟩
      have hbd := hbX.trans (hb1.mono hbX.size)
      clear hcon c0 c1 d0 d1 x0 x1 y0 y1 hbX hb1
      cases dv
      · have HR := Lib.hid (HNK.out (fun e => by have := HDEC.out.2 e; cases this))
        go_wp2
        go_ret
        exact ⟨by rw [HR.out]; rfl, hbd⟩
      · have HE := Lib.hid (HEQ.out (HDEC.out.1 rfl))
        go_wp2
        go_roundw
        case rel => exact ⟨k + 1, by omega, by go_num, Lib.hid (fun j hjk => by
          rcases Nat.lt_or_ge j k with h | h
          · exact hj.out j h
          · obtain rfl : j = k := by omega
            exact HE.out), hbd⟩
        case measure => simp [intOf]; omega
    · obtain rfl : k = n := by omega
      go_wp2
      go_ret
      exact ⟨by rw [HYES.out (by rw [HL.out, HL2.out]) (fun i hi => hj.out i (by rw [HL.out] at hi; exact hi))]; rfl, hb⟩
set_option maxHeartbeats 1000000 in
theorem lsame_any (P Q : Nat → Prop) (A B : Option Addr) (n m c d : Nat) (L M : List Lk) (w : World) (ha : Lks w P A n L) (hb : Lks w Q B m M) (hn : n ≤ 1000000) (hm : m ≤ 1000000) (h1 : blen 1000000 L) (h2 : blen 1000000 M) :
    Calls Tryz.prog 68 #[.slice A n c, .slice B m d] w (BPost (.bool (decide (L = M))) w) := by
  have hcon := lequalf_any P Q A B n m c d L M w ha hb hn hm h1 h2
  unfold BPost at hcon ⊢
  clear ha hb h1 h2
  generalize decide (L = M) = r at *
  go_enter Tryz.func68, Tryz.ntmps68
  go_wp2_with fail
  refine hcon.mono ?_
  rintro e w1 ⟨rfl, hb1⟩
  go_wp2
  go_ret
  exact ⟨rfl, hb1⟩
set_option maxHeartbeats 4000000 in
theorem rlsame_any (P Q : Nat → Prop) (A B : Option Addr) (n m c d : Nat) (L M : List Lk) (w : World) (ha : Lks w P A n L) (hb : Lks w Q B m M) (hn : n ≤ 1000000) (hm : m ≤ 1000000) (h1 : blen 1000000 L) (h2 : blen 1000000 M) :
    Calls Tryz.prog 71 #[.slice A n c, .slice B m d] w (BPost (.bool (decide (L = M))) w) := by
  unfold BPost
  have HL := Lib.hid ha.1
  have HL2 := Lib.hid hb.1
  have HN1 := Lib.hid (fun k => h1.at_ k)
  have HN2 := Lib.hid (fun k => h2.at_ k)
  have HC := Lib.hid (fun h => ha.cells h)
  have HC2 := Lib.hid (fun h => hb.cells h)
  have HYES := Lib.hid (lq_yes (d := lk0) (x := L) (y := M))
  have HLEN := Lib.hid (lq_len (x := L) (y := M))
  have HNO := Lib.hid (fun i => lq_at (d := lk0) (x := L) (y := M) i)
  generalize decide (L = M) = r at *
  clear ha hb h1 h2
  by_cases hnm : n = m
  case neg =>
    have hb2 : ((n : Int) != (m : Int)) = true := by simp; omega
    have HR := Lib.hid (HLEN.out (by rw [HL.out, HL2.out]; exact hnm))
    go_enter Tryz.func71, Tryz.ntmps71
    go_wp2
    go_ret
    exact ⟨by rw [HR.out]; rfl, Below.refl _ _⟩
  subst hnm
  have hb2 : ((n : Int) != (n : Int)) = false := by simp
  go_enter Tryz.func71, Tryz.ntmps71
  go_wp2
  go_loopw [5] (fun i wr => ∃ k : Nat, k ≤ n ∧ i = .int .i64 k ∧ Hid (∀ j, j < k → L.getD j lk0 = M.getD j lk0) ∧ Below w.heap.size w wr) (fun i _ => n - (intOf i).toNat)
  case atStart => exact ⟨0, by omega, rfl, Lib.hid (by intro j hj; omega), Below.refl _ _⟩
  case round =>
    obtain ⟨k, hk, rfl, hj, hb⟩ := hrel
    by_cases hlt : k < n
    · obtain ⟨g, o, rfl, _, hg, hc⟩ := HC.out (by omega)
      obtain ⟨g', o', rfl, _, hg', hc'⟩ := HC2.out (by omega)
      obtain ⟨x, z, a1, l1, m1, he1, _, hl1, _, _, hus1, _, _, _, hcell1⟩ := hc k hlt
      obtain ⟨x2, z2, a2, l2, m2, he2, _, hl2, _, _, hus2, _, _, _, hcell2⟩ := hc' k hlt
      have hp1 := HN1.out k
      have hp2 := HN2.out k
      have HNK := Lib.hid (HNO.out k)
      have HEQ : Hid (((x, z) : Lk) = (x2, z2) → L.getD k lk0 = M.getD k lk0) := Lib.hid (by rw [he1, he2]; exact id)
      rw [he1, he2] at HNK
      rw [he1] at hp1
      rw [he2] at hp2
      dsimp only at hp1 hp2
      rw [hl1] at hp1
      rw [hl2] at hp2
      have ek : (k : Int) < n := by omega
      have e3 : IntKind.i64.wrap ((k : Int) + 1) = ((k + 1 : Nat) : Int) := IntWalk.i64_in _ (by omega)
      have hbA := hb.trans ((below_one' wr).mono hb.size)
      have hS : LkS w wr.drew := hbA
      have L1 : ∀ w', LkS w w' → w'.cell? ⟨g, o + k * 2, none⟩ = some (.int .u64 x) ∧ w'.cell? ⟨g, o + k * 2 + 1, none⟩ = some (.slice a1 l1 m1) := fun w' h => hcell1 w' h
      have L2 : ∀ w', LkS w w' → w'.cell? ⟨g', o' + k * 2, none⟩ = some (.int .u64 x2) ∧ w'.cell? ⟨g', o' + k * 2 + 1, none⟩ = some (.slice a2 l2 m2) := fun w' h => hcell2 w' h
      have hcon := rone_any x a1 l1 m1 z x2 a2 l2 m2 z2 wr.drew (hus1.below hbA) (hus2.below hbA) hp1 hp2
      have HDEC : Hid (decide (((x, z) : Lk) = (x2, z2)) = true ↔ ((x, z) : Lk) = (x2, z2)) := Lib.hid decide_eq_true_iff
      unfold BPost at hcon
      generalize decide (((x, z) : Lk) = (x2, z2)) = dv at *
      clear hc hc' hus1 hus2 hl1 hl2 hcell1 hcell2 he1 he2 hp1 hp2 hb hbA
      go_wp2
      refine Seq.wp_region_seq (LkS w) (by kernel_rfl) (by kernel_rfl) hS ?_
      repeat (first | (refine Seq.Seq.skip (by rfl) ?_; (try simp only [Act.put, List.setIfInBounds_toArray, List.set_cons_zero, List.set_cons_succ])) | (refine Seq.Seq.det ?_ (by rfl) (fun w hS => ?_) ?_; rotate_left; ((try dsimp only at hS); go_simp; (try rw [if_pos (by omega)]); with_reducible rfl); (try simp only [Act.put, List.setIfInBounds_toArray, List.set_cons_zero, List.set_cons_succ])))
      refine Seq.Seq.make (by rfl) (by rfl) (fun K Q' hK => ?_)
      go_simp
      go_at_call 122
      refine hcon.mono ?_
      rintro en v1 ⟨rfl, hc1⟩
      have hS2 : LkS w v1 := Below.trans hS (hc1.mono (show w.heap.size ≤ wr.drew.heap.size from Below.size hS))
      clear hc1 hcon
      refine hK.out _ _ (hS2) ?_
      clear hK K
      try simp only [Act.put, List.setIfInBounds_toArray, List.set_cons_zero, List.set_cons_succ]
      repeat (first | (refine Seq.Seq.skip (by rfl) ?_; (try simp only [Act.put, List.setIfInBounds_toArray, List.set_cons_zero, List.set_cons_succ])) | (refine Seq.Seq.det ?_ (by rfl) (fun w hS => ?_) ?_; rotate_left; ((try dsimp only at hS); go_simp; (try rw [if_pos (by omega)]); with_reducible rfl); (try simp only [Act.put, List.setIfInBounds_toArray, List.set_cons_zero, List.set_cons_succ])))
      refine Seq.Seq.nil ?_
      have hbd : Below w.heap.size w v1 := hS2
      clear L1 L2 hS hS2
      cases dv
      · have HR := Lib.hid (HNK.out (fun e => by have := HDEC.out.2 e; cases this))
        go_wp2
        go_ret
        exact ⟨by rw [HR.out]; rfl, hbd⟩
      · have HE := Lib.hid (HEQ.out (HDEC.out.1 rfl))
        go_wp2
        go_roundw
        case rel => exact ⟨k + 1, by omega, by go_num, Lib.hid (fun j hjk => by
          rcases Nat.lt_or_ge j k with h | h
          · exact hj.out j h
          · obtain rfl : j = k := by omega
            exact HE.out), hbd⟩
        case measure => simp [intOf]; omega
    · obtain rfl : k = n := by omega
      go_wp2
      go_ret
      exact ⟨by rw [HYES.out (by rw [HL.out, HL2.out]) (fun i hi => hj.out i (by rw [HL.out] at hi; exact hi))]; rfl, hb⟩
end Go.Proofs.YtmiimjgfainclaaGreat.Cur
namespace Go.Proofs.YtmiimjgfainclaaGreat.Cur
open Go.RowKit Mem
set_option linter.unusedVariables false
set_option maxRecDepth 100000
def LOwPost (s : Lk) (w : World) (e : Ending) (w' : World) : Prop :=
  ∃ A m, e = .returned (lkagg s.1 A s.2.length m) ∧ Below w.heap.size w w' ∧ LkE.R w' (fun k => w.heap.size ≤ k) [.int .u64 s.1, .slice A s.2.length m] s
set_option maxHeartbeats 2000000 in
theorem lown_any (x : Int) (A : Option Addr) (n c : Nat) (z : List Int) (w : World) (hx : 0 ≤ x ∧ x < 18446744073709551616) (hz : Us w A n z) (hb : ∀ y ∈ z, 0 ≤ y ∧ y < 18446744073709551616) (hnil : A = none → c = 0) (hn : n ≤ 1000000) :
    Calls Tryz.prog 125 #[lkagg x A n c] w (LOwPost (x, z) w) := by
  have hX := (Blk.new w (lkc x A n c) 124).alloc (.cells (lkc 0 none 0 0) 124)
  have hY := Blk.new (w.alloc (.cells (lkc x A n c) 124)) (lkc 0 none 0 0) 124
  rw [show (w.alloc (.cells (lkc x A n c) 124)).heap.size = w.heap.size + 1 by simp] at hY
  have hbd := below_two w (.cells (lkc x A n c) 124) (.cells (lkc 0 none 0 0) 124)
  have hw0 : ((w.alloc (.cells (lkc x A n c) 124)).alloc (.cells (lkc 0 none 0 0) 124)).heap.size = w.heap.size + 2 := by simp
  have hcl := cloneu_any A n c (uv z) _ (by rw [List.length_map, hz.1]) (hz.below hbd).2 (uv_one z) hnil hn
  have HB := Lib.hid hb
  have HX := Lib.hid hx
  have HL := Lib.hid hz.1
  obtain ⟨x0, x1⟩ := hX.c2
  clear hz hb hx
  go_enter Tryz.func125, Tryz.ntmps125
  go_wp2_with fail
  generalize (w.alloc (.cells (lkc x A n c) 124)).alloc (.cells (lkc 0 none 0 0) 124) = w0 at *
  refine hcl.mono ?_
  rintro e w1 ⟨v, rfl, ho0, hb1⟩
  have ho : OwnU w1 w0.heap.size v z := by unfold OwnU; rw [HL.out]; exact ho0
  have hX1 := hX.below hb1
  have hY1 := hY.below hb1
  have hbd1 := hbd.trans (hb1.mono hbd.size)
  obtain ⟨A1, c1, rfl⟩ := ho.slice
  have hX2 := hX1.set 1 (.slice A1 z.length c1)
  have hY2 := hY1.far (g := w.heap.size) 1 (.slice A1 z.length c1) (by omega)
  have hbd2 := Below.setCell hbd1 (p := ⟨w.heap.size, 1, none⟩) (Nat.le_refl _) (.slice A1 z.length c1)
  obtain ⟨s1, s2, s3, s4⟩ := own_sq ho HB.out
  have hsq := s4.keep (w' := w1.setCell ⟨w.heap.size, 1, none⟩ (.slice A1 z.length c1)) (fun b hb9 _ => Below.heap_setCell _ _ _ _ (by simp; omega))
  have HEL := Lib.hid (And.intro s2 s3)
  have HSQ := Lib.hid hsq
  clear hcl x0 x1 hX hY ho ho0 hb1 s1 s2 s3 s4 hsq hbd
  obtain ⟨x0, x1⟩ := hX1.c2
  have i1 := hX1.free 1
  go_upto_region 2 with (fail)
  clear x0 x1 i1 hX1 hY1 hbd1
  generalize w1.setCell ⟨w.heap.size, 1, none⟩ (.slice A1 z.length c1) = w2 at *
  obtain ⟨x0, x1⟩ := Blk.c2 (v0 := .int .u64 x) (v1 := .slice A1 z.length c1) hX2
  obtain ⟨y0, y1⟩ := hY2.c2
  have f0 := hY2.free 0
  have f1 := hY2.free 1
  clear hX2 hY2
  go_wp2
  refine bodyPost_ret (v := lkagg x A1 z.length c1) (by simp [results, Tryz.results125, go_sem, y0, y1]) rfl ⟨A1, c1, rfl, ?_, ?_⟩
  · iterate 2 (refine Below.setCell ?_ (by simp) _)
    exact hbd2
  · refine LkE.mk HX.out rfl HEL.out.1 HEL.out.2 ((HSQ.out.keep fun b hb9 _ => ?_).mono (fun b hb9 _ => by omega))
    rw [Below.heap_setCell _ _ _ _ (by simp; omega), Below.heap_setCell _ _ _ _ (by simp; omega)]
def RawPostL (n : Nat) (xs : List Value) (w : World) (en : Ending) (w' : World) : Prop := ∃ v, en = .returned v ∧ w'.ownsRow w.heap.size 124 2 v n xs ∧ Below w.heap.size w w'
set_option maxHeartbeats 1000000 in
theorem clonel_any (A : Option Addr) (n c : Nat) (xs : List Value) (w : World) (hl : xs.length = n * 2) (hr : Rw w A xs) (h1 : ∀ u ∈ xs, u.oneCell' = true) (hnil : A = none → c = 0) (hn : n ≤ 1000000) :
    Calls Tryz.prog 124 #[.slice A n c] w (RawPostL n xs w) := by
  have q0 : ∀ (w : World) (a : Option Addr) (n c : Nat), (binOp .eql 24 (.slice a n c) (.slice none 0 0)).run Tryz.prog w = .ok (.bool a.isNone) w := fun w a n c => Lib.run_eql_slice_nil w _ _ a n c 0 0 Tryz.underlying24
  have hown0 := own_empty w 124 2
  have hge := own_ge hown0
  have hbA := below_one w (.cells #[] 124)
  have hrA := hr.below hbA
  rcases A with _ | ad
  · have hn0 : n = 0 := by
      rcases Nat.eq_zero_or_pos n with h0 | h0
      · exact h0
      · obtain ⟨_, _, e, _⟩ := hr (by rw [hl]; omega)
        cases e
    subst hn0
    have hxs : xs = [] := List.eq_nil_of_length_eq_zero (by omega)
    subst hxs
    go_enter Tryz.func124, Tryz.ntmps124
    go_wp2
    go_ret
    exact ⟨_, rfl, World.ownsRow_nil w _ _ _, Below.refl _ _⟩
  · have HB : Hid (w.heap.size ≤ (w.alloc (.cells #[] 124)).heap.size) := Lib.hid hbA.size
    go_enter Tryz.func124, Tryz.ntmps124
    go_wp2_with (at_builtin; go_must (refine list_append_rw kindLK rfl (.tmp 5) (.tmp 6) rfl w.heap.size _ 0 [] rfl hown0 _ n c xs rfl hl hrA (by simp) h1 (by rw [Nat.zero_add]; exact hn) (by omega) HB.out ?_; intro v' w' ho' hg' hgr'; have H1 : Hid (w'.ownsRow w.heap.size 124 2 v' n xs) := Lib.hid (by rw [Nat.zero_add, List.nil_append] at ho'; exact ho'); have H2 : Hid (Below w.heap.size w w') := Lib.hid (hbA.grown hg' HB.out (fun k e => hge k e)); clear ho' hg' hgr' hrA hown0 hbA))
    go_ret
    exact ⟨_, rfl, H1.out, H2.out⟩
theorem get2 (cur : Array Value) (p : Nat) (a b : Value) (hp : p + 2 ≤ cur.size) (x : Nat) : ((cur.set! p a).set! (p + 1) b)[x]? = if x = p + 1 then some b else if x = p then some a else cur[x]? := by
  simp only [Array.set!_eq_setIfInBounds, Array.getElem?_setIfInBounds, Array.size_setIfInBounds]
  by_cases h2 : x = p + 1
  · subst h2; rw [if_pos rfl, if_pos (by omega), if_pos rfl]
  · rw [if_neg (fun e => h2 e.symm), if_neg h2]
    by_cases h3 : x = p
    · subst h3; rw [if_pos rfl, if_pos (by omega), if_pos rfl]
    · rw [if_neg (fun e => h3 e.symm), if_neg h3]
def CpL (w : World) (B g n k : Nat) (L : List Lk) (old : List Value) (cur : Array Value) : Prop :=
  Blk w g cur 124 ∧ n * 2 ≤ cur.size ∧ (∀ i, i < k → ∃ a b, (cur[i * 2]? = some a ∧ cur[i * 2 + 1]? = some b) ∧ LkE.R w (fun b => B ≤ b ∧ b ≠ g) [a, b] (L.getD i lk0)) ∧ ∀ i v, k * 2 ≤ i → old[i]? = some v → cur[i]? = some v
theorem CpL.below {w w' : World} {B g n k : Nat} {L : List Lk} {old : List Value} {cur : Array Value} (h : CpL w B g n k L old cur) (hb : Below w.heap.size w w') : CpL w' B g n k L old cur := by
  obtain ⟨h1, h2, h3, h4⟩ := h
  refine ⟨h1.below hb, h2, fun i hi => ?_, h4⟩
  obtain ⟨a, b, hv, hR⟩ := h3 i hi
  exact ⟨a, b, hv, LkE.keep hR fun b _ hl => hb.block b hl⟩
theorem CpL.next {w : World} {B g n k : Nat} {L : List Lk} {old : List Value} {cur : Array Value} {a b : Value} (h : CpL w B g n k L old cur) (hk : k < n) (hv : LkE.R w (fun b => B ≤ b ∧ b ≠ g) [a, b] (L.getD k lk0)) :
    CpL ((w.setCell ⟨g, k * 2, none⟩ a).setCell ⟨g, k * 2 + 1, none⟩ b) B g n (k + 1) L old ((cur.set! (k * 2) a).set! (k * 2 + 1) b) := by
  obtain ⟨h1, h2, h3, h4⟩ := h
  have hkp : ∀ b', b' ≠ g → ((w.setCell ⟨g, k * 2, none⟩ a).setCell ⟨g, k * 2 + 1, none⟩ b).heap[b']? = w.heap[b']? := fun b' hb' => by
    rw [Below.heap_setCell _ _ _ _ hb', Below.heap_setCell _ _ _ _ hb']
  have hg3 := get2 cur (k * 2) a b (by omega)
  refine ⟨(h1.set (k * 2) a).set (k * 2 + 1) b, by simpa using h2, fun i hi => ?_, fun i u hi hu => ?_⟩
  · rcases Nat.lt_or_ge i k with h5 | h5
    · obtain ⟨a', b', ⟨q1, q2⟩, hR⟩ := h3 i h5
      refine ⟨a', b', ⟨?_, ?_⟩, LkE.keep hR fun b hb hl => hkp b hb.2⟩
      · rw [hg3, if_neg (by omega), if_neg (by omega)]; exact q1
      · rw [hg3, if_neg (by omega), if_neg (by omega)]; exact q2
    · obtain rfl : i = k := by omega
      refine ⟨a, b, ⟨?_, ?_⟩, LkE.keep hv fun b hb hl => hkp b hb.2⟩
      · rw [hg3, if_neg (by omega), if_pos rfl]
      · rw [hg3, if_pos rfl]
  · rw [hg3, if_neg (by omega), if_neg (by omega)]
    exact h4 i u (by omega) hu
theorem own_of_cpl {w w' : World} {B B' g n cap : Nat} {L : List Lk} {old : List Value} {cur : Array Value} (h : CpL w B g n n L old cur) (hl : L.length = n) (hcap : n ≤ cap) (hmx : cap ≤ maxLen) (hsz : cur.size = cap * 2) (hg : B ≤ g) (hB : B' ≤ B)
    (hk : ∀ b, B ≤ b → b < w.heap.size → w'.heap[b]? = w.heap[b]?) : OwnLks w' B' (.slice (some ⟨g, 0, none⟩) n cap) L := by
  obtain ⟨h1, h2, h3, _⟩ := h
  obtain ⟨cs, xs, l1, l2, hp⟩ := pick_n (p := fun i c x => x = L.getD i lk0 ∧ ∃ u v, c = [u, v] ∧ (cur[i * 2]? = some u ∧ cur[i * 2 + 1]? = some v) ∧ LkE.R w (fun b => B ≤ b ∧ b ≠ g) [u, v] (L.getD i lk0)) n fun i hi => by
    obtain ⟨a, b, h1, h2⟩ := h3 i hi
    exact ⟨[a, b], _, rfl, a, b, rfl, h1, h2⟩
  have hxs : xs = L := by
    apply List.ext_getElem (by omega)
    intro i h1 h2
    have := (hp i (cs[i]'(by omega)) xs[i] (List.getElem?_eq_getElem _) (List.getElem?_eq_getElem _)).1
    rw [this, List.getD_eq_getElem?_getD, List.getElem?_eq_getElem h2]; rfl
  subst hxs
  have hch : Ch LkE w' (fun k => B' ≤ k ∧ (Value.slice (some ⟨g, 0, none⟩) n cap).ownBlock ≠ some k) cs xs := Ch.of (by omega) fun i c x hc hx => by
    obtain ⟨e, a, b, rfl, _, hR⟩ := hp i c x hc hx
    rw [e]
    exact LkE.mono (LkE.keep hR fun b hb hlt => hk b hb.1 hlt) fun b hb _ => ⟨by omega, fun e => hb.2 (by injection e with e; exact e.symm)⟩
  have hfl : cs.flatten.length = n * 2 := by rw [hch.flat, l2]; rfl
  refine ⟨cs, hch, ⟨by rw [hfl, l2]; rfl, .inr ⟨g, cap, cur, by rw [l2], by omega, (hk g hg h1.lt).trans h1, by rw [l2]; exact hcap, hmx, hsz, ?_⟩⟩, fun g' hg' hh => hh.2 hg'⟩
  have hlen : ∀ c ∈ cs, c.length = 2 := fun c hcm => by
    obtain ⟨i, hi, e⟩ := List.mem_iff_getElem.1 hcm
    obtain ⟨_, a, b, e2, _⟩ := hp i c _ (by rw [List.getElem?_eq_getElem hi, e]) (List.getElem?_eq_getElem (by omega))
    rw [e2]; rfl
  rw [l2]
  show List.take (n * 2) cur.toList = cs.flatten
  apply List.ext_getElem?
  intro j
  by_cases hj : j < n * 2
  · have hv := List.getElem?_eq_getElem (l := cs.flatten) (by rw [hfl]; exact hj : j < cs.flatten.length)
    obtain ⟨i', jj, c, e, hjj, hci, hcv⟩ := flat_at hlen j _ hv
    have hi' := (List.getElem?_eq_some_iff.1 hci).1
    obtain ⟨_, a, b, rfl, ⟨q1, q2⟩, _⟩ := hp i' c _ hci (List.getElem?_eq_getElem (by omega))
    rw [hv, List.getElem?_take_of_lt hj, Array.getElem?_toList]
    generalize cs.flatten[j] = v at hcv
    subst e
    rcases jj with _ | _ | jj
    · simp at hcv; subst hcv; exact q1
    · simp at hcv; subst hcv; exact q2
    · omega
  · rw [List.getElem?_eq_none (by rw [List.length_take]; omega), List.getElem?_eq_none (by rw [hfl]; omega)]
def LCoPost (L : List Lk) (w : World) (en : Ending) (w' : World) : Prop := ∃ v, en = .returned v ∧ Below w.heap.size w w' ∧ OwnLks w' w.heap.size v L
set_option maxHeartbeats 4000000 in
theorem lcopy_any (P : Nat → Prop) (A : Option Addr) (n m : Nat) (L : List Lk) (w : World) (hz : Lks w P A n L) (hnil : A = none → m = 0) (hn : n ≤ 100000) (hlen : blen 100000 L) :
    Calls Tryz.prog 74 #[.slice A n m] w (LCoPost L w) := by
  have HZ := Lib.hid hz
  have HLEN := Lib.hid (fun k => hlen.at_ k)
  have HL := Lib.hid hz.1
  obtain ⟨old, hch, hol, hraw, hone⟩ := hz.2.raw
  rw [hz.1, show LkE.k = 2 from rfl] at hol
  have hcl := clonel_any A n m old.flatten w hol hraw hone hnil (by omega)
  have HCH := Lib.hid hch
  have HOL := Lib.hid hol
  clear hz hlen hch hraw hone hol
  go_enter Tryz.func74, Tryz.ntmps74
  go_wp2_with fail
  refine hcl.mono ?_
  rintro en w1 ⟨v, rfl, ho, hb1⟩
  clear hcl
  rcases ho.2 with ⟨rfl, h0⟩ | ⟨g, cap, cur, rfl, hB, hh, hcap, hmx, hsz, htk⟩
  · have hL0 : L = [] := List.eq_nil_of_length_eq_zero (by rw [HL.out]; exact h0)
    subst h0
    clear ho
    go_wp2
    go_loopw [10] (fun i wr => i = .int .i64 0 ∧ wr = w1) (fun _ _ => 0)
    case atStart => exact ⟨rfl, rfl⟩
    case round =>
      obtain ⟨rfl, rfl⟩ := hrel
      go_wp2
      go_ret
      exact ⟨_, rfl, hb1, by rw [hL0]; exact OwnLks.nil _ _⟩
  · have hC1 : CpL w1 w.heap.size g n 0 L old.flatten cur := ⟨hh, by rw [hsz]; omega, fun i hi => absurd hi (by omega), fun i v _ hv => by
      rw [← htk, List.getElem?_take] at hv
      split at hv
      · simpa using hv
      · cases hv⟩
    have HCSZ := Lib.hid hsz
    have HMX := Lib.hid hmx
    clear ho hh hsz htk hmx
    go_wp2
    go_loopw [10] (fun i wr => ∃ (k : Nat) (cur : Array Value), k ≤ n ∧ i = .int .i64 k ∧ Hid (CpL wr w.heap.size g n k L old.flatten cur) ∧ Below w.heap.size w wr ∧ Hid (cur.size = cap * 2)) (fun i _ => n - (intOf i).toNat)
    case atStart => exact ⟨0, cur, by omega, rfl, Lib.hid hC1, hb1, HCSZ⟩
    case round =>
      clear hC1 hb1 HCSZ
      obtain ⟨k, cur, hk, rfl, HC, hbd, HCSZ⟩ := hrel
      by_cases hlt : k < n
      · have hkL : k < L.length := by rw [HL.out]; exact hlt
        obtain ⟨c, hR, hat⟩ := HCH.out.at_ k L[k] (List.getElem?_eq_getElem hkL)
        have hzk : L.getD k lk0 = L[k] := by rw [List.getD_eq_getElem?_getD, List.getElem?_eq_getElem hkL]; rfl
        have hll := HLEN.out k
        rw [hzk] at hll
        obtain ⟨a, mm, rfl, xb, hlm, hnl, hus, hzb, _, hsq⟩ := link_parts hR
        have o0 := hat 0 _ rfl
        have o1 := hat 1 _ rfl
        rw [show LkE.k = 2 from rfl] at o0 o1
        rw [Nat.add_zero] at o0
        obtain ⟨s, hs⟩ : ∃ s, s = L[k] := ⟨_, rfl⟩
        rw [← hs] at hll hzk hlm xb o0 o1 hus hzb
        clear hs hR hat hsq
        obtain ⟨x, z⟩ := s
        dsimp only at hll hlm xb o0 o1 hus hzb
        have HZK := Lib.hid hzk
        have hblk := HC.out.1
        have c0 := hblk.cell _ (HC.out.2.2.2 _ _ (Nat.le_refl _) o0)
        have c1 := hblk.cell _ (HC.out.2.2.2 _ _ (by omega) o1)
        have hgl := hblk.lt
        have e2 : (k : Int) < n := by omega
        have e3 : IntKind.i64.wrap ((k : Int) + 1) = ((k + 1 : Nat) : Int) := IntWalk.i64_in _ (by omega)
        have hbA := below_one wr (.cells (lkc x a z.length mm) 124)
        have hbW := hbd.trans (hbA.mono hbd.size)
        have hCA := HC.out.below hbA
        have hSA := Blk.new wr (lkc x a z.length mm) 124
        have hcon := lown_any x a z.length mm z _ xb (hus.below hbW) hzb hnl (by omega)
        have HC4 := Lib.hid HC.out.2.2.2
        have O0 := Lib.hid o0
        have O1 := Lib.hid o1
        obtain ⟨x0, x1⟩ := hSA.c2
        have hszA : wr.heap.size < (wr.alloc (.cells (lkc x a z.length mm) 124)).heap.size := by simp
        have hwsz := hbd.size
        clear hzk hblk o0 o1 HC hbA hbd hnl hlm hll hus hzb hSA
        go_wp2_with fail
        refine hcon.mono ?_
        rintro en w5 ⟨A5, m5, rfl, hb5, hel⟩
        have hC5 := hCA.below hb5
        have hbd5 := hbW.trans (hb5.mono hbW.size)
        have h5 := hC5.1
        have q0 := h5.cell _ (HC4.out _ _ (Nat.le_refl _) O0.out)
        have q1 := h5.cell _ (HC4.out _ _ (by omega) O1.out)
        have r0 := h5.free (k * 2)
        have r1 := h5.free (k * 2 + 1)
        have hel2 := LkE.mono hel (Q := fun b => w.heap.size ≤ b ∧ b ≠ g) (fun b hb9 _ => by have h2 : (wr.alloc (.cells (lkc x a z.length mm) 124)).heap.size ≤ b := hb9; omega)
        have hnx := hC5.next hlt (by rw [HZK.out]; exact hel2)
        have HC9 := Lib.hid hnx
        have HSZ9 : Hid (((cur.set! (k * 2) (.int .u64 x)).set! (k * 2 + 1) (.slice A5 z.length m5)).size = cap * 2) := Lib.hid (by have := HCSZ.out; simpa using this)
        have HB9 := Lib.hid (Below.setCell (Below.setCell hbd5 (p := ⟨g, k * 2, none⟩) hB (.int .u64 x)) (p := ⟨g, k * 2 + 1, none⟩) hB (.slice A5 z.length m5))
        clear hcon hb5 hel hCA hC5 h5 hel2 hnx x0 x1 c0 c1 hbW hbd5
        go_wp2
        go_roundw
        case rel => exact ⟨k + 1, _, by omega, by go_num, HC9, HB9.out, HSZ9⟩
        case measure => simp [intOf]; omega
      · obtain rfl : k = n := by omega
        have HPT := Lib.hid (own_of_cpl (w' := wr) (B' := w.heap.size) HC.out HL.out hcap HMX.out HCSZ.out hB (by omega) (fun _ _ _ => rfl))
        clear HC hlt
        go_wp2
        go_ret
        exact ⟨_, rfl, hbd, HPT.out⟩
end Go.Proofs.YtmiimjgfainclaaGreat.Cur
namespace Go.Proofs.YtmiimjgfainclaaGreat.Cur
open Go.RowKit Mem
set_option linter.unusedVariables false
set_option maxRecDepth 100000
end Go.Proofs.YtmiimjgfainclaaGreat.Cur
