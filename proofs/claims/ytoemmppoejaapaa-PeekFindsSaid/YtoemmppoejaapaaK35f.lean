/- As the seat's text, without what nothing here names. -/
import Derived.Test.YtoemmppoejaapaaK33f
import Derived.Test.YtoemmppoejaapaaK25f
import Derived.Test.YtoemmppoejaapaaK34f
import Derived.Test.YtoemmppoejaapaaK1f
namespace Go.Proofs.Ytoemmppoejaapaa.Cur
open Go.RowKit Mem
set_option linter.unusedVariables false
set_option maxRecDepth 100000
def blen (M : Nat) (L : List Lk) : Prop := ∀ s ∈ L, s.2.length ≤ M
theorem blen.at_ {M : Nat} {L : List Lk} (h : blen M L) (k : Nat) : (L.getD k lk0).2.length ≤ M := by
  rw [List.getD_eq_getElem?_getD]
  rcases hk : L[k]? with _ | s
  · show ([] : List Int).length ≤ M; simp
  · exact h s (List.mem_of_getElem? hk)
theorem blen.le {M N : Nat} {L : List Lk} (h : blen M L) (hl : M ≤ N) : blen N L := fun s hs => Nat.le_trans (h s hs) hl
theorem lk_dec (x : Int) (z : List Int) (x2 : Int) (z2 : List Int) : decide (((x, z) : Lk) = (x2, z2)) = (decide (x = x2) && decide (z = z2)) := by
  simp only [Prod.mk.injEq, Bool.decide_and]
set_option maxHeartbeats 1000000 in
theorem rone_any (x : Int) (A : Option Addr) (n c : Nat) (z : List Int) (x2 : Int) (B : Option Addr) (m d : Nat) (z2 : List Int) (w : World) (ha : Us w A n z) (hb : Us w B m z2) (hn : n ≤ 1000000) (hm : m ≤ 1000000) :
    Calls Try.prog 43 #[lkagg x A n c, lkagg x2 B m d] w (BPost (.bool (decide (((x, z) : Lk) = (x2, z2)))) w) := by
  have hX := (Blk.new w (lkc x A n c) 51).alloc (.cells (lkc x2 B m d) 51)
  have hY := Blk.new (w.alloc (.cells (lkc x A n c) 51)) (lkc x2 B m d) 51
  rw [show (w.alloc (.cells (lkc x A n c) 51)).heap.size = w.heap.size + 1 by simp] at hY
  have hbd := below_two w (.cells (lkc x A n c) 51) (.cells (lkc x2 B m d) 51)
  unfold BPost
  have HV : Hid (decide (((x, z) : Lk) = (x2, z2)) = (decide (x = x2) && decide (z = z2))) := Lib.hid (lk_dec _ _ _ _)
  generalize decide (((x, z) : Lk) = (x2, z2)) = V at *
  obtain ⟨x0, x1⟩ := hX.c2
  obtain ⟨y0, y1⟩ := hY.c2
  have hcon := rsame5_gen A B n m c d z z2 _ (ha.below hbd) (hb.below hbd) hn hm
  unfold BPost at hcon
  generalize decide (z = z2) = sv at *
  clear ha hb hX hY
  by_cases hf : x = x2
  · have hfb : (x == x2) = true := by simpa using hf
    rw [decide_eq_true hf] at HV
    clear hf
    go_enter Try.func43, Try.ntmps43
    go_wp2_with fail
    refine hcon.mono ?_
    rintro e w1 ⟨rfl, hb1⟩
    have HB := Lib.hid (hbd.trans (hb1.mono hbd.size))
    clear hcon hb1
    go_wp2
    go_ret
    exact ⟨by rw [HV.out]; rfl, HB.out⟩
  · have hfb : (x == x2) = false := by simpa using hf
    rw [decide_eq_false hf] at HV
    clear hf hcon
    go_enter Try.func43, Try.ntmps43
    go_wp2
    go_ret
    exact ⟨by rw [HV.out]; rfl, hbd⟩
set_option maxHeartbeats 4000000 in
theorem rlsame_any (P Q : Nat → Prop) (A B : Option Addr) (n m c d : Nat) (L M : List Lk) (w : World) (ha : Lks w P A n L) (hb : Lks w Q B m M) (hn : n ≤ 1000000) (hm : m ≤ 1000000) (h1 : blen 1000000 L) (h2 : blen 1000000 M) :
    Calls Try.prog 19 #[.slice A n c, .slice B m d] w (BPost (.bool (decide (L = M))) w) := by
  unfold BPost
  have HL := Lib.hid ha.1
  have HL2 := Lib.hid hb.1
  have HN1 := Lib.hid (fun k => h1.at_ k)
  have HN2 := Lib.hid (fun k => h2.at_ k)
  have HC := Lib.hid (fun h => ha.cells h)
  have HC2 := Lib.hid (fun h => hb.cells h)
  have HYES := Lib.hid (lq_yes (d := lk0) (x := L) (y := M))
  have HLEN := Lib.hid (lq_len (x := L) (y := M))
  have HNO := Lib.hid (fun i => lq_at (d := lk0) (x := L) (y := M) i)
  generalize decide (L = M) = r at *
  clear ha hb h1 h2
  by_cases hnm : n = m
  case neg =>
    have hb2 : ((n : Int) != (m : Int)) = true := by simp; omega
    have HR := Lib.hid (HLEN.out (by rw [HL.out, HL2.out]; exact hnm))
    go_enter Try.func19, Try.ntmps19
    go_wp2
    go_ret
    exact ⟨by rw [HR.out]; rfl, Below.refl _ _⟩
  subst hnm
  have hb2 : ((n : Int) != (n : Int)) = false := by simp
  go_enter Try.func19, Try.ntmps19
  go_wp2
  go_loopw [5] (fun i wr => ∃ k : Nat, k ≤ n ∧ i = .int .i64 k ∧ Hid (∀ j, j < k → L.getD j lk0 = M.getD j lk0) ∧ Below w.heap.size w wr) (fun i _ => n - (intOf i).toNat)
  case atStart => exact ⟨0, by omega, rfl, Lib.hid (by intro j hj; omega), Below.refl _ _⟩
  case round =>
    obtain ⟨k, hk, rfl, hj, hb⟩ := hrel
    by_cases hlt : k < n
    · obtain ⟨g, o, rfl, _, hg, hc⟩ := HC.out (by omega)
      obtain ⟨g', o', rfl, _, hg', hc'⟩ := HC2.out (by omega)
      obtain ⟨x, z, a1, l1, m1, he1, _, hl1, _, _, hus1, _, _, _, hcell1⟩ := hc k hlt
      obtain ⟨x2, z2, a2, l2, m2, he2, _, hl2, _, _, hus2, _, _, _, hcell2⟩ := hc' k hlt
      have hp1 := HN1.out k
      have hp2 := HN2.out k
      have HNK := Lib.hid (HNO.out k)
      have HEQ : Hid (((x, z) : Lk) = (x2, z2) → L.getD k lk0 = M.getD k lk0) := Lib.hid (by rw [he1, he2]; exact id)
      rw [he1, he2] at HNK
      rw [he1] at hp1
      rw [he2] at hp2
      dsimp only at hp1 hp2
      rw [hl1] at hp1
      rw [hl2] at hp2
      have ek : (k : Int) < n := by omega
      have e3 : IntKind.i64.wrap ((k : Int) + 1) = ((k + 1 : Nat) : Int) := IntWalk.i64_in _ (by omega)
      have hbA := hb.trans ((below_one' wr).mono hb.size)
      have hS : LkS w wr.drew := hbA
      have L1 : ∀ w', LkS w w' → w'.cell? ⟨g, o + k * 2, none⟩ = some (.int .u64 x) ∧ w'.cell? ⟨g, o + k * 2 + 1, none⟩ = some (.slice a1 l1 m1) := fun w' h => hcell1 w' h
      have L2 : ∀ w', LkS w w' → w'.cell? ⟨g', o' + k * 2, none⟩ = some (.int .u64 x2) ∧ w'.cell? ⟨g', o' + k * 2 + 1, none⟩ = some (.slice a2 l2 m2) := fun w' h => hcell2 w' h
      have hcon := rone_any x a1 l1 m1 z x2 a2 l2 m2 z2 wr.drew (hus1.below hbA) (hus2.below hbA) hp1 hp2
      have HDEC : Hid (decide (((x, z) : Lk) = (x2, z2)) = true ↔ ((x, z) : Lk) = (x2, z2)) := Lib.hid decide_eq_true_iff
      unfold BPost at hcon
      generalize decide (((x, z) : Lk) = (x2, z2)) = dv at *
      clear hc hc' hus1 hus2 hl1 hl2 hcell1 hcell2 he1 he2 hp1 hp2 hb hbA
      go_wp2
      refine Seq.wp_region_seq (LkS w) (by kernel_rfl) (by kernel_rfl) hS ?_
      repeat (first | (refine Seq.Seq.skip (by rfl) ?_; (try simp only [Act.put, List.setIfInBounds_toArray, List.set_cons_zero, List.set_cons_succ])) | (refine Seq.Seq.det ?_ (by rfl) (fun w hS => ?_) ?_; rotate_left; ((try dsimp only at hS); go_simp; (try rw [if_pos (by omega)]); with_reducible rfl); (try simp only [Act.put, List.setIfInBounds_toArray, List.set_cons_zero, List.set_cons_succ])))
      refine Seq.Seq.make (by rfl) (by rfl) (fun K Q' hK => ?_)
      go_simp
      go_at_call 43
      refine hcon.mono ?_
      rintro en v1 ⟨rfl, hc1⟩
      have hS2 : LkS w v1 := Below.trans hS (hc1.mono (show w.heap.size ≤ wr.drew.heap.size from Below.size hS))
      clear hc1 hcon
      refine hK.out _ _ (hS2) ?_
      clear hK K
      try simp only [Act.put, List.setIfInBounds_toArray, List.set_cons_zero, List.set_cons_succ]
      repeat (first | (refine Seq.Seq.skip (by rfl) ?_; (try simp only [Act.put, List.setIfInBounds_toArray, List.set_cons_zero, List.set_cons_succ])) | (refine Seq.Seq.det ?_ (by rfl) (fun w hS => ?_) ?_; rotate_left; ((try dsimp only at hS); go_simp; (try rw [if_pos (by omega)]); with_reducible rfl); (try simp only [Act.put, List.setIfInBounds_toArray, List.set_cons_zero, List.set_cons_succ])))
      refine Seq.Seq.nil ?_
      have hbd : Below w.heap.size w v1 := hS2
      clear L1 L2 hS hS2
      cases dv
      · have HR := Lib.hid (HNK.out (fun e => by have := HDEC.out.2 e; cases this))
        go_wp2
        go_ret
        exact ⟨by rw [HR.out]; rfl, hbd⟩
      · have HE := Lib.hid (HEQ.out (HDEC.out.1 rfl))
        go_wp2
        go_roundw
        case rel => exact ⟨k + 1, by omega, by go_num, Lib.hid (fun j hjk => by
          rcases Nat.lt_or_ge j k with h | h
          · exact hj.out j h
          · obtain rfl : j = k := by omega
            exact HE.out), hbd⟩
        case measure => simp [intOf]; omega
    · obtain rfl : k = n := by omega
      go_wp2
      go_ret
      exact ⟨by rw [HYES.out (by rw [HL.out, HL2.out]) (fun i hi => hj.out i (by rw [HL.out] at hi; exact hi))]; rfl, hb⟩
end Go.Proofs.Ytoemmppoejaapaa.Cur
namespace Go.Proofs.Ytoemmppoejaapaa.Cur
open Go.RowKit Mem
set_option linter.unusedVariables false
set_option maxRecDepth 100000
def LOwPost (s : Lk) (w : World) (e : Ending) (w' : World) : Prop :=
  ∃ A m, e = .returned (lkagg s.1 A s.2.length m) ∧ Below w.heap.size w w' ∧ LkE.R w' (fun k => w.heap.size ≤ k) [.int .u64 s.1, .slice A s.2.length m] s
set_option maxHeartbeats 2000000 in
theorem lown_any (x : Int) (A : Option Addr) (n c : Nat) (z : List Int) (w : World) (hx : 0 ≤ x ∧ x < 18446744073709551616) (hz : Us w A n z) (hb : ∀ y ∈ z, 0 ≤ y ∧ y < 18446744073709551616) (hnil : A = none → c = 0) (hn : n ≤ 1000000) :
    Calls Try.prog 62 #[lkagg x A n c] w (LOwPost (x, z) w) := by
  have hX := (Blk.new w (lkc x A n c) 51).alloc (.cells (lkc 0 none 0 0) 51)
  have hY := Blk.new (w.alloc (.cells (lkc x A n c) 51)) (lkc 0 none 0 0) 51
  rw [show (w.alloc (.cells (lkc x A n c) 51)).heap.size = w.heap.size + 1 by simp] at hY
  have hbd := below_two w (.cells (lkc x A n c) 51) (.cells (lkc 0 none 0 0) 51)
  have hw0 : ((w.alloc (.cells (lkc x A n c) 51)).alloc (.cells (lkc 0 none 0 0) 51)).heap.size = w.heap.size + 2 := by simp
  have hcl := cloneu_any A n c (uv z) _ (by rw [List.length_map, hz.1]) (hz.below hbd).2 (uv_one z) hnil hn
  have HB := Lib.hid hb
  have HX := Lib.hid hx
  have HL := Lib.hid hz.1
  obtain ⟨x0, x1⟩ := hX.c2
  clear hz hb hx
  go_enter Try.func62, Try.ntmps62
  go_wp2_with fail
  generalize (w.alloc (.cells (lkc x A n c) 51)).alloc (.cells (lkc 0 none 0 0) 51) = w0 at *
  refine hcl.mono ?_
  rintro e w1 ⟨v, rfl, ho0, hb1⟩
  have ho : OwnU w1 w0.heap.size v z := by unfold OwnU; rw [HL.out]; exact ho0
  have hX1 := hX.below hb1
  have hY1 := hY.below hb1
  have hbd1 := hbd.trans (hb1.mono hbd.size)
  obtain ⟨A1, c1, rfl⟩ := ho.slice
  have hX2 := hX1.set 1 (.slice A1 z.length c1)
  have hY2 := hY1.far (g := w.heap.size) 1 (.slice A1 z.length c1) (by omega)
  have hbd2 := Below.setCell hbd1 (p := ⟨w.heap.size, 1, none⟩) (Nat.le_refl _) (.slice A1 z.length c1)
  obtain ⟨s1, s2, s3, s4⟩ := own_sq ho HB.out
  have hsq := s4.keep (w' := w1.setCell ⟨w.heap.size, 1, none⟩ (.slice A1 z.length c1)) (fun b hb9 _ => Below.heap_setCell _ _ _ _ (by simp; omega))
  have HEL := Lib.hid (And.intro s2 s3)
  have HSQ := Lib.hid hsq
  clear hcl x0 x1 hX hY ho ho0 hb1 s1 s2 s3 s4 hsq hbd
  obtain ⟨x0, x1⟩ := hX1.c2
  have i1 := hX1.free 1
  go_upto_region 2 with (fail)
  clear x0 x1 i1 hX1 hY1 hbd1
  generalize w1.setCell ⟨w.heap.size, 1, none⟩ (.slice A1 z.length c1) = w2 at *
  obtain ⟨x0, x1⟩ := Blk.c2 (v0 := .int .u64 x) (v1 := .slice A1 z.length c1) hX2
  obtain ⟨y0, y1⟩ := hY2.c2
  have f0 := hY2.free 0
  have f1 := hY2.free 1
  clear hX2 hY2
  go_wp2
  refine bodyPost_ret (v := lkagg x A1 z.length c1) (by simp [results, Try.results62, go_sem, y0, y1]) rfl ⟨A1, c1, rfl, ?_, ?_⟩
  · iterate 2 (refine Below.setCell ?_ (by simp) _)
    exact hbd2
  · refine LkE.mk HX.out rfl HEL.out.1 HEL.out.2 ((HSQ.out.keep fun b hb9 _ => ?_).mono (fun b hb9 _ => by omega))
    rw [Below.heap_setCell _ _ _ _ (by simp; omega), Below.heap_setCell _ _ _ _ (by simp; omega)]
def RawPostL (n : Nat) (xs : List Value) (w : World) (en : Ending) (w' : World) : Prop := ∃ v, en = .returned v ∧ w'.ownsRow w.heap.size 51 2 v n xs ∧ Below w.heap.size w w'
set_option maxHeartbeats 1000000 in
theorem clonel_any (A : Option Addr) (n c : Nat) (xs : List Value) (w : World) (hl : xs.length = n * 2) (hr : Rw w A xs) (h1 : ∀ u ∈ xs, u.oneCell' = true) (hnil : A = none → c = 0) (hn : n ≤ 1000000) :
    Calls Try.prog 61 #[.slice A n c] w (RawPostL n xs w) := by
  have q0 : ∀ (w : World) (a : Option Addr) (n c : Nat), (binOp .eql 28 (.slice a n c) (.slice none 0 0)).run Try.prog w = .ok (.bool a.isNone) w := fun w a n c => Lib.run_eql_slice_nil w _ _ a n c 0 0 Try.underlying28
  have hown0 := own_empty w 51 2
  have hge := own_ge hown0
  have hbA := below_one w (.cells #[] 51)
  have hrA := hr.below hbA
  rcases A with _ | ad
  · have hn0 : n = 0 := by
      rcases Nat.eq_zero_or_pos n with h0 | h0
      · exact h0
      · obtain ⟨_, _, e, _⟩ := hr (by rw [hl]; omega)
        cases e
    subst hn0
    have hxs : xs = [] := List.eq_nil_of_length_eq_zero (by omega)
    subst hxs
    go_enter Try.func61, Try.ntmps61
    go_wp2
    go_ret
    exact ⟨_, rfl, World.ownsRow_nil w _ _ _, Below.refl _ _⟩
  · have HB : Hid (w.heap.size ≤ (w.alloc (.cells #[] 51)).heap.size) := Lib.hid hbA.size
    go_enter Try.func61, Try.ntmps61
    go_wp2_with (at_builtin; go_must (refine list_append_rw kindLK rfl (.tmp 5) (.tmp 6) rfl w.heap.size _ 0 [] rfl hown0 _ n c xs rfl hl hrA (by simp) h1 (by rw [Nat.zero_add]; exact hn) (by omega) HB.out ?_; intro v' w' ho' hg' hgr'; have H1 : Hid (w'.ownsRow w.heap.size 51 2 v' n xs) := Lib.hid (by rw [Nat.zero_add, List.nil_append] at ho'; exact ho'); have H2 : Hid (Below w.heap.size w w') := Lib.hid (hbA.grown hg' HB.out (fun k e => hge k e)); clear ho' hg' hgr' hrA hown0 hbA))
    go_ret
    exact ⟨_, rfl, H1.out, H2.out⟩
theorem get2 (cur : Array Value) (p : Nat) (a b : Value) (hp : p + 2 ≤ cur.size) (x : Nat) : ((cur.set! p a).set! (p + 1) b)[x]? = if x = p + 1 then some b else if x = p then some a else cur[x]? := by
  simp only [Array.set!_eq_setIfInBounds, Array.getElem?_setIfInBounds, Array.size_setIfInBounds]
  by_cases h2 : x = p + 1
  · subst h2; rw [if_pos rfl, if_pos (by omega), if_pos rfl]
  · rw [if_neg (fun e => h2 e.symm), if_neg h2]
    by_cases h3 : x = p
    · subst h3; rw [if_pos rfl, if_pos (by omega), if_pos rfl]
    · rw [if_neg (fun e => h3 e.symm), if_neg h3]
def CpL (w : World) (B g n k : Nat) (L : List Lk) (old : List Value) (cur : Array Value) : Prop :=
  Blk w g cur 51 ∧ n * 2 ≤ cur.size ∧ (∀ i, i < k → ∃ a b, (cur[i * 2]? = some a ∧ cur[i * 2 + 1]? = some b) ∧ LkE.R w (fun b => B ≤ b ∧ b ≠ g) [a, b] (L.getD i lk0)) ∧ ∀ i v, k * 2 ≤ i → old[i]? = some v → cur[i]? = some v
theorem CpL.below {w w' : World} {B g n k : Nat} {L : List Lk} {old : List Value} {cur : Array Value} (h : CpL w B g n k L old cur) (hb : Below w.heap.size w w') : CpL w' B g n k L old cur := by
  obtain ⟨h1, h2, h3, h4⟩ := h
  refine ⟨h1.below hb, h2, fun i hi => ?_, h4⟩
  obtain ⟨a, b, hv, hR⟩ := h3 i hi
  exact ⟨a, b, hv, LkE.keep hR fun b _ hl => hb.block b hl⟩
theorem CpL.next {w : World} {B g n k : Nat} {L : List Lk} {old : List Value} {cur : Array Value} {a b : Value} (h : CpL w B g n k L old cur) (hk : k < n) (hv : LkE.R w (fun b => B ≤ b ∧ b ≠ g) [a, b] (L.getD k lk0)) :
    CpL ((w.setCell ⟨g, k * 2, none⟩ a).setCell ⟨g, k * 2 + 1, none⟩ b) B g n (k + 1) L old ((cur.set! (k * 2) a).set! (k * 2 + 1) b) := by
  obtain ⟨h1, h2, h3, h4⟩ := h
  have hkp : ∀ b', b' ≠ g → ((w.setCell ⟨g, k * 2, none⟩ a).setCell ⟨g, k * 2 + 1, none⟩ b).heap[b']? = w.heap[b']? := fun b' hb' => by
    rw [Below.heap_setCell _ _ _ _ hb', Below.heap_setCell _ _ _ _ hb']
  have hg3 := get2 cur (k * 2) a b (by omega)
  refine ⟨(h1.set (k * 2) a).set (k * 2 + 1) b, by simpa using h2, fun i hi => ?_, fun i u hi hu => ?_⟩
  · rcases Nat.lt_or_ge i k with h5 | h5
    · obtain ⟨a', b', ⟨q1, q2⟩, hR⟩ := h3 i h5
      refine ⟨a', b', ⟨?_, ?_⟩, LkE.keep hR fun b hb hl => hkp b hb.2⟩
      · rw [hg3, if_neg (by omega), if_neg (by omega)]; exact q1
      · rw [hg3, if_neg (by omega), if_neg (by omega)]; exact q2
    · obtain rfl : i = k := by omega
      refine ⟨a, b, ⟨?_, ?_⟩, LkE.keep hv fun b hb hl => hkp b hb.2⟩
      · rw [hg3, if_neg (by omega), if_pos rfl]
      · rw [hg3, if_pos rfl]
  · rw [hg3, if_neg (by omega), if_neg (by omega)]
    exact h4 i u (by omega) hu
theorem own_of_cpl {w w' : World} {B B' g n cap : Nat} {L : List Lk} {old : List Value} {cur : Array Value} (h : CpL w B g n n L old cur) (hl : L.length = n) (hcap : n ≤ cap) (hmx : cap ≤ maxLen) (hsz : cur.size = cap * 2) (hg : B ≤ g) (hB : B' ≤ B)
    (hk : ∀ b, B ≤ b → b < w.heap.size → w'.heap[b]? = w.heap[b]?) : OwnLks w' B' (.slice (some ⟨g, 0, none⟩) n cap) L := by
  obtain ⟨h1, h2, h3, _⟩ := h
  obtain ⟨cs, xs, l1, l2, hp⟩ := pick_n (p := fun i c x => x = L.getD i lk0 ∧ ∃ u v, c = [u, v] ∧ (cur[i * 2]? = some u ∧ cur[i * 2 + 1]? = some v) ∧ LkE.R w (fun b => B ≤ b ∧ b ≠ g) [u, v] (L.getD i lk0)) n fun i hi => by
    obtain ⟨a, b, h1, h2⟩ := h3 i hi
    exact ⟨[a, b], _, rfl, a, b, rfl, h1, h2⟩
  have hxs : xs = L := by
    apply List.ext_getElem (by omega)
    intro i h1 h2
    have := (hp i (cs[i]'(by omega)) xs[i] (List.getElem?_eq_getElem _) (List.getElem?_eq_getElem _)).1
    rw [this, List.getD_eq_getElem?_getD, List.getElem?_eq_getElem h2]; rfl
  subst hxs
  have hch : Ch LkE w' (fun k => B' ≤ k ∧ (Value.slice (some ⟨g, 0, none⟩) n cap).ownBlock ≠ some k) cs xs := Ch.of (by omega) fun i c x hc hx => by
    obtain ⟨e, a, b, rfl, _, hR⟩ := hp i c x hc hx
    rw [e]
    exact LkE.mono (LkE.keep hR fun b hb hlt => hk b hb.1 hlt) fun b hb _ => ⟨by omega, fun e => hb.2 (by injection e with e; exact e.symm)⟩
  have hfl : cs.flatten.length = n * 2 := by rw [hch.flat, l2]; rfl
  refine ⟨cs, hch, ⟨by rw [hfl, l2]; rfl, .inr ⟨g, cap, cur, by rw [l2], by omega, (hk g hg h1.lt).trans h1, by rw [l2]; exact hcap, hmx, hsz, ?_⟩⟩, fun g' hg' hh => hh.2 hg'⟩
  have hlen : ∀ c ∈ cs, c.length = 2 := fun c hcm => by
    obtain ⟨i, hi, e⟩ := List.mem_iff_getElem.1 hcm
    obtain ⟨_, a, b, e2, _⟩ := hp i c _ (by rw [List.getElem?_eq_getElem hi, e]) (List.getElem?_eq_getElem (by omega))
    rw [e2]; rfl
  rw [l2]
  show List.take (n * 2) cur.toList = cs.flatten
  apply List.ext_getElem?
  intro j
  by_cases hj : j < n * 2
  · have hv := List.getElem?_eq_getElem (l := cs.flatten) (by rw [hfl]; exact hj : j < cs.flatten.length)
    obtain ⟨i', jj, c, e, hjj, hci, hcv⟩ := flat_at hlen j _ hv
    have hi' := (List.getElem?_eq_some_iff.1 hci).1
    obtain ⟨_, a, b, rfl, ⟨q1, q2⟩, _⟩ := hp i' c _ hci (List.getElem?_eq_getElem (by omega))
    rw [hv, List.getElem?_take_of_lt hj, Array.getElem?_toList]
    generalize cs.flatten[j] = v at hcv
    subst e
    rcases jj with _ | _ | jj
    · simp at hcv; subst hcv; exact q1
    · simp at hcv; subst hcv; exact q2
    · omega
  · rw [List.getElem?_eq_none (by rw [List.length_take]; omega), List.getElem?_eq_none (by rw [hfl]; omega)]
def LCoPost (L : List Lk) (w : World) (en : Ending) (w' : World) : Prop := ∃ v, en = .returned v ∧ Below w.heap.size w w' ∧ OwnLks w' w.heap.size v L
set_option maxHeartbeats 4000000 in
theorem lcopy_any (P : Nat → Prop) (A : Option Addr) (n m : Nat) (L : List Lk) (w : World) (hz : Lks w P A n L) (hnil : A = none → m = 0) (hn : n ≤ 100000) (hlen : blen 100000 L) :
    Calls Try.prog 47 #[.slice A n m] w (LCoPost L w) := by
  have HZ := Lib.hid hz
  have HLEN := Lib.hid (fun k => hlen.at_ k)
  have HL := Lib.hid hz.1
  obtain ⟨old, hch, hol, hraw, hone⟩ := hz.2.raw
  rw [hz.1, show LkE.k = 2 from rfl] at hol
  have hcl := clonel_any A n m old.flatten w hol hraw hone hnil (by omega)
  have HCH := Lib.hid hch
  have HOL := Lib.hid hol
  clear hz hlen hch hraw hone hol
  go_enter Try.func47, Try.ntmps47
  go_wp2_with fail
  refine hcl.mono ?_
  rintro en w1 ⟨v, rfl, ho, hb1⟩
  clear hcl
  rcases ho.2 with ⟨rfl, h0⟩ | ⟨g, cap, cur, rfl, hB, hh, hcap, hmx, hsz, htk⟩
  · have hL0 : L = [] := List.eq_nil_of_length_eq_zero (by rw [HL.out]; exact h0)
    subst h0
    clear ho
    go_wp2
    go_loopw [10] (fun i wr => i = .int .i64 0 ∧ wr = w1) (fun _ _ => 0)
    case atStart => exact ⟨rfl, rfl⟩
    case round =>
      obtain ⟨rfl, rfl⟩ := hrel
      go_wp2
      go_ret
      exact ⟨_, rfl, hb1, by rw [hL0]; exact OwnLks.nil _ _⟩
  · have hC1 : CpL w1 w.heap.size g n 0 L old.flatten cur := ⟨hh, by rw [hsz]; omega, fun i hi => absurd hi (by omega), fun i v _ hv => by
      rw [← htk, List.getElem?_take] at hv
      split at hv
      · simpa using hv
      · cases hv⟩
    have HCSZ := Lib.hid hsz
    have HMX := Lib.hid hmx
    clear ho hh hsz htk hmx
    go_wp2
    go_loopw [10] (fun i wr => ∃ (k : Nat) (cur : Array Value), k ≤ n ∧ i = .int .i64 k ∧ Hid (CpL wr w.heap.size g n k L old.flatten cur) ∧ Below w.heap.size w wr ∧ Hid (cur.size = cap * 2)) (fun i _ => n - (intOf i).toNat)
    case atStart => exact ⟨0, cur, by omega, rfl, Lib.hid hC1, hb1, HCSZ⟩
    case round =>
      clear hC1 hb1 HCSZ
      obtain ⟨k, cur, hk, rfl, HC, hbd, HCSZ⟩ := hrel
      by_cases hlt : k < n
      · have hkL : k < L.length := by rw [HL.out]; exact hlt
        obtain ⟨c, hR, hat⟩ := HCH.out.at_ k L[k] (List.getElem?_eq_getElem hkL)
        have hzk : L.getD k lk0 = L[k] := by rw [List.getD_eq_getElem?_getD, List.getElem?_eq_getElem hkL]; rfl
        have hll := HLEN.out k
        rw [hzk] at hll
        obtain ⟨a, mm, rfl, xb, hlm, hnl, hus, hzb, _, hsq⟩ := link_parts hR
        have o0 := hat 0 _ rfl
        have o1 := hat 1 _ rfl
        rw [show LkE.k = 2 from rfl] at o0 o1
        rw [Nat.add_zero] at o0
        obtain ⟨s, hs⟩ : ∃ s, s = L[k] := ⟨_, rfl⟩
        rw [← hs] at hll hzk hlm xb o0 o1 hus hzb
        clear hs hR hat hsq
        obtain ⟨x, z⟩ := s
        dsimp only at hll hlm xb o0 o1 hus hzb
        have HZK := Lib.hid hzk
        have hblk := HC.out.1
        have c0 := hblk.cell _ (HC.out.2.2.2 _ _ (Nat.le_refl _) o0)
        have c1 := hblk.cell _ (HC.out.2.2.2 _ _ (by omega) o1)
        have hgl := hblk.lt
        have e2 : (k : Int) < n := by omega
        have e3 : IntKind.i64.wrap ((k : Int) + 1) = ((k + 1 : Nat) : Int) := IntWalk.i64_in _ (by omega)
        have hbA := below_one wr (.cells (lkc x a z.length mm) 51)
        have hbW := hbd.trans (hbA.mono hbd.size)
        have hCA := HC.out.below hbA
        have hSA := Blk.new wr (lkc x a z.length mm) 51
        have hcon := lown_any x a z.length mm z _ xb (hus.below hbW) hzb hnl (by omega)
        have HC4 := Lib.hid HC.out.2.2.2
        have O0 := Lib.hid o0
        have O1 := Lib.hid o1
        obtain ⟨x0, x1⟩ := hSA.c2
        have hszA : wr.heap.size < (wr.alloc (.cells (lkc x a z.length mm) 51)).heap.size := by simp
        have hwsz := hbd.size
        clear hzk hblk o0 o1 HC hbA hbd hnl hlm hll hus hzb hSA
        go_wp2_with fail
        refine hcon.mono ?_
        rintro en w5 ⟨A5, m5, rfl, hb5, hel⟩
        have hC5 := hCA.below hb5
        have hbd5 := hbW.trans (hb5.mono hbW.size)
        have h5 := hC5.1
        have q0 := h5.cell _ (HC4.out _ _ (Nat.le_refl _) O0.out)
        have q1 := h5.cell _ (HC4.out _ _ (by omega) O1.out)
        have r0 := h5.free (k * 2)
        have r1 := h5.free (k * 2 + 1)
        have hel2 := LkE.mono hel (Q := fun b => w.heap.size ≤ b ∧ b ≠ g) (fun b hb9 _ => by have h2 : (wr.alloc (.cells (lkc x a z.length mm) 51)).heap.size ≤ b := hb9; omega)
        have hnx := hC5.next hlt (by rw [HZK.out]; exact hel2)
        have HC9 := Lib.hid hnx
        have HSZ9 : Hid (((cur.set! (k * 2) (.int .u64 x)).set! (k * 2 + 1) (.slice A5 z.length m5)).size = cap * 2) := Lib.hid (by have := HCSZ.out; simpa using this)
        have HB9 := Lib.hid (Below.setCell (Below.setCell hbd5 (p := ⟨g, k * 2, none⟩) hB (.int .u64 x)) (p := ⟨g, k * 2 + 1, none⟩) hB (.slice A5 z.length m5))
        clear hcon hb5 hel hCA hC5 h5 hel2 hnx x0 x1 c0 c1 hbW hbd5
        go_wp2
        go_roundw
        case rel => exact ⟨k + 1, _, by omega, by go_num, HC9, HB9.out, HSZ9⟩
        case measure => simp [intOf]; omega
      · obtain rfl : k = n := by omega
        have HPT := Lib.hid (own_of_cpl (w' := wr) (B' := w.heap.size) HC.out HL.out hcap HMX.out HCSZ.out hB (by omega) (fun _ _ _ => rfl))
        clear HC hlt
        go_wp2
        go_ret
        exact ⟨_, rfl, hbd, HPT.out⟩
end Go.Proofs.Ytoemmppoejaapaa.Cur
namespace Go.Proofs.Ytoemmppoejaapaa.Cur
open Go.RowKit Mem
set_option linter.unusedVariables false
set_option maxRecDepth 100000
theorem oper_append_rwl {sl e : TypeId} {zv : Value} {size bytes : Nat} (E : Kind sl e zv size bytes) {w : World} {o : Oper} {a : Act} {K : Act → World → Prop} {Q : Exit → Act → World → Prop} (s x : Operand)
    (ho : o.op = .call { callee := .builtin .append, args := #[s, x], argTypes := #[sl, sl] })
    (B : Nat) (v : Value) (n : Nat) (xs : List Value) (hs : a.eval s = v) (hown : w.ownsRow B e size v n xs) (A : Option Addr) (m c : Nat) (news : List Value) (hx : a.eval x = .slice A m c) (hl : news.length = m * size) (hr : Rw w A news) (hc : A = none → c = 0) (h1 : ∀ u ∈ news, u.oneCell' = true)
    (hsz : n + m ≤ 1000000) (hby : bytes ≤ 1000000) (hB : B ≤ w.heap.size)
    (h : ∀ v' w', w'.ownsRow B e size v' (n + m) (xs ++ news) → w.grownBy w' v.ownBlock → Gr v.ownBlock v'.ownBlock w → K (a.put o.dst v') w') : o.wp Try.prog a w K Q := by
  obtain ⟨v', w', hrun, h2, h3, h4⟩ := run_append_rw E w o.type B v n xs hown A m c news hl hr hc h1 hsz hby hB
  unfold Oper.wp
  simp [execOp, ho, resolve, invoke, builtin, hs, hx, hrun, Result.andThen]
  exact h v' w' h2 h3 h4
theorem Us.takeu {w : World} {A : Option Addr} {n : Nat} {z : List Int} (h : Us w A n z) {k : Nat} (hk : k ≤ n) : Us w A k (z.take k) := by
  refine ⟨by rw [List.length_take, h.1]; omega, fun hn => ?_⟩
  obtain ⟨g, o, e, hc⟩ := h.2 (by rw [List.length_map]; rw [List.length_map, List.length_take] at hn; omega)
  refine ⟨g, o, e, fun i v hi => hc i v ?_⟩
  unfold uv at hi ⊢
  rw [List.map_take, List.getElem?_take] at hi
  split at hi
  · exact hi
  · cases hi
set_option maxHeartbeats 4000000 in
theorem lextend_any (x : Int) (A : Option Addr) (n c : Nat) (z : List Int) (pos : Int) (w : World) (hx : 0 ≤ x ∧ x < 18446744073709551616) (hz : Us w A n z) (hb : ∀ y ∈ z, 0 ≤ y ∧ y < 18446744073709551616) (hnc : n ≤ c) (hnil : A = none → c = 0) (hn : n ≤ 1000000) (p0 : 0 ≤ pos) (p1 : pos < 18446744073709551616) :
    Calls Try.prog 34 #[lkagg x A n c, .int .u64 pos] w (LOwPost (ext pos (x, z)) w) := by
  have hX := (Blk.new w (lkc x A n c) 51).alloc (.cells (lkc 0 none 0 0) 51)
  have hY := Blk.new (w.alloc (.cells (lkc x A n c) 51)) (lkc 0 none 0 0) 51
  rw [show (w.alloc (.cells (lkc x A n c) 51)).heap.size = w.heap.size + 1 by simp] at hY
  have hbd0 := below_two w (.cells (lkc x A n c) 51) (.cells (lkc 0 none 0 0) 51)
  have hbd := hbd0.trans ((below_one' _).mono hbd0.size)
  have hSD : Blk ((w.alloc (.cells (lkc x A n c) 51)).alloc (.cells (lkc 0 none 0 0) 51)).drew w.heap.size (lkc x A n c) 51 := hX
  have hYD : Blk ((w.alloc (.cells (lkc x A n c) 51)).alloc (.cells (lkc 0 none 0 0) 51)).drew (w.heap.size + 1) (lkc 0 none 0 0) 51 := hY
  have L0 : ∀ w', Blk w' w.heap.size (lkc x A n c) 51 → w'.cell? ⟨w.heap.size, 0, none⟩ = some (.int .u64 x) ∧ w'.cell? ⟨w.heap.size, 1, none⟩ = some (.slice A n c) := fun w' h => h.c2
  have HZB := Lib.hid hb
  have HNIL := Lib.hid hnil
  obtain ⟨x0, x1⟩ := hX.c2
  have hzl := hz.1
  by_cases hk : n ≤ 3
  · have HUS := Lib.hid (fun w' (h : Below w.heap.size w w') => (hz.below h).takeu (Nat.le_refl n))
    have HUL : Hid ((z.take n).length = n) := Lib.hid (by rw [List.length_take, hzl]; omega)
    have HTK : Hid (ext pos (x, z) = (x, pos :: z.take n)) := Lib.hid (by unfold ext; rw [List.take_of_length_le (by show z.length ≤ 3; omega), List.take_of_length_le (by omega)])
    have e1 : min (n : Int) 3 = n := by omega
    have e2 : (n : Int) ≤ c := by omega
    have e3 : (n : Int) ≤ 3 := by omega
    clear hX hY hbd0 hzl hz hb hnil
    go_enter Try.func34, Try.ntmps34
    go_wp2
    refine Seq.wp_region_last (fun w' => Blk w' w.heap.size (lkc x A n c) 51) (by kernel_rfl) (by kernel_rfl) (by kernel_rfl) hSD ?_
    clear x0 x1
    generalize ((w.alloc (.cells (lkc x A n c) 51)).alloc (.cells (lkc 0 none 0 0) 51)).drew = wd at *
    repeat (first | (refine Seq.SeqE.skip (by rfl) ?_; (try simp only [Act.put, List.setIfInBounds_toArray, List.set_cons_zero, List.set_cons_succ])) | (refine Seq.SeqE.det ?_ (by rfl) (fun w hS => ?_) ?_; rotate_left; ((try dsimp only at hS); go_simp; (try rw [if_pos (by omega)]); with_reducible rfl); (try simp only [Act.put, List.setIfInBounds_toArray, List.set_cons_zero, List.set_cons_succ])))
    refine Seq.SeqE.make (by rfl) (by rfl) (fun K Q' hK => ?_)
    go_simp
    have hb5 := below_one wd (.cells #[.int .u64 pos] 22)
    have hS5 := hSD.below hb5
    have hY5 := hYD.below hb5
    have hn5 := Blk.new wd (uv [pos]).toArray 22
    have ho5 : OwnU _ wd.heap.size (.slice (some ⟨wd.heap.size, 0, none⟩) 1 1) [pos] := ownu_of_blk hn5 (Nat.le_refl _) (by simp)
    have hbd5 := hbd.trans (hb5.mono hbd.size)
    have hus5 := (HUS.out _ hbd5).2
    clear hn5
    refine hK.out _ _ (hS5) ?_
    clear hK K
    try simp only [Act.put, List.setIfInBounds_toArray, List.set_cons_zero, List.set_cons_succ]
    repeat (first | (refine Seq.SeqE.skip (by rfl) ?_; (try simp only [Act.put, List.setIfInBounds_toArray, List.set_cons_zero, List.set_cons_succ])) | (refine Seq.SeqE.det ?_ (by rfl) (fun w hS => ?_) ?_; rotate_left; ((try dsimp only at hS); go_simp; (try rw [if_pos (by omega)]); with_reducible rfl); (try simp only [Act.put, List.setIfInBounds_toArray, List.set_cons_zero, List.set_cons_succ])))
    refine Seq.SeqE.make (by rfl) (by rfl) (fun K Q' hK => ?_)
    refine oper_append_rwl kindU (.tmp 13) (.tmp 17) rfl wd.heap.size _ 1 (uv [pos]) rfl ho5 _ n c (uv (z.take (n))) rfl (by rw [List.length_map, Nat.mul_one]; exact HUL.out) hus5 HNIL.out (uv_one _) (by omega) (by omega) (by simp) ?_
    intro v' w9 ho9 hg9 hgr9
    have ho9' : OwnU w9 wd.heap.size v' (pos :: z.take (n)) := by
      unfold OwnU
      rw [List.length_cons, HUL.out, show n + 1 = 1 + n by omega, uv, List.map_cons]
      exact ho9
    have hge5 := own_ge ho5
    have hS9 := hS5.ks (Ks.of_grown (S := fun b => wd.heap.size ≤ b) hg9 (fun b e => hge5 b e)) (by have := hSD.lt; omega)
    have hY9 := hY5.ks (Ks.of_grown (S := fun b => wd.heap.size ≤ b) hg9 (fun b e => hge5 b e)) (by have := hYD.lt; omega)
    have hbd9 := (Ks.of_grown (S := fun b => wd.heap.size ≤ b) hg9 (fun b e => hge5 b e)).below hbd5 (Nat.le_refl _) (fun b hb => by have := hSD.lt; omega)
    obtain ⟨Z, hZ⟩ : ∃ Z, Z = pos :: z.take (n) := ⟨_, rfl⟩
    have HZV := Lib.hid hZ
    have hzb9 : ∀ y ∈ Z, 0 ≤ y ∧ y < 18446744073709551616 := fun y hy => by
      rw [hZ] at hy
      rcases List.mem_cons.1 hy with rfl | hy
      · exact ⟨p0, p1⟩
      · exact HZB.out y (List.mem_of_mem_take hy)
    rw [← hZ] at ho9'
    obtain ⟨A9, c9, hv9⟩ := ho9'.slice
    subst hv9
    obtain ⟨s1, s2, s3, s4⟩ := own_sq ho9' hzb9
    have HEL := Lib.hid (And.intro s2 s3)
    have HSQ := Lib.hid s4
    have HEX : Hid (ext pos (x, z) = (x, Z)) := Lib.hid (by rw [hZ]; exact HTK.out)
    clear ho9 hg9 hgr9 hge5 ho5 hus5 hS5 hY5 s1 s2 s3 s4 ho9' hZ hzb9
    refine hK.out _ _ (hS9) ?_
    clear hK K
    try simp only [Act.put, List.setIfInBounds_toArray, List.set_cons_zero, List.set_cons_succ]
    repeat (first | (refine Seq.SeqE.skip (by rfl) ?_; (try simp only [Act.put, List.setIfInBounds_toArray, List.set_cons_zero, List.set_cons_succ])) | (refine Seq.SeqE.det ?_ (by rfl) (fun w hS => ?_) ?_; rotate_left; ((try dsimp only at hS); go_simp; (try rw [if_pos (by omega)]); with_reducible rfl); (try simp only [Act.put, List.setIfInBounds_toArray, List.set_cons_zero, List.set_cons_succ])))
    obtain ⟨y0, y1⟩ := hY9.c2
    have f0 := hY9.free 0
    have f1 := hY9.free 1
    refine Seq.SeqE.last (by rfl) (by rfl) (fun K Q' hK => ?_)
    go_simp
    refine hK.out _ _ ?_
    clear hK K
    try simp only [Act.put, List.setIfInBounds_toArray, List.set_cons_zero, List.set_cons_succ]
    have HB9 := Lib.hid hbd9
    have hwd : w.heap.size + 1 < wd.heap.size := hYD.lt
    clear hS9 hY9 hbd9 hbd5 hSD hYD hb5
    go_wp2
    rw [HEX.out]
    refine bodyPost_ret (v := lkagg x A9 Z.length c9) (by simp [results, Try.results34, go_sem, y0, y1]) rfl ⟨A9, c9, rfl, ?_, ?_⟩
    · iterate 2 (refine Below.setCell ?_ (by simp) _)
      exact HB9.out
    · refine LkE.mk hx rfl HEL.out.1 HEL.out.2 ((HSQ.out.keep fun b hb9 _ => ?_).mono (fun b hb9 _ => by omega))
      rw [Below.heap_setCell _ _ _ _ (by simp; omega), Below.heap_setCell _ _ _ _ (by simp; omega)]
  · have HUS := Lib.hid (fun w' (h : Below w.heap.size w w') => (hz.below h).takeu (show 3 ≤ n by omega))
    have HUL : Hid ((z.take 3).length = 3) := Lib.hid (by rw [List.length_take, hzl]; omega)
    have HTK : Hid (ext pos (x, z) = (x, pos :: z.take 3)) := Lib.hid rfl
    have e1 : min (n : Int) 3 = 3 := by omega
    have e2 : (3 : Int) ≤ c := by omega
    have e3 : ¬ (n : Int) ≤ 3 := by omega
    clear hX hY hbd0 hzl hz hb hnil
    go_enter Try.func34, Try.ntmps34
    go_wp2
    refine Seq.wp_region_last (fun w' => Blk w' w.heap.size (lkc x A n c) 51) (by kernel_rfl) (by kernel_rfl) (by kernel_rfl) hSD ?_
    clear x0 x1
    generalize ((w.alloc (.cells (lkc x A n c) 51)).alloc (.cells (lkc 0 none 0 0) 51)).drew = wd at *
    repeat (first | (refine Seq.SeqE.skip (by rfl) ?_; (try simp only [Act.put, List.setIfInBounds_toArray, List.set_cons_zero, List.set_cons_succ])) | (refine Seq.SeqE.det ?_ (by rfl) (fun w hS => ?_) ?_; rotate_left; ((try dsimp only at hS); go_simp; (try rw [if_pos (by omega)]); with_reducible rfl); (try simp only [Act.put, List.setIfInBounds_toArray, List.set_cons_zero, List.set_cons_succ])))
    refine Seq.SeqE.make (by rfl) (by rfl) (fun K Q' hK => ?_)
    go_simp
    have hb5 := below_one wd (.cells #[.int .u64 pos] 22)
    have hS5 := hSD.below hb5
    have hY5 := hYD.below hb5
    have hn5 := Blk.new wd (uv [pos]).toArray 22
    have ho5 : OwnU _ wd.heap.size (.slice (some ⟨wd.heap.size, 0, none⟩) 1 1) [pos] := ownu_of_blk hn5 (Nat.le_refl _) (by simp)
    have hbd5 := hbd.trans (hb5.mono hbd.size)
    have hus5 := (HUS.out _ hbd5).2
    clear hn5
    refine hK.out _ _ (hS5) ?_
    clear hK K
    try simp only [Act.put, List.setIfInBounds_toArray, List.set_cons_zero, List.set_cons_succ]
    repeat (first | (refine Seq.SeqE.skip (by rfl) ?_; (try simp only [Act.put, List.setIfInBounds_toArray, List.set_cons_zero, List.set_cons_succ])) | (refine Seq.SeqE.det ?_ (by rfl) (fun w hS => ?_) ?_; rotate_left; ((try dsimp only at hS); go_simp; (try rw [if_pos (by omega)]); with_reducible rfl); (try simp only [Act.put, List.setIfInBounds_toArray, List.set_cons_zero, List.set_cons_succ])))
    refine Seq.SeqE.make (by rfl) (by rfl) (fun K Q' hK => ?_)
    refine oper_append_rwl kindU (.tmp 13) (.tmp 17) rfl wd.heap.size _ 1 (uv [pos]) rfl ho5 _ 3 c (uv (z.take (3))) rfl (by rw [List.length_map, Nat.mul_one]; exact HUL.out) hus5 HNIL.out (uv_one _) (by omega) (by omega) (by simp) ?_
    intro v' w9 ho9 hg9 hgr9
    have ho9' : OwnU w9 wd.heap.size v' (pos :: z.take (3)) := by
      unfold OwnU
      rw [List.length_cons, HUL.out, show 3 + 1 = 1 + 3 by omega, uv, List.map_cons]
      exact ho9
    have hge5 := own_ge ho5
    have hS9 := hS5.ks (Ks.of_grown (S := fun b => wd.heap.size ≤ b) hg9 (fun b e => hge5 b e)) (by have := hSD.lt; omega)
    have hY9 := hY5.ks (Ks.of_grown (S := fun b => wd.heap.size ≤ b) hg9 (fun b e => hge5 b e)) (by have := hYD.lt; omega)
    have hbd9 := (Ks.of_grown (S := fun b => wd.heap.size ≤ b) hg9 (fun b e => hge5 b e)).below hbd5 (Nat.le_refl _) (fun b hb => by have := hSD.lt; omega)
    obtain ⟨Z, hZ⟩ : ∃ Z, Z = pos :: z.take (3) := ⟨_, rfl⟩
    have HZV := Lib.hid hZ
    have hzb9 : ∀ y ∈ Z, 0 ≤ y ∧ y < 18446744073709551616 := fun y hy => by
      rw [hZ] at hy
      rcases List.mem_cons.1 hy with rfl | hy
      · exact ⟨p0, p1⟩
      · exact HZB.out y (List.mem_of_mem_take hy)
    rw [← hZ] at ho9'
    obtain ⟨A9, c9, hv9⟩ := ho9'.slice
    subst hv9
    obtain ⟨s1, s2, s3, s4⟩ := own_sq ho9' hzb9
    have HEL := Lib.hid (And.intro s2 s3)
    have HSQ := Lib.hid s4
    have HEX : Hid (ext pos (x, z) = (x, Z)) := Lib.hid (by rw [hZ]; exact HTK.out)
    clear ho9 hg9 hgr9 hge5 ho5 hus5 hS5 hY5 s1 s2 s3 s4 ho9' hZ hzb9
    refine hK.out _ _ (hS9) ?_
    clear hK K
    try simp only [Act.put, List.setIfInBounds_toArray, List.set_cons_zero, List.set_cons_succ]
    repeat (first | (refine Seq.SeqE.skip (by rfl) ?_; (try simp only [Act.put, List.setIfInBounds_toArray, List.set_cons_zero, List.set_cons_succ])) | (refine Seq.SeqE.det ?_ (by rfl) (fun w hS => ?_) ?_; rotate_left; ((try dsimp only at hS); go_simp; (try rw [if_pos (by omega)]); with_reducible rfl); (try simp only [Act.put, List.setIfInBounds_toArray, List.set_cons_zero, List.set_cons_succ])))
    obtain ⟨y0, y1⟩ := hY9.c2
    have f0 := hY9.free 0
    have f1 := hY9.free 1
    refine Seq.SeqE.last (by rfl) (by rfl) (fun K Q' hK => ?_)
    go_simp
    refine hK.out _ _ ?_
    clear hK K
    try simp only [Act.put, List.setIfInBounds_toArray, List.set_cons_zero, List.set_cons_succ]
    have HB9 := Lib.hid hbd9
    have hwd : w.heap.size + 1 < wd.heap.size := hYD.lt
    clear hS9 hY9 hbd9 hbd5 hSD hYD hb5
    go_wp2
    rw [HEX.out]
    refine bodyPost_ret (v := lkagg x A9 Z.length c9) (by simp [results, Try.results34, go_sem, y0, y1]) rfl ⟨A9, c9, rfl, ?_, ?_⟩
    · iterate 2 (refine Below.setCell ?_ (by simp) _)
      exact HB9.out
    · refine LkE.mk hx rfl HEL.out.1 HEL.out.2 ((HSQ.out.keep fun b hb9 _ => ?_).mono (fun b hb9 _ => by omega))
      rw [Below.heap_setCell _ _ _ _ (by simp; omega), Below.heap_setCell _ _ _ _ (by simp; omega)]
end Go.Proofs.Ytoemmppoejaapaa.Cur
