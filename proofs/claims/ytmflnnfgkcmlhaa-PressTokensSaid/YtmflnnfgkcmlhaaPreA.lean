/- Greedy compression: a seeker's Best, told with what it leaves; runs. -/
import Derived.Test.YtmflnnfgkcmlhaaK15
import Derived.Test.YtmflnnfgkcmlhaaPreM
import Derived.Test.YtmflnnfgkcmlhaaK12
namespace Go.Proofs.Ytmflnnfgkcmlhaa.Cur
open Go.RowKit Go.Shelf Mem
attribute [local go_sem] Oper.semAt_some
set_option linter.unusedVariables false
set_option maxRecDepth 100000


theorem Chn.ne_blk {w : World} {B c mb s t : Nat} {r : Option Nat} {A : Option Addr} {n m : Nat} {z : List Int} {a : Nat} {cs : Array Value} (h : Chn w B c mb r A n m z a) (hs : Blk w s cs t) (h1 : t ≠ 114) (h2 : t ≠ 3) (h3 : t ≠ 5) :
    ¬ CS c mb r s ∧ (Value.slice A n m).ownBlock ≠ some s := by
  obtain ⟨v, D, rfl, g2, g3, g4, g5, g6⟩ := h
  refine ⟨?_, own_ne_blk g3 hs h3⟩
  rintro (rfl | rfl | e)
  · unfold Blk at g2 hs
    rw [hs] at g2
    injection g2 with g2
    injection g2 with _ g2
    exact h1 g2
  · exact g5.ne_blk hs rfl
  · exact own_ne_blk g4 hs h2 e

theorem Chn.far {w : World} {B c mb : Nat} {r : Option Nat} {A : Option Addr} {n m : Nat} {z : List Int} {a : Nat} (h : Chn w B c mb r A n m z a) {k : Nat} (hk : k < B) : ¬ CS c mb r k ∧ (Value.slice A n m).ownBlock ≠ some k := by
  refine ⟨fun e => by have := h.ge k e; omega, fun e => ?_⟩
  obtain ⟨v, D, _, _, g3, _⟩ := h
  have := own_geg g3 k e
  omega
def SkNewPost2 (n : Nat) (z : List Int) (w : World) (e : Ending) (w' : World) : Prop :=
  ∃ s A' m' B c mb r A2 m2, e = .returned (.pointer (some ⟨s, 0, none⟩)) ∧ Blk w' s #[.slice A' n m', .pointer (some ⟨c, 0, none⟩), .int .i64 0] 84 ∧ Bs w' A' n z ∧ n ≤ m' ∧ Chn w' B c mb r A2 n m2 z n ∧ w.heap.size ≤ s ∧ w.heap.size ≤ B ∧ Below w.heap.size w w'
set_option maxHeartbeats 2000000 in
theorem sknew_two {w : World} {A : Option Addr} {n m : Nat} {z : List Int} (hz : Bs w A n z) (hby : ∀ x ∈ z, 0 ≤ x ∧ x < 256) (hn : n ≤ 60000) : Calls Try.prog 35 #[.slice A n m] w (SkNewPost2 n z w) := by
  have hC := clone_any (m := m) hz (by omega : n ≤ 100000)
  have HZ := Lib.hid hz
  have HBY := Lib.hid hby
  clear hz hby
  go_enter Try.func35, Try.ntmps35
  go_wp2_with fail
  refine hC.mono ?_
  rintro e w1 ⟨A', m', rfl, ho, hb⟩
  have hN := chnew_any (m := m) (HZ.out.below hb) (by omega : n ≤ 100000)
  have HO := Lib.hid ho
  have HB := Lib.hid hb
  clear hC ho hb
  go_wp2_with fail
  refine hN.mono ?_
  rintro e w2 ⟨c, mb, A2, m2, rfl, hc, hb2⟩
  have HC := Lib.hid hc
  have HB2 := Lib.hid hb2
  clear hN hc hb2
  have hA := below_one w2 (.cells #[.slice A' n m', .pointer (some ⟨c, 0, none⟩), .int .i64 0] 84)
  have hX := Blk.new w2 #[.slice A' n m', .pointer (some ⟨c, 0, none⟩), .int .i64 0] 84
  have HA := Lib.hid hA
  have HX := Lib.hid hX
  have hS2 := HB2.out.size
  have hA1 := hA.size
  clear hA hX
  go_wp2_with fail
  refine (chaddto_any (n : Int) (HC.out.below HA.out) HBY.out (by omega) (by omega)).mono ?_
  rintro e w4 ⟨r4, rfl, hc4, hk4, hg4⟩
  have et : tgt 0 n (n : Int) = n := by unfold tgt; omega
  rw [et] at hc4
  have HC4 := Lib.hid hc4
  have HK4 := Lib.hid hk4
  clear hc4 hk4 hg4
  go_wp2
  go_ret
  have hlt := (chn_lts HC.out).1
  have hX4 : Blk w4 w2.heap.size #[.slice A' n m', .pointer (some ⟨c, 0, none⟩), .int .i64 0] 84 := (HK4.out.block w2.heap.size HX.out.lt (fun h => by have := hlt _ h; omega)).trans HX.out
  have hge := Chn.ge (HC.out)
  have hB4 : Below w1.heap.size w1 w4 := HK4.out.below (HB2.out.trans (HA.out.mono hS2)) (Nat.le_refl _) hge
  have hO4 := own_below HO.out hB4
  obtain ⟨h1, h2⟩ := Cur.Own.bs hO4
  exact ⟨_, A', m', _, c, mb, r4, A2, m2, rfl, hX4, h2, (by have := (own_rw hO4 rfl).2.1; have := HZ.out.1; omega), HC4.out, Nat.le_trans HB.out.size hS2, HB.out.size, HB.out.trans (hB4.mono HB.out.size)⟩

/-- What a seeker's Best leaves: its count alone is another one. -/
def SkBestPost (s : Nat) (A : Option Addr) (n m c tr : Nat) (z : List Int) (a : Int) (L : List Nat) (w : World) (e : Ending) (w' : World) : Prop :=
  e = .returned (.tuple #[.int .i64 (bof z a L), .int .i64 (bnf z a L)]) ∧ ∃ t : Nat, t ≤ 60000 ∧ Blk w' s #[.slice A n m, .pointer (some ⟨c, 0, none⟩), .int .i64 ((tr + t : Nat) : Int)] 84 ∧ Kp s w w'
set_option maxHeartbeats 4000000 in
theorem skbest_kp {w : World} {s c B mb : Nat} {r : Option Nat} {A A2 : Option Addr} {n m m2 tr k : Nat} {z : List Int} (a : Int) (hs : Blk w s #[.slice A n m, .pointer (some ⟨c, 0, none⟩), .int .i64 (tr : Nat)] 84) (hz : Bs w A n z) (hm : n ≤ m) (hC : Chn w B c mb r A2 n m2 z k)
    (hby : ∀ x ∈ z, 0 ≤ x ∧ x < 256) (hn : n ≤ 60000) (ha : -9223372036854775808 ≤ a ∧ a ≤ 9223372036854775807) (htr : tr ≤ 1000000000000) :
    Calls Try.prog 36 #[.pointer (some ⟨s, 0, none⟩), .int .i64 a] w (SkBestPost s A n m c tr z a (nrs z k a) w) := by
  have hkn := hC.le
  have hh : ∀ p ∈ nrs z k a, (p : Int) < a := fun p hp => nrs_lt hp
  have hll : (nrs z k a).length ≤ k := nrs_len
  have hS : Blk w.drew s #[.slice A n m, .pointer (some ⟨c, 0, none⟩), .int .i64 (tr : Nat)] 84 := hs
  have HC := Lib.hid (hC.below (below_one' w))
  have HZ := Lib.hid (hz.below (below_one' w))
  have HBY := Lib.hid hby
  have HH := Lib.hid hh
  have HLL := Lib.hid hll
  have hsl := hs.lt
  have L : ∀ w', Blk w' s #[.slice A n m, .pointer (some ⟨c, 0, none⟩), .int .i64 (tr : Nat)] 84 → w'.cell? ⟨s, 0, none⟩ = some (.slice A n m) ∧ w'.cell? ⟨s, 1, none⟩ = some (.pointer (some ⟨c, 0, none⟩)) := fun w' h => ⟨h.cell 0 rfl, h.cell 1 rfl⟩
  clear hC hz hby hh hll hs
  go_enter Try.func36, Try.ntmps36
  go_wp2
  refine Seq.wp_region_seq (fun w' => Blk w' s #[.slice A n m, .pointer (some ⟨c, 0, none⟩), .int .i64 (tr : Nat)] 84) (by kernel_rfl) (by kernel_rfl) hS ?_
  repeat (first | (refine Seq.Seq.skip (by rfl) ?_; (try simp only [Act.put, List.setIfInBounds_toArray, List.set_cons_zero, List.set_cons_succ])) | (refine Seq.Seq.det ?_ (by rfl) (fun w hS => ?_) ?_; rotate_left; ((try dsimp only at hS); go_simp; (try rw [if_pos (by omega)]); with_reducible rfl); (try simp only [Act.put, List.setIfInBounds_toArray, List.set_cons_zero, List.set_cons_succ])))
  refine Seq.Seq.make (by rfl) (by rfl) (fun K Q' hK => ?_)
  go_simp
  go_at_call 57
  refine (places_any a HC.out (Below.refl _ _) HBY.out (by omega)).mono ?_
  rintro e w2 ⟨c2, g2, o2, k2, rfl, hb2, hs2, hpl, hk2, hcg⟩
  have hS2 := hS.below hb2
  have hbz2 := HZ.out.below hb2
  have HB2 := Lib.hid hb2
  have hBe := best_any (w := w2) (A := A) (m := m) a 83 #[.pointer (some ⟨w.drew.heap.size + 2, 0, none⟩), .pointer (some ⟨w.drew.heap.size + 1, 0, none⟩), .pointer (some ⟨w.drew.heap.size, 0, none⟩)] (ofL (nrs z k a) HH.out) hbz2 HBY.out hm hn ha (by rw [ofL_map]; exact nrs_sorted z k a) (by rw [ofL_len]; have := HLL.out; omega)
    (enters_of Try.func83 (by kernel_rfl) rfl) (vplaces_stops Subtype.val Fence.wide 2 trivial rfl (by omega) _ _ _ c2 g2 o2 k2 a _ w2 (by rw [ofL_map]; exact hpl) ha hk2 _ (by rintro b (rfl | rfl | rfl | rfl) <;> omega) ⟨by omega, by omega, by omega, fun _ => by omega⟩)
  rw [ofL_map] at hBe
  replace hBe : Calls Try.prog 56 #[.slice A n m, .int .i64 a, .func (.func 83) #[] #[.pointer (some ⟨w.drew.heap.size + 2, 0, none⟩), .pointer (some ⟨w.drew.heap.size + 1, 0, none⟩), .pointer (some ⟨w.drew.heap.size, 0, none⟩)]] w2 (BestPost' z a (nrs z k a) w2) := hBe
  unfold BestPost' at hBe
  have HBE := Lib.hid hBe
  clear hBe hbz2 hb2 hpl hcg
  refine hK.out _ _ (hS2) ?_
  clear hK K
  try simp only [Act.put, List.setIfInBounds_toArray, List.set_cons_zero, List.set_cons_succ]
  repeat (first | (refine Seq.Seq.skip (by rfl) ?_; (try simp only [Act.put, List.setIfInBounds_toArray, List.set_cons_zero, List.set_cons_succ])) | (refine Seq.Seq.det ?_ (by rfl) (fun w hS => ?_) ?_; rotate_left; ((try dsimp only at hS); go_simp; (try rw [if_pos (by omega)]); with_reducible rfl); (try simp only [Act.put, List.setIfInBounds_toArray, List.set_cons_zero, List.set_cons_succ])))
  refine Seq.Seq.make (by rfl) (by rfl) (fun K Q' hK => ?_)
  go_simp
  go_at_call 56
  refine HBE.out.mono ?_
  rintro e w3 ⟨t, ht, rfl, hb3⟩
  have hS3 := hS2.below hb3
  have hTT : t ≤ 60000 := by have := HLL.out; omega
  have HB3 := Lib.hid (((below_one' w).trans HB2.out).trans (hb3.mono (by have := ((below_one' w).trans HB2.out).size; omega)))
  clear hb3 ht HBE
  refine hK.out _ _ (hS3) ?_
  clear hK K
  try simp only [Act.put, List.setIfInBounds_toArray, List.set_cons_zero, List.set_cons_succ]
  repeat (first | (refine Seq.Seq.skip (by rfl) ?_; (try simp only [Act.put, List.setIfInBounds_toArray, List.set_cons_zero, List.set_cons_succ])) | (refine Seq.Seq.det ?_ (by rfl) (fun w hS => ?_) ?_; rotate_left; ((try dsimp only at hS); go_simp; (try rw [if_pos (by omega)]); with_reducible rfl); (try simp only [Act.put, List.setIfInBounds_toArray, List.set_cons_zero, List.set_cons_succ])))
  refine Seq.Seq.nil ?_
  have c0 : w3.cell? ⟨s, 2, none⟩ = some (.int .i64 (tr : Nat)) := hS3.cell 2 rfl
  have f0 := hS3.free 2
  have hK : Kp s w (w3.setCell ⟨s, 2, none⟩ (.int .i64 ((tr : Int) + (t : Int)))) := (Kp.of_below HB3.out).trans (Kp.setCell _ _ _ _)
  have hX := hS3.set 2 (.int .i64 ((tr : Int) + (t : Int)))
  have HK := Lib.hid hK
  have HX := Lib.hid hX
  clear hK hX hS3 hS2 hS L
  go_wp2
  go_ret2
  refine ⟨rfl, t, hTT, ?_, HK.out⟩
  rw [show (((tr + t : Nat) : Int)) = (tr : Int) + (t : Int) by omega]
  exact HX.out

/-- Bytes as one run; no bytes are none. -/
def rn1 (z : List Int) : List Tk := if z = [] then [] else [(z, 0, 0)]
theorem rn1_len (z : List Int) : (rn1 z).length ≤ 1 := by unfold rn1; split <;> simp
def PRunPost (B : Nat) (v : Value) (T : List Tk) (z : List Int) (w : World) (e : Ending) (w' : World) : Prop :=
  ∃ v', e = .returned v' ∧ TkOwn w' B v' (T ++ rn1 z) ∧ Ks (fun k => v.ownBlock = some k) w w' ∧ Gr v.ownBlock v'.ownBlock w
set_option maxHeartbeats 2000000 in
theorem prun_any {w : World} {B : Nat} {v : Value} {T : List Tk} {A : Option Addr} {n m : Nat} {z : List Int} (hT : TkOwn w B v T) (hz : Bs w A n z) (hn : n ≤ 100000) (hl : T.length ≤ 900000) (hB : B ≤ w.heap.size) :
    Calls Try.prog 34 #[v, .slice A n m] w (PRunPost B v T z w) := by
  obtain ⟨Av, cv, rfl⟩ := hT.slice
  have hzl := hz.1
  by_cases h0 : n = 0
  · have hz0 : z = [] := List.eq_nil_of_length_eq_zero (by omega)
    have hr : T ++ rn1 z = T := by rw [hz0]; unfold rn1; rw [if_pos rfl, List.append_nil]
    unfold PRunPost
    rw [hr]
    have HT := Lib.hid hT
    subst h0
    clear hT hz hr
    go_enter Try.func34, Try.ntmps34
    go_wp2
    go_ret
    exact ⟨_, rfl, HT.out, Ks.refl _ _, .inl rfl⟩
  · have hr : rn1 z = [(z, 0, 0)] := by unfold rn1; rw [if_neg (by rintro rfl; simp at hzl; omega)]
    unfold PRunPost
    rw [hr]
    have hC := clone_any (m := m) hz hn
    have hnb : ((n : Int) == 0) = false := by simp; omega
    have HT := Lib.hid hT
    clear hT hz hr
    go_enter Try.func34, Try.ntmps34
    go_wp2_with fail
    refine hC.mono ?_
    rintro e w1 ⟨A', m', rfl, ho, hb⟩
    have hbA := below_one w1 (.cells #[.slice A' n m', .int .i64 0, .int .i64 0] 33)
    have hbd := hb.trans (hbA.mono hb.size)
    have hrwA := rw_new w1 [.slice A' n m', .int .i64 0, .int .i64 0] 33
    have hB9 : B ≤ (w1.alloc (.cells #[.slice A' n m', .int .i64 0, .int .i64 0] 33)).heap.size := by have := hb.size; simp; omega
    have HLEN : Hid (T.length + 1 ≤ 1000000) := Lib.hid (by omega)
    have hu0 : Own _ 0 _ z := (ho.below hbA).base (B' := 0) (fun g hg => Nat.zero_le g)
    obtain ⟨vs, hown, hTV⟩ := HT.out.below hbd
    have HBD := Lib.hid hbd
    have HS2 := Lib.hid (fun v' w' k1 k2 => TkOwn.snoc (w' := w') (v' := v') (t := (z, 0, 0)) hown hTV hu0 k1 k2)
    clear hC hb hbA ho hu0 hbd
    go_wp2_with (at_builtin; go_must (refine list_append_rw kindK rfl (.tmp 9) (.tmp 13) rfl B _ _ _ rfl hown _ 1 _ [.slice A' n m', .int .i64 0, .int .i64 0] rfl rfl hrwA (by simp) (by simp [Value.oneCell']) HLEN.out (by omega) hB9 ?_; intro v' w10 ho' hg' hgr; have HN := Lib.hid (HS2.out _ _ ho' hg'); have HG := Lib.hid hg'; have HGR := Lib.hid hgr; clear ho' hg' hgr hown hTV HS2 hrwA))
    go_ret
    refine ⟨_, rfl, HN.out, ((Ks.of_below HBD.out).trans (Ks.of_grown (S := fun k => (Value.slice Av T.length cv).ownBlock = some k) HG.out (fun k e => e))), ?_⟩
    rcases HGR.out with e | ⟨g, e, hg⟩
    · exact .inl e
    · exact .inr ⟨g, e, Nat.le_trans HBD.out.size hg⟩

/-- The closure: bytes up to a place, as one run. -/
def PColPost (B lb bb fb : Nat) (A : Option Addr) (n m : Nat) (v : Value) (T : List Tk) (y : List Int) (next : Int) (w : World) (e : Ending) (w' : World) : Prop :=
  e = .returned (.tuple #[]) ∧ ∃ v', TkOwn w' B v' (T ++ rn1 y) ∧ Blk w' lb #[v'] 24 ∧ Blk w' bb #[.slice A n m] 22 ∧ Blk w' fb #[.int .i64 next] 3 ∧ Ks (fun k => k = lb ∨ k = fb ∨ v.ownBlock = some k) w w' ∧ Gr v.ownBlock v'.ownBlock w
set_option maxHeartbeats 4000000 in
theorem pcollect_any {w : World} {B lb bb fb : Nat} {v : Value} {T : List Tk} {A : Option Addr} {n m : Nat} {z : List Int} {f a : Nat} (next : Int) (hL : Blk w lb #[v] 24) (hX : Blk w bb #[.slice A n m] 22) (hF : Blk w fb #[.int .i64 (f : Int)] 3) (hT : TkOwn w B v T) (hz : Bs w A n z)
    (hm : n ≤ m) (hn : n ≤ 60000) (hfa : f ≤ a) (ha : a ≤ n) (hl : T.length ≤ 900000) (hB : B ≤ w.heap.size) (hlb : lb < B) (hbb : bb < B) (hfb : fb < B) (h1 : lb ≠ bb) (h2 : lb ≠ fb) (h3 : fb ≠ bb) :
    Calls Try.prog 33 #[.int .i64 (a : Int), .int .i64 next, .pointer (some ⟨lb, 0, none⟩), .pointer (some ⟨bb, 0, none⟩), .pointer (some ⟨fb, 0, none⟩)] w (PColPost B lb bb fb A n m v T (piece z f a) next w) := by
  have hge : ∀ g, v.ownBlock = some g → B ≤ g := hT.ge
  obtain ⟨Av, cv, rfl⟩ := hT.slice
  obtain ⟨A', M', hsl, hpz, hpm, _⟩ := slice_lh hz m (f : Int) (a : Int) (by omega) (by omega) (by omega) hm
  rw [Int.toNat_natCast, Int.toNat_natCast] at hpz
  obtain ⟨q, hq⟩ : ∃ q, q = ((a : Int) - (f : Int)).toNat := ⟨_, rfl⟩
  rw [← hq] at hsl hpz hpm
  have hR := prun_any (w := w.drew) (m := M') (hT.below (below_one' w)) (hpz.below (below_one' w)) (by omega) hl hB
  have hS : Blk w.drew lb #[.slice Av T.length cv] 24 ∧ Blk w.drew bb #[.slice A n m] 22 ∧ Blk w.drew fb #[.int .i64 (f : Int)] 3 := ⟨hL, hX, hF⟩
  have L : ∀ w', (Blk w' lb #[.slice Av T.length cv] 24 ∧ Blk w' bb #[.slice A n m] 22 ∧ Blk w' fb #[.int .i64 (f : Int)] 3) → w'.cell? ⟨lb, 0, none⟩ = some (.slice Av T.length cv) ∧ w'.cell? ⟨bb, 0, none⟩ = some (.slice A n m) ∧ w'.cell? ⟨fb, 0, none⟩ = some (.int .i64 (f : Int)) :=
    fun w' h => ⟨h.1.c1, h.2.1.c1, h.2.2.c1⟩
  have HGE := Lib.hid hge
  clear hL hX hF hT hz hpz hge hq
  go_enter Try.func33, Try.ntmps33
  go_wp2
  refine Seq.wp_region_last (fun w' => Blk w' lb #[.slice Av T.length cv] 24 ∧ Blk w' bb #[.slice A n m] 22 ∧ Blk w' fb #[.int .i64 (f : Int)] 3) (by kernel_rfl) (by kernel_rfl) (by kernel_rfl) hS ?_
  repeat (first | (refine Seq.SeqE.skip (by rfl) ?_; (try simp only [Act.put, List.setIfInBounds_toArray, List.set_cons_zero, List.set_cons_succ])) | (refine Seq.SeqE.det ?_ (by rfl) (fun w hS => ?_) ?_; rotate_left; ((try dsimp only at hS); go_simp; (try rw [if_pos (by omega)]); with_reducible rfl); (try simp only [Act.put, List.setIfInBounds_toArray, List.set_cons_zero, List.set_cons_succ])))
  refine Seq.SeqE.make (by rfl) (by rfl) (fun K Q' hK => ?_)
  go_simp
  go_at_call 34
  refine hR.mono ?_
  rintro e w1 ⟨v', rfl, ho1, hk1, hgr1⟩
  have hne : ∀ k, k < B → ¬ (Value.slice Av T.length cv).ownBlock = some k := fun k hk e => by have := HGE.out k e; omega
  have hS1 : Blk w1 lb #[.slice Av T.length cv] 24 ∧ Blk w1 bb #[.slice A n m] 22 ∧ Blk w1 fb #[.int .i64 (f : Int)] 3 := ⟨Blk.ks hS.1 hk1 (hne _ hlb), Blk.ks hS.2.1 hk1 (hne _ hbb), Blk.ks hS.2.2 hk1 (hne _ hfb)⟩
  have hK1 : Ks (fun k => k = lb ∨ k = fb ∨ (Value.slice Av T.length cv).ownBlock = some k) w w1 := (Ks.of_below (below_one' w)).trans' hk1 (fun i _ h => .inr (.inr h))
  obtain ⟨T2, hT2⟩ : ∃ T2, T2 = T ++ rn1 (piece z f a) := ⟨_, rfl⟩
  rw [← hT2] at ho1
  have HT2 := Lib.hid hT2
  clear hT2
  obtain ⟨Av', cv', rfl⟩ := ho1.slice
  clear hR hk1
  refine hK.out _ _ (hS1) ?_
  clear hK K
  try simp only [Act.put, List.setIfInBounds_toArray, List.set_cons_zero, List.set_cons_succ]
  repeat (first | (refine Seq.SeqE.skip (by rfl) ?_; (try simp only [Act.put, List.setIfInBounds_toArray, List.set_cons_zero, List.set_cons_succ])) | (refine Seq.SeqE.det ?_ (by rfl) (fun w hS => ?_) ?_; rotate_left; ((try dsimp only at hS); go_simp; (try rw [if_pos (by omega)]); with_reducible rfl); (try simp only [Act.put, List.setIfInBounds_toArray, List.set_cons_zero, List.set_cons_succ])))
  have c0 := hS1.1.c1
  have f0 := hS1.1.free 0
  refine Seq.SeqE.last (by rfl) (by rfl) (fun K Q' hK => ?_)
  go_simp
  refine hK.out _ _ ?_
  clear hK K
  try simp only [Act.put, List.setIfInBounds_toArray, List.set_cons_zero, List.set_cons_succ]
  have hX1 : Blk (w1.setCell ⟨lb, 0, none⟩ (.slice Av' T2.length cv')) lb #[.slice Av' T2.length cv'] 24 := hS1.1.set 0 _
  have hB1 := blk_kp hS1.2.1 (Kp.setCell w1 lb 0 (.slice Av' T2.length cv')) (by omega)
  have hF1 := blk_kp hS1.2.2 (Kp.setCell w1 lb 0 (.slice Av' T2.length cv')) (by omega)
  have hT1 := ho1.kp_blk hS1.1 (by decide) (.inl (by decide)) (Kp.setCell w1 lb 0 (.slice Av' T2.length cv'))
  have hK2 := hK1.trans (Ks.setCell (S := fun k => k = lb ∨ k = fb ∨ (Value.slice Av T.length cv).ownBlock = some k) w1 lb 0 (.slice Av' T2.length cv') (.inl rfl))
  clear hK1 hS1 hS L c0 f0 ho1
  generalize w1.setCell ⟨lb, 0, none⟩ (.slice Av' T2.length cv') = w2 at *
  have f1 := hF1.free 0
  have hX3 := blk_kp hX1 (Kp.setCell w2 fb 0 (.int .i64 next)) (by omega)
  have hB3 := blk_kp hB1 (Kp.setCell w2 fb 0 (.int .i64 next)) (by omega)
  have hF3 : Blk (w2.setCell ⟨fb, 0, none⟩ (.int .i64 next)) fb #[.int .i64 next] 3 := hF1.set 0 _
  have hT3 := hT1.kp_blk hF1 (by decide) (.inl (by decide)) (Kp.setCell w2 fb 0 (.int .i64 next))
  have hK3 := hK2.trans (Ks.setCell (S := fun k => k = lb ∨ k = fb ∨ (Value.slice Av T.length cv).ownBlock = some k) w2 fb 0 (.int .i64 next) (.inr (.inl rfl)))
  have c1 := hF1.c1
  have HF := Lib.hid (And.intro hX3 (And.intro hB3 (And.intro hF3 (And.intro hT3 hK3))))
  clear hX3 hB3 hF3 hT3 hK3 hX1 hB1 hF1 hT1 hK2
  go_wp2
  go_end0
  exact ⟨rfl, _, by rw [← HT2.out]; exact HF.out.2.2.2.1, HF.out.1, HF.out.2.1, HF.out.2.2.1, HF.out.2.2.2.2, hgr1⟩
end Go.Proofs.Ytmflnnfgkcmlhaa.Cur
