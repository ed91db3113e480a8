/- As the seat's text, without what nothing here names. -/
import Derived.Test.YtmiimjgfainclaaGreatK13w
import Derived.Test.YtmiimjgfainclaaGreatK15w
import Derived.Test.YtmiimjgfainclaaGreatK12w
namespace Go.Proofs.YtmiimjgfainclaaGreat.Cur
open Go.RowKit Mem
set_option linter.unusedVariables false
theorem best_is (z : List Int) (a : Int) : (bo z a = 0 ∧ bn z a = 0 ∧ ∀ q ∈ alls a, mt z a.toNat q ≤ 3) ∨
    ∃ p : Nat, p ∈ alls a ∧ bo z a = a - p ∧ bn z a = (mt z a.toNat p : Nat) ∧ 4 ≤ mt z a.toNat p ∧ (∀ q ∈ alls a, mt z a.toNat q ≤ mt z a.toNat p) ∧ ∀ q ∈ alls a, p < q → mt z a.toNat q < mt z a.toNat p := best_cases z a
theorem best_good {z : List Int} {a : Nat} (h : bn z a ≠ 0) : ∃ (p l : Nat), bo z a = a - p ∧ bn z a = l ∧ p < a ∧ (a : Int) - p ≤ 65536 ∧ 4 ≤ l ∧ a + l ≤ z.length ∧ l = mt z a p ∧ ∀ j, j < l → z.getD (a + j) 0 = z.getD (p + j) 0 := by
  rcases best_is z a with ⟨_, h2, _⟩ | ⟨p, hp, h1, h2, h3, _⟩
  · exact absurd h2 h
  · have hm := alls_mem.1 hp
    rw [Int.toNat_natCast] at h2 h3
    have := mt_le z a p
    exact ⟨p, _, h1, h2, by omega, hm.2, h3, by omega, rfl, fun j hj => mt_eq hj⟩
def Gst (z : List Int) (a : Nat) (pr : Bool) (t : Tk) (b : Nat) (pb : Bool) : Prop :=
  (pr = false ∧ pb = true ∧ a < b ∧ b ≤ z.length ∧ t = (piece z a b, 0, 0) ∧ ∀ k : Nat, a ≤ k → k < b → bn z k = 0) ∨
  (pb = false ∧ a < z.length ∧ bn z a ≠ 0 ∧ t = ([], bo z a, bn z a) ∧ b = a + (bn z a).toNat)
def Gth (z : List Int) : Nat → Bool → List Tk → Nat → Bool → Prop
  | a, pr, [], c, pc => a = c ∧ pr = pc
  | a, pr, t :: T, c, pc => ∃ b pb, Gst z a pr t b pb ∧ Gth z b pb T c pc
theorem gth_append {z : List Int} {Y : List Tk} {c : Nat} {pc : Bool} : ∀ {X : List Tk} {a : Nat} {pr : Bool}, Gth z a pr (X ++ Y) c pc ↔ ∃ b pb, Gth z a pr X b pb ∧ Gth z b pb Y c pc
  | [], a, pr => ⟨fun h => ⟨a, pr, ⟨rfl, rfl⟩, h⟩, fun ⟨b, pb, ⟨h1, h2⟩, h⟩ => by subst h1 h2; exact h⟩
  | t :: X, a, pr => by
    constructor
    · rintro ⟨b, pb, h1, h2⟩
      obtain ⟨c', pc', h3, h4⟩ := gth_append.1 h2
      exact ⟨c', pc', ⟨b, pb, h1, h3⟩, h4⟩
    · rintro ⟨c', pc', ⟨b, pb, h1, h3⟩, h4⟩
      exact ⟨b, pb, h1, gth_append.2 ⟨c', pc', h3, h4⟩⟩
theorem gth_snoc {z : List Int} {X : List Tk} {t : Tk} {a c : Nat} {pr pc : Bool} : Gth z a pr (X ++ [t]) c pc ↔ ∃ b pb, Gth z a pr X b pb ∧ Gst z b pb t c pc := by
  rw [gth_append]
  constructor
  · rintro ⟨b, pb, h1, b', pb', h2, h3, h4⟩
    subst h3 h4
    exact ⟨b, pb, h1, h2⟩
  · rintro ⟨b, pb, h1, h2⟩
    exact ⟨b, pb, h1, c, pc, h2, rfl, rfl⟩
theorem gst_lt {z : List Int} {a b : Nat} {pr pb : Bool} {t : Tk} (h : Gst z a pr t b pb) : a < b ∧ b ≤ z.length := by
  rcases h with ⟨_, _, h1, h2, _⟩ | ⟨_, h1, h2, _, rfl⟩
  · exact ⟨h1, h2⟩
  · obtain ⟨p, l, _, e, _, _, h4, h5, _⟩ := best_good h2
    rw [e]
    omega
theorem gth_le {z : List Int} {c : Nat} {pc : Bool} : ∀ {T : List Tk} {a : Nat} {pr : Bool}, Gth z a pr T c pc → a ≤ c ∧ T.length ≤ c - a
  | [], a, pr, ⟨h, _⟩ => by subst h; exact ⟨Nat.le_refl _, Nat.zero_le _⟩
  | t :: T, a, pr, ⟨b, pb, h1, h2⟩ => by
    have := gst_lt h1
    have := gth_le h2
    rw [List.length_cons]
    omega
theorem gth_once {z : List Int} {p1 p2 : Bool} : ∀ {T T' : List Tk} {a : Nat} {pr : Bool}, Gth z a pr T z.length p1 → Gth z a pr T' z.length p2 → T = T'
  | [], [], _, _, _, _ => rfl
  | [], t :: T', a, pr, ⟨h, _⟩, ⟨b, pb, h1, _⟩ => by have := gst_lt h1; omega
  | t :: T, [], a, pr, ⟨b, pb, h1, _⟩, ⟨h, _⟩ => by have := gst_lt h1; omega
  | t :: T, t' :: T', a, pr, ⟨b, pb, h1, h2⟩, ⟨b', pb', h1', h2'⟩ => by
    have key : ∀ {T T' : List Tk} {b b' : Nat} {p1 : Bool}, a < b → (∀ k : Nat, a ≤ k → k < b' → bn z k = 0) → b < b' → b' ≤ z.length → Gth z b true T z.length p1 → False := by
      intro T T' b b' p1 hab h0 hbb hb' h
      cases T with
      | nil => have := h.1; omega
      | cons s S =>
        obtain ⟨c, pc, g1, _⟩ := h
        rcases g1 with ⟨e, _⟩ | ⟨_, _, g, _⟩
        · cases e
        · exact g (h0 b (by omega) hbb)
    rcases h1 with ⟨e1, rfl, ha, hb, rfl, h0⟩ | ⟨rfl, ha, h0, rfl, rfl⟩
    · rcases h1' with ⟨_, rfl, ha', hb', rfl, h0'⟩ | ⟨_, _, h0', _⟩
      · have hbb : b = b' := by
          rcases Nat.lt_trichotomy b b' with h | h | h
          · exact (key (T' := T') ha h0' h hb' h2).elim
          · exact h
          · exact (key (T' := T) ha' h0 h hb h2').elim
        subst hbb
        rw [gth_once h2 h2']
      · exact absurd (h0 a (Nat.le_refl _) ha) h0'
    · rcases h1' with ⟨_, _, ha', _, _, h0'⟩ | ⟨rfl, _, _, rfl, rfl⟩
      · exact absurd (h0' a (Nat.le_refl _) ha') h0
      · rw [gth_once h2 h2']
def Gpd (z : List Int) (a : Nat) (L : List Tk) (b : Nat) : Prop := Gth z 0 false L b false ∧ b ≤ a ∧ a ≤ z.length ∧ ∀ k : Nat, b ≤ k → k < a → bn z k = 0
def Gfin (z : List Int) (a : Nat) (L : List Tk) (b : Nat) : List Tk := if b < a then L ++ [(piece z b a, 0, 0)] else L
theorem Gpd.start (z : List Int) : Gpd z 0 [] 0 := ⟨⟨rfl, rfl⟩, Nat.le_refl _, Nat.zero_le _, fun k _ h => by omega⟩
theorem Gpd.lit {z : List Int} {a b : Nat} {L : List Tk} (h : Gpd z a L b) (ha : a < z.length) (h0 : bn z a = 0) : Gpd z (a + 1) L b :=
  ⟨h.1, by have := h.2.1; omega, ha, fun k h1 h2 => by
    by_cases e : k = a
    · rw [e]; exact h0
    · exact h.2.2.2 k h1 (by omega)⟩
theorem Gpd.fin {z : List Int} {a b : Nat} {L : List Tk} (h : Gpd z a L b) : ∃ p, Gth z 0 false (Gfin z a L b) a p ∧ (b < a ∨ p = false) := by
  obtain ⟨h1, h2, h3, h4⟩ := h
  unfold Gfin
  split
  · rename_i hlt
    exact ⟨true, gth_snoc.2 ⟨b, false, h1, .inl ⟨rfl, rfl, hlt, h3, rfl, h4⟩⟩, .inl hlt⟩
  · obtain rfl : b = a := by omega
    exact ⟨false, h1, .inr rfl⟩
theorem Gpd.copy {z : List Int} {a b : Nat} {L : List Tk} (h : Gpd z a L b) (ha : a < z.length) (h0 : bn z a ≠ 0) : Gpd z (a + (bn z a).toNat) (Gfin z a L b ++ [([], bo z a, bn z a)]) (a + (bn z a).toNat) := by
  obtain ⟨p, hp, _⟩ := h.fin
  have hst : Gst z a p ([], bo z a, bn z a) (a + (bn z a).toNat) false := .inr ⟨rfl, ha, h0, rfl, rfl⟩
  exact ⟨gth_snoc.2 ⟨a, p, hp, hst⟩, Nat.le_refl _, (gst_lt hst).2, fun k h1 h2 => by omega⟩
end Go.Proofs.YtmiimjgfainclaaGreat.Cur
namespace Go.Proofs.YtmiimjgfainclaaGreat.Cur
open Go.RowKit Go.Shelf Mem
attribute [local go_sem] Oper.semAt_some
set_option linter.unusedVariables false
set_option maxRecDepth 100000
theorem Chn.ne_blk {w : World} {B c mb s t : Nat} {r : Option Nat} {A : Option Addr} {n m : Nat} {z : List Int} {a : Nat} {cs : Array Value} (h : Chn w B c mb r A n m z a) (hs : Blk w s cs t) (h1 : t ≠ 252) (h2 : t ≠ 3) (h3 : t ≠ 5) :
    ¬ CS c mb r s ∧ (Value.slice A n m).ownBlock ≠ some s := by
  obtain ⟨v, D, rfl, g2, g3, g4, g5, g6⟩ := h
  refine ⟨?_, own_ne_blk g3 hs h3⟩
  rintro (rfl | rfl | e)
  · unfold Blk at g2 hs
    rw [hs] at g2
    injection g2 with g2
    injection g2 with _ g2
    exact h1 g2
  · exact g5.ne_blk hs rfl
  · exact own_ne_blk g4 hs h2 e
theorem Chn.far {w : World} {B c mb : Nat} {r : Option Nat} {A : Option Addr} {n m : Nat} {z : List Int} {a : Nat} (h : Chn w B c mb r A n m z a) {k : Nat} (hk : k < B) : ¬ CS c mb r k ∧ (Value.slice A n m).ownBlock ≠ some k := by
  refine ⟨fun e => by have := h.ge k e; omega, fun e => ?_⟩
  obtain ⟨v, D, _, _, g3, _⟩ := h
  have := own_geg g3 k e
  omega
def SkNewPost2 (n : Nat) (z : List Int) (w : World) (e : Ending) (w' : World) : Prop :=
  ∃ s A' m' B c mb r A2 m2, e = .returned (.pointer (some ⟨s, 0, none⟩)) ∧ Blk w' s #[.slice A' n m', .pointer (some ⟨c, 0, none⟩), .int .i64 0] 240 ∧ Bs w' A' n z ∧ n ≤ m' ∧ Chn w' B c mb r A2 n m2 z n ∧ w.heap.size ≤ s ∧ w.heap.size ≤ B ∧ Below w.heap.size w w'
set_option maxHeartbeats 2000000 in
theorem sknew_two {w : World} {A : Option Addr} {n m : Nat} {z : List Int} (hz : Bs w A n z) (hby : ∀ x ∈ z, 0 ≤ x ∧ x < 256) (hn : n ≤ 60000) : Calls Tryz.prog 229 #[.slice A n m] w (SkNewPost2 n z w) := by
  have hC := clone_any (m := m) hz (by omega : n ≤ 100000)
  have HZ := Lib.hid hz
  have HBY := Lib.hid hby
  clear hz hby
  go_enter Tryz.func229, Tryz.ntmps229
  go_wp2_with fail
  refine hC.mono ?_
  rintro e w1 ⟨A', m', rfl, ho, hb⟩
  have hN := chnew_any (m := m) (HZ.out.below hb) (by omega : n ≤ 100000)
  have HO := Lib.hid ho
  have HB := Lib.hid hb
  clear hC ho hb
  go_wp2_with fail
  refine hN.mono ?_
  rintro e w2 ⟨c, mb, A2, m2, rfl, hc, hb2⟩
  have HC := Lib.hid hc
  have HB2 := Lib.hid hb2
  clear hN hc hb2
  have hA := below_one w2 (.cells #[.slice A' n m', .pointer (some ⟨c, 0, none⟩), .int .i64 0] 240)
  have hX := Blk.new w2 #[.slice A' n m', .pointer (some ⟨c, 0, none⟩), .int .i64 0] 240
  have HA := Lib.hid hA
  have HX := Lib.hid hX
  have hS2 := HB2.out.size
  have hA1 := hA.size
  clear hA hX
  go_wp2_with fail
  refine (chaddto_any (n : Int) (HC.out.below HA.out) HBY.out (by omega) (by omega)).mono ?_
  rintro e w4 ⟨r4, rfl, hc4, hk4, hg4⟩
  have et : tgt 0 n (n : Int) = n := by unfold tgt; omega
  rw [et] at hc4
  have HC4 := Lib.hid hc4
  have HK4 := Lib.hid hk4
  clear hc4 hk4 hg4
  go_wp2
  go_ret
  have hlt := (chn_lts HC.out).1
  have hX4 : Blk w4 w2.heap.size #[.slice A' n m', .pointer (some ⟨c, 0, none⟩), .int .i64 0] 240 := (HK4.out.block w2.heap.size HX.out.lt (fun h => by have := hlt _ h; omega)).trans HX.out
  have hge := Chn.ge (HC.out)
  have hB4 : Below w1.heap.size w1 w4 := HK4.out.below (HB2.out.trans (HA.out.mono hS2)) (Nat.le_refl _) hge
  have hO4 := own_below HO.out hB4
  obtain ⟨h1, h2⟩ := Cur.Own.bs hO4
  exact ⟨_, A', m', _, c, mb, r4, A2, m2, rfl, hX4, h2, (by have := (own_rw hO4 rfl).2.1; have := HZ.out.1; omega), HC4.out, Nat.le_trans HB.out.size hS2, HB.out.size, HB.out.trans (hB4.mono HB.out.size)⟩
def SkBestPost (s : Nat) (A : Option Addr) (n m c tr : Nat) (z : List Int) (a : Int) (L : List Nat) (w : World) (e : Ending) (w' : World) : Prop :=
  e = .returned (.tuple #[.int .i64 (bof z a L), .int .i64 (bnf z a L)]) ∧ ∃ t : Nat, t ≤ 60000 ∧ Blk w' s #[.slice A n m, .pointer (some ⟨c, 0, none⟩), .int .i64 ((tr + t : Nat) : Int)] 240 ∧ Kp s w w'
set_option maxHeartbeats 4000000 in
theorem skbest_kp {w : World} {s c B mb : Nat} {r : Option Nat} {A A2 : Option Addr} {n m m2 tr k : Nat} {z : List Int} (a : Int) (hs : Blk w s #[.slice A n m, .pointer (some ⟨c, 0, none⟩), .int .i64 (tr : Nat)] 240) (hz : Bs w A n z) (hm : n ≤ m) (hC : Chn w B c mb r A2 n m2 z k)
    (hby : ∀ x ∈ z, 0 ≤ x ∧ x < 256) (hn : n ≤ 60000) (ha : -9223372036854775808 ≤ a ∧ a ≤ 9223372036854775807) (htr : tr ≤ 1000000000000) :
    Calls Tryz.prog 230 #[.pointer (some ⟨s, 0, none⟩), .int .i64 a] w (SkBestPost s A n m c tr z a (nrs z k a) w) := by
  have hkn := hC.le
  have hh : ∀ p ∈ nrs z k a, (p : Int) < a := fun p hp => nrs_lt hp
  have hll : (nrs z k a).length ≤ k := nrs_len
  have hS : Blk w.drew s #[.slice A n m, .pointer (some ⟨c, 0, none⟩), .int .i64 (tr : Nat)] 240 := hs
  have HC := Lib.hid (hC.below (below_one' w))
  have HZ := Lib.hid (hz.below (below_one' w))
  have HBY := Lib.hid hby
  have HH := Lib.hid hh
  have HLL := Lib.hid hll
  have hsl := hs.lt
  have L : ∀ w', Blk w' s #[.slice A n m, .pointer (some ⟨c, 0, none⟩), .int .i64 (tr : Nat)] 240 → w'.cell? ⟨s, 0, none⟩ = some (.slice A n m) ∧ w'.cell? ⟨s, 1, none⟩ = some (.pointer (some ⟨c, 0, none⟩)) := fun w' h => ⟨h.cell 0 rfl, h.cell 1 rfl⟩
  clear hC hz hby hh hll hs
  go_enter Tryz.func230, Tryz.ntmps230
  go_wp2
  refine Seq.wp_region_seq (fun w' => Blk w' s #[.slice A n m, .pointer (some ⟨c, 0, none⟩), .int .i64 (tr : Nat)] 240) (by kernel_rfl) (by kernel_rfl) hS ?_
  repeat (first | (refine Seq.Seq.skip (by rfl) ?_; (try simp only [Act.put, List.setIfInBounds_toArray, List.set_cons_zero, List.set_cons_succ])) | (refine Seq.Seq.det ?_ (by rfl) (fun w hS => ?_) ?_; rotate_left; ((try dsimp only at hS); go_simp; (try rw [if_pos (by omega)]); with_reducible rfl); (try simp only [Act.put, List.setIfInBounds_toArray, List.set_cons_zero, List.set_cons_succ])))
  refine Seq.Seq.make (by rfl) (by rfl) (fun K Q' hK => ?_)
  go_simp
  go_at_call 241
  refine (places_any a HC.out (Below.refl _ _) HBY.out (by omega)).mono ?_
  rintro e w2 ⟨c2, g2, o2, k2, rfl, hb2, hs2, hpl, hk2, hcg⟩
  have hS2 := hS.below hb2
  have hbz2 := HZ.out.below hb2
  have HB2 := Lib.hid hb2
  have hBe := best_any (w := w2) (A := A) (m := m) a 253 #[.pointer (some ⟨w.drew.heap.size + 2, 0, none⟩), .pointer (some ⟨w.drew.heap.size + 1, 0, none⟩), .pointer (some ⟨w.drew.heap.size, 0, none⟩)] (ofL (nrs z k a) HH.out) hbz2 HBY.out hm hn ha (by rw [ofL_map]; exact nrs_sorted z k a) (by rw [ofL_len]; have := HLL.out; omega)
    (enters_of Tryz.func253 (by kernel_rfl) rfl) (vplaces_stops Subtype.val Fence.wide 2 trivial rfl (by omega) _ _ _ c2 g2 o2 k2 a _ w2 (by rw [ofL_map]; exact hpl) ha hk2 _ (by rintro b (rfl | rfl | rfl | rfl) <;> omega) ⟨by omega, by omega, by omega, fun _ => by omega⟩)
  rw [ofL_map] at hBe
  replace hBe : Calls Tryz.prog 240 #[.slice A n m, .int .i64 a, .func (.func 253) #[] #[.pointer (some ⟨w.drew.heap.size + 2, 0, none⟩), .pointer (some ⟨w.drew.heap.size + 1, 0, none⟩), .pointer (some ⟨w.drew.heap.size, 0, none⟩)]] w2 (BestPost' z a (nrs z k a) w2) := hBe
  unfold BestPost' at hBe
  have HBE := Lib.hid hBe
  clear hBe hbz2 hb2 hpl hcg
  refine hK.out _ _ (hS2) ?_
  clear hK K
  try simp only [Act.put, List.setIfInBounds_toArray, List.set_cons_zero, List.set_cons_succ]
  repeat (first | (refine Seq.Seq.skip (by rfl) ?_; (try simp only [Act.put, List.setIfInBounds_toArray, List.set_cons_zero, List.set_cons_succ])) | (refine Seq.Seq.det ?_ (by rfl) (fun w hS => ?_) ?_; rotate_left; ((try dsimp only at hS); go_simp; (try rw [if_pos (by omega)]); with_reducible rfl); (try simp only [Act.put, List.setIfInBounds_toArray, List.set_cons_zero, List.set_cons_succ])))
  refine Seq.Seq.make (by rfl) (by rfl) (fun K Q' hK => ?_)
  go_simp
  go_at_call 240
  refine HBE.out.mono ?_
  rintro e w3 ⟨t, ht, rfl, hb3⟩
  have hS3 := hS2.below hb3
  have hTT : t ≤ 60000 := by have := HLL.out; omega
  have HB3 := Lib.hid (((below_one' w).trans HB2.out).trans (hb3.mono (by have := ((below_one' w).trans HB2.out).size; omega)))
  clear hb3 ht HBE
  refine hK.out _ _ (hS3) ?_
  clear hK K
  try simp only [Act.put, List.setIfInBounds_toArray, List.set_cons_zero, List.set_cons_succ]
  repeat (first | (refine Seq.Seq.skip (by rfl) ?_; (try simp only [Act.put, List.setIfInBounds_toArray, List.set_cons_zero, List.set_cons_succ])) | (refine Seq.Seq.det ?_ (by rfl) (fun w hS => ?_) ?_; rotate_left; ((try dsimp only at hS); go_simp; (try rw [if_pos (by omega)]); with_reducible rfl); (try simp only [Act.put, List.setIfInBounds_toArray, List.set_cons_zero, List.set_cons_succ])))
  refine Seq.Seq.nil ?_
  have c0 : w3.cell? ⟨s, 2, none⟩ = some (.int .i64 (tr : Nat)) := hS3.cell 2 rfl
  have f0 := hS3.free 2
  have hK : Kp s w (w3.setCell ⟨s, 2, none⟩ (.int .i64 ((tr : Int) + (t : Int)))) := (Kp.of_below HB3.out).trans (Kp.setCell _ _ _ _)
  have hX := hS3.set 2 (.int .i64 ((tr : Int) + (t : Int)))
  have HK := Lib.hid hK
  have HX := Lib.hid hX
  clear hK hX hS3 hS2 hS L
  go_wp2
  go_ret2
  refine ⟨rfl, t, hTT, ?_, HK.out⟩
  rw [show (((tr + t : Nat) : Int)) = (tr : Int) + (t : Int) by omega]
  exact HX.out
def rn1 (z : List Int) : List Tk := if z = [] then [] else [(z, 0, 0)]
theorem rn1_len (z : List Int) : (rn1 z).length ≤ 1 := by unfold rn1; split <;> simp
def PRunPost (B : Nat) (v : Value) (T : List Tk) (z : List Int) (w : World) (e : Ending) (w' : World) : Prop :=
  ∃ v', e = .returned v' ∧ TkOwn w' B v' (T ++ rn1 z) ∧ Ks (fun k => v.ownBlock = some k) w w' ∧ Gr v.ownBlock v'.ownBlock w
set_option maxHeartbeats 2000000 in
theorem prun_any {w : World} {B : Nat} {v : Value} {T : List Tk} {A : Option Addr} {n m : Nat} {z : List Int} (hT : TkOwn w B v T) (hz : Bs w A n z) (hn : n ≤ 100000) (hl : T.length ≤ 900000) (hB : B ≤ w.heap.size) :
    Calls Tryz.prog 228 #[v, .slice A n m] w (PRunPost B v T z w) := by
  obtain ⟨Av, cv, rfl⟩ := hT.slice
  have hzl := hz.1
  by_cases h0 : n = 0
  · have hz0 : z = [] := List.eq_nil_of_length_eq_zero (by omega)
    have hr : T ++ rn1 z = T := by rw [hz0]; unfold rn1; rw [if_pos rfl, List.append_nil]
    unfold PRunPost
    rw [hr]
    have HT := Lib.hid hT
    subst h0
    clear hT hz hr
    go_enter Tryz.func228, Tryz.ntmps228
    go_wp2
    go_ret
    exact ⟨_, rfl, HT.out, Ks.refl _ _, .inl rfl⟩
  · have hr : rn1 z = [(z, 0, 0)] := by unfold rn1; rw [if_neg (by rintro rfl; simp at hzl; omega)]
    unfold PRunPost
    rw [hr]
    have hC := clone_any (m := m) hz hn
    have hnb : ((n : Int) == 0) = false := by simp; omega
    have HT := Lib.hid hT
    clear hT hz hr
    go_enter Tryz.func228, Tryz.ntmps228
    go_wp2_with fail
    refine hC.mono ?_
    rintro e w1 ⟨A', m', rfl, ho, hb⟩
    have hbA := below_one w1 (.cells #[.slice A' n m', .int .i64 0, .int .i64 0] 201)
    have hbd := hb.trans (hbA.mono hb.size)
    have hrwA := rw_new w1 [.slice A' n m', .int .i64 0, .int .i64 0] 201
    have hB9 : B ≤ (w1.alloc (.cells #[.slice A' n m', .int .i64 0, .int .i64 0] 201)).heap.size := by have := hb.size; simp; omega
    have HLEN : Hid (T.length + 1 ≤ 1000000) := Lib.hid (by omega)
    have hu0 : Own _ 0 _ z := (ho.below hbA).base (B' := 0) (fun g hg => Nat.zero_le g)
    obtain ⟨vs, hown, hTV⟩ := HT.out.below hbd
    have HBD := Lib.hid hbd
    have HS2 := Lib.hid (fun v' w' k1 k2 => TkOwn.snoc (w' := w') (v' := v') (t := (z, 0, 0)) hown hTV hu0 k1 k2)
    clear hC hb hbA ho hu0 hbd
    go_wp2_with (at_builtin; go_must (refine list_append_rw kindK rfl (.tmp 9) (.tmp 13) rfl B _ _ _ rfl hown _ 1 _ [.slice A' n m', .int .i64 0, .int .i64 0] rfl rfl hrwA (by simp) (by simp [Value.oneCell']) HLEN.out (by omega) hB9 ?_; intro v' w10 ho' hg' hgr; have HN := Lib.hid (HS2.out _ _ ho' hg'); have HG := Lib.hid hg'; have HGR := Lib.hid hgr; clear ho' hg' hgr hown hTV HS2 hrwA))
    go_ret
    refine ⟨_, rfl, HN.out, ((Ks.of_below HBD.out).trans (Ks.of_grown (S := fun k => (Value.slice Av T.length cv).ownBlock = some k) HG.out (fun k e => e))), ?_⟩
    rcases HGR.out with e | ⟨g, e, hg⟩
    · exact .inl e
    · exact .inr ⟨g, e, Nat.le_trans HBD.out.size hg⟩
def PColPost (B lb bb fb : Nat) (A : Option Addr) (n m : Nat) (v : Value) (T : List Tk) (y : List Int) (next : Int) (w : World) (e : Ending) (w' : World) : Prop :=
  e = .returned (.tuple #[]) ∧ ∃ v', TkOwn w' B v' (T ++ rn1 y) ∧ Blk w' lb #[v'] 186 ∧ Blk w' bb #[.slice A n m] 25 ∧ Blk w' fb #[.int .i64 next] 3 ∧ Ks (fun k => k = lb ∨ k = fb ∨ v.ownBlock = some k) w w' ∧ Gr v.ownBlock v'.ownBlock w
set_option maxHeartbeats 4000000 in
theorem pcollect_any {w : World} {B lb bb fb : Nat} {v : Value} {T : List Tk} {A : Option Addr} {n m : Nat} {z : List Int} {f a : Nat} (next : Int) (hL : Blk w lb #[v] 186) (hX : Blk w bb #[.slice A n m] 25) (hF : Blk w fb #[.int .i64 (f : Int)] 3) (hT : TkOwn w B v T) (hz : Bs w A n z)
    (hm : n ≤ m) (hn : n ≤ 60000) (hfa : f ≤ a) (ha : a ≤ n) (hl : T.length ≤ 900000) (hB : B ≤ w.heap.size) (hlb : lb < B) (hbb : bb < B) (hfb : fb < B) (h1 : lb ≠ bb) (h2 : lb ≠ fb) (h3 : fb ≠ bb) :
    Calls Tryz.prog 227 #[.int .i64 (a : Int), .int .i64 next, .pointer (some ⟨lb, 0, none⟩), .pointer (some ⟨bb, 0, none⟩), .pointer (some ⟨fb, 0, none⟩)] w (PColPost B lb bb fb A n m v T (piece z f a) next w) := by
  have hge : ∀ g, v.ownBlock = some g → B ≤ g := hT.ge
  obtain ⟨Av, cv, rfl⟩ := hT.slice
  obtain ⟨A', M', hsl, hpz, hpm, _⟩ := slice_lh hz m (f : Int) (a : Int) (by omega) (by omega) (by omega) hm
  rw [Int.toNat_natCast, Int.toNat_natCast] at hpz
  obtain ⟨q, hq⟩ : ∃ q, q = ((a : Int) - (f : Int)).toNat := ⟨_, rfl⟩
  rw [← hq] at hsl hpz hpm
  have hR := prun_any (w := w.drew) (m := M') (hT.below (below_one' w)) (hpz.below (below_one' w)) (by omega) hl hB
  have hS : Blk w.drew lb #[.slice Av T.length cv] 186 ∧ Blk w.drew bb #[.slice A n m] 25 ∧ Blk w.drew fb #[.int .i64 (f : Int)] 3 := ⟨hL, hX, hF⟩
  have L : ∀ w', (Blk w' lb #[.slice Av T.length cv] 186 ∧ Blk w' bb #[.slice A n m] 25 ∧ Blk w' fb #[.int .i64 (f : Int)] 3) → w'.cell? ⟨lb, 0, none⟩ = some (.slice Av T.length cv) ∧ w'.cell? ⟨bb, 0, none⟩ = some (.slice A n m) ∧ w'.cell? ⟨fb, 0, none⟩ = some (.int .i64 (f : Int)) :=
    fun w' h => ⟨h.1.c1, h.2.1.c1, h.2.2.c1⟩
  have HGE := Lib.hid hge
  clear hL hX hF hT hz hpz hge hq
  go_enter Tryz.func227, Tryz.ntmps227
  go_wp2
  refine Seq.wp_region_last (fun w' => Blk w' lb #[.slice Av T.length cv] 186 ∧ Blk w' bb #[.slice A n m] 25 ∧ Blk w' fb #[.int .i64 (f : Int)] 3) (by kernel_rfl) (by kernel_rfl) (by kernel_rfl) hS ?_
  repeat (first | (refine Seq.SeqE.skip (by rfl) ?_; (try simp only [Act.put, List.setIfInBounds_toArray, List.set_cons_zero, List.set_cons_succ])) | (refine Seq.SeqE.det ?_ (by rfl) (fun w hS => ?_) ?_; rotate_left; ((try dsimp only at hS); go_simp; (try rw [if_pos (by omega)]); with_reducible rfl); (try simp only [Act.put, List.setIfInBounds_toArray, List.set_cons_zero, List.set_cons_succ])))
  refine Seq.SeqE.make (by rfl) (by rfl) (fun K Q' hK => ?_)
  go_simp
  go_at_call 228
  refine hR.mono ?_
  rintro e w1 ⟨v', rfl, ho1, hk1, hgr1⟩
  have hne : ∀ k, k < B → ¬ (Value.slice Av T.length cv).ownBlock = some k := fun k hk e => by have := HGE.out k e; omega
  have hS1 : Blk w1 lb #[.slice Av T.length cv] 186 ∧ Blk w1 bb #[.slice A n m] 25 ∧ Blk w1 fb #[.int .i64 (f : Int)] 3 := ⟨Blk.ks hS.1 hk1 (hne _ hlb), Blk.ks hS.2.1 hk1 (hne _ hbb), Blk.ks hS.2.2 hk1 (hne _ hfb)⟩
  have hK1 : Ks (fun k => k = lb ∨ k = fb ∨ (Value.slice Av T.length cv).ownBlock = some k) w w1 := (Ks.of_below (below_one' w)).trans' hk1 (fun i _ h => .inr (.inr h))
  obtain ⟨T2, hT2⟩ : ∃ T2, T2 = T ++ rn1 (piece z f a) := ⟨_, rfl⟩
  rw [← hT2] at ho1
  have HT2 := Lib.hid hT2
  clear hT2
  obtain ⟨Av', cv', rfl⟩ := ho1.slice
  clear hR hk1
  refine hK.out _ _ (hS1) ?_
  clear hK K
  try simp only [Act.put, List.setIfInBounds_toArray, List.set_cons_zero, List.set_cons_succ]
  repeat (first | (refine Seq.SeqE.skip (by rfl) ?_; (try simp only [Act.put, List.setIfInBounds_toArray, List.set_cons_zero, List.set_cons_succ])) | (refine Seq.SeqE.det ?_ (by rfl) (fun w hS => ?_) ?_; rotate_left; ((try dsimp only at hS); go_simp; (try rw [if_pos (by omega)]); with_reducible rfl); (try simp only [Act.put, List.setIfInBounds_toArray, List.set_cons_zero, List.set_cons_succ])))
  have c0 := hS1.1.c1
  have f0 := hS1.1.free 0
  refine Seq.SeqE.last (by rfl) (by rfl) (fun K Q' hK => ?_)
  go_simp
  refine hK.out _ _ ?_
  clear hK K
  try simp only [Act.put, List.setIfInBounds_toArray, List.set_cons_zero, List.set_cons_succ]
  have hX1 : Blk (w1.setCell ⟨lb, 0, none⟩ (.slice Av' T2.length cv')) lb #[.slice Av' T2.length cv'] 186 := hS1.1.set 0 _
  have hB1 := blk_kp hS1.2.1 (Kp.setCell w1 lb 0 (.slice Av' T2.length cv')) (by omega)
  have hF1 := blk_kp hS1.2.2 (Kp.setCell w1 lb 0 (.slice Av' T2.length cv')) (by omega)
  have hT1 := ho1.kp_blk hS1.1 (by decide) (.inl (by decide)) (Kp.setCell w1 lb 0 (.slice Av' T2.length cv'))
  have hK2 := hK1.trans (Ks.setCell (S := fun k => k = lb ∨ k = fb ∨ (Value.slice Av T.length cv).ownBlock = some k) w1 lb 0 (.slice Av' T2.length cv') (.inl rfl))
  clear hK1 hS1 hS L c0 f0 ho1
  generalize w1.setCell ⟨lb, 0, none⟩ (.slice Av' T2.length cv') = w2 at *
  have f1 := hF1.free 0
  have hX3 := blk_kp hX1 (Kp.setCell w2 fb 0 (.int .i64 next)) (by omega)
  have hB3 := blk_kp hB1 (Kp.setCell w2 fb 0 (.int .i64 next)) (by omega)
  have hF3 : Blk (w2.setCell ⟨fb, 0, none⟩ (.int .i64 next)) fb #[.int .i64 next] 3 := hF1.set 0 _
  have hT3 := hT1.kp_blk hF1 (by decide) (.inl (by decide)) (Kp.setCell w2 fb 0 (.int .i64 next))
  have hK3 := hK2.trans (Ks.setCell (S := fun k => k = lb ∨ k = fb ∨ (Value.slice Av T.length cv).ownBlock = some k) w2 fb 0 (.int .i64 next) (.inr (.inl rfl)))
  have c1 := hF1.c1
  have HF := Lib.hid (And.intro hX3 (And.intro hB3 (And.intro hF3 (And.intro hT3 hK3))))
  clear hX3 hB3 hF3 hT3 hK3 hX1 hB1 hF1 hT1 hK2
  go_wp2
  go_end0
  exact ⟨rfl, _, by rw [← HT2.out]; exact HF.out.2.2.2.1, HF.out.1, HF.out.2.1, HF.out.2.2.1, HF.out.2.2.2.2, hgr1⟩
end Go.Proofs.YtmiimjgfainclaaGreat.Cur
namespace Go.Proofs.YtmiimjgfainclaaGreat.Cur
open Go.RowKit Go.Shelf Mem
attribute [local go_sem] Oper.semAt_some
set_option linter.unusedVariables false
set_option maxRecDepth 100000
theorem Bs.off {w : World} {A : Option Addr} {n b t : Nat} {z : List Int} {cs : Array Value} (h : Bs w A n z) (hr : Blk w b cs t) (hcs : ∀ (i : Nat) (v : Value), cs[i]? = some v → ∀ x : Int, v ≠ Value.int .u8 x) : 0 < n → ∀ a, A = some a → a.block ≠ b := by
  intro hn
  obtain ⟨g, o, rfl, hc⟩ := h.2 hn
  rintro a ha rfl
  injection ha with ha
  subst ha
  have h0 := hc 0 _ (List.getElem?_eq_getElem (by have := h.1; omega))
  unfold Blk at hr
  have hl := h.1
  have h1 : cs[o + 0]? = some (.int .u8 (z[0]'(by omega))) := by simpa [World.cell?, hr] using h0
  exact hcs _ _ h1 _ rfl
theorem blk1_off {v : Value} (hv : ∀ x : Int, v ≠ Value.int .u8 x) : ∀ (i : Nat) (u : Value), (#[v] : Array Value)[i]? = some u → ∀ x : Int, u ≠ Value.int .u8 x
  | 0, u, h => by obtain rfl : v = u := by simpa using h
                  exact hv
  | i + 1, u, h => by simp at h
theorem blk3_off {a b c : Value} (ha : ∀ x : Int, a ≠ Value.int .u8 x) (hb : ∀ x : Int, b ≠ Value.int .u8 x) (hc : ∀ x : Int, c ≠ Value.int .u8 x) : ∀ (i : Nat) (u : Value), (#[a, b, c] : Array Value)[i]? = some u → ∀ x : Int, u ≠ Value.int .u8 x
  | 0, u, h => by obtain rfl : a = u := by simpa using h
                  exact ha
  | 1, u, h => by obtain rfl : b = u := by simpa using h
                  exact hb
  | 2, u, h => by obtain rfl : c = u := by simpa using h
                  exact hc
  | i + 3, u, h => by simp at h
theorem gfin_rn {z : List Int} {a b : Nat} {L : List Tk} (hb : b ≤ a) (ha : a ≤ z.length) : L ++ rn1 (piece z b a) = Gfin z a L b := by
  have hl : (piece z b a).length = a - b := length_piece rfl ha
  unfold Gfin rn1
  by_cases h : b < a
  · rw [if_pos h, if_neg (by intro e; rw [e] at hl; simp at hl; omega)]
  · rw [if_neg h, if_pos (List.eq_nil_of_length_eq_zero (by omega)), List.append_nil]
theorem bof_bo {z : List Int} (hz : z.length ≤ 65536) (a : Int) : bof z a (nrs z z.length a) = bo z a ∧ bnf z a (nrs z z.length a) = bn z a := by
  unfold bof bnf bo bn bm
  rw [bst_nrs hz]
  exact ⟨rfl, rfl⟩
theorem toolong_any {w : World} (A : Option Addr) (n m : Nat) (hn : n ≤ 60000) : Calls Tryz.prog 226 #[.slice A n m] w fun e w' => e = .returned (.bool false) ∧ w = w' := by
  have hd : decide (1048576 < (n : Int)) = false := decide_eq_false (by omega)
  go_enter Tryz.func226, Tryz.ntmps226
  go_wp2
  go_ret
  exact ⟨rfl, rfl⟩
def PJ (z : List Int) (A A' : Option Addr) (n m m' bb s c : Nat) (w4 : World) (gk : Nat) (u : Value) (wr : World) : Prop :=
  ∃ (a b tr : Nat) (v : Value) (L : List Tk), u = .int .i64 (a : Int) ∧ gk = n + 1 - a ∧ Hid (Gpd z a L b) ∧ tr ≤ 60000 * a ∧ TkOwn wr w4.heap.size v L ∧ Blk wr (bb + 1) #[v] 186 ∧ Blk wr (bb + 1 + 1) #[.int .i64 (b : Int)] 3 ∧
    Blk wr s #[.slice A' n m', .pointer (some ⟨c, 0, none⟩), .int .i64 (tr : Nat)] 240 ∧ Ks (fun k => k = bb + 1 ∨ k = bb + 1 + 1 ∨ k = s ∨ w4.heap.size ≤ k) w4 wr
def PTokPost (z : List Int) (w : World) (e : Ending) (w' : World) : Prop :=
  ∃ v L p, e = .returned (.tuple #[v, .int .i64 0]) ∧ TkOwn w' w.heap.size v L ∧ Gth z 0 false L z.length p ∧ Below w.heap.size w w'
set_option maxHeartbeats 8000000 in
theorem ptokens_any {w : World} {A : Option Addr} {n m : Nat} {z : List Int} (hz : Bs w A n z) (hby : ∀ x ∈ z, 0 ≤ x ∧ x < 256) (hm : n ≤ m) (hn : n ≤ 60000) : Calls Tryz.prog 217 #[.slice A n m] w (PTokPost z w) := by
  have hzl := hz.1
  have hN := fun (w3 : World) (h : Below w.heap.size w w3) => sknew_two (m := m) (hz.below h) hby hn
  have HZ := Lib.hid hz
  have HBY := Lib.hid hby
  clear hz hby
  go_enter Tryz.func217, Tryz.ntmps217
  go_wp2_with fail
  refine (toolong_any (w := _) A n m hn).mono ?_
  rintro e w0 ⟨rfl, rfl⟩
  have hb3 := below_three w (.cells #[.slice A n m] 25) (.cells #[.slice none 0 0] 186) (.cells #[.int .i64 0] 3)
  have hN3 := hN _ hb3
  clear hN
  go_wp2_with fail
  refine hN3.mono ?_
  rintro e w4 ⟨s, A', m', Bc, c, mb, r, A2, m2, rfl, hs, hbs, hm', hc, hss, hBc, hb4⟩
  obtain ⟨hX, hL, hF, hbd⟩ := three_new hb4
  have hHS := hbd.size
  have hsl := hs.lt
  have hbl := hbd.size
  have HHC := Lib.hid hc
  have HHB := Lib.hid hbs
  have HHX := Lib.hid hX
  have HBD := Lib.hid hbd
  have hszL : w.heap.size + 2 < w4.heap.size := hF.lt
  have hs3 : w.heap.size + 3 ≤ s := by simpa using hss
  have hBc3 : w.heap.size + 3 ≤ Bc := by simpa using hBc
  have HHL := Lib.hid hL
  have HHF := Lib.hid hF
  have HHS := Lib.hid hs
  clear hN3 hb3 hb4 hss hBc hc hbs hX hbd
  go_wp2
  go_loopg [8] (n + 1) (fun gk u wr => PJ z A A' n m m' w.heap.size s c w4 gk u wr)
  case atStart => exact ⟨0, 0, 0, _, [], rfl, by omega, Lib.hid (Gpd.start z), by omega, TkOwn.nil _ _, hL, hF, hs, Ks.refl _ _⟩
  case round =>
    clear hL hF hs
    obtain ⟨a, b, tr, v, L, rfl, hgk, HG, htr, hT, hL, hF, hs, hK⟩ := hrel
    have hba := HG.out.2.1
    have hla : L.length ≤ a := by have := gth_le HG.out.1; omega
    have haz := HG.out.2.2.1
    have hX4 : Blk wr w.heap.size #[.slice A n m] 25 := HHX.out.ks hK (by omega)
    have hC4 : Chn wr Bc c mb r A2 n m2 z n := HHC.out.ks hK fun k hk => by
      rcases hk with rfl | rfl | rfl | hk
      · exact HHC.out.far (by omega)
      · exact HHC.out.far (by omega)
      · exact HHC.out.ne_blk HHS.out (by decide) (by decide) (by decide)
      · have h1 := chn_lts HHC.out
        exact ⟨fun e => by have := h1.1 k e; omega, fun e => by have := h1.2 k e; omega⟩
    have hB4 : Bs wr A' n z := HHB.out.ks hK fun hn0 ad ha => by
      have k1 := HHB.out.off HHL.out (blk1_off (by intro x e; cases e)) hn0 ad ha
      have k2 := HHB.out.off HHF.out (blk1_off (by intro x e; cases e)) hn0 ad ha
      have k3 := HHB.out.off HHS.out (blk3_off (by intro x e; cases e) (by intro x e; cases e) (by intro x e; cases e)) hn0 ad ha
      have k4 := HHB.out.lt hn0 ad ha
      omega
    have hZ4 : Bs wr A n z := (HZ.out.below HBD.out).ks hK fun hn0 ad ha => by
      have k4 := HZ.out.lt hn0 ad ha
      omega
    have hD4 : w4.heap.size ≤ wr.heap.size := hK.size
    by_cases hlt : a < n
    · have hS := skbest_kp (a : Int) hs hB4 hm' hC4 HBY.out hn (by omega) (by omega)
      unfold SkBestPost at hS
      have hbb := bof_bo (z := z) (by omega) (a : Int)
      rw [hzl] at hbb
      rw [hbb.1, hbb.2] at hS
      clear hbb
      have HT := Lib.hid hT
      have HL := Lib.hid hL
      have HF := Lib.hid hF
      have cX := hX4.c1
      have HX4 := Lib.hid hX4
      have HZ4 := Lib.hid hZ4
      have HK := Lib.hid hK
      have HS := Lib.hid hs
      clear hT hL hF hX4 hZ4 hK hs hB4 hC4
      by_cases h0 : bn z a = 0
      · rw [h0] at hS
        have HGL := Lib.hid (HG.out.lit (by omega) h0)
        generalize bo z a = O at hS
        clear h0
        go_wp2_with fail
        with_reducible refine hS.mono ?_
        rintro e w5 ⟨rfl, t, ht, hs5, hk5⟩
        have hF5 := blk_kp HF.out hk5 (by omega)
        have cF := hF5.c1
        have HS5 := Lib.hid hs5
        have HK5 := Lib.hid hk5
        clear hS hs5 hk5
        go_wp2
        go_roundg (n + 1 - (a + 1))
        case measure => omega
        case rel => exact ⟨a + 1, b, tr + t, v, L, by congr 1; omega, rfl, HGL, by omega, HT.out.kp_blk HS.out (by decide) (.inl (by decide)) HK5.out, blk_kp HL.out HK5.out (by omega), hF5, HS5.out, HK.out.trans (Ks.of_kp HK5.out (.inr (.inr (.inl rfl))))⟩
      · obtain ⟨p, l, e1, e2, h3, h4, h5, h6, h7, h8⟩ := best_good h0
        have HGC := Lib.hid (HG.out.copy (by omega) h0)
        rw [e1, e2, ← gfin_rn hba haz] at HGC
        rw [e1, e2] at hS
        have ew : IntKind.i64.wrap ((a : Int) + l) = (a : Int) + l := IntWalk.i64_in _ (by omega)
        have hgt : (0 : Int) < (l : Int) := by omega
        obtain ⟨O, hO⟩ : ∃ O : Int, O = (a : Int) - p := ⟨_, rfl⟩
        rw [← hO] at hS HGC
        clear e1 e2 h0 h7 h8 hO
        go_wp2_with fail
        with_reducible refine hS.mono ?_
        rintro e w5 ⟨rfl, t, ht, hs5, hk5⟩
        have hF5 := blk_kp HF.out hk5 (by omega)
        have hL5 := blk_kp HL.out hk5 (by omega)
        have hX5 := blk_kp HX4.out hk5 (by omega)
        have hT5 := HT.out.kp_blk HS.out (by decide) (.inl (by decide)) hk5
        have hZ5 : Bs w5 A n z := HZ4.out.ks (Ks.of_kp (S := fun k => k = s) hk5 rfl) fun hn0 ad ha => by
          have := HZ.out.lt hn0 ad ha
          omega
        have hK5 := HK.out.trans (Ks.of_kp hk5 (.inr (.inr (.inl rfl))))
        have hD5 : w4.heap.size ≤ w5.heap.size := hK5.size
        have hCo := pcollect_any ((a : Int) + l) hL5 hX5 hF5 hT5 hZ5 hm hn hba (by omega) (by omega) hD5 (by omega) (by omega) (by omega) (by omega) (by omega) (by omega)
        have HGE := Lib.hid hT5.ge
        have cX5 := hX5.c1
        have HK5 := Lib.hid hK5
        have HS5 := Lib.hid hs5
        clear hS hk5 hF5 hL5 hX5 hT5 hZ5 hK5 hs5
        go_wp2_with fail
        with_reducible refine hCo.mono ?_
        rintro e w6 ⟨rfl, v6, hT6, hL6, hX6, hF6, hk6, hgr6⟩
        have hge6 := hT6.ge
        have hK6 := HK5.out.trans' hk6 (fun k _ h => by
          rcases h with h | h | h
          · exact .inl h
          · exact .inr (.inl h)
          · exact .inr (.inr (.inr (HGE.out k h))))
        have hs6 := HS5.out.ks hk6 (by
          rintro (h | h | h)
          · omega
          · omega
          · have := HGE.out s h; omega)
        obtain ⟨T2, hT2⟩ : ∃ T2, T2 = L ++ rn1 (piece z b a) := ⟨_, rfl⟩
        rw [← hT2] at hT6 HGC
        have hl2 : T2.length ≤ a + 1 := by have := rn1_len (piece z b a); rw [hT2, List.length_append]; omega
        clear hT2 hCo hk6 hgr6
        have hbA := below_one w6 (.cells #[.slice none 0 0, .int .i64 O, .int .i64 (l : Int)] 201)
        have hLA := hL6.below hbA
        have hFA := hF6.below hbA
        have hsA := hs6.below hbA
        have hKA := hK6.trans (Ks.of_below hbA)
        have hrwA := rw_new w6 [.slice none 0 0, .int .i64 O, .int .i64 (l : Int)] 201
        have hD6 : w4.heap.size ≤ (w6.alloc (.cells #[.slice none 0 0, .int .i64 O, .int .i64 (l : Int)] 201)).heap.size := hKA.size
        have HLEN : Hid (T2.length + 1 ≤ 1000000) := Lib.hid (by omega)
        have hTA := hT6.below hbA
        have cL6 := hL6.c1
        obtain ⟨Av6, cv6, rfl⟩ := hT6.slice
        obtain ⟨vs, hown, hTV⟩ := hTA
        have HS2 := Lib.hid (fun v' w' k1 k2 => TkOwn.snoc (w' := w') (v' := v') (t := ([], O, (l : Int))) hown hTV (Own.nil _ _) k1 k2)
        have HKA := Lib.hid hKA
        have HGE6 := Lib.hid hge6
        obtain ⟨T3, hT3⟩ : ∃ T3, T3 = T2 ++ [(([] : List Int), O, (l : Int))] := ⟨_, rfl⟩
        rw [← hT3] at HS2 HGC
        have HL3 : Hid (T3.length = T2.length + 1) := Lib.hid (by rw [hT3, List.length_append]; rfl)
        clear hT3 hX6 hL6 hF6 hs6 hK6 hT6 hbA hKA hge6
        go_wp2_with (at_builtin; go_must (refine list_append_rw kindK rfl (.tmp 38) (.tmp 42) rfl w4.heap.size _ _ _ rfl hown _ 1 _ [.slice none 0 0, .int .i64 O, .int .i64 (l : Int)] rfl rfl hrwA (by simp) (by simp [Value.oneCell']) HLEN.out (by omega) hD6 ?_; intro v' w10 ho' hg' hgr; have hKS := Ks.of_grown (S := fun k => w4.heap.size ≤ k) hg' HGE6.out; have hL10 := hLA.ks hKS (by omega); have hF10 := hFA.ks hKS (by omega); have hs10 := hsA.ks hKS (by omega); have hK10 := HKA.out.trans' hKS (fun k _ h => .inr (.inr (.inr h))); have hT10 := HS2.out _ _ ho' hg'; obtain ⟨A8, c8, rfl⟩ := hT10.slice; have c10 := hL10.c1; have f10 := hL10.free 0; have d10 := hF10.c1; have HK10 := Lib.hid hK10; have HT10 := Lib.hid hT10; have HL10 := Lib.hid hL10; have HF10 := Lib.hid hF10; have HS10 := Lib.hid hs10; clear ho' hg' hgr hown hLA hFA hsA hTV HS2 hrwA hKS hK10 hT10 hL10 hF10 hs10))
        go_roundg (n + 1 - (a + l))
        case measure => omega
        case rel =>
          refine ⟨a + l, a + l, tr + t, .slice A8 T3.length c8, T3, ?_, rfl, HGC, by omega, ?_, ?_, ?_, ?_, ?_⟩
          · congr 1
            omega
          · exact HT10.out.kp_blk HL10.out (by decide) (.inl (by decide)) (Kp.setCell w10 (w.heap.size + 1) 0 (.slice A8 T3.length c8))
          · exact HL10.out.set 0 _
          · exact blk_kp HF10.out (Kp.setCell _ _ 0 _) (by omega)
          · exact blk_kp HS10.out (Kp.setCell _ _ 0 _) (by omega)
          · exact HK10.out.trans (Ks.setCell _ _ _ _ (.inl rfl))
    · obtain rfl : a = n := by omega
      have hCo := pcollect_any (a : Int) hL hX4 hF hT hZ4 hm hn hba (by omega) (by omega) hD4 (by omega) (by omega) (by omega) (by omega) (by omega) (by omega)
      have cX := hX4.c1
      have hfin := HG.out.fin
      rw [← gfin_rn hba haz] at hfin
      have HFI := Lib.hid hfin
      have HGE := Lib.hid hT.ge
      have HK := Lib.hid hK
      clear hL hX4 hF hT hZ4 hs hC4 hB4 hK hfin
      go_wp2_with fail
      with_reducible refine hCo.mono ?_
      rintro e w6 ⟨rfl, v6, hT6, hL6, hX6, hF6, hk6, hgr6⟩
      have hK6 := HK.out.trans' hk6 (fun k _ h => by
        rcases h with h | h | h
        · exact .inl h
        · exact .inr (.inl h)
        · exact .inr (.inr (.inr (HGE.out k h))))
      obtain ⟨T2, hT2⟩ : ∃ T2, T2 = L ++ rn1 (piece z b a) := ⟨_, rfl⟩
      rw [← hT2] at hT6 HFI
      have c6 := hL6.c1
      obtain ⟨A6, n6, rfl⟩ := hT6.slice
      have HT6 := Lib.hid hT6
      have HK6 := Lib.hid hK6
      have HZN : Hid (a = z.length) := Lib.hid hzl.symm
      clear hCo hT2 hT6 hL6 hX6 hF6 hk6 hgr6 hK6 HGE
      go_wp2
      go_ret2
      obtain ⟨p, hp, _⟩ := HFI.out
      refine ⟨_, T2, p, rfl, HT6.out.base (fun g hg => by have := HT6.out.ge g hg; omega), ?_, Ks.below HBD.out (Nat.le_refl _) HK6.out (by rintro k (h | h | h | h) <;> omega)⟩
      rw [← HZN.out]
      exact hp
end Go.Proofs.YtmiimjgfainclaaGreat.Cur
namespace Go.Proofs.YtmiimjgfainclaaGreat.Cur
open Go.RowKit Go.Shelf Mem
attribute [local go_sem] Oper.semAt_some
set_option linter.unusedVariables false
set_option maxRecDepth 100000
def lg (z : List Int) (a : Nat) : Nat → Nat
  | 0 => 0
  | j + 1 => max (lg z a j) (mt z a (a - (j + 1)))
theorem lg_ge {z : List Int} {a i : Nat} : ∀ {j : Nat}, i < j → mt z a (a - (i + 1)) ≤ lg z a j
  | 0, h => by omega
  | j + 1, h => by
    rw [lg]
    by_cases e : i = j
    · subst e; omega
    · have := lg_ge (z := z) (a := a) (i := i) (j := j) (by omega); omega
theorem lg_is {z : List Int} {a : Nat} : ∀ (j : Nat), lg z a j = 0 ∨ ∃ i, i < j ∧ lg z a j = mt z a (a - (i + 1))
  | 0 => .inl rfl
  | j + 1 => by
    rw [lg]
    by_cases e : mt z a (a - (j + 1)) ≤ lg z a j
    · rw [Nat.max_eq_left e]
      rcases lg_is (z := z) (a := a) j with h | ⟨i, h1, h2⟩
      · exact .inl h
      · exact .inr ⟨i, by omega, h2⟩
    · rw [Nat.max_eq_right (by omega)]
      exact .inr ⟨j, by omega, rfl⟩
theorem lg_le {z : List Int} {a : Nat} (j : Nat) : lg z a j ≤ z.length - a := by
  rcases lg_is (z := z) (a := a) j with h | ⟨i, _, h⟩
  · omega
  · have := mt_le z a (a - (i + 1)); omega
theorem alls_at {a i : Nat} (h : i < a) (h2 : a ≤ 65536) : a - (i + 1) ∈ alls (a : Int) := alls_mem.2 ⟨by omega, by omega⟩
theorem lg_best {z : List Int} {a : Nat} (ha : a ≤ 65536) : (bof z a (alls a) = 0 ∧ bnf z a (alls a) = 0 ∧ lg z a a < 4) ∨
    ∃ j : Nat, j < a ∧ bof z a (alls a) = ((j + 1 : Nat) : Int) ∧ bnf z a (alls a) = (lg z a a : Nat) ∧ 4 ≤ lg z a a ∧ mt z a (a - (j + 1)) = lg z a a ∧ ∀ i, i < j → mt z a (a - (i + 1)) ≠ lg z a a := by
  rcases best_cases z a with ⟨h1, h2, h3⟩ | ⟨p, hp, h1, h2, h3, h4, h5⟩
  · refine .inl ⟨h1, h2, ?_⟩
    rcases lg_is (z := z) (a := a) a with h | ⟨i, hi, h⟩
    · omega
    · have := h3 _ (alls_at hi ha)
      rw [Int.toNat_natCast] at this
      omega
  · rw [Int.toNat_natCast] at h2 h3 h4 h5
    have hm := alls_mem.1 hp
    obtain ⟨j, hj⟩ : ∃ j, p = a - (j + 1) ∧ j < a := ⟨a - p - 1, by omega, by omega⟩
    have hl : lg z a a = mt z a p := by
      have h6 := lg_ge (z := z) (a := a) hj.2
      rw [← hj.1] at h6
      rcases lg_is (z := z) (a := a) a with h | ⟨i, hi, h⟩
      · omega
      · have := h4 _ (alls_at hi ha)
        omega
    refine .inr ⟨j, hj.2, by rw [h1]; omega, by rw [h2, hl], by omega, by rw [← hj.1, hl], fun i hi => ?_⟩
    have := h5 _ (alls_at (by omega : i < a) ha) (by omega)
    omega
theorem mv_nat {z : List Int} {a j : Nat} (h : j < a) (ha : a < z.length) : mv z a ((j + 1 : Nat) : Int) = mt z a (a - (j + 1)) := by
  unfold mv
  rw [if_pos (by omega), Int.toNat_natCast, show ((a : Int) - ((j + 1 : Nat) : Int)).toNat = a - (j + 1) by omega]
def RBestPost (z : List Int) (a : Int) (w : World) (e : Ending) (w' : World) : Prop := e = .returned (.tuple #[.int .i64 (bo z a), .int .i64 (bn z a)]) ∧ ∃ q, w' = w.drewN q
set_option maxHeartbeats 4000000 in
theorem rbest_any {w : World} {A : Option Addr} {n m : Nat} {z : List Int} (a : Nat) (hz : Bs w A n z) (hby : ∀ x ∈ z, 0 ≤ x ∧ x < 256) (hm : n ≤ m) (hn : n ≤ 60000) (ha : a < n) :
    Calls Tryz.prog 202 #[.slice A n m, .int .i64 (a : Int)] w (RBestPost z a w) := by
  have hzl := hz.1
  have hbest := lg_best (z := z) (a := a) (by omega)
  have hbo : bof z a (alls a) = bo z a ∧ bnf z a (alls a) = bn z a := ⟨rfl, rfl⟩
  rw [hbo.1, hbo.2] at hbest
  clear hbo
  have HB := Lib.hid hbest
  have HM := Lib.hid (fun (j : Nat) (hj : j < a) (q : Nat) => (show Calls Tryz.prog 221 #[.slice A n m, .int .i64 (a : Int), .int .i64 ((j : Int) + 1)] (w.drewN q) (fun e w' => e = .returned (.int .i64 (mt z a (a - (j + 1)) : Nat)) ∧ ∃ k, w' = (w.drewN q).drewN k) by
    have := rmatch_any (w := w.drewN q) (m := m) (a : Int) ((j + 1 : Nat) : Int) (hz.drewN q) hby hm (by omega)
    unfold MatchPost at this
    rw [mv_nat hj (by omega)] at this
    exact this))
  have hlm := lg_le (z := z) (a := a) a
  have hd0 : decide (n ≤ a) = false := decide_eq_false (by omega)
  clear hz hby hbest
  go_enter Tryz.func202, Tryz.ntmps202
  go_wp2
  go_loopw [6, 7] (fun u v wr => ∃ j q : Nat, j ≤ a ∧ u = .int .i64 (lg z a j : Nat) ∧ v = .int .i64 ((j : Int) + 1) ∧ wr = w.drewN q) (fun _ v _ => a + 1 - (intOf v).toNat)
  case atStart => exact ⟨0, 0, by omega, rfl, rfl, rfl⟩
  case round =>
    obtain ⟨j, q, hj, rfl, rfl, rfl⟩ := hrel
    by_cases hlt : j < a
    · have hC := HM.out j hlt q
      have HS : Hid (((lg z a (j + 1) : Nat) : Int) = max ((lg z a j : Nat) : Int) ((mt z a (a - (j + 1)) : Nat) : Int)) := Lib.hid (by rw [lg]; omega)
      have b1 : (j : Int) + 1 ≤ a := by omega
      have b2 : (j : Int) + 1 ≤ 65536 := by omega
      have e1 : IntKind.i64.wrap ((j : Int) + 1 + 1) = (j : Int) + 1 + 1 := IntWalk.i64_in _ (by omega)
      generalize lg z a j = X at *
      generalize mt z a (a - (j + 1)) = Y at *
      go_wp2_with fail
      with_reducible refine hC.mono ?_
      rintro e w2 ⟨rfl, q2, rfl⟩
      clear hC
      go_wp2
      go_roundw
      case rel => exact ⟨j + 1, q + q2, by omega, by rw [HS.out], by congr 1, rfl⟩
      case measure => simp [intOf]; omega
    · obtain rfl : j = a := by omega
      obtain ⟨M, hMM⟩ : ∃ M, M = lg z j j := ⟨_, rfl⟩
      rw [← hMM] at HB hlm ⊢
      clear hMM
      go_wp2
      go_loopw [8] (fun v wr => ∃ i q : Nat, i ≤ j ∧ v = .int .i64 ((i : Int) + 1) ∧ wr = w.drewN q ∧ Hid (∀ k, k < i → ¬ (4 ≤ M ∧ mt z j (j - (k + 1)) = M))) (fun v _ => j + 1 - (intOf v).toNat)
      case atStart => exact ⟨0, q, by omega, rfl, rfl, Lib.hid (fun k hk => by omega)⟩
      case round =>
        obtain ⟨i, q, hi, rfl, rfl, HI⟩ := hrel
        by_cases hlt2 : i < j
        · have hC := HM.out i hlt2 q
          have e1 : IntKind.i64.wrap ((i : Int) + 1 + 1) = (i : Int) + 1 + 1 := IntWalk.i64_in _ (by omega)
          have b1 : (i : Int) + 1 ≤ j := by omega
          have b2 : (i : Int) + 1 ≤ 65536 := by omega
          by_cases h4 : 4 ≤ M
          · have h4' : (4 : Int) ≤ (M : Int) := by omega
            by_cases hY : mt z j (j - (i + 1)) = M
            · rw [hY] at hC
              have HE := Lib.hid (show bo z (j : Int) = (i : Int) + 1 ∧ bn z (j : Int) = (M : Nat) from by
                rcases HB.out with ⟨_, _, h⟩ | ⟨i', h1, h2, h3, _, h5, h6⟩
                · omega
                · have : i' = i := by
                    rcases Nat.lt_trichotomy i' i with h | h | h
                    · exact absurd ⟨h4, h5⟩ (HI.out i' h)
                    · exact h
                    · exact absurd hY (h6 i h)
                  subst this
                  exact ⟨h2, h3⟩)
              clear hY
              go_wp2_with fail
              with_reducible refine hC.mono ?_
              rintro e w2 ⟨rfl, q2, rfl⟩
              clear hC
              go_wp2
              go_ret2
              exact ⟨by rw [HE.out.1, HE.out.2]; rfl, q + q2, rfl⟩
            · have HI' := Lib.hid (show ∀ k, k < i + 1 → ¬ (4 ≤ M ∧ mt z j (j - (k + 1)) = M) from fun k hk => by
                by_cases e : k = i
                · subst e; exact fun h => hY h.2
                · exact HI.out k (by omega))
              have hne : (((mt z j (j - (i + 1)) : Nat) : Int) == (M : Int)) = false := by rw [beq_eq_false_iff_ne]; intro e; exact hY (by exact_mod_cast e)
              clear hY
              generalize mt z j (j - (i + 1)) = Y at *
              go_wp2_with fail
              with_reducible refine hC.mono ?_
              rintro e w2 ⟨rfl, q2, rfl⟩
              clear hC
              go_wp2
              go_roundw
              case rel => exact ⟨i + 1, q + q2, by omega, by congr 1, rfl, HI'⟩
              case measure => simp [intOf]; omega
          · have h4' : ¬ (4 : Int) ≤ (M : Int) := by omega
            have HI' := Lib.hid (show ∀ k, k < i + 1 → ¬ (4 ≤ M ∧ mt z j (j - (k + 1)) = M) from fun k hk h => h4 h.1)
            clear hC
            go_wp2
            go_roundw
            case rel => exact ⟨i + 1, q, by omega, by congr 1, rfl, HI'⟩
            case measure => simp [intOf]; omega
        · have HE := Lib.hid (show bo z (j : Int) = 0 ∧ bn z (j : Int) = 0 from by
            rcases HB.out with ⟨h1, h2, _⟩ | ⟨i', h1, h2, h3, h4, h5, h6⟩
            · exact ⟨h1, h2⟩
            · exact absurd ⟨h4, h5⟩ (HI.out i' (by omega)))
          obtain rfl : i = j := by omega
          go_wp2
          go_ret2
          exact ⟨by rw [HE.out.1, HE.out.2]; rfl, q, rfl⟩
end Go.Proofs.YtmiimjgfainclaaGreat.Cur
namespace Go.Proofs.YtmiimjgfainclaaGreat.Cur
open Go.RowKit Go.Shelf Mem
attribute [local go_sem] Oper.semAt_some
set_option linter.unusedVariables false
set_option maxRecDepth 100000
theorem TkV.snoc {w : World} {vs : List Value} {T : List Tk} {u : Value} {t : Tk} (h2 : TkV w vs T) (hu : Own w 0 u t.1) : TkV w (vs ++ [u, .int .i64 t.2.1, .int .i64 t.2.2]) (T ++ [t]) := by
  refine ⟨by rw [List.length_append, List.length_append, h2.1]; simp; omega, fun i hi => ?_⟩
  rw [List.length_append, List.length_singleton] at hi
  rcases Nat.lt_succ_iff_lt_or_eq.1 hi with h | rfl
  · obtain ⟨x, a0, a1, a2, ho⟩ := h2.2 i h
    have : (T ++ [t]).getD i tk0 = T.getD i tk0 := by rw [List.getD_eq_getElem?_getD, List.getElem?_append_left h, ← List.getD_eq_getElem?_getD]
    rw [this]
    have hl := h2.1
    exact ⟨x, by rw [List.getElem?_append_left (by omega)]; exact a0, by rw [List.getElem?_append_left (by omega)]; exact a1, by rw [List.getElem?_append_left (by omega)]; exact a2, ho⟩
  · have : (T ++ [t]).getD T.length tk0 = t := by rw [List.getD_eq_getElem?_getD, List.getElem?_append_right (Nat.le_refl _)]; simp
    rw [this]
    have hl := h2.1
    refine ⟨u, ?_, ?_, ?_, hu⟩
    · rw [List.getElem?_append_right (by omega), hl, Nat.sub_self]; rfl
    · rw [List.getElem?_append_right (by omega), hl, Nat.add_sub_cancel_left]; rfl
    · rw [List.getElem?_append_right (by omega), hl, Nat.add_sub_cancel_left]; rfl
def TkLo (vs : List Value) (L : List Tk) (G : Nat) : Prop := ∀ i, i < L.length → ∀ x g, vs[i * 3]? = some x → x.ownBlock = some g → g < G
theorem TkV.lo {w : World} {vs : List Value} {L : List Tk} (h : TkV w vs L) : TkLo vs L w.heap.size := fun i hi x g hx hg => by
  obtain ⟨v, a, _, _, ho⟩ := h.2 i hi
  rw [hx] at a
  injection a with a
  subst a
  exact (World.ownsRow.lt ho g hg).2
def DP (w : World) (B : Nat) (v : Value) (L : List Tk) (y : List Int) : Prop :=
  ∃ vs u G, w.ownsRow B 201 3 v (L.length + 1) (vs ++ [u, .int .i64 0, .int .i64 0]) ∧ TkV w vs L ∧ TkLo vs L G ∧ Own w G u y ∧ B ≤ G ∧ G ≤ w.heap.size
theorem DP.tk {w : World} {B : Nat} {v : Value} {L : List Tk} {y : List Int} (h : DP w B v L y) : TkOwn w B v (L ++ [(y, 0, 0)]) := by
  obtain ⟨vs, u, G, h1, h2, h3, h4, h5⟩ := h
  exact ⟨_, by rw [List.length_append]; exact h1, TkV.snoc (t := (y, 0, 0)) h2 (h4.base fun g hg => Nat.zero_le g)⟩
theorem DP.below {w w' : World} {B : Nat} {v : Value} {L : List Tk} {y : List Int} (h : DP w B v L y) (hb : Below w.heap.size w w') : DP w' B v L y := by
  obtain ⟨vs, u, G, h1, h2, h3, h4, h5⟩ := h
  exact ⟨vs, u, G, own_below h1 hb, h2.keep fun v z ho => ho.below hb, h3, h4.below hb, h5.1, Nat.le_trans h5.2 hb.size⟩
theorem DP.new {w w' : World} {B X : Nat} {v v' u : Value} {T : List Tk} {vs : List Value} {y : List Int} (h1 : w.ownsRow B 201 3 v T.length vs) (h2 : TkV w vs T) (h3 : TkLo vs T X) (hu : Own w X u y) (hB : B ≤ X) (hX : X ≤ w.heap.size)
    (k1 : w'.ownsRow B 201 3 v' (T.length + 1) (vs ++ [u, .int .i64 0, .int .i64 0])) (k2 : w.grownBy w' v.ownBlock) : DP w' B v' T y := by
  have hko : ∀ D x z, Own w D x z → Own w' D x z := fun D x z ho => own_ks ho (Ks.of_grown (S := fun k => v.ownBlock = some k) k2 fun k e => e) fun g hg e => own_far_own h1 ho (by decide) e hg
  exact ⟨vs, u, X, k1, h2.keep fun v z ho => hko _ _ _ ho, h3, hko _ _ _ hu, hB, Nat.le_trans hX k2.size⟩
theorem own_some {w : World} {B e size n : Nat} {v : Value} {xs : List Value} (h : w.ownsRow B e size v (n + 1) xs) : ∃ g c, v = .slice (some ⟨g, 0, none⟩) (n + 1) c ∧ B ≤ g := by
  rcases h.2 with ⟨_, h0⟩ | ⟨g, cap, cur, e, hg, _⟩
  · omega
  · exact ⟨g, cap, e, hg⟩
theorem DP.step {w wA w1 : World} {B G g n c : Nat} {u u' : Value} {L : List Tk} {vs : List Value} {y y' : List Int} (h1 : w.ownsRow B 201 3 (.slice (some ⟨g, 0, none⟩) n c) (L.length + 1) (vs ++ [u, .int .i64 0, .int .i64 0])) (h2 : TkV w vs L) (h3 : TkLo vs L G)
    (h4 : Own w G u y) (hB : B ≤ G) (hG : G ≤ w.heap.size) (hb : Below w.heap.size w wA) (ho : Own w1 G u' y') (hg : wA.grownBy w1 u.ownBlock) : DP (w1.setCell ⟨g, L.length * 3, none⟩ u') B (.slice (some ⟨g, 0, none⟩) n c) L y' := by
  have hn : n = L.length + 1 := (own_rw h1 rfl).1
  subst hn
  have hge := own_ge h4
  have hA1 := own_below h1 hb
  have hA4 := own_below h4 hb
  have hgu : u.ownBlock ≠ some g := own_far_own hA1 hA4 (by decide) rfl
  have hR1 : w1.ownsRow B 201 3 (.slice (some ⟨g, 0, none⟩) (L.length + 1) c) (L.length + 1) (vs ++ [u, .int .i64 0, .int .i64 0]) := own_ks hA1 (Ks.of_grown (S := fun k => u.ownBlock = some k) hg fun k e => e) fun k hk e => hgu (by
    have : g = k := by simpa [Value.ownBlock] using hk
    rw [this]; exact e)
  have hR2 := (World.ownsRow.stored hR1 (L.length * 3) u').1
  rw [show (vs ++ [u, Value.int .i64 0, Value.int .i64 0]).set (L.length * 3) u' = vs ++ [u', .int .i64 0, .int .i64 0] by
    rw [List.set_append_right _ _ (by rw [h2.1]; exact Nat.le_refl _), h2.1, Nat.sub_self]; rfl] at hR2
  have hgu' : u'.ownBlock ≠ some g := own_far_own hR1 ho (by decide) rfl
  refine ⟨vs, u', G, hR2, ⟨h2.1, fun i hi => ?_⟩, h3, own_block ho (fun k hk => Below.heap_setCell w1 _ _ k (fun e => hgu' (by rw [hk, e]))), hB, ?_⟩
  rotate_left
  · have := hb.size
    have := hg.size
    simp [World.setCell]
    omega
  obtain ⟨x, a0, a1, a2, hx⟩ := h2.2 i hi
  refine ⟨x, a0, a1, a2, ?_⟩
  have hxA := own_below hx hb
  have hxg : x.ownBlock ≠ some g := own_far_own hA1 hxA (by decide) rfl
  have hx1 := own_ks hxA (Ks.of_grown (S := fun k => u.ownBlock = some k) hg fun k e => e) fun k hk e => by
    have k1 := h3 i hi x k a0 hk
    have k2 := hge k e
    omega
  exact own_block hx1 fun k hk => Below.heap_setCell w1 _ _ k (fun e => hxg (by rw [hk, e]))
theorem DP.free {w wA w1 : World} {B G g n c : Nat} {u : Value} {L : List Tk} {xs : List Value} {y : List Int} (h1 : w.ownsRow B 201 3 (.slice (some ⟨g, 0, none⟩) n c) (L.length + 1) xs) (h4 : Own w G u y) (hb : Below w.heap.size w wA) (hg : wA.grownBy w1 u.ownBlock) (j : Nat) : w1.frozen? ⟨g, j, none⟩ = false := by
  have hn : n = L.length + 1 := (own_rw h1 rfl).1
  subst hn
  have hA1 := own_below h1 hb
  have hA4 := own_below h4 hb
  have hgu : u.ownBlock ≠ some g := own_far_own hA1 hA4 (by decide) rfl
  exact World.ownsRow.frozenAt (own_ks hA1 (Ks.of_grown (S := fun k => u.ownBlock = some k) hg fun k e => e) fun k hk e => hgu (by
    have : g = k := by simpa [Value.ownBlock] using hk
    rw [this]; exact e)) j
theorem gth_last {z : List Int} {a c : Nat} {pr : Bool} {L : List Tk} (h : Gth z a pr L c false) (hL : L ≠ []) : (L.getD (L.length - 1) tk0).2.1 ≠ 0 := by
  obtain ⟨X, t, rfl⟩ : ∃ X t, L = X ++ [t] := ⟨L.dropLast, L.getLast hL, (List.dropLast_concat_getLast hL).symm⟩
  obtain ⟨b, pb, _, h2⟩ := gth_snoc.1 h
  rw [show (X ++ [t]).getD ((X ++ [t]).length - 1) tk0 = t by rw [List.length_append, List.length_singleton, Nat.add_sub_cancel, List.getD_eq_getElem?_getD, List.getElem?_append_right (Nat.le_refl _)]; simp]
  rcases h2 with ⟨_, e, _⟩ | ⟨_, _, h0, rfl, _⟩
  · cases e
  · obtain ⟨p, l, e1, _, h3, _⟩ := best_good h0
    show bo z b ≠ 0
    omega
theorem piece_succ {z : List Int} {b a : Nat} (hb : b ≤ a) (ha : a < z.length) : piece z b (a + 1) = piece z b a ++ [z.getD a 0] := by
  rw [← piece_add hb (Nat.le_succ a)]
  congr 1
  unfold piece
  rw [show a.succ - a = 1 by omega, List.drop_eq_getElem_cons ha, List.getD_eq_getElem?_getD, List.getElem?_eq_getElem ha]
  rfl
theorem addr0 (g j : Nat) : (⟨g, 0, none⟩ : Addr).add j = ⟨g, j, none⟩ := by
  unfold Addr.add
  by_cases h : j = 0 <;> simp [h]
def DJ (z : List Int) (n : Nat) (w : World) (gk : Nat) (v u : Value) (wr : World) : Prop :=
  ∃ (a b : Nat) (L : List Tk), u = .int .i64 (a : Int) ∧ gk = n + 1 - a ∧ Hid (Gpd z a L b) ∧ L.length ≤ a ∧ Below w.heap.size w wr ∧ ((b = a ∧ TkOwn wr w.heap.size v L) ∨ (b < a ∧ DP wr w.heap.size v L (piece z b a)))
theorem dj_row {wr : World} {B a b : Nat} {v : Value} {L : List Tk} {z : List Int} {O l : Int} {c : Nat} (h : (b = a ∧ TkOwn wr B v L) ∨ (b < a ∧ DP wr B v L (piece z b a))) (hla : L.length ≤ a) (haz : a ≤ z.length) (hG : Hid (Gpd z c (L ++ rn1 (piece z b a) ++ [([], O, l)]) c)) :
    ∃ T2, TkOwn wr B v T2 ∧ T2.length ≤ a + 1 ∧ Hid (Gpd z c (T2 ++ [([], O, l)]) c) := by
  have hl : (piece z b a).length = a - b := length_piece rfl haz
  refine ⟨L ++ rn1 (piece z b a), ?_, by have := rn1_len (piece z b a); rw [List.length_append]; omega, hG⟩
  unfold rn1
  rcases h with ⟨h1, h2⟩ | ⟨h1, h2⟩
  · rw [if_pos (List.eq_nil_of_length_eq_zero (by omega)), List.append_nil]
    exact h2
  · rw [if_neg (by intro e; rw [e] at hl; simp at hl; omega)]
    exact h2.tk
theorem dj_row2 {wr : World} {B a b : Nat} {v : Value} {L : List Tk} {z : List Int} {Q : List Tk → Prop} (h : (b = a ∧ TkOwn wr B v L) ∨ (b < a ∧ DP wr B v L (piece z b a))) (hla : L.length ≤ a) (haz : a ≤ z.length) (hG : Hid (Q (L ++ rn1 (piece z b a)))) :
    ∃ T2, TkOwn wr B v T2 ∧ T2.length ≤ a + 1 ∧ Hid (Q T2) := by
  have hl : (piece z b a).length = a - b := length_piece rfl haz
  refine ⟨L ++ rn1 (piece z b a), ?_, by have := rn1_len (piece z b a); rw [List.length_append]; omega, hG⟩
  unfold rn1
  rcases h with ⟨h1, h2⟩ | ⟨h1, h2⟩
  · rw [if_pos (List.eq_nil_of_length_eq_zero (by omega)), List.append_nil]
    exact h2
  · rw [if_neg (by intro e; rw [e] at hl; simp at hl; omega)]
    exact h2.tk
def RTokPost (z : List Int) (w : World) (e : Ending) (w' : World) : Prop :=
  ∃ v L p, e = .returned v ∧ TkOwn w' w.heap.size v L ∧ Gth z 0 false L z.length p ∧ Below w.heap.size w w'
set_option maxHeartbeats 8000000 in
theorem rtokens15_any {w : World} {A : Option Addr} {n m : Nat} {z : List Int} (hz : Bs w A n z) (hby : ∀ x ∈ z, 0 ≤ x ∧ x < 256) (hm : n ≤ m) (hn : n ≤ 60000) : Calls Tryz.prog 175 #[.slice A n m] w (RTokPost z w) := by
  have hzl := hz.1
  have HZ := Lib.hid hz
  have HBY := Lib.hid hby
  clear hz hby
  go_enter Tryz.func175, Tryz.ntmps175
  go_wp2
  go_loopg [3, 4] (n + 1) (fun gk v u wr => DJ z n w gk v u wr)
  case atStart => exact ⟨0, 0, [], rfl, by omega, Lib.hid (Gpd.start z), by simp, Below.refl _ _, .inl ⟨rfl, TkOwn.nil _ _⟩⟩
  case round =>
    obtain ⟨a, b, L, rfl, hgk, HG, hla, hbd, hst⟩ := hrel
    have hba := HG.out.2.1
    have haz := HG.out.2.2.1
    have HBD := Lib.hid hbd
    have hsz := hbd.size
    clear hbd
    by_cases hlt : a < n
    · have hR := rbest_any (m := m) a (HZ.out.below HBD.out) HBY.out hm hn hlt
      unfold RBestPost at hR
      by_cases h0 : bn z a = 0
      · rw [h0] at hR
        have HGL := Lib.hid (HG.out.lit (by omega) h0)
        generalize bo z a = O at hR
        clear h0
        rcases hst with ⟨hb, hT⟩ | ⟨hb, hD⟩
        · have h3 : b < a + 1 := by omega
          have HPS : Hid (piece z b (a + 1) = [z.getD a 0]) := Lib.hid (by
            rw [piece_succ hba (by omega), hb]
            unfold piece
            rw [Nat.sub_self, List.take_zero, List.nil_append])
          by_cases hL : L = []
          · subst hL
            obtain ⟨Av, cv, rfl⟩ := hT.slice
            go_wp2_with fail
            with_reducible refine hR.mono ?_
            rintro e w2 ⟨rfl, q, rfl⟩
            have hb2 : Below wr.heap.size wr (wr.drewN q) := below_drewN (Below.refl _ _) q
            have hBD := HBD.out.trans (hb2.mono hsz)
            obtain ⟨vs, hown, hTV⟩ := hT.below hb2
            have hs2 := hBD.size
            clear hT hb2 hR
            generalize wr.drewN q = W at *
            have hZW := HZ.out.below hBD
            obtain ⟨gb, ob, rfl, cb⟩ := hZW.at_ hlt
            generalize z.getD a 0 = x at HPS cb
            have HK1 : Hid (([] : List Tk).length = 0) := Lib.hid rfl
            have hb1 := below_one W (.cells #[.int .u8 x] 5)
            have hu1 : Own (W.alloc (.cells #[.int .u8 x] 5)) W.heap.size (.slice (some ⟨W.heap.size, 0, none⟩) 1 1) [x] := own_of_row (z := [x]) (Blk.new W #[.int .u8 x] 5) (Nat.le_refl _) (by simp)
            have hb2 := below_one (W.alloc (.cells #[.int .u8 x] 5)) (.cells #[.slice (some ⟨W.heap.size, 0, none⟩) 1 1, .int .i64 0, .int .i64 0] 201)
            have hrwA := rw_new (W.alloc (.cells #[.int .u8 x] 5)) [.slice (some ⟨W.heap.size, 0, none⟩) 1 1, .int .i64 0, .int .i64 0] 201
            rw [World.size_alloc] at hrwA
            have hbA := hb1.trans (hb2.mono hb1.size)
            have huA := hu1.below hb2
            have hownA := own_below hown hbA
            have hTVA := hTV.keep (fun v z ho => Own.below (B := 0) ho hbA)
            have hlo := hTV.lo
            have hBA := hBD.trans (hbA.mono hs2)
            have hB9 := hBA.size
            have hX9 := hbA.size
            have HS2 := Lib.hid (fun v' w' (k1 : World.ownsRow w' w.heap.size 201 3 v' (0 + 1) (vs ++ [.slice (some ⟨W.heap.size, 0, none⟩) 1 1, .int .i64 0, .int .i64 0])) k2 => DP.new (T := []) (w' := w') (v' := v') (by rw [HK1.out]; exact hownA) hTVA hlo huA hs2 hX9 (by rw [HK1.out]; exact k1) k2)
            have HGE := Lib.hid (own_ge hownA)
            have HBA := Lib.hid hBA
            have HLEN : Hid (0 + 1 ≤ 1000000) := Lib.hid (by omega)
            clear hb1 hu1 hb2 hbA huA hTVA hlo hBA hown hTV hBD hZW
            go_wp2_with (at_builtin; go_must (refine list_append_rw kindK rfl (.tmp 57) (.tmp 64) rfl w.heap.size _ _ _ rfl hownA _ 1 _ [.slice (some ⟨W.heap.size, 0, none⟩) 1 1, .int .i64 0, .int .i64 0] rfl rfl hrwA (by simp) (by simp [Value.oneCell']) HLEN.out (by omega) hB9 ?_; intro v' w10 ho' hg' hgr; have hN := Lib.hid (HS2.out _ _ ho' hg'); have hBN := Lib.hid (HBA.out.grown hg' hB9 HGE.out); clear ho' hg' hgr hownA HS2 hrwA hX9))
            go_roundg (n + 1 - (a + 1))
            case measure => omega
            case rel => exact ⟨a + 1, b, [], by congr 1, rfl, HGL, by omega, hBN.out, .inr ⟨h3, by rw [HPS.out]; exact hN.out⟩⟩
          · have hof := gth_last (HG.out.1) hL
            obtain ⟨k, hk⟩ : ∃ k, L.length = k + 1 := ⟨L.length - 1, by have := List.length_pos_iff.2 hL; omega⟩
            rw [hk, Nat.add_sub_cancel] at hof
            obtain ⟨vs, hown, hTV⟩ := hT
            rw [hk] at hown
            obtain ⟨g, cv, rfl, hgB⟩ := own_some hown
            have hk6 : k ≤ 60000 := by omega
            obtain ⟨x0, _, hx1, _⟩ := hTV.2 k (by omega)
            have k1 := World.ownsRow.cells hown (g := g) rfl (k * 3 + 1) _ hx1
            rw [addr0] at k1
            have hob : ((L.getD k tk0).2.1 == 0) = false := by rw [beq_eq_false_iff_ne]; exact hof
            generalize (L.getD k tk0).2.1 = off at *
            have HK1 := Lib.hid hk
            clear hx1 hof hk
            go_wp2_with fail
            with_reducible refine hR.mono ?_
            rintro e w2 ⟨rfl, q, rfl⟩
            have hb2 : Below wr.heap.size wr (wr.drewN q) := below_drewN (Below.refl _ _) q
            have hBD := HBD.out.trans (hb2.mono hsz)
            replace hown := own_below hown hb2
            replace hTV := hTV.keep (fun v z ho => Own.below (B := 0) ho hb2)
            replace k1 := (hb2.cell (lt_of_cell k1)).trans k1
            have hs2 := hBD.size
            clear hb2 hR
            generalize wr.drewN q = W at *
            have hZW := HZ.out.below hBD
            obtain ⟨gb, ob, rfl, cb⟩ := hZW.at_ hlt
            generalize z.getD a 0 = x at HPS cb
            have hb1 := below_one W (.cells #[.int .u8 x] 5)
            have hu1 : Own (W.alloc (.cells #[.int .u8 x] 5)) W.heap.size (.slice (some ⟨W.heap.size, 0, none⟩) 1 1) [x] := own_of_row (z := [x]) (Blk.new W #[.int .u8 x] 5) (Nat.le_refl _) (by simp)
            have hb2 := below_one (W.alloc (.cells #[.int .u8 x] 5)) (.cells #[.slice (some ⟨W.heap.size, 0, none⟩) 1 1, .int .i64 0, .int .i64 0] 201)
            have hrwA := rw_new (W.alloc (.cells #[.int .u8 x] 5)) [.slice (some ⟨W.heap.size, 0, none⟩) 1 1, .int .i64 0, .int .i64 0] 201
            rw [World.size_alloc] at hrwA
            have hbA := hb1.trans (hb2.mono hb1.size)
            have huA := hu1.below hb2
            have hownA := own_below hown hbA
            have hTVA := hTV.keep (fun v z ho => Own.below (B := 0) ho hbA)
            have hlo := hTV.lo
            have hBA := hBD.trans (hbA.mono hs2)
            have hB9 := hBA.size
            have hX9 := hbA.size
            have HS2 := Lib.hid (fun v' w' (k1 : World.ownsRow w' w.heap.size 201 3 v' ((k + 1) + 1) (vs ++ [.slice (some ⟨W.heap.size, 0, none⟩) 1 1, .int .i64 0, .int .i64 0])) k2 => DP.new (T := L) (w' := w') (v' := v') (by rw [HK1.out]; exact hownA) hTVA hlo huA hs2 hX9 (by rw [HK1.out]; exact k1) k2)
            have HGE := Lib.hid (own_ge hownA)
            have HBA := Lib.hid hBA
            have HLEN : Hid ((k + 1) + 1 ≤ 1000000) := Lib.hid (by omega)
            clear hb1 hu1 hb2 hbA huA hTVA hlo hBA hown hTV hBD hZW
            go_wp2_with (at_builtin; go_must (refine list_append_rw kindK rfl (.tmp 57) (.tmp 64) rfl w.heap.size _ _ _ rfl hownA _ 1 _ [.slice (some ⟨W.heap.size, 0, none⟩) 1 1, .int .i64 0, .int .i64 0] rfl rfl hrwA (by simp) (by simp [Value.oneCell']) HLEN.out (by omega) hB9 ?_; intro v' w10 ho' hg' hgr; have hN := Lib.hid (HS2.out _ _ ho' hg'); have hBN := Lib.hid (HBA.out.grown hg' hB9 HGE.out); clear ho' hg' hgr hownA HS2 hrwA hX9))
            go_roundg (n + 1 - (a + 1))
            case measure => omega
            case rel => exact ⟨a + 1, b, L, by congr 1, rfl, HGL, by omega, hBN.out, .inr ⟨h3, by rw [HPS.out]; exact hN.out⟩⟩
        · obtain ⟨vs, u, G, hrow, hTV, hlo, hu, hBG, hGW⟩ := hD
          obtain ⟨g, c, rfl, hgB⟩ := own_some hrow
          go_wp2_with fail
          with_reducible refine hR.mono ?_
          rintro e w2 ⟨rfl, q, rfl⟩
          have hb2 : Below wr.heap.size wr (wr.drewN q) := below_drewN (Below.refl _ _) q
          have hBD := HBD.out.trans (hb2.mono hsz)
          have hrow2 := own_below hrow hb2
          have hu2 := hu.below hb2
          have hTV2 := hTV.keep (fun v z ho => Own.below (B := 0) ho hb2)
          have hs2 := hBD.size
          have hWr := hb2.size
          clear hrow hu hTV hb2 hR
          generalize wr.drewN q = W at *
          have hZW := HZ.out.below hBD
          obtain ⟨Au, cu, rfl⟩ := hu2.slice
          have k0 := World.ownsRow.cells hrow2 (g := g) rfl (L.length * 3) (.slice Au (piece z b a).length cu) (by rw [← hTV2.1, List.getElem?_append_right (Nat.le_refl _), Nat.sub_self]; rfl)
          have k1 := World.ownsRow.cells hrow2 (g := g) rfl (L.length * 3 + 1) (.int .i64 0) (by rw [← hTV2.1, List.getElem?_append_right (by omega), Nat.add_sub_cancel_left]; rfl)
          rw [addr0] at k0 k1
          obtain ⟨gb, ob, rfl, cb⟩ := hZW.at_ hlt
          have hyl : (piece z b a).length ≤ 60000 := by rw [length_piece rfl haz]; omega
          have HPS := Lib.hid (piece_succ (z := z) (b := b) (a := a) hba (by omega))
          have h3 : b < a + 1 := by omega
          generalize piece z b a = y at *
          generalize z.getD a 0 = x at *
          have hgu : (Value.slice Au y.length cu).ownBlock ≠ some g := own_far_own hrow2 hu2 (by decide) rfl
          have hgl := (World.ownsRow.lt hrow2 g rfl).2
          have hbl := lt_of_cell cb
          have hbu : (Value.slice Au y.length cu).ownBlock ≠ some gb := fun e => by
            have h1 := (World.ownsRow.lt hu2 gb e).1
            have h2 := HZ.out.lt (by omega) _ rfl
            have h2 : gb < w.heap.size := h2
            omega
          have HROW := Lib.hid hrow2
          have HU := Lib.hid hu2
          have HTV := Lib.hid hTV2
          have HBD2 := Lib.hid hBD
          have hS : W.drew.cell? ⟨g, L.length * 3, none⟩ = some (.slice Au y.length cu) ∧ W.drew.cell? ⟨gb, ob + a, none⟩ = some (.int .u8 x) := ⟨k0, cb⟩
          have L1 : ∀ w' : World, (w'.cell? ⟨g, L.length * 3, none⟩ = some (.slice Au y.length cu) ∧ w'.cell? ⟨gb, ob + a, none⟩ = some (.int .u8 x)) → w'.cell? ⟨g, L.length * 3, none⟩ = some (.slice Au y.length cu) ∧ w'.cell? ⟨gb, ob + a, none⟩ = some (.int .u8 x) := fun w' h => h
          clear hrow2 hu2 hTV2 hBD hZW
          go_wp2
          clear k0 k1 cb
          have b5 : (L.length : Int) < (L.length : Int) + 1 := by omega
          have b6 : (a : Int) < (n : Int) := by omega
          refine Seq.wp_region_last (fun w' => w'.cell? ⟨g, L.length * 3, none⟩ = some (.slice Au y.length cu) ∧ w'.cell? ⟨gb, ob + a, none⟩ = some (.int .u8 x)) (by kernel_rfl) (by kernel_rfl) (by kernel_rfl) hS ?_
          repeat (first | (refine Seq.SeqE.skip (by rfl) ?_; (try simp only [Act.put, List.setIfInBounds_toArray, List.set_cons_zero, List.set_cons_succ])) | (refine Seq.SeqE.det ?_ (by rfl) (fun w hS => ?_) ?_; rotate_left; ((try dsimp only at hS); go_simp; (try rw [if_pos (by omega)]); with_reducible rfl); (try simp only [Act.put, List.setIfInBounds_toArray, List.set_cons_zero, List.set_cons_succ])))
          refine Seq.SeqE.make (by rfl) (by rfl) (fun K Q' hK => ?_)
          go_simp
          have hA1 : Below W.heap.size W (W.alloc (.cells #[.int .u8 x] 5)).drew := (below_one' W).alloc (Nat.le_refl _) (.cells #[.int .u8 x] 5)
          have hbs : Bs (W.alloc (.cells #[.int .u8 x] 5)).drew (some ⟨W.heap.size, 0, none⟩) 1 [x] := bs_new W.drew [x] 5
          have hSA : (W.alloc (.cells #[.int .u8 x] 5)).drew.cell? ⟨g, L.length * 3, none⟩ = some (.slice Au y.length cu) ∧ (W.alloc (.cells #[.int .u8 x] 5)).drew.cell? ⟨gb, ob + a, none⟩ = some (.int .u8 x) := ⟨(hA1.cell hgl).trans hS.1, (hA1.cell hbl).trans hS.2⟩
          refine hK.out _ _ (hSA) ?_
          clear hK K
          try simp only [Act.put, List.setIfInBounds_toArray, List.set_cons_zero, List.set_cons_succ]
          generalize (W.alloc (.cells #[.int .u8 x] 5)).drew = wA at *
          have huA := HU.out.below hA1
          have hGA : G ≤ wA.heap.size := by have := hA1.size; omega
          have HA1 := Lib.hid hA1
          have HGU := Lib.hid hgu
          have HBU := Lib.hid hbu
          have HGE := Lib.hid (own_ge huA)
          clear hA1 hS hgu hbu
          refine Seq.SeqE.make (by rfl) (by rfl) (fun K Q' hK => ?_)
          refine oper_append_gr (.tmp 48) (.tmp 53) rfl G _ _ rfl huA _ _ _ _ rfl hbs (by simp) (by omega) hGA ?_
          intro u' w2 ho' hg' hgr
          have hgA := lt_of_cell hSA.1
          have hbA := lt_of_cell hSA.2
          have hSB : w2.cell? ⟨g, L.length * 3, none⟩ = some (.slice Au y.length cu) ∧ w2.cell? ⟨gb, ob + a, none⟩ = some (.int .u8 x) :=
            ⟨(World.cell?_of_block (hg'.block g hgA (fun e => HGU.out e.symm))).trans hSA.1, (World.cell?_of_block (hg'.block gb hbA (fun e => HBU.out e.symm))).trans hSA.2⟩
          have hfz := DP.free HROW.out HU.out HA1.out hg' (L.length * 3)
          have hstep := DP.step HROW.out HTV.out hlo HU.out hBG (by omega) HA1.out ho' hg'
          have hBD3 := ((HBD2.out.trans (HA1.out.mono hs2)).grown hg' (by omega) (fun k hk => by have := HGE.out k hk; omega)).setCell (p := ⟨g, L.length * 3, none⟩) hgB u'
          obtain ⟨Au', cu', rfl⟩ := ho'.slice
          obtain ⟨y', hy'⟩ : ∃ y', y' = y ++ [x] := ⟨_, rfl⟩
          rw [← hy'] at hstep hBD3 HPS ⊢
          have HST := Lib.hid (And.intro hstep hBD3)
          clear hy' hstep hBD3 ho' hg' hgr huA hbs hSA
          refine hK.out _ _ (hSB) ?_
          clear hK K
          try simp only [Act.put, List.setIfInBounds_toArray, List.set_cons_zero, List.set_cons_succ]
          repeat (first | (refine Seq.SeqE.skip (by rfl) ?_; (try simp only [Act.put, List.setIfInBounds_toArray, List.set_cons_zero, List.set_cons_succ])) | (refine Seq.SeqE.det ?_ (by rfl) (fun w hS => ?_) ?_; rotate_left; ((try dsimp only at hS); go_simp; (try rw [if_pos (by omega)]); with_reducible rfl); (try simp only [Act.put, List.setIfInBounds_toArray, List.set_cons_zero, List.set_cons_succ])))
          have c2 := hSB.1
          refine Seq.SeqE.last (by rfl) (by rfl) (fun K Q' hK => ?_)
          go_simp
          refine hK.out _ _ ?_
          clear hK K
          try simp only [Act.put, List.setIfInBounds_toArray, List.set_cons_zero, List.set_cons_succ]
          clear c2 hSB L1 hfz
          go_wp2
          go_roundg (n + 1 - (a + 1))
          case measure => omega
          case rel => exact ⟨a + 1, b, L, by congr 1, rfl, HGL, by omega, HST.out.2, .inr ⟨h3, by rw [HPS.out]; exact HST.out.1⟩⟩
      · obtain ⟨p, l, e1, e2, h3, h4, h5, h6, h7, h8⟩ := best_good h0
        have HGC := Lib.hid (HG.out.copy (by omega) h0)
        rw [e1, e2, ← gfin_rn hba haz] at HGC
        rw [e1, e2] at hR
        obtain ⟨O, hO⟩ : ∃ O : Int, O = (a : Int) - p := ⟨_, rfl⟩
        rw [← hO] at hR HGC
        have ew : IntKind.i64.wrap ((a : Int) + l) = (a : Int) + l := IntWalk.i64_in _ (by omega)
        have hgt : (0 : Int) < (l : Int) := by omega
        clear e1 e2 h0 h7 h8 hO
        obtain ⟨T2, hT, hl2, HG2⟩ := dj_row hst hla haz HGC
        clear HGC hst
        obtain ⟨Av, cv, rfl⟩ := hT.slice
        go_wp2_with fail
        with_reducible refine hR.mono ?_
        rintro e w2 ⟨rfl, q, rfl⟩
        have hb2 : Below wr.heap.size wr (wr.drewN q) := below_drewN (Below.refl _ _) q
        have hBD := HBD.out.trans (hb2.mono hsz)
        have hTW := hT.below hb2
        have hs2 := hBD.size
        clear hT hb2 hR
        generalize wr.drewN q = W at *
        have hbA := below_one W (.cells #[.slice none 0 0, .int .i64 O, .int .i64 (l : Int)] 201)
        have hTA := hTW.below hbA
        have hBA := hBD.trans (hbA.mono hs2)
        have hrwA := rw_new W [.slice none 0 0, .int .i64 O, .int .i64 (l : Int)] 201
        have hB9 := hBA.size
        have HLEN : Hid (T2.length + 1 ≤ 1000000) := Lib.hid (by omega)
        obtain ⟨vs, hown, hTV⟩ := hTA
        have HS2 := Lib.hid (fun v' w' k1 k2 => TkOwn.snoc (w' := w') (v' := v') (t := ([], O, (l : Int))) hown hTV (Own.nil _ _) k1 k2)
        have HGE := Lib.hid (own_ge hown)
        have HBA := Lib.hid hBA
        clear hTW hbA hBA hBD hTV
        go_wp2_with (at_builtin; go_must (refine list_append_rw kindK rfl (.tmp 20) (.tmp 24) rfl w.heap.size _ _ _ rfl hown _ 1 _ [.slice none 0 0, .int .i64 O, .int .i64 (l : Int)] rfl rfl hrwA (by simp) (by simp [Value.oneCell']) HLEN.out (by omega) hB9 ?_; intro v' w10 ho' hg' hgr; have hN := Lib.hid (HS2.out _ _ ho' hg'); have hBN := Lib.hid (HBA.out.grown hg' hB9 HGE.out); clear ho' hg' hgr hown HS2 hrwA))
        go_roundg (n + 1 - (a + l))
        case measure => omega
        case rel => exact ⟨a + l, a + l, T2 ++ [([], O, (l : Int))], by congr 1, rfl, HG2, by rw [List.length_append, List.length_singleton]; omega, hBN.out, .inl ⟨rfl, hN.out⟩⟩
    · obtain rfl : a = n := by omega
      have HFI := Lib.hid HG.out.fin
      rw [← gfin_rn hba haz] at HFI
      obtain ⟨T2, hT, _, HG2⟩ := dj_row2 (Q := fun T => ∃ p, Gth z 0 false T a p ∧ (b < a ∨ p = false)) hst hla haz HFI
      have HZN : Hid (a = z.length) := Lib.hid hzl.symm
      obtain ⟨Av, cv, rfl⟩ := hT.slice
      have HT := Lib.hid hT
      clear hT hst HFI
      go_wp2
      go_ret
      obtain ⟨p, hp, _⟩ := HG2.out
      refine ⟨_, T2, p, rfl, HT.out, ?_, HBD.out⟩
      rw [← HZN.out]
      exact hp
end Go.Proofs.YtmiimjgfainclaaGreat.Cur
namespace Go.Proofs.YtmiimjgfainclaaGreat.Cur
open Go.RowKit Go.Shelf Mem
attribute [local go_sem] Oper.semAt_some
set_option linter.unusedVariables false
set_option maxRecDepth 100000
def gtf (z : List Int) : Nat → Nat → List Tk → Nat → List Tk
  | 0, a, L, b => Gfin z a L b
  | k + 1, a, L, b => if a < z.length then if bn z a = 0 then gtf z k (a + 1) L b else gtf z k (a + (bn z a).toNat) (Gfin z a L b ++ [([], bo z a, bn z a)]) (a + (bn z a).toNat) else Gfin z a L b
def gtk (z : List Int) : List Tk := gtf z z.length 0 [] 0
theorem gtf_is {z : List Int} : ∀ (k a : Nat) (L : List Tk) (b : Nat), Gpd z a L b → z.length - a ≤ k → ∃ p, Gth z 0 false (gtf z k a L b) z.length p
  | 0, a, L, b, h, hk => by
    obtain ⟨p, hp, _⟩ := h.fin
    have := h.2.2.1
    obtain rfl : a = z.length := by omega
    exact ⟨p, hp⟩
  | k + 1, a, L, b, h, hk => by
    rw [gtf]
    split
    · rename_i hlt
      split
      · rename_i h0
        exact gtf_is k (a + 1) L b (h.lit hlt h0) (by omega)
      · rename_i h0
        obtain ⟨p, l, _, e2, _, _, h4, _⟩ := best_good h0
        exact gtf_is k _ _ _ (h.copy hlt h0) (by omega)
    · rename_i hlt
      obtain ⟨p, hp, _⟩ := h.fin
      have := h.2.2.1
      obtain rfl : a = z.length := by omega
      exact ⟨p, hp⟩
theorem gtk_is (z : List Int) : ∃ p, Gth z 0 false (gtk z) z.length p := gtf_is _ _ _ _ (Gpd.start z) (by omega)
theorem gtk_of {z : List Int} {T : List Tk} {p : Bool} (h : Gth z 0 false T z.length p) : T = gtk z := by
  obtain ⟨q, hq⟩ := gtk_is z
  exact gth_once h hq
theorem gst_right {z : List Int} {a b : Nat} {pr pb : Bool} {t : Tk} (hz : z.length ≤ 1000000) (hby : ∀ x ∈ z, 0 ≤ x ∧ x < 256) (h : Gst z a pr t b pb) : tright t = true ∧ tkok t ∧ t.1.length ≤ b - a := by
  have hl := gst_lt h
  rcases h with ⟨_, _, h1, h2, rfl, _⟩ | ⟨_, h1, h2, rfl, rfl⟩
  · have hpl : (piece z a b).length = b - a := length_piece rfl h2
    have hr : trun (piece z a b).length 0 0 = true := by unfold trun; rw [decide_eq_true_eq, hpl]; omega
    refine ⟨by unfold tright; simp only; rw [hr, Bool.true_or], ⟨fun x hx => hby x (List.mem_of_mem_drop (List.mem_of_mem_take hx)), by simp only; omega, by simp only; omega⟩, by simp only; omega⟩
  · obtain ⟨q, l, e1, e2, h3, h4, h5, h6, _⟩ := best_good h2
    have hr : tcpy 0 (bo z a) (bn z a) = true := by unfold tcpy; exact decide_eq_true (by omega)
    refine ⟨by unfold tright; simp only [List.length_nil]; rw [hr, Bool.or_true], ⟨fun x hx => absurd hx (by simp), by simp only; omega, by simp only; omega⟩, by simp⟩
theorem gth_right {z : List Int} (hz : z.length ≤ 1000000) (hby : ∀ x ∈ z, 0 ≤ x ∧ x < 256) {c : Nat} {pc : Bool} : ∀ {T : List Tk} {a : Nat} {pr : Bool}, Gth z a pr T c pc → (∀ t ∈ T, tright t = true ∧ tkok t ∧ t.1.length ≤ z.length) ∧ (tcat T).length ≤ 21 * (c - a)
  | [], a, pr, _ => ⟨fun t h => absurd h (by simp), by simp [tcat]⟩
  | t :: T, a, pr, ⟨b, pb, h1, h2⟩ => by
    obtain ⟨g1, g2, g3⟩ := gst_right hz hby h1
    obtain ⟨k1, k2⟩ := gth_right hz hby h2
    have hl := gst_lt h1
    have hle := gth_le h2
    refine ⟨fun s hs => ?_, ?_⟩
    · rcases List.mem_cons.1 hs with rfl | hs
      · exact ⟨g1, g2, by omega⟩
      · exact k1 s hs
    · have e : tcat (t :: T) = tby t ++ tcat T := by unfold tcat; rw [List.map_cons, List.flatten_cons]
      have := tby_le (t := t)
      rw [e, List.length_append]
      omega
theorem gtk_right {z : List Int} (hz : z.length ≤ 1000000) (hby : ∀ x ∈ z, 0 ≤ x ∧ x < 256) : (∀ t ∈ gtk z, tright t = true ∧ tkok t ∧ t.1.length ≤ z.length) ∧ (tcat (gtk z)).length ≤ 21 * z.length ∧ (gtk z).length ≤ z.length := by
  obtain ⟨p, hp⟩ := gtk_is z
  have h := gth_right hz hby hp
  have hl := gth_le hp
  exact ⟨h.1, by have := h.2; omega, by omega⟩
def cps (z : List Int) : List Int := tcat (gtk z)
theorem gtk_lit {z : List Int} (hz : z.length ≤ 1000000) (hby : ∀ x ∈ z, 0 ≤ x ∧ x < 256) (i : Nat) : ((gtk z).getD i tk0).1.length ≤ z.length ∧ (i < (gtk z).length → tright ((gtk z).getD i tk0) = true) := by
  have h := (gtk_right hz hby).1
  by_cases hi : i < (gtk z).length
  · rw [List.getD_eq_getElem?_getD, List.getElem?_eq_getElem hi]
    have := h _ (List.getElem_mem hi)
    exact ⟨this.2.2, fun _ => this.1⟩
  · rw [List.getD_eq_getElem?_getD, List.getElem?_eq_none (by omega)]
    exact ⟨Nat.zero_le _, fun h => absurd h hi⟩
theorem cps_len {z : List Int} (hz : z.length ≤ 1000000) (hby : ∀ x ∈ z, 0 ≤ x ∧ x < 256) : (cps z).length ≤ 21 * z.length := (gtk_right hz hby).2.1
theorem tbs_gtk (z : List Int) : tbs (gtk z) (gtk z).length = cps z := tbs_tcat _
def PBytesPost (z : List Int) (w : World) (e : Ending) (w' : World) : Prop :=
  ∃ A n m, e = .returned (.tuple #[.slice A n m, .int .i64 0]) ∧ Below w.heap.size w w' ∧ Bs w' A n (cps z) ∧ n ≤ m ∧ (A = none → m = 0) ∧ (0 < n → ∀ a, A = some a → w.heap.size ≤ a.block)
set_option maxHeartbeats 2000000 in
theorem pbytes_any {w : World} {A : Option Addr} {n m : Nat} {z : List Int} (hz : Bs w A n z) (hby : ∀ x ∈ z, 0 ≤ x ∧ x < 256) (hm : n ≤ m) (hn : n ≤ 10000) : Calls Tryz.prog 196 #[.slice A n m] w (PBytesPost z w) := by
  have hT := ptokens_any (m := m) hz hby hm (by omega)
  have hzl := hz.1
  have hr := gtk_right (z := z) (by omega) hby
  have HR := Lib.hid hr
  have HL := Lib.hid (fun i => (gtk_lit (z := z) (by omega) hby i).1)
  have HALL := Lib.hid (tall_all (T := gtk z) (fun t ht => (hr.1 t ht).1) (gtk z).length (Nat.le_refl _))
  have HB := Lib.hid (tbs_gtk z)
  have HCL := Lib.hid (cps_len (z := z) (by omega) hby)
  clear hz hby hr
  go_enter Tryz.func196, Tryz.ntmps196
  go_wp2_with fail
  with_reducible refine hT.mono ?_
  rintro e w1 ⟨v, L, p, rfl, hL, hp, hb1⟩
  obtain rfl := gtk_of hp
  obtain ⟨A1, c1, rfl⟩ := hL.slice
  obtain ⟨_, h2, h3, hT1⟩ := hL.tks
  have hTB := tbytes_any A1 (gtk z).length c1 (gtk z) w1 hT1 (by have := HR.out.2.2; omega) (by rw [HB.out]; have := HCL.out; omega) (fun i => by have := HL.out i; omega)
  unfold TBPost at hTB
  rw [HALL.out, if_pos rfl, if_pos rfl, HB.out] at hTB
  have HBD := Lib.hid hb1
  clear hT hp hL hT1 hb1
  generalize (gtk z).length = k at *
  go_wp2_with fail
  with_reducible refine hTB.mono ?_
  rintro e w2 ⟨A2, n2, m2, rfl, hb2, hbs, hge, hm2, hA2⟩
  have HB2 := Lib.hid hb2
  clear hTB hb2
  go_wp2
  go_ret2
  exact ⟨A2, n2, m2, rfl, HBD.out.trans (HB2.out.mono HBD.out.size), hbs, hm2, hA2, fun h0 a ha => Nat.le_trans HBD.out.size (hge h0 a ha)⟩
def RB15Post (z : List Int) (w : World) (e : Ending) (w' : World) : Prop :=
  ∃ A n m, e = .returned (.slice A n m) ∧ Below w.heap.size w w' ∧ Bs w' A n (cps z) ∧ (A = none → m = 0)
theorem r15bytes_any {w : World} {A : Option Addr} {n m : Nat} {z : List Int} (hz : Bs w A n z) (hby : ∀ x ∈ z, 0 ≤ x ∧ x < 256) (hm : n ≤ m) (hn : n ≤ 10000) : Calls Tryz.prog 131 #[.slice A n m] w (RB15Post z w) := by
  have hT := rtokens15_any (m := m) hz hby hm (by omega)
  have hzl := hz.1
  have hr := gtk_right (z := z) (by omega) hby
  have HR := Lib.hid hr
  have HL := Lib.hid (fun i => (gtk_lit (z := z) (by omega) hby i).2)
  have HB := Lib.hid (tbs_gtk z)
  have HCL := Lib.hid (cps_len (z := z) (by omega) hby)
  clear hz hby hr
  go_enter Tryz.func131, Tryz.ntmps131
  go_wp2_with fail
  with_reducible refine hT.mono ?_
  rintro e w1 ⟨v, L, p, rfl, hL, hp, hb1⟩
  obtain rfl := gtk_of hp
  obtain ⟨A1, c1, rfl⟩ := hL.slice
  obtain ⟨_, h2, h3, hT1⟩ := hL.tks
  have hTB := rtbytes_any A1 (gtk z).length c1 (gtk z) w1 hT1 HL.out (by have := HR.out.2.2; omega) (by rw [HB.out]; have := HCL.out; omega)
  rw [HB.out] at hTB
  have HBD := Lib.hid hb1
  clear hT hp hL hT1 hb1
  generalize (gtk z).length = k at *
  go_wp2_with fail
  with_reducible refine hTB.mono ?_
  rintro e w2 ⟨A2, m2, rfl, hb2, hbs, hA2, _⟩
  have HB2 := Lib.hid hb2
  clear hTB hb2
  go_wp2
  go_ret
  exact ⟨A2, _, m2, rfl, HBD.out.trans (HB2.out.mono HBD.out.size), hbs, hA2⟩
end Go.Proofs.YtmiimjgfainclaaGreat.Cur
