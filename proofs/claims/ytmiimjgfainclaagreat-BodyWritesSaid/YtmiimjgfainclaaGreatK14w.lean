/- As the seat's text, without what nothing here names. -/
import Derived.Test.YtmiimjgfainclaaGreatK1w
import Derived.Lib.Hide
import Derived.Maps.OwnSet
import Derived.Maps.OwnOps
import Derived.WalkKit
import Derived.WalkSpells
import Derived.WalkLawsBesides
import Derived.Deep.QuietTactic
import Derived.BigQuiet
import Derived.IntWalk
import Derived.Laws.BitsAllLaws
import Derived.Test.YtmiimjgfainclaaGreatShelfw
import Derived.Carry
import Derived.Deep.LoopGhost
import Derived.RangeFuncBox
import Derived.RangeFuncNested
import Derived.RangeFuncLeaves
import Derived.Shelf.Abstract
import Derived.Shelf.RegionOpen
import Derived.OwnWalkIn
import Derived.TacticsInMore
import Derived.LoopNIn
import Derived.LoopIn
import Derived.Maps.AppendAt
import Derived.Lib.SmallJoins
namespace Go.Proofs.YtmiimjgfainclaaGreat.Cur
open Go.RowKit Mem
set_option linter.unusedVariables false
def ky (z : List Int) (i : Nat) : Int := z.getD i 0 + 256 * z.getD (i + 1) 0 + 65536 * z.getD (i + 2) 0 + 16777216 * z.getD (i + 3) 0
def hk (z : List Int) (i : Int) : Bool := decide (0 ≤ i ∧ i + 4 ≤ z.length)
theorem hk_pos {z : List Int} {i : Int} (h : hk z i = true) : ∃ k : Nat, i = k ∧ k + 4 ≤ z.length := by
  unfold hk at h
  rw [decide_eq_true_eq] at h
  exact ⟨i.toNat, by omega, by omega⟩
theorem hk_neg {z : List Int} {i : Int} (h : hk z i = false) : ¬ (0 ≤ i ∧ i + 4 ≤ z.length) := by
  unfold hk at h
  rwa [decide_eq_false_iff_not] at h
theorem hk_nat {z : List Int} {k : Nat} (h : k + 4 ≤ z.length) : hk z k = true := by unfold hk; rw [decide_eq_true_eq]; omega
theorem by_at {z : List Int} (hby : ∀ x ∈ z, 0 ≤ x ∧ x < 256) (i : Nat) : 0 ≤ z.getD i 0 ∧ z.getD i 0 < 256 := by
  by_cases h : i < z.length
  · rw [List.getD_eq_getElem?_getD, List.getElem?_eq_getElem h]; exact hby _ (List.getElem_mem h)
  · rw [List.getD_eq_getElem?_getD, List.getElem?_eq_none (by omega)]; decide
theorem ky_bd {z : List Int} (hby : ∀ x ∈ z, 0 ≤ x ∧ x < 256) (i : Nat) : 0 ≤ ky z i ∧ ky z i < 4294967296 := by
  have h0 := by_at hby i
  have h1 := by_at hby (i + 1)
  have h2 := by_at hby (i + 2)
  have h3 := by_at hby (i + 3)
  unfold ky
  omega
def sk (z : List Int) (i k : Int) : Bool := hk z i && hk z k && decide (ky z i.toNat = ky z k.toNat)
def pls (z : List Int) (x : Int) : Nat → List Nat
  | 0 => []
  | a + 1 => if a + 4 ≤ z.length ∧ ky z a = x then a :: pls z x a else pls z x a
theorem pls_hit {z : List Int} {x : Int} {a : Nat} (h : a + 4 ≤ z.length ∧ ky z a = x) : pls z x (a + 1) = a :: pls z x a := by rw [pls, if_pos h]
theorem pls_miss {z : List Int} {x : Int} {a : Nat} (h : ¬ (a + 4 ≤ z.length ∧ ky z a = x)) : pls z x (a + 1) = pls z x a := by rw [pls, if_neg h]
theorem pls_mem {z : List Int} {x : Int} {p : Nat} : ∀ {a : Nat}, p ∈ pls z x a ↔ p < a ∧ p + 4 ≤ z.length ∧ ky z p = x
  | 0 => by simp [pls]
  | a + 1 => by
    have ih := pls_mem (z := z) (x := x) (p := p) (a := a)
    by_cases h : a + 4 ≤ z.length ∧ ky z a = x
    · rw [pls_hit h, List.mem_cons, ih]
      constructor
      · rintro (rfl | h1)
        · exact ⟨by omega, h⟩
        · exact ⟨by omega, h1.2⟩
      · rintro ⟨h1, h2⟩
        by_cases e : p = a
        · exact .inl e
        · exact .inr ⟨by omega, h2⟩
    · rw [pls_miss h, ih]
      constructor
      · rintro ⟨h1, h2⟩; exact ⟨by omega, h2⟩
      · rintro ⟨h1, h2⟩
        refine ⟨?_, h2⟩
        by_cases e : p = a
        · subst e; exact absurd h2 h
        · omega
theorem pls_len {z : List Int} {x : Int} : ∀ {a : Nat}, (pls z x a).length ≤ a
  | 0 => by simp [pls]
  | a + 1 => by
    have ih := pls_len (z := z) (x := x) (a := a)
    by_cases h : a + 4 ≤ z.length ∧ ky z a = x
    · rw [pls_hit h, List.length_cons]; omega
    · rw [pls_miss h]; omega
theorem pls_cons {z : List Int} {x : Int} {p : Nat} {l : List Nat} : ∀ {a : Nat}, pls z x a = p :: l → p < a ∧ p + 4 ≤ z.length ∧ ky z p = x ∧ l = pls z x p
  | 0, h => by cases h
  | a + 1, h => by
    by_cases hc : a + 4 ≤ z.length ∧ ky z a = x
    · rw [pls_hit hc] at h
      injection h with h1 h2
      subst h1
      exact ⟨by omega, hc.1, hc.2, h2.symm⟩
    · rw [pls_miss hc] at h
      obtain ⟨h1, h2⟩ := pls_cons h
      exact ⟨by omega, h2⟩
theorem pls_sorted {z : List Int} {x : Int} : ∀ {a : Nat}, (pls z x a).Pairwise (· > ·)
  | 0 => List.Pairwise.nil
  | a + 1 => by
    by_cases h : a + 4 ≤ z.length ∧ ky z a = x
    · rw [pls_hit h]
      exact List.pairwise_cons.2 ⟨fun p hp => (pls_mem.1 hp).1, pls_sorted⟩
    · rw [pls_miss h]; exact pls_sorted
def nh : List Nat → Int
  | [] => -1
  | p :: _ => p
def nrs (z : List Int) (a : Nat) (i : Int) : List Nat := if hk z i = true then pls z (ky z i.toNat) (min i.toNat a) else []
theorem nrs_no {z : List Int} {a : Nat} {i : Int} (h : hk z i = false) : nrs z a i = [] := by unfold nrs; rw [h]; rfl
theorem nrs_yes {z : List Int} {a i : Nat} (h : i + 4 ≤ z.length) : nrs z a i = pls z (ky z i) (min i a) := by unfold nrs; rw [hk_nat h]; rfl
theorem nrs_own {z : List Int} {a i : Nat} (h : i ≤ a) : nrs z a i = nrs z i i := by
  unfold nrs
  rw [Int.toNat_natCast, Nat.min_eq_left h, Nat.min_self]
theorem nrs_cons {z : List Int} {a : Nat} {i : Int} {p : Nat} {l : List Nat} (h : nrs z a i = p :: l) : (p : Int) < i ∧ p < a ∧ p + 4 ≤ z.length ∧ hk z i = true ∧ l = nrs z p p := by
  by_cases hh : hk z i = true
  · obtain ⟨k, rfl, hkz⟩ := hk_pos hh
    rw [nrs_yes hkz] at h
    obtain ⟨h1, h2, h3, h4⟩ := pls_cons h
    refine ⟨by omega, by omega, h2, hh, ?_⟩
    rw [nrs_yes h2, Nat.min_self, h3, h4]
  · unfold nrs at h
    rw [if_neg hh] at h
    cases h
theorem nrs_len {z : List Int} {a : Nat} {i : Int} : (nrs z a i).length ≤ a := by
  unfold nrs
  split
  · have := pls_len (z := z) (x := ky z i.toNat) (a := min i.toNat a); omega
  · simp
def pvl (z : List Int) : Nat → List Int
  | 0 => []
  | a + 1 => pvl z a ++ [nh (nrs z a a)]
theorem pvl_len (z : List Int) : ∀ a, (pvl z a).length = a
  | 0 => rfl
  | a + 1 => by rw [pvl, List.length_append, pvl_len z a]; rfl
theorem pvl_get (z : List Int) {i : Nat} : ∀ {a : Nat}, i < a → (pvl z a)[i]? = some (nh (nrs z i i))
  | 0, h => absurd h (Nat.not_lt_zero _)
  | a + 1, h => by
    rw [pvl]
    by_cases e : i = a
    · subst e
      rw [List.getElem?_append_right (by rw [pvl_len]; omega), pvl_len, Nat.sub_self]
      rfl
    · rw [List.getElem?_append_left (by rw [pvl_len]; omega), pvl_get z (by omega)]
def kct (z : List Int) : Nat → Nat
  | 0 => 0
  | a + 1 => kct z a + if a + 4 ≤ z.length ∧ pls z (ky z a) a = [] then 1 else 0
structure MapIs (z : List Int) (a : Nat) (D : DataW Unit) : Prop where
  tidy : Maps.Tidy D
  none_ : ∀ x, pls z x a = [] → Maps.has D (.int .u32 x) = false
  some_ : ∀ x p l, pls z x a = p :: l → Maps.has D (.int .u32 x) = true ∧ ∀ zd, D.atKey (.int .u32 x) zd = .lit (.int .i64 p)
  size : Maps.size D = kct z a
theorem MapIs.nil (z : List Int) : MapIs z 0 (.map []) := ⟨Maps.tidy_empty, fun _ _ => rfl, fun x p l h => (by cases h), rfl⟩
theorem MapIs.skip {z : List Int} {a : Nat} {D : DataW Unit} (h : MapIs z a D) (ha : ¬ a + 4 ≤ z.length) : MapIs z (a + 1) D := by
  have e : ∀ x, pls z x (a + 1) = pls z x a := fun x => pls_miss (fun hc => ha hc.1)
  exact ⟨h.tidy, fun x hx => h.none_ x (by rw [← e]; exact hx), fun x p l hx => h.some_ x p l (by rw [← e]; exact hx), by rw [h.size, kct, if_neg (fun hc => ha hc.1)]; rfl⟩
theorem MapIs.put {z : List Int} {a : Nat} {D : DataW Unit} (h : MapIs z a D) (ha : a + 4 ≤ z.length) : MapIs z (a + 1) (D.put (.int .u32 (ky z a)) (.lit (.int .i64 a))) := by
  have kl : ∀ x, WideAt.IsKeyLit (.int .u32 x) := fun _ => trivial
  refine ⟨h.tidy.put (kl _) _, fun x hx => ?_, fun x p l hx => ?_, ?_⟩
  · by_cases e : ky z a = x
    · rw [pls_hit ⟨ha, e⟩] at hx; cases hx
    · rw [pls_miss (fun hc => e hc.2)] at hx
      rw [Maps.has_put_other (fun hc => e (by injection hc with _ hc; exact hc.symm))]
      exact h.none_ x hx
  · by_cases e : ky z a = x
    · rw [pls_hit ⟨ha, e⟩] at hx
      injection hx with h1 h2
      subst h1 e
      exact ⟨Maps.has_put_same h.tidy.isMap (kl _) _, fun zd => Maps.atKey_put_same h.tidy.isMap (kl _) _ _⟩
    · rw [pls_miss (fun hc => e hc.2)] at hx
      have hne : Lit.int .u32 x ≠ Lit.int .u32 (ky z a) := fun hc => e (by injection hc with _ hc; exact hc.symm)
      rw [Maps.has_put_other hne]
      exact ⟨(h.some_ x p l hx).1, fun zd => (Maps.atKey_put_other hne _ _).trans ((h.some_ x p l hx).2 zd)⟩
  · rw [Maps.size_put h.tidy, h.size, kct]
    cases hp : pls z (ky z a) a with
    | nil => simp [h.none_ _ hp, ha]
    | cons p l => simp [(h.some_ _ p l hp).1]
end Go.Proofs.YtmiimjgfainclaaGreat.Cur
namespace Go.Proofs.YtmiimjgfainclaaGreat.Cur
open Go.RowKit Mem
set_option linter.unusedVariables false
theorem or_top (X b : Int) (s : Nat) (X0 : 0 ≤ X) (X1 : X < 2 ^ s) (b0 : 0 ≤ b) (b1 : b < 256) (hs : s ≤ 24) : bits .or .u32 X (b * 2 ^ s) = X + b * 2 ^ s ∧ IntKind.u32.wrap (b * 2 ^ s) = b * 2 ^ s := by
  obtain ⟨x, rfl⟩ := Int.eq_ofNat_of_zero_le X0
  obtain ⟨y, rfl⟩ := Int.eq_ofNat_of_zero_le b0
  have e : ((y : Int) * 2 ^ s) = ((2 ^ s * y : Nat) : Int) := by push_cast; rw [Int.mul_comm]
  have hx : x < 2 ^ s := by
    have : ((x : Nat) : Int) < ((2 ^ s : Nat) : Int) := by push_cast; exact X1
    omega
  have hs2 : 2 ^ s ≤ 2 ^ 24 := Nat.pow_le_pow_right (by decide) hs
  have hy : 2 ^ s * y ≤ 2 ^ 24 * 255 := Nat.mul_le_mul hs2 (by omega)
  rw [e, u32_or_nat _ _ (by omega) (by omega), Nat.or_comm, ← Nat.two_pow_add_eq_or_of_lt hx]
  refine ⟨by push_cast; omega, ?_⟩
  rw [IntKind.wrap_u32']
  omega
def KeyPost (z : List Int) (i : Int) (w : World) (e : Ending) (w' : World) : Prop :=
  e = .returned (.tuple #[.int .u32 (if hk z i = true then ky z i.toNat else 0), .bool (hk z i)]) ∧ ∃ k, w' = w.drewN k
set_option maxHeartbeats 1000000 in
theorem ckey_any {w : World} {A : Option Addr} {n m : Nat} {z : List Int} (i : Int) (hz : Bs w A n z) (hby : ∀ x ∈ z, 0 ≤ x ∧ x < 256) (hm : n ≤ m) (hn : n ≤ 1000000) :
    Calls Tryz.prog 255 #[.slice A n m, .int .i64 i] w (KeyPost z i w) := by
  unfold KeyPost
  have hzl := hz.1
  cases hh : hk z i
  · have hc := hk_neg hh
    clear hh
    by_cases h0 : i < 0
    · go_enter Tryz.func255, Tryz.ntmps255
      go_wp2
      go_ret2
      exact ⟨rfl, 0, rfl⟩
    · have h1 : (n : Int) - 4 < i := by omega
      have e1 : IntKind.i64.wrap ((n : Int) - 4) = n - 4 := IntWalk.i64_in _ (by omega)
      clear hzl hc
      go_enter Tryz.func255, Tryz.ntmps255
      go_wp2
      go_ret2
      exact ⟨rfl, 0, rfl⟩
  · obtain ⟨k, rfl, hkz⟩ := hk_pos hh
    clear hh
    have hkn : k + 4 ≤ n := by omega
    obtain ⟨A', M, hsl, hA, hM, _⟩ := slice_lh hz m k (k + 4) (by omega) (by omega) (by omega) hm
    rw [show ((k : Int) + 4 - k).toNat = 4 by omega] at hsl hA hM
    obtain ⟨g, o, rfl, hcc⟩ := hA.2 (by omega)
    have hp : ∀ j, j < 4 → (piece z (k : Int).toNat ((k : Int) + 4).toNat)[j]? = some (z.getD (k + j) 0) := fun j hj => by
      unfold piece
      rw [Int.toNat_natCast, List.getElem?_take_of_lt (by omega), List.getElem?_drop, List.getD_eq_getElem?_getD, List.getElem?_eq_getElem (by omega)]
      rfl
    have c0 := hcc 0 _ (hp 0 (by omega))
    have c1 := hcc 1 _ (hp 1 (by omega))
    have c2 := hcc 2 _ (hp 2 (by omega))
    have c3 := hcc 3 _ (hp 3 (by omega))
    have b0 := by_at hby (k + 0)
    have b1 := by_at hby (k + 1)
    have b2 := by_at hby (k + 2)
    have b3 := by_at hby (k + 3)
    have HK : Hid (ky z k = z.getD (k + 0) 0 + 256 * z.getD (k + 1) 0 + 65536 * z.getD (k + 2) 0 + 16777216 * z.getD (k + 3) 0) := Lib.hid rfl
    generalize z.getD (k + 0) 0 = x0 at *
    generalize z.getD (k + 1) 0 = x1 at *
    generalize z.getD (k + 2) 0 = x2 at *
    generalize z.getD (k + 3) 0 = x3 at *
    have HV : Hid (bits BinOp.or IntKind.u32 (bits BinOp.or IntKind.u32 (bits BinOp.or IntKind.u32 (IntKind.u32.wrap x0) (IntKind.u32.wrap (IntKind.u32.wrap x1 * 256))) (IntKind.u32.wrap (IntKind.u32.wrap x2 * 65536))) (IntKind.u32.wrap (IntKind.u32.wrap x3 * 16777216)) = ky z k) := Lib.hid (by
      have wr : ∀ x : Int, 0 ≤ x → x < 4294967296 → IntKind.u32.wrap x = x := fun x h1 h2 => by rw [IntKind.wrap_u32']; omega
      rw [HK.out, wr x0 (by omega) (by omega), wr x1 (by omega) (by omega), wr x2 (by omega) (by omega), wr x3 (by omega) (by omega), wr (x1 * 256) (by omega) (by omega), wr (x2 * 65536) (by omega) (by omega), wr (x3 * 16777216) (by omega) (by omega)]
      have t1 := (or_top x0 x1 8 b0.1 (by have : (2 : Int) ^ 8 = 256 := by decide
                                          omega) b1.1 b1.2 (by omega)).1
      rw [show (2 : Int) ^ 8 = 256 by decide] at t1
      have t2 := (or_top (x0 + x1 * 256) x2 16 (by omega) (by have : (2 : Int) ^ 16 = 65536 := by decide
                                                              omega) b2.1 b2.2 (by omega)).1
      rw [show (2 : Int) ^ 16 = 65536 by decide] at t2
      have t3 := (or_top (x0 + x1 * 256 + x2 * 65536) x3 24 (by omega) (by have : (2 : Int) ^ 24 = 16777216 := by decide
                                                                           omega) b3.1 b3.2 (by omega)).1
      rw [show (2 : Int) ^ 24 = 16777216 by decide] at t3
      rw [t1, t2, t3]
      omega)
    clear hcc hp hA hz hby hzl hkz
    go_enter Tryz.func255, Tryz.ntmps255
    go_wp2
    have L : ∀ w', (∃ q, w' = w.drewN q) → w'.cell? ⟨g, o, none⟩ = some (.int .u8 x0) ∧ w'.cell? ⟨g, o + 1, none⟩ = some (.int .u8 x1) ∧ w'.cell? ⟨g, o + 2, none⟩ = some (.int .u8 x2) ∧ w'.cell? ⟨g, o + 3, none⟩ = some (.int .u8 x3) := fun w' h => by
      obtain ⟨q, rfl⟩ := h
      exact ⟨c0, c1, c2, c3⟩
    clear c0 c1 c2 c3 hsl
    refine Seq.wp_region_seq (fun w' => ∃ q, w' = w.drewN q) (by kernel_rfl) (by kernel_rfl) ⟨1, rfl⟩ ?_
    repeat (first | (refine Seq.Seq.skip (by rfl) ?_; (try simp only [Act.put, List.setIfInBounds_toArray, List.set_cons_zero, List.set_cons_succ])) | (refine Seq.Seq.det ?_ (by rfl) (fun w hS => ?_) ?_; rotate_left; ((try dsimp only at hS); go_simp; (try rw [if_pos (by omega)]); with_reducible rfl); (try simp only [Act.put, List.setIfInBounds_toArray, List.set_cons_zero, List.set_cons_succ])))
    refine Seq.Seq.nil ?_
    go_wp2
    go_ret2
    exact ⟨by rw [HV.out]; simp, 1, rfl⟩
end Go.Proofs.YtmiimjgfainclaaGreat.Cur
namespace Go.Proofs.YtmiimjgfainclaaGreat.Cur
open Go.RowKit Mem
set_option linter.unusedVariables false
set_option maxRecDepth 100000
abbrev ivs (l : List Int) : List Value := l.map (Value.int .i64)
def OwnG (w : World) (B : Nat) (v : Value) (l : List Int) : Prop := w.ownsRow B 3 1 v l.length (ivs l)
theorem OwnG.slice {w : World} {B : Nat} {v : Value} {l : List Int} (h : OwnG w B v l) : ∃ A c, v = .slice A l.length c := by
  obtain ⟨A, c, e, _⟩ := own_slice h
  exact ⟨A, c, e⟩
theorem rw_newg (w : World) (xs : List Value) (t : Nat) : Rw (w.alloc (.cells xs.toArray t)) (some ⟨w.heap.size, 0, none⟩) xs := fun _ =>
  ⟨_, _, rfl, fun i v hi => by
    rw [Nat.zero_add]
    exact (Blk.new w xs.toArray t).cell i (by simpa using hi)⟩
theorem own_geg {w : World} {B e size n : Nat} {v : Value} {xs : List Value} (h : w.ownsRow B e size v n xs) : ∀ g, v.ownBlock = some g → B ≤ g := fun g hg => (World.ownsRow.lt h g hg).1
theorem own_ltg {w : World} {B e size n : Nat} {v : Value} {xs : List Value} (h : w.ownsRow B e size v n xs) : ∀ g, v.ownBlock = some g → g < w.heap.size := fun g hg => (World.ownsRow.lt h g hg).2
theorem own_apart {w : World} {B B' e e' size size' n n' : Nat} {v v' : Value} {xs xs' : List Value} (h : w.ownsRow B e size v n xs) (h' : w.ownsRow B' e' size' v' n' xs') (ht : e ≠ e') {g : Nat} (hg : v.ownBlock = some g) : v'.ownBlock ≠ some g := by
  rcases h.2 with ⟨rfl, _⟩ | ⟨g1, cap, cur, rfl, _, hh, _⟩
  · cases hg
  rcases h'.2 with ⟨rfl, _⟩ | ⟨g2, cap2, cur2, rfl, _, hh2, _⟩
  · intro h; cases h
  intro he
  have e1 : g1 = g := by simpa [Value.ownBlock] using hg
  have e2 : g2 = g := by simpa [Value.ownBlock] using he
  subst e1
  subst e2
  rw [hh2] at hh
  injection hh with hh
  injection hh with _ hh
  exact ht hh.symm
abbrev MapOf (w : World) (b a : Nat) (D : DataW Unit) : Prop := w.ownsMap Tryz.prog 175 (plainElem Tryz.prog 3) b a D
theorem keyed32 : Maps.Keyed Tryz.prog 175 := Maps.int_keyed Tryz.underlying175
theorem MapOf.block {w w' : World} {b a : Nat} {D : DataW Unit} (h : MapOf w b a D) (hb : w'.heap[b]? = w.heap[b]?) : MapOf w' b a D := by
  obtain ⟨es, clock, h0, h1⟩ := h
  exact ⟨es, clock, hb.trans h0, h1⟩
theorem MapOf.below {w w' : World} {b a : Nat} {D : DataW Unit} (h : MapOf w b a D) (hb : Below w.heap.size w w') : MapOf w' b a D := h.block (hb.block b (World.ownsMap.lt h))
theorem MapOf.ne_blk {w : World} {b a c t : Nat} {D : DataW Unit} {cs : Array Value} (h : MapOf w b a D) (hc : Blk w c cs t) : c ≠ b := by
  obtain ⟨es, clock, h0, _⟩ := h
  intro e
  subst e
  have := (show w.heap[c]? = _ from hc).symm.trans h0
  cases this
theorem MapOf.ne_own {w : World} {b a : Nat} {D : DataW Unit} (h : MapOf w b a D) {B e size n : Nat} {v : Value} {xs : List Value} (ho : w.ownsRow B e size v n xs) : v.ownBlock ≠ some b := by
  obtain ⟨es, clock, h0, _⟩ := h
  rcases ho.2 with ⟨rfl, _⟩ | ⟨g1, cap, cur, rfl, _, hh, _⟩
  · intro h; cases h
  · intro he
    have e1 : g1 = b := by simpa [Value.ownBlock] using he
    subst e1
    rw [hh] at h0
    cases h0
def CS (c mb : Nat) (r : Option Nat) : Nat → Prop := fun k => k = c ∨ k = mb ∨ r = some k
def Chn (w : World) (B c mb : Nat) (r : Option Nat) (A : Option Addr) (n m : Nat) (z : List Int) (a : Nat) : Prop :=
  ∃ v D, v.ownBlock = r ∧ Blk w c #[.slice A n m, .map (some mb), v] 252 ∧ Own w B (.slice A n m) z ∧ OwnG w B v (pvl z a) ∧ MapOf w mb a D ∧ MapIs z a D ∧ a ≤ n ∧ B ≤ c ∧ B ≤ mb
theorem Chn.le {w : World} {B c mb : Nat} {r : Option Nat} {A : Option Addr} {n m : Nat} {z : List Int} {a : Nat} (h : Chn w B c mb r A n m z a) : a ≤ n := by
  obtain ⟨v, D, _, _, _, _, _, _, h, _⟩ := h
  exact h
theorem Chn.bs {w : World} {B c mb : Nat} {r : Option Nat} {A : Option Addr} {n m : Nat} {z : List Int} {a : Nat} (h : Chn w B c mb r A n m z a) : Bs w A n z ∧ n ≤ m := by
  obtain ⟨v, D, _, _, h, _⟩ := h
  exact ⟨h.bs.2, h.cap⟩
theorem Chn.lt {w : World} {B c mb : Nat} {r : Option Nat} {A : Option Addr} {n m : Nat} {z : List Int} {a : Nat} (h : Chn w B c mb r A n m z a) : c < w.heap.size := by
  obtain ⟨v, D, _, h, _⟩ := h
  exact h.lt
theorem Chn.below {w w' : World} {B c mb : Nat} {r : Option Nat} {A : Option Addr} {n m : Nat} {z : List Int} {a : Nat} (h : Chn w B c mb r A n m z a) (hb : Below w.heap.size w w') : Chn w' B c mb r A n m z a := by
  obtain ⟨v, D, h1, h2, h3, h4, h5, h6⟩ := h
  exact ⟨v, D, h1, h2.below hb, own_below h3 hb, own_below h4 hb, h5.below hb, h6⟩
theorem Chn.drewN {w : World} {B c mb : Nat} {r : Option Nat} {A : Option Addr} {n m : Nat} {z : List Int} {a : Nat} (h : Chn w B c mb r A n m z a) (k : Nat) : Chn (w.drewN k) B c mb r A n m z a := h.below (below_drewN (Below.refl _ _) k)
theorem Chn.ge {w : World} {B c mb : Nat} {r : Option Nat} {A : Option Addr} {n m : Nat} {z : List Int} {a : Nat} (h : Chn w B c mb r A n m z a) : ∀ k, CS c mb r k → B ≤ k := by
  obtain ⟨v, D, rfl, h2, h3, h4, h5, h6, h7, h8, h9⟩ := h
  rintro k (rfl | rfl | e)
  · exact h8
  · exact h9
  · exact own_geg h4 k e
theorem Chn.ks {w w' : World} {S : Nat → Prop} {B c mb : Nat} {r : Option Nat} {A : Option Addr} {n m : Nat} {z : List Int} {a : Nat} (h : Chn w B c mb r A n m z a) (hk : Ks S w w') (hS : ∀ k, S k → ¬ CS c mb r k ∧ (Value.slice A n m).ownBlock ≠ some k) : Chn w' B c mb r A n m z a := by
  obtain ⟨v, D, rfl, h2, h3, h4, h5, h6⟩ := h
  refine ⟨v, D, rfl, h2.ks hk (fun e => (hS _ e).1 (.inl rfl)), own_ks h3 hk (fun g hg e => (hS _ e).2 hg), own_ks h4 hk (fun g hg e => (hS _ e).1 (.inr (.inr hg))), h5.block ?_, h6⟩
  exact hk.block mb (World.ownsMap.lt h5) (fun e => (hS _ e).1 (.inr (.inl rfl)))
theorem Chn.cells {w : World} {B c mb : Nat} {r : Option Nat} {A : Option Addr} {n m : Nat} {z : List Int} {a : Nat} (h : Chn w B c mb r A n m z a) :
    ∃ Av cv, w.cell? ⟨c, 0, none⟩ = some (.slice A n m) ∧ w.cell? ⟨c, 1, none⟩ = some (.map (some mb)) ∧ w.cell? ⟨c, 2, none⟩ = some (.slice Av a cv) ∧ (∀ i, i < a → ∃ g o, Av = some ⟨g, o, none⟩ ∧ w.cell? ⟨g, o + i, none⟩ = some (.int .i64 (nh (nrs z i i)))) := by
  obtain ⟨v, D, h1, h2, h3, h4, h5, h6⟩ := h
  obtain ⟨Av, cv, rfl⟩ := h4.slice
  obtain ⟨c0, c1, c2⟩ := h2.c3
  rw [pvl_len] at c2 h4
  refine ⟨Av, cv, c0, c1, c2, fun i hi => ?_⟩
  obtain ⟨_, _, _, hr⟩ := own_rw h4 rfl
  obtain ⟨g, o, e, hc⟩ := hr (by simp [pvl_len]; omega)
  exact ⟨g, o, e, hc i _ (by rw [List.getElem?_map, pvl_get z hi]; rfl)⟩
theorem chadded_any {w : World} {B c mb : Nat} {r : Option Nat} {A : Option Addr} {n m : Nat} {z : List Int} {a : Nat} (h : Chn w B c mb r A n m z a) :
    Calls Tryz.prog 246 #[.pointer (some ⟨c, 0, none⟩)] w fun e w' => e = .returned (.int .i64 a) ∧ w = w' := by
  obtain ⟨Av, cv, c0, c1, c2, _⟩ := h.cells
  clear h
  go_enter Tryz.func246, Tryz.ntmps246
  go_wp2
  go_ret
  exact ⟨rfl, rfl⟩
def NearestPost (z : List Int) (a : Nat) (i : Int) (w : World) (e : Ending) (w' : World) : Prop := e = .returned (.int .i64 (nh (nrs z a i))) ∧ ∃ k, w' = w.drewN k
set_option maxHeartbeats 1000000 in
theorem chnearest_any {w : World} {B c mb : Nat} {r : Option Nat} {A : Option Addr} {n m : Nat} {z : List Int} {a : Nat} (i : Int) (h : Chn w B c mb r A n m z a) (hby : ∀ x ∈ z, 0 ≤ x ∧ x < 256) (hn : n ≤ 100000) :
    Calls Tryz.prog 252 #[.pointer (some ⟨c, 0, none⟩), .int .i64 i] w (NearestPost z a i w) := by
  unfold NearestPost
  obtain ⟨Av, cv, c0, c1, c2, hc⟩ := h.cells
  have hB := h.bs
  by_cases h1 : 0 ≤ i ∧ i < a
  · obtain ⟨k, rfl⟩ : ∃ k : Nat, i = k := ⟨i.toNat, by omega⟩
    have hka : k < a := by omega
    obtain ⟨g, o, rfl, hv⟩ := hc k hka
    rw [← nrs_own (z := z) (a := a) (Nat.le_of_lt hka)] at hv
    have hA := fun w' (hw : w = w') => chadded_any (h.below (hw ▸ Below.refl _ _ : Below w.heap.size w w'))
    generalize nh (nrs z a k) = x at *
    clear hc h hB h1
    go_enter Tryz.func252, Tryz.ntmps252
    go_wp2_with fail
    refine (hA _ rfl).mono ?_
    rintro e w1 ⟨rfl, rfl⟩
    clear hA
    go_wp2_with fail
    go_ret
    exact ⟨rfl, 0, rfl⟩
  · have hA := fun w' (hw : w = w') => chadded_any (h.below (hw ▸ Below.refl _ _ : Below w.heap.size w w'))
    have hK := fun w' (hw : w = w') => ckey_any (w := w') (A := A) (n := n) (m := m) (z := z) i (hw ▸ hB.1) hby hB.2 (by omega)
    have hzl := hB.1.1
    have hla := h.le
    obtain ⟨v, D, _, _, _, _, hm, hD, _⟩ := h
    unfold KeyPost at hK
    cases hh : hk z i
    · rw [hh] at hK
      have e0 : nrs z a i = [] := nrs_no hh
      rw [e0]
      clear e0 hh hm hD hc hby hB hzl
      by_cases hi : 0 ≤ i
      · have hia : (a : Int) ≤ i := by omega
        clear h1
        go_enter Tryz.func252, Tryz.ntmps252
        go_wp2_with fail
        refine (hA _ rfl).mono ?_
        rintro e w1 ⟨rfl, rfl⟩
        clear hA
        go_wp2_with fail
        refine (hK _ rfl).mono ?_
        rintro e w1 ⟨rfl, k1, rfl⟩
        clear hK
        go_wp2
        go_ret
        exact ⟨rfl, k1, rfl⟩
      · clear h1 hA
        go_enter Tryz.func252, Tryz.ntmps252
        go_wp2_with fail
        refine (hK _ rfl).mono ?_
        rintro e w1 ⟨rfl, k1, rfl⟩
        clear hK
        go_wp2
        go_ret
        exact ⟨rfl, k1, rfl⟩
    · rw [hh] at hK
      obtain ⟨k, rfl, hkz⟩ := hk_pos hh
      have hka : a ≤ k := by omega
      rw [nrs_yes hkz, Nat.min_eq_right hka]
      rw [if_pos rfl, Int.toNat_natCast] at hK
      have hbd := ky_bd hby k
      have hN := hD.none_ (ky z k)
      have hS := hD.some_ (ky z k)
      generalize ky z k = x at *
      have hkey : keyOf Tryz.prog 175 (.int .u32 x) = some (.int .u32 x) := Maps.keyOf_int_mk Tryz.underlying175 (by first | go_wf | exact WalkArith.wf_u32 (by omega))
      have hai : (a : Int) ≤ k := by omega
      clear h1 hc hby hB hh hkz hka hD
      cases hp : pls z x a with
      | nil =>
        have hhas := hN hp
        clear hN hS hp
        go_enter Tryz.func252, Tryz.ntmps252
        go_wp2_with fail
        refine (hA _ rfl).mono ?_
        rintro e w1 ⟨rfl, rfl⟩
        clear hA
        go_wp2_with fail
        refine (hK _ rfl).mono ?_
        rintro e w1 ⟨rfl, k1, rfl⟩
        clear hK
        go_wp2_with (at_lookup; refine wpList_lookup_own_ok_int _ rfl _ _ 249 rfl 175 3 .i64 keyed32 Tryz.underlying249 Tryz.underlying3 (by kernel_rfl) mb a D rfl (show MapOf _ mb a D from hm) _ _ rfl hkey ?_; intro cc hat hwc; clear hat)
        go_ret
        exact ⟨rfl, k1, rfl⟩
      | cons p l =>
        obtain ⟨hhas, hat0⟩ := hS p l hp
        have HAT := Lib.hid hat0
        clear hN hS hp hat0
        go_enter Tryz.func252, Tryz.ntmps252
        go_wp2_with fail
        refine (hA _ rfl).mono ?_
        rintro e w1 ⟨rfl, rfl⟩
        clear hA
        go_wp2_with fail
        refine (hK _ rfl).mono ?_
        rintro e w1 ⟨rfl, k1, rfl⟩
        clear hK
        go_wp2_with (at_lookup; refine wpList_lookup_own_ok_int _ rfl _ _ 249 rfl 175 3 .i64 keyed32 Tryz.underlying249 Tryz.underlying3 (by kernel_rfl) mb a D rfl (show MapOf _ mb a D from hm) _ _ rfl hkey ?_; intro cc hat hwc; obtain rfl : cc = (p : Int) := (by have := (HAT.out _).symm.trans hat; injection this with this; injection this with _ this; exact this.symm); clear hat hwc)
        go_ret
        exact ⟨rfl, k1, rfl⟩
end Go.Proofs.YtmiimjgfainclaaGreat.Cur
namespace Go.Proofs.YtmiimjgfainclaaGreat.Cur
open Go.RowKit Mem
set_option linter.unusedVariables false
set_option maxRecDepth 100000
theorem kindG : Kind 250 3 (.int .i64 0) 1 8 := ⟨Tryz.underlying250, by kernel_rfl, rfl, by decide⟩
theorem oper_append_rg {sl e : TypeId} {zv : Value} {size bytes : Nat} (E : Kind sl e zv size bytes) {w : World} {o : Oper} {a : Act} {K : Act → World → Prop} {Q : Exit → Act → World → Prop} (s x : Operand)
    (ho : o.op = .call { callee := .builtin .append, args := #[s, x], argTypes := #[sl, sl] })
    (B : Nat) (v : Value) (n : Nat) (xs : List Value) (hs : a.eval s = v) (hown : w.ownsRow B e size v n xs) (A : Option Addr) (m c : Nat) (news : List Value) (hx : a.eval x = .slice A m c) (hl : news.length = m * size) (hr : Rw w A news) (hc : A = none → c = 0) (h1 : ∀ u ∈ news, u.oneCell' = true)
    (hsz : n + m ≤ 1000000) (hby : bytes ≤ 1000000) (hB : B ≤ w.heap.size)
    (h : ∀ v' w', w'.ownsRow B e size v' (n + m) (xs ++ news) → w.grownBy w' v.ownBlock → Gr v.ownBlock v'.ownBlock w → K (a.put o.dst v') w') : o.wp Tryz.prog a w K Q := by
  obtain ⟨v', w', hrun, h2, h3, h4⟩ := run_append_rw E w o.type B v n xs hown A m c news hl hr hc h1 hsz hby hB
  unfold Oper.wp
  simp [execOp, ho, resolve, invoke, builtin, hs, hx, hrun, Result.andThen]
  exact h v' w' h2 h3 h4
def ClonePost (n : Nat) (z : List Int) (w : World) (e : Ending) (w' : World) : Prop := ∃ A' m', e = .returned (.slice A' n m') ∧ Own w' w.heap.size (.slice A' n m') z ∧ Below w.heap.size w w'
theorem clone_any {w : World} {A : Option Addr} {n m : Nat} {z : List Int} (hz : Bs w A n z) (hn : n ≤ 100000) : Calls Tryz.prog 75 #[.slice A n m] w (ClonePost n z w) := by
  have hzl := hz.1
  rcases A with _ | ad
  · have h0 : z = [] := by
      rcases Nat.eq_zero_or_pos n with h0 | h0
      · exact List.eq_nil_of_length_eq_zero (by omega)
      · obtain ⟨_, _, e, _⟩ := hz.2 h0
        cases e
    subst h0
    obtain rfl : n = 0 := by simpa using hzl.symm
    refine (Tryz.bytes_Clone_nil 0 m w).mono ?_
    rintro e w' ⟨rfl, rfl⟩
    exact ⟨none, 0, rfl, World.ownsRow_nil _ _ _ _, Below.refl _ _⟩
  · refine (Tryz.bytes_Clone_at ad n m z w hzl (by omega) (fun i hi => ?_)).mono ?_
    · obtain ⟨k, o, e, hc⟩ := hz.2 (by omega)
      injection e with e
      subst e
      have := hc i _ (show z[i]? = some (z.getD i 0) by rw [List.getD_eq_getElem?_getD, List.getElem?_eq_getElem (by omega)]; rfl)
      unfold Addr.add
      split
      · rename_i h; subst h; exact this
      · exact this
    · rintro e w' ⟨v', rfl, ho, _, hb⟩
      obtain ⟨A', m', rfl, _, _⟩ := own_slice ho
      refine ⟨A', m', rfl, ?_, hb⟩
      unfold Own
      rw [hzl]
      exact ho
def ChNewPost (n : Nat) (z : List Int) (w : World) (e : Ending) (w' : World) : Prop :=
  ∃ c mb A' m', e = .returned (.pointer (some ⟨c, 0, none⟩)) ∧ Chn w' w.heap.size c mb none A' n m' z 0 ∧ Below w.heap.size w w'
set_option maxHeartbeats 1000000 in
theorem chnew_any {w : World} {A : Option Addr} {n m : Nat} {z : List Int} (hz : Bs w A n z) (hn : n ≤ 100000) : Calls Tryz.prog 238 #[.slice A n m] w (ChNewPost n z w) := by
  have hC := clone_any (m := m) hz hn
  have hmm := @run_makeMap Tryz.prog
  clear hz
  go_enter Tryz.func238, Tryz.ntmps238
  go_wp2_with fail
  refine hC.mono ?_
  rintro e w1 ⟨A', m', rfl, ho, hb⟩
  clear hC
  have HO := Lib.hid ho
  have HB := Lib.hid hb
  clear ho hb
  go_wp2
  go_ret
  have h1 := below_one w1 (.map #[] 0)
  have hX := Blk.new (w1.alloc (.map #[] 0)) #[.slice A' n m', .map (some w1.heap.size), .slice none 0 0] 252
  have h2 := below_one (w1.alloc (.map #[] 0)) (.cells #[.slice A' n m', .map (some w1.heap.size), .slice none 0 0] 252)
  have h3 := h1.trans (h2.mono h1.size)
  rw [show (w1.alloc (.map #[] 0)).heap.size = w1.heap.size + 1 by simp] at hX
  have hsz := HB.out.size
  refine ⟨w1.heap.size + 1, w1.heap.size, A', m', rfl, ⟨.slice none 0 0, .map [], rfl, hX, own_below HO.out h3, World.ownsRow_nil _ _ _ _, MapOf.below (World.ownsMap_made _ _ _ _) h2, MapIs.nil z, Nat.zero_le _, by omega, hsz⟩, HB.out.trans (h3.mono hsz)⟩
theorem chn_push {w wA w2 : World} {B c mb n m a k : Nat} {A : Option Addr} {v v' : Value} {z : List Int} {D : DataW Unit} {x : Int} (hX : Blk w c #[.slice A n m, .map (some mb), v] 252) (hO : Own w B (.slice A n m) z) (hP : OwnG w B v (pvl z a)) (hM : MapOf w mb k D)
    (hA : Below w.heap.size w wA) (ho' : w2.ownsRow B 3 1 v' ((pvl z a).length + 1) (ivs (pvl z a) ++ [Value.int .i64 x])) (hx : x = nh (nrs z a a)) (hg : wA.grownBy w2 v.ownBlock) (hgr : Gr v.ownBlock v'.ownBlock wA) :
    Blk (w2.setCell ⟨c, 2, none⟩ v') c #[.slice A n m, .map (some mb), v'] 252 ∧ Own (w2.setCell ⟨c, 2, none⟩ v') B (.slice A n m) z ∧ OwnG (w2.setCell ⟨c, 2, none⟩ v') B v' (pvl z (a + 1)) ∧ MapOf (w2.setCell ⟨c, 2, none⟩ v') mb k D ∧
      Ks (CS c mb v.ownBlock) w (w2.setCell ⟨c, 2, none⟩ v') ∧ Gr v.ownBlock v'.ownBlock w := by
  have hne : v.ownBlock ≠ some c := own_ne_blk hP hX (by decide)
  have hXA := hX.below hA
  have hOA := own_below hO hA
  have hPA := own_below hP hA
  have hMA := hM.below hA
  have hX2 : Blk w2 c #[.slice A n m, .map (some mb), v] 252 := (hg.block c hXA.lt (fun e => hne e.symm)).trans hXA
  have hO2 : Own w2 B (.slice A n m) z := own_block hOA fun i hi => hg.block i (own_ltg hOA i hi) (fun e => own_apart hOA hPA (by decide) hi e.symm)
  have hM2 : MapOf w2 mb k D := hMA.block (hg.block mb (World.ownsMap.lt hMA) (fun e => hMA.ne_own hPA e.symm))
  have hne' : v'.ownBlock ≠ some c := own_ne_blk ho' hX2 (by decide)
  have hneO : (Value.slice A n m).ownBlock ≠ some c := own_ne_blk hO2 hX2 (by decide)
  refine ⟨hX2.set 2 _, own_block hO2 fun i hi => Below.heap_setCell w2 _ _ i (fun e => hneO (by rw [hi, e])), ?_, hM2.block (Below.heap_setCell w2 _ _ mb (fun e => hM2.ne_blk hX2 e.symm)), ?_, ?_⟩
  · have e : ivs (pvl z (a + 1)) = ivs (pvl z a) ++ [Value.int .i64 x] := by unfold ivs; rw [pvl, List.map_append, hx]; rfl
    unfold OwnG
    rw [e, show (pvl z (a + 1)).length = (pvl z a).length + 1 by rw [pvl_len, pvl_len]]
    exact own_block ho' fun i hi => Below.heap_setCell w2 _ _ i (fun e => hne' (by rw [hi, e]))
  · exact (Ks.of_below hA).trans ((Ks.of_grown hg fun i hi => .inr (.inr hi)).trans (Ks.setCell _ _ _ _ (.inl rfl)))
  · rcases hgr with e | ⟨g, e, hg'⟩
    · exact .inl e
    · exact .inr ⟨g, e, Nat.le_trans hA.size hg'⟩
def ChAddPost (B c mb : Nat) (r : Option Nat) (A : Option Addr) (n m : Nat) (z : List Int) (a : Nat) (w : World) (e : Ending) (w' : World) : Prop :=
  ∃ r', e = .returned (.bool (decide (a < n))) ∧ Chn w' B c mb r' A n m z (min (a + 1) n) ∧ Ks (CS c mb r) w w' ∧ Gr r r' w
set_option maxHeartbeats 2000000 in
theorem chadd_any {w : World} {B c mb : Nat} {r : Option Nat} {A : Option Addr} {n m : Nat} {z : List Int} {a : Nat} (h : Chn w B c mb r A n m z a) (hby : ∀ x ∈ z, 0 ≤ x ∧ x < 256) (hn : n ≤ 100000) (hB : B ≤ w.heap.size) :
    Calls Tryz.prog 247 #[.pointer (some ⟨c, 0, none⟩)] w (ChAddPost B c mb r A n m z a w) := by
  have hle := h.le
  have hA := chadded_any h
  by_cases ha : a = n
  · subst ha
    obtain ⟨Av, cv, c0, c1, c2, _⟩ := h.cells
    have HH := Lib.hid h
    clear h
    go_enter Tryz.func247, Tryz.ntmps247
    go_wp2_with fail
    refine hA.mono ?_
    rintro e w1 ⟨rfl, rfl⟩
    clear hA
    go_wp2
    go_ret
    exact ⟨r, by simp, by rw [Nat.min_eq_right (by omega)]; exact HH.out, Ks.refl _ _, Gr.refl _ _⟩
  · have hlt : a < n := by omega
    have hneq : ((a : Int) == (n : Int)) = false := by simp; omega
    have hN := chnearest_any (a : Int) (h.drewN 1) hby hn
    have hzb := h.bs
    obtain ⟨v, D, rfl, hX, hO, hP, hM, hD, _, hBc, hBm⟩ := h
    obtain ⟨Av, cv, rfl⟩ := hP.slice
    have hPL := pvl_len z a
    have hS : Blk w.drew c #[.slice A n m, .map (some mb), .slice Av (pvl z a).length cv] 252 := hX
    have L : ∀ w', Blk w' c #[.slice A n m, .map (some mb), .slice Av (pvl z a).length cv] 252 → w'.cell? ⟨c, 0, none⟩ = some (.slice A n m) ∧ w'.cell? ⟨c, 2, none⟩ = some (.slice Av (pvl z a).length cv) := fun w' h => ⟨h.c3.1, h.c3.2.2⟩
    obtain ⟨c0, c1, c2⟩ := hX.c3
    unfold NearestPost at hN
    obtain ⟨x, hx⟩ : ∃ x, nh (nrs z a a) = x := ⟨_, rfl⟩
    rw [hx] at hN
    have HX := Lib.hid hX
    have HO := Lib.hid hO
    have HP := Lib.hid hP
    have HM := Lib.hid hM
    have HD := Lib.hid hD
    have HXX := Lib.hid hx
    have HBY := Lib.hid hby
    have HN := Lib.hid hN
    have HPL := Lib.hid hPL
    have HB := Lib.hid hB
    clear hX hO hP hM hD hx hby hN hPL hzb ha hB
    go_enter Tryz.func247, Tryz.ntmps247
    go_wp2_with fail
    refine hA.mono ?_
    rintro e w1 ⟨rfl, rfl⟩
    clear hA
    go_wp2_with fail
    clear c0 c1 c2
    refine Seq.wp_region_last (fun w' => Blk w' c #[.slice A n m, .map (some mb), .slice Av (pvl z a).length cv] 252) (by kernel_rfl) (by kernel_rfl) (by kernel_rfl) hS ?_
    repeat (first | (refine Seq.SeqE.skip (by rfl) ?_; (try simp only [Act.put, List.setIfInBounds_toArray, List.set_cons_zero, List.set_cons_succ])) | (refine Seq.SeqE.det ?_ (by rfl) (fun w hS => ?_) ?_; rotate_left; ((try dsimp only at hS); go_simp; (try rw [if_pos (by omega)]); with_reducible rfl); (try simp only [Act.put, List.setIfInBounds_toArray, List.set_cons_zero, List.set_cons_succ])))
    refine Seq.SeqE.make (by rfl) (by rfl) (fun K Q' hK => ?_)
    go_simp
    go_at_call 252
    refine HN.out.mono ?_
    rintro e w1 ⟨rfl, k1, rfl⟩
    have hS1 : Blk ((w.drewN 1).drewN k1) c #[.slice A n m, .map (some mb), .slice Av (pvl z a).length cv] 252 := hS
    refine hK.out _ _ (hS1) ?_
    clear hK K
    try simp only [Act.put, List.setIfInBounds_toArray, List.set_cons_zero, List.set_cons_succ]
    repeat (first | (refine Seq.SeqE.skip (by rfl) ?_; (try simp only [Act.put, List.setIfInBounds_toArray, List.set_cons_zero, List.set_cons_succ])) | (refine Seq.SeqE.det ?_ (by rfl) (fun w hS => ?_) ?_; rotate_left; ((try dsimp only at hS); go_simp; (try rw [if_pos (by omega)]); with_reducible rfl); (try simp only [Act.put, List.setIfInBounds_toArray, List.set_cons_zero, List.set_cons_succ])))
    refine Seq.SeqE.make (by rfl) (by rfl) (fun K Q' hK => ?_)
    go_simp
    have hA1 : Below w.heap.size w ((w.drewN (1 + k1)).alloc (.cells #[.int .i64 x] 3)) := (below_drewN (Below.refl w.heap.size w) (1 + k1)).alloc (below_drewN (Below.refl w.heap.size w) (1 + k1)).size _
    have hrw : Rw ((w.drewN (1 + k1)).alloc (.cells #[.int .i64 x] 3)) (some ⟨w.heap.size, 0, none⟩) [.int .i64 x] := rw_newg (w.drewN (1 + k1)) [.int .i64 x] 3
    have hB9 : B ≤ ((w.drewN (1 + k1)).alloc (.cells #[.int .i64 x] 3)).heap.size := Nat.le_trans HB.out hA1.size
    have hSA := HX.out.below (w' := (w.drewN (1 + k1)).alloc (.cells #[.int .i64 x] 3)) hA1
    refine hK.out _ _ (hSA) ?_
    clear hK K
    try simp only [Act.put, List.setIfInBounds_toArray, List.set_cons_zero, List.set_cons_succ]
    generalize (w.drewN (1 + k1)).alloc (.cells #[.int .i64 x] 3) = wA at *
    have HA1 := Lib.hid hA1
    have hPA := own_below HP.out hA1
    clear hA1 hS hS1
    refine Seq.SeqE.make (by rfl) (by rfl) (fun K Q' hK => ?_)
    refine oper_append_rg kindG (.tmp 23) (.tmp 27) rfl B _ _ _ rfl hPA _ 1 _ [Value.int .i64 x] rfl rfl hrw (by simp) (by simp [Value.oneCell']) (by rw [HPL.out]; omega) (by omega) hB9 ?_
    intro v' w2 ho' hg hgr
    have hSB : Blk w2 c #[.slice A n m, .map (some mb), .slice Av (pvl z a).length cv] 252 := (hg.block c hSA.lt (fun e => own_ne_blk hPA hSA (by decide) e.symm)).trans hSA
    obtain ⟨p1, p2, p3, p4, p5, p6⟩ := chn_push HX.out HO.out HP.out HM.out HA1.out ho' HXX.out.symm hg hgr
    obtain ⟨Av', cv', rfl, _, _⟩ := own_slice ho'
    refine hK.out _ _ (hSB) ?_
    clear hK K
    try simp only [Act.put, List.setIfInBounds_toArray, List.set_cons_zero, List.set_cons_succ]
    have P1 := Lib.hid p1
    have P2 := Lib.hid p2
    have P3 := Lib.hid p3
    have P4 := Lib.hid p4
    have P5 := Lib.hid p5
    have P6 := Lib.hid p6
    clear p1 p2 p3 p4 p5 p6 ho' hg hgr hPA hrw hSA hB9
    repeat (first | (refine Seq.SeqE.skip (by rfl) ?_; (try simp only [Act.put, List.setIfInBounds_toArray, List.set_cons_zero, List.set_cons_succ])) | (refine Seq.SeqE.det ?_ (by rfl) (fun w hS => ?_) ?_; rotate_left; ((try dsimp only at hS); go_simp; (try rw [if_pos (by omega)]); with_reducible rfl); (try simp only [Act.put, List.setIfInBounds_toArray, List.set_cons_zero, List.set_cons_succ])))
    have hfz := hSB.free 2
    have hS0 := hSB.c3.2.2
    refine Seq.SeqE.last (by rfl) (by rfl) (fun K Q' hK => ?_)
    go_simp
    refine hK.out _ _ ?_
    clear hK K
    try simp only [Act.put, List.setIfInBounds_toArray, List.set_cons_zero, List.set_cons_succ]
    clear hfz hS0 hSB L
    generalize w2.setCell ⟨c, 2, none⟩ _ = w3 at *
    obtain ⟨c0, c1, _⟩ := P1.out.c3
    have hzb := Own.bs P2.out
    have hcap := Own.cap P2.out
    have hK := ckey_any (w := w3) (A := A) (n := n) (m := m) (z := z) (a : Int) hzb.2 HBY.out hcap (by omega)
    unfold KeyPost at hK
    have hmin : min (a + 1) n = a + 1 := Nat.min_eq_left hlt
    have HMIN := Lib.hid hmin
    have hzl := Lib.hid hzb.1
    clear hzb hmin
    cases hh : hk z a
    · have hns := hk_neg hh
      have HNS : Hid (¬ a + 4 ≤ z.length) := Lib.hid (by omega)
      rw [hh] at hK
      clear hh hns
      go_wp2_with fail
      refine hK.mono ?_
      rintro e w1 ⟨rfl, k2, rfl⟩
      clear hK c0 c1
      go_wp2
      go_ret
      have hd := below_drewN (Below.refl w3.heap.size w3) k2
      refine ⟨_, by simp [hlt], ?_, P5.out.trans (Ks.of_below hd), P6.out⟩
      rw [HMIN.out]
      exact ⟨_, D, rfl, P1.out.below hd, own_below P2.out hd, own_below P3.out hd, MapOf.below (World.ownsMap.mono P4.out (Nat.le_succ a)) hd, HD.out.skip HNS.out, hlt, hBc, hBm⟩
    · obtain ⟨k, hk1, hkz⟩ := hk_pos hh
      obtain rfl : a = k := by omega
      rw [hh, if_pos rfl, Int.toNat_natCast] at hK
      have hbd := ky_bd HBY.out a
      have HKZ := Lib.hid hkz
      obtain ⟨x2, hx2⟩ : ∃ x2, ky z a = x2 := ⟨_, rfl⟩
      rw [hx2] at hK hbd
      have hkey : keyOf Tryz.prog 175 (.int .u32 x2) = some (.int .u32 x2) := Maps.keyOf_int_mk Tryz.underlying175 (by first | go_wf | exact WalkArith.wf_u32 (by omega))
      have hval : plainElem (H := Unit) Tryz.prog 3 (.int .i64 (a : Int)) = some (.lit (.int .i64 a), []) := plainElem_int Tryz.underlying3 (by first | go_wf | exact WalkArith.wf_i64 (by omega))
      have HPUT := Lib.hid (HD.out.put hkz)
      rw [hx2] at HPUT
      clear hh hk1 hkz hx2
      go_wp2_with fail
      refine hK.mono ?_
      rintro e w1 ⟨rfl, k2, rfl⟩
      clear hK
      have hd := below_drewN (Below.refl w3.heap.size w3) k2
      have hM5 : MapOf (w3.drewN k2) mb a D := P4.out.below hd
      go_wp2_with (at_mapUpdate; refine wpList_mapUpdate_own _ rfl _ _ _ 249 rfl 175 3 keyed32 Tryz.underlying249 _ mb a D rfl hM5 (by unfold maxLen; omega) _ _ _ rfl rfl hkey _ [] hval ?_; intro w6 hm6 hg6; clear c0 c1 hM5)
      go_ret
      have q1 := P1.out.below hd
      have q2 := own_below P2.out hd
      have q3 := own_below P3.out hd
      have q4 := P4.out.below hd
      refine ⟨_, by simp [hlt], ?_, (P5.out.trans (Ks.of_below hd)).trans (Ks.of_grown hg6 fun i hi => .inr (.inl (by injection hi with hi; exact hi.symm))), P6.out⟩
      rw [HMIN.out]
      refine ⟨_, _, rfl, (hg6.block c q1.lt (fun e => q4.ne_blk q1 (by injection e))).trans q1, own_block q2 fun i hi => hg6.block i (own_ltg q2 i hi) (fun e => q4.ne_own q2 (hi.trans e)), own_block q3 fun i hi => hg6.block i (own_ltg q3 i hi) (fun e => q4.ne_own q3 (hi.trans e)), hm6, HPUT.out, hlt, hBc, hBm⟩
theorem Ks.ch {w w1 w2 : World} {c mb : Nat} {r r1 : Option Nat} (h : Ks (CS c mb r) w w1) (g : Gr r r1 w) (k : Ks (CS c mb r1) w1 w2) : Ks (CS c mb r) w w2 :=
  h.trans' k fun i hi hS => by
    rcases hS with e | e | e
    · exact .inl e
    · exact .inr (.inl e)
    · rcases g with rfl | ⟨g', e', hg⟩
      · exact .inr (.inr e)
      · rw [e'] at e
        injection e with e
        omega
def tgt (a n : Nat) (at_ : Int) : Nat := max a (min at_.toNat n)
def ChToPost (B c mb : Nat) (r : Option Nat) (A : Option Addr) (n m : Nat) (z : List Int) (a : Nat) (at_ : Int) (w : World) (e : Ending) (w' : World) : Prop :=
  ∃ r', e = .returned (.int .i64 (tgt a n at_)) ∧ Chn w' B c mb r' A n m z (tgt a n at_) ∧ Ks (CS c mb r) w w' ∧ Gr r r' w
set_option maxHeartbeats 2000000 in
theorem chaddto_any {w : World} {B c mb : Nat} {r : Option Nat} {A : Option Addr} {n m : Nat} {z : List Int} {a : Nat} (at_ : Int) (h : Chn w B c mb r A n m z a) (hby : ∀ x ∈ z, 0 ≤ x ∧ x < 256) (hn : n ≤ 100000) (hB : B ≤ w.heap.size) :
    Calls Tryz.prog 239 #[.pointer (some ⟨c, 0, none⟩), .int .i64 at_] w (ChToPost B c mb r A n m z a at_ w) := by
  have hle := h.le
  have HBY := Lib.hid hby
  have HH := Lib.hid h
  obtain ⟨t, ht⟩ : ∃ t, tgt a n at_ = t := ⟨_, rfl⟩
  have HT := Lib.hid ht
  have htn : a ≤ t ∧ t ≤ n := by unfold tgt at ht; omega
  clear hby h ht
  go_enter Tryz.func239, Tryz.ntmps239
  go_wp2
  go_loopg [12] (n + 1 - a) (fun gk _ wr => ∃ (a' : Nat) (r' : Option Nat), a ≤ a' ∧ a' ≤ t ∧ gk = n + 1 - a' ∧ Chn wr B c mb r' A n m z a' ∧ Ks (CS c mb r) w wr ∧ Gr r r' w)
  case atStart => exact ⟨a, r, Nat.le_refl _, htn.1, rfl, HH.out, Ks.refl _ _, Gr.refl _ _⟩
  case round =>
    obtain ⟨a', r', h1, h2, hgk, hc, hks, hgr⟩ := hrel
    have hA := chadded_any hc
    have HC := Lib.hid hc
    have HKS := Lib.hid hks
    have HGK := Lib.hid hgk
    clear hc hks hgk
    by_cases hlt : (a' : Int) < at_
    · go_wp2_with fail
      refine hA.mono ?_
      rintro e w1 ⟨rfl, rfl⟩
      clear hA
      have hD := chadd_any HC.out HBY.out hn (Nat.le_trans hB HKS.out.size)
      by_cases hn1 : a' < n
      · have HT2 : Hid (a' + 1 ≤ t) := Lib.hid (by have := HT.out; unfold tgt at this; omega)
        unfold ChAddPost at hD
        rw [decide_eq_true hn1, Nat.min_eq_left hn1] at hD
        go_wp2_with fail
        refine hD.mono ?_
        rintro e w2 ⟨r2, rfl, hc2, hk2, hg2⟩
        have HC2 := Lib.hid hc2
        have HK2 := Lib.hid (HKS.out.ch hgr hk2)
        have HG2 := Lib.hid (hgr.trans hg2 HKS.out.size)
        clear hD hc2 hk2 hg2 hgr
        go_wp2
        go_roundg (n + 1 - (a' + 1))
        case measure => have := HGK.out; omega
        case rel => exact ⟨a' + 1, r2, by omega, HT2.out, rfl, HC2.out, HK2.out, HG2.out⟩
      · have ha : a' = n := by omega
        have HT2 : Hid (a' = t) := Lib.hid (by omega)
        unfold ChAddPost at hD
        rw [decide_eq_false hn1, Nat.min_eq_right (by omega)] at hD
        go_wp2_with fail
        refine hD.mono ?_
        rintro e w2 ⟨r2, rfl, hc2, hk2, hg2⟩
        have hA2 := chadded_any hc2
        have HC2 := Lib.hid hc2
        have HK2 := Lib.hid (HKS.out.ch hgr hk2)
        have HG2 := Lib.hid (hgr.trans hg2 HKS.out.size)
        have HAN := Lib.hid ha
        clear hD hc2 hk2 hg2 hgr ha
        go_wp2_with fail
        refine hA2.mono ?_
        rintro e w3 ⟨rfl, rfl⟩
        clear hA2
        go_wp2
        go_ret
        have e : tgt a n at_ = n := by rw [HT.out, ← HT2.out, HAN.out]
        exact ⟨r2, by rw [e]; rfl, by rw [e]; exact HC2.out, HK2.out, HG2.out⟩
    · have HT2 : Hid (tgt a n at_ = a') := Lib.hid (by have := HT.out; unfold tgt at *; omega)
      have hge : at_ ≤ (a' : Int) := by omega
      go_wp2_with fail
      refine hA.mono ?_
      rintro e w1 ⟨rfl, rfl⟩
      go_wp2_with fail
      refine hA.mono ?_
      rintro e w1 ⟨rfl, rfl⟩
      clear hA
      go_wp2
      go_ret
      exact ⟨r', by rw [HT2.out]; rfl, by rw [HT2.out]; exact HC.out, HKS.out, hgr⟩
end Go.Proofs.YtmiimjgfainclaaGreat.Cur
namespace Go.Proofs.YtmiimjgfainclaaGreat.Cur
open Go.RowKit Go.Shelf Mem
attribute [local go_sem] Oper.semAt_some
set_option linter.unusedVariables false
set_option maxRecDepth 100000
def Lnk (w : World) (g o k : Nat) (i : Int) : List Nat → Prop
  | [] => True
  | x :: r => x < k ∧ i - x ≤ 65536 ∧ -9000000000000000000 ≤ i - x ∧ (∀ y s, r = y :: s → y < x) ∧ w.cell? ⟨g, o + x, none⟩ = some (.int .i64 (nh r)) ∧ Lnk w g o k i r
theorem Lnk.keep {w w' : World} {g o k : Nat} {i : Int} (hg : w'.heap[g]? = w.heap[g]?) : ∀ {L : List Nat}, Lnk w g o k i L → Lnk w' g o k i L
  | [], _ => trivial
  | x :: r, ⟨h1, h2, h3, h4, h5, h6⟩ => ⟨h1, h2, h3, h4, (World.cell?_of_block (w := w) hg).trans h5, Lnk.keep hg h6⟩
theorem Lnk.drop {w : World} {g o k : Nat} {i : Int} {rest : List Nat} : ∀ {pre : List Nat}, Lnk w g o k i (pre ++ rest) → Lnk w g o k i rest
  | [], h => h
  | x :: pre, ⟨_, _, _, _, _, h⟩ => Lnk.drop h
def PT (p q c g : Nat) : Nat → Prop := fun k => k = p ∨ k = q ∨ k = c ∨ k = g
def KpT (p q c g : Nat) (W W' : World) : Prop := ∀ k, PT p q c g k → W'.heap[k]? = W.heap[k]?
theorem KpT.trans {p q c g : Nat} {A B C : World} (h : KpT p q c g A B) (k : KpT p q c g B C) : KpT p q c g A C := fun i hi => (k i hi).trans (h i hi)
theorem KpT.refl (p q c g : Nat) (A : World) : KpT p q c g A A := fun _ _ => rfl
def Pls (w : World) (f p q c g o k : Nat) (i : Int) (L : List Nat) : Prop :=
  w.cell? ⟨f, 0, none⟩ = some (.int .i64 (nh L)) ∧ w.cell? ⟨p, 0, none⟩ = some (.int .i64 i) ∧ (L ≠ [] → ∃ cv, w.cell? ⟨q, 0, none⟩ = some (.pointer (some ⟨c, 0, none⟩)) ∧ w.cell? ⟨c, 2, none⟩ = some (.slice (some ⟨g, o, none⟩) k cv)) ∧ Lnk w g o k i L
theorem cell_kpt {p q c g : Nat} {W W' : World} (h : KpT p q c g W W') {b o : Nat} (hb : PT p q c g b) : W'.cell? ⟨b, o, none⟩ = W.cell? ⟨b, o, none⟩ := World.cell?_of_block (w := W) (h b hb)
theorem Chn.lnk {w : World} {B c mb : Nat} {r : Option Nat} {A : Option Addr} {n m : Nat} {z : List Int} {a : Nat} {g o : Nat} (hc : ∀ i, i < a → w.cell? ⟨g, o + i, none⟩ = some (.int .i64 (nh (nrs z i i)))) (hz : z.length ≤ 60000) {i : Int} (hi : i ≤ 60000 ∧ -1 ≤ i) : ∀ (L : List Nat) (b : Nat) (j : Int), b ≤ a → j ≤ i → L = nrs z b j → Lnk w g o a i L
  | [], _, _, _, _, _ => trivial
  | x :: s, b, j, hb, hj, h => by
    obtain ⟨h1, h2, h3, h4, h5⟩ := nrs_cons h.symm
    refine ⟨by omega, by omega, by omega, ?_, ?_, Chn.lnk (B := B) (c := c) (mb := mb) (r := r) (A := A) (n := n) (m := m) hc hz hi s x x (by omega) (by omega) h5⟩
    · rintro y t rfl
      have := nrs_cons h5.symm
      omega
    · rw [h5]
      exact hc x (by omega)
end Go.Proofs.YtmiimjgfainclaaGreat.Cur
namespace Go.Proofs.YtmiimjgfainclaaGreat.Cur
open Go.RowKit Go.Shelf Mem
attribute [local go_sem] Oper.semAt_some
set_option linter.unusedVariables false
set_option maxRecDepth 100000
def PlacesPost (U : Nat) (i : Int) (L : List Nat) (w : World) (e : Ending) (w' : World) : Prop :=
  ∃ c g o k, e = .returned (.func (.func 253) #[] #[.pointer (some ⟨w.heap.size + 2, 0, none⟩), .pointer (some ⟨w.heap.size + 1, 0, none⟩), .pointer (some ⟨w.heap.size, 0, none⟩)]) ∧ Below w.heap.size w w' ∧ w'.heap.size = w.heap.size + 3 ∧
    Pls w' (w.heap.size + 2) (w.heap.size + 1) w.heap.size c g o k i L ∧ k ≤ 100000 ∧ ((c < U ∧ g < U) ∨ (c = w.heap.size ∧ g = w.heap.size))
set_option maxHeartbeats 2000000 in
theorem places_any {w0 w : World} {B c mb : Nat} {r : Option Nat} {A : Option Addr} {n m : Nat} {z : List Int} {a : Nat} (i : Int) (h0 : Chn w0 B c mb r A n m z a) (hb : Below w0.heap.size w0 w) (hby : ∀ x ∈ z, 0 ≤ x ∧ x < 256) (hn : n ≤ 60000) :
    Calls Tryz.prog 241 #[.pointer (some ⟨c, 0, none⟩), .int .i64 i] w (PlacesPost w0.heap.size i (nrs z a i) w) := by
  have h := h0.below hb
  have hX := (Blk.new w #[.pointer (some ⟨c, 0, none⟩)] 237).alloc (.cells #[.int .i64 i] 3)
  have hY := Blk.new (w.alloc (.cells #[.pointer (some ⟨c, 0, none⟩)] 237)) #[.int .i64 i] 3
  rw [show (w.alloc (.cells #[.pointer (some ⟨c, 0, none⟩)] 237)).heap.size = w.heap.size + 1 by simp] at hY
  have h2 := below_two w (.cells #[.pointer (some ⟨c, 0, none⟩)] 237) (.cells #[.int .i64 i] 3)
  have hs2 : ((w.alloc (.cells #[.pointer (some ⟨c, 0, none⟩)] 237)).alloc (.cells #[.int .i64 i] 3)).heap.size = w.heap.size + 2 := by simp
  have hN := chnearest_any i (h.below h2) hby (by omega)
  unfold NearestPost at hN
  have x0 := hX.c1
  have y0 := hY.c1
  have hzl := h.bs.1.1
  have hla := h.le
  have HH := Lib.hid h0
  have HB := Lib.hid hb
  have HX := Lib.hid hX
  have HY := Lib.hid hY
  have H2 := Lib.hid h2
  have HS := Lib.hid hs2
  have HZL := Lib.hid hzl
  obtain ⟨L, hL⟩ : ∃ L, nrs z a i = L := ⟨_, rfl⟩
  rw [hL] at hN
  have HL := Lib.hid hL
  rw [hL]
  clear h h0 hb hX hY h2 hs2 hby hzl hL
  go_enter Tryz.func241, Tryz.ntmps241
  go_wp2_with fail
  refine hN.mono ?_
  rintro e w3 ⟨rfl, k1, rfl⟩
  clear hN
  generalize hW : (w.alloc (.cells #[.pointer (some ⟨c, 0, none⟩)] 237)).alloc (.cells #[.int .i64 i] 3) = W2 at *
  have hsz : (W2.drewN k1).heap.size = w.heap.size + 2 := by rw [← HS.out]; exact (show (W2.drewN k1).heap.size = W2.heap.size by simp)
  have HD := Lib.hid (below_drewN (Below.refl W2.heap.size W2) k1)
  generalize W2.drewN k1 = W3 at *
  have HSZ := Lib.hid hsz
  clear hsz hW x0 y0
  go_wp2
  go_ret
  have hd := HD.out
  have hd2 := H2.out.trans (hd.mono H2.out.size)
  have hA := below_one W3 (.cells #[.int .i64 (nh L)] 3)
  have hA2 := hd2.trans (hA.mono hd2.size)
  have hF := Blk.new W3 #[.int .i64 (nh L)] 3
  rw [HSZ.out] at hF
  have q1 := (HY.out.below hd).below hA
  have q2 := (HX.out.below hd).below hA
  have hsz3 : (W3.alloc (.cells #[.int .i64 (nh L)] 3)).heap.size = w.heap.size + 3 := by rw [World.size_alloc, HSZ.out]
  have hb0 := HB.out
  by_cases hne : L = []
  · subst hne
    exact ⟨w.heap.size, w.heap.size, 0, 0, by rw [HSZ.out]; rfl, hA2, hsz3, ⟨hF.c1, q1.c1, fun h => absurd rfl h, trivial⟩, by omega, .inr ⟨rfl, rfl⟩⟩
  · have hlt := HH.out.lt
    obtain ⟨Av, cv, c0, c1, c2, hc⟩ := HH.out.cells
    obtain ⟨p, s, hps⟩ : ∃ p s, L = p :: s := by cases L with
      | nil => exact absurd rfl hne
      | cons p s => exact ⟨p, s, rfl⟩
    have hcons := nrs_cons (show nrs z a i = p :: s by rw [HL.out, hps])
    obtain ⟨kk, hik, hkz⟩ := hk_pos hcons.2.2.2.1
    obtain ⟨g, o, hAv, hg0⟩ := hc p (by omega)
    have hcc : ∀ j, j < a → w0.cell? ⟨g, o + j, none⟩ = some (.int .i64 (nh (nrs z j j))) := fun j hj => by
      obtain ⟨g', o', e, h⟩ := hc j hj
      rw [hAv] at e
      injection e with e
      injection e with e1 e2
      subst e1 e2
      exact h
    have hgl : g < w0.heap.size := lt_of_cell (hcc p (by omega))
    have hln := Chn.lnk (B := B) (c := c) (mb := mb) (r := r) (A := A) (n := n) (m := m) hcc (by rw [HZL.out]; omega) (i := i) (by rw [HZL.out] at hkz; omega) L a i (Nat.le_refl _) (Int.le_refl _) HL.out.symm
    have hb3 := hb0.trans (hA2.mono hb0.size)
    exact ⟨c, g, o, a, by rw [HSZ.out]; rfl, hA2, hsz3, ⟨hF.c1, q1.c1, fun _ => ⟨cv, q2.c1, (hb3.cell (p := ⟨c, 2, none⟩) hlt).trans (by rw [c2, hAv])⟩, hln.keep (hb3.block g hgl)⟩, by omega, .inl ⟨hlt, hgl⟩⟩
abbrev nv' (l : List Nat) : List Value := l.map fun x : Nat => Value.int .i64 (x : Int)
def NrI (w w3 : World) (most : Int) (pre : List Nat) (W : World) : Prop :=
  ((∃ v, Boxed W (w.heap.size + 1) 250 v ∧ W.ownsRow w3.heap.size 3 1 v pre.length (nv' pre) ∧ (pre.length : Int) ≤ max most 0) ∧ Boxed W w.heap.size 3 (.int .i64 most)) ∧ Below w.heap.size w W ∧ w3.heap.size ≤ W.heap.size
theorem NrI.own (w w3 : World) (most : Int) (h : w.heap.size ≤ w3.heap.size) : OwnFrom w3.heap.size (NrI w w3 most) :=
  OwnFrom.and (OwnFrom.and (Own.from (holdsRow_own w3.heap.size (w.heap.size + 1) 250 3 1 (fun pre : List Nat => pre.length) (fun pre => nv' pre) (fun pre v => (pre.length : Int) ≤ max most 0)) _) (Own.from (boxed_own w.heap.size 3 (fun _ : List Nat => .int .i64 most)) _)) (OwnFrom.and (ownFrom_below (Nat.le_refl _) h) (fun s X Y row hs hg hr => Nat.le_trans hs hg.size))
def NrX (w w3 : World) (most : Int) (cd : Code) (pre : List Nat) (W : World) : Prop := (cd = .exit 0 ∧ pre ≠ [] ∧ most ≤ (pre.dropLast.length : Int)) ∧ NrI w w3 most pre.dropLast W
theorem NrX.own (w w3 : World) (most : Int) (cd : Code) (h : w.heap.size ≤ w3.heap.size) : OwnFrom w3.heap.size (NrX w w3 most cd) :=
  OwnFrom.and (ownFrom_pure _ _) (fun s X Y row hs hg hr => NrI.own w w3 most h s.dropLast X Y row hs hg hr)
end Go.Proofs.YtmiimjgfainclaaGreat.Cur
namespace Go.Proofs.YtmiimjgfainclaaGreat.Cur
open Go.RowKit Mem
set_option linter.unusedVariables false
set_option maxRecDepth 100000
def chfrs (z : List Int) (i : Int) (j : Nat) : List Nat := if hk z i = true then pls z (ky z i.toNat) j else []
theorem OwnG.none_ (w : World) (B : Nat) (l : List Int) (h : l = []) : OwnG w B (.slice none 0 0) l := by subst h; exact World.ownsRow_nil _ _ _ _
def fb (z : List Int) (i k : Nat) : Bool := decide (i + 4 ≤ z.length) && (chfrs z i k).isEmpty
end Go.Proofs.YtmiimjgfainclaaGreat.Cur
namespace Go.Proofs.YtmiimjgfainclaaGreat.Cur
open Go.RowKit Mem
set_option linter.unusedVariables false
set_option maxRecDepth 100000
end Go.Proofs.YtmiimjgfainclaaGreat.Cur
