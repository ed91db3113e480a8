/- Greedy compression: the tokens of a text, by the document: rows of tokens of which the last run grows. -/
import Derived.Test.YtmflnnfgkcmlhaaPreN
import Derived.Test.YtmflnnfgkcmlhaaPreB
namespace Go.Proofs.Ytmflnnfgkcmlhaa.Cur
open Go.RowKit Go.Shelf Mem
attribute [local go_sem] Oper.semAt_some
set_option linter.unusedVariables false
set_option maxRecDepth 100000


theorem TkV.snoc {w : World} {vs : List Value} {T : List Tk} {u : Value} {t : Tk} (h2 : TkV w vs T) (hu : Own w 0 u t.1) : TkV w (vs ++ [u, .int .i64 t.2.1, .int .i64 t.2.2]) (T ++ [t]) := by
  refine ⟨by rw [List.length_append, List.length_append, h2.1]; simp; omega, fun i hi => ?_⟩
  rw [List.length_append, List.length_singleton] at hi
  rcases Nat.lt_succ_iff_lt_or_eq.1 hi with h | rfl
  · obtain ⟨x, a0, a1, a2, ho⟩ := h2.2 i h
    have : (T ++ [t]).getD i tk0 = T.getD i tk0 := by rw [List.getD_eq_getElem?_getD, List.getElem?_append_left h, ← List.getD_eq_getElem?_getD]
    rw [this]
    have hl := h2.1
    exact ⟨x, by rw [List.getElem?_append_left (by omega)]; exact a0, by rw [List.getElem?_append_left (by omega)]; exact a1, by rw [List.getElem?_append_left (by omega)]; exact a2, ho⟩
  · have : (T ++ [t]).getD T.length tk0 = t := by rw [List.getD_eq_getElem?_getD, List.getElem?_append_right (Nat.le_refl _)]; simp
    rw [this]
    have hl := h2.1
    refine ⟨u, ?_, ?_, ?_, hu⟩
    · rw [List.getElem?_append_right (by omega), hl, Nat.sub_self]; rfl
    · rw [List.getElem?_append_right (by omega), hl, Nat.add_sub_cancel_left]; rfl
    · rw [List.getElem?_append_right (by omega), hl, Nat.add_sub_cancel_left]; rfl
/-- The bytes of the tokens lie below block G. -/
def TkLo (vs : List Value) (L : List Tk) (G : Nat) : Prop := ∀ i, i < L.length → ∀ x g, vs[i * 3]? = some x → x.ownBlock = some g → g < G
theorem TkV.lo {w : World} {vs : List Value} {L : List Tk} (h : TkV w vs L) : TkLo vs L w.heap.size := fun i hi x g hx hg => by
  obtain ⟨v, a, _, _, ho⟩ := h.2 i hi
  rw [hx] at a
  injection a with a
  subst a
  exact (World.ownsRow.lt ho g hg).2
/-- Tokens L, and behind them a run of bytes y that may grow: no other token's bytes lie where its do. -/
def DP (w : World) (B : Nat) (v : Value) (L : List Tk) (y : List Int) : Prop :=
  ∃ vs u G, w.ownsRow B 33 3 v (L.length + 1) (vs ++ [u, .int .i64 0, .int .i64 0]) ∧ TkV w vs L ∧ TkLo vs L G ∧ Own w G u y ∧ B ≤ G ∧ G ≤ w.heap.size
theorem DP.tk {w : World} {B : Nat} {v : Value} {L : List Tk} {y : List Int} (h : DP w B v L y) : TkOwn w B v (L ++ [(y, 0, 0)]) := by
  obtain ⟨vs, u, G, h1, h2, h3, h4, h5⟩ := h
  exact ⟨_, by rw [List.length_append]; exact h1, TkV.snoc (t := (y, 0, 0)) h2 (h4.base fun g hg => Nat.zero_le g)⟩
theorem DP.below {w w' : World} {B : Nat} {v : Value} {L : List Tk} {y : List Int} (h : DP w B v L y) (hb : Below w.heap.size w w') : DP w' B v L y := by
  obtain ⟨vs, u, G, h1, h2, h3, h4, h5⟩ := h
  exact ⟨vs, u, G, own_below h1 hb, h2.keep fun v z ho => ho.below hb, h3, h4.below hb, h5.1, Nat.le_trans h5.2 hb.size⟩
theorem DP.new {w w' : World} {B X : Nat} {v v' u : Value} {T : List Tk} {vs : List Value} {y : List Int} (h1 : w.ownsRow B 33 3 v T.length vs) (h2 : TkV w vs T) (h3 : TkLo vs T X) (hu : Own w X u y) (hB : B ≤ X) (hX : X ≤ w.heap.size)
    (k1 : w'.ownsRow B 33 3 v' (T.length + 1) (vs ++ [u, .int .i64 0, .int .i64 0])) (k2 : w.grownBy w' v.ownBlock) : DP w' B v' T y := by
  have hko : ∀ D x z, Own w D x z → Own w' D x z := fun D x z ho => own_ks ho (Ks.of_grown (S := fun k => v.ownBlock = some k) k2 fun k e => e) fun g hg e => own_far_own h1 ho (by decide) e hg
  exact ⟨vs, u, X, k1, h2.keep fun v z ho => hko _ _ _ ho, h3, hko _ _ _ hu, hB, Nat.le_trans hX k2.size⟩
theorem own_some {w : World} {B e size n : Nat} {v : Value} {xs : List Value} (h : w.ownsRow B e size v (n + 1) xs) : ∃ g c, v = .slice (some ⟨g, 0, none⟩) (n + 1) c ∧ B ≤ g := by
  rcases h.2 with ⟨_, h0⟩ | ⟨g, cap, cur, e, hg, _⟩
  · omega
  · exact ⟨g, cap, e, hg⟩
theorem DP.step {w wA w1 : World} {B G g n c : Nat} {u u' : Value} {L : List Tk} {vs : List Value} {y y' : List Int} (h1 : w.ownsRow B 33 3 (.slice (some ⟨g, 0, none⟩) n c) (L.length + 1) (vs ++ [u, .int .i64 0, .int .i64 0])) (h2 : TkV w vs L) (h3 : TkLo vs L G)
    (h4 : Own w G u y) (hB : B ≤ G) (hG : G ≤ w.heap.size) (hb : Below w.heap.size w wA) (ho : Own w1 G u' y') (hg : wA.grownBy w1 u.ownBlock) : DP (w1.setCell ⟨g, L.length * 3, none⟩ u') B (.slice (some ⟨g, 0, none⟩) n c) L y' := by
  have hn : n = L.length + 1 := (own_rw h1 rfl).1
  subst hn
  have hge := own_ge h4
  have hA1 := own_below h1 hb
  have hA4 := own_below h4 hb
  have hgu : u.ownBlock ≠ some g := own_far_own hA1 hA4 (by decide) rfl
  have hR1 : w1.ownsRow B 33 3 (.slice (some ⟨g, 0, none⟩) (L.length + 1) c) (L.length + 1) (vs ++ [u, .int .i64 0, .int .i64 0]) := own_ks hA1 (Ks.of_grown (S := fun k => u.ownBlock = some k) hg fun k e => e) fun k hk e => hgu (by
    have : g = k := by simpa [Value.ownBlock] using hk
    rw [this]; exact e)
  have hR2 := (World.ownsRow.stored hR1 (L.length * 3) u').1
  rw [show (vs ++ [u, Value.int .i64 0, Value.int .i64 0]).set (L.length * 3) u' = vs ++ [u', .int .i64 0, .int .i64 0] by
    rw [List.set_append_right _ _ (by rw [h2.1]; exact Nat.le_refl _), h2.1, Nat.sub_self]; rfl] at hR2
  have hgu' : u'.ownBlock ≠ some g := own_far_own hR1 ho (by decide) rfl
  refine ⟨vs, u', G, hR2, ⟨h2.1, fun i hi => ?_⟩, h3, own_block ho (fun k hk => Below.heap_setCell w1 _ _ k (fun e => hgu' (by rw [hk, e]))), hB, ?_⟩
  rotate_left
  · have := hb.size
    have := hg.size
    simp [World.setCell]
    omega
  obtain ⟨x, a0, a1, a2, hx⟩ := h2.2 i hi
  refine ⟨x, a0, a1, a2, ?_⟩
  have hxA := own_below hx hb
  have hxg : x.ownBlock ≠ some g := own_far_own hA1 hxA (by decide) rfl
  have hx1 := own_ks hxA (Ks.of_grown (S := fun k => u.ownBlock = some k) hg fun k e => e) fun k hk e => by
    have k1 := h3 i hi x k a0 hk
    have k2 := hge k e
    omega
  exact own_block hx1 fun k hk => Below.heap_setCell w1 _ _ k (fun e => hxg (by rw [hk, e]))
theorem DP.free {w wA w1 : World} {B G g n c : Nat} {u : Value} {L : List Tk} {xs : List Value} {y : List Int} (h1 : w.ownsRow B 33 3 (.slice (some ⟨g, 0, none⟩) n c) (L.length + 1) xs) (h4 : Own w G u y) (hb : Below w.heap.size w wA) (hg : wA.grownBy w1 u.ownBlock) (j : Nat) : w1.frozen? ⟨g, j, none⟩ = false := by
  have hn : n = L.length + 1 := (own_rw h1 rfl).1
  subst hn
  have hA1 := own_below h1 hb
  have hA4 := own_below h4 hb
  have hgu : u.ownBlock ≠ some g := own_far_own hA1 hA4 (by decide) rfl
  exact World.ownsRow.frozenAt (own_ks hA1 (Ks.of_grown (S := fun k => u.ownBlock = some k) hg fun k e => e) fun k hk e => hgu (by
    have : g = k := by simpa [Value.ownBlock] using hk
    rw [this]; exact e)) j
/-- Where no run stands at the end, the last token is a copy. -/
theorem gth_last {z : List Int} {a c : Nat} {pr : Bool} {L : List Tk} (h : Gth z a pr L c false) (hL : L ≠ []) : (L.getD (L.length - 1) tk0).2.1 ≠ 0 := by
  obtain ⟨X, t, rfl⟩ : ∃ X t, L = X ++ [t] := ⟨L.dropLast, L.getLast hL, (List.dropLast_concat_getLast hL).symm⟩
  obtain ⟨b, pb, _, h2⟩ := gth_snoc.1 h
  rw [show (X ++ [t]).getD ((X ++ [t]).length - 1) tk0 = t by rw [List.length_append, List.length_singleton, Nat.add_sub_cancel, List.getD_eq_getElem?_getD, List.getElem?_append_right (Nat.le_refl _)]; simp]
  rcases h2 with ⟨_, e, _⟩ | ⟨_, _, h0, rfl, _⟩
  · cases e
  · obtain ⟨p, l, e1, _, h3, _⟩ := best_good h0
    show bo z b ≠ 0
    omega
theorem piece_succ {z : List Int} {b a : Nat} (hb : b ≤ a) (ha : a < z.length) : piece z b (a + 1) = piece z b a ++ [z.getD a 0] := by
  rw [← piece_add hb (Nat.le_succ a)]
  congr 1
  unfold piece
  rw [show a.succ - a = 1 by omega, List.drop_eq_getElem_cons ha, List.getD_eq_getElem?_getD, List.getElem?_eq_getElem ha]
  rfl

theorem addr0 (g j : Nat) : (⟨g, 0, none⟩ : Addr).add j = ⟨g, j, none⟩ := by
  unfold Addr.add
  by_cases h : j = 0 <;> simp [h]
/-- What holds whenever the next place is looked at. -/
def DJ (z : List Int) (n : Nat) (w : World) (gk : Nat) (v u : Value) (wr : World) : Prop :=
  ∃ (a b : Nat) (L : List Tk), u = .int .i64 (a : Int) ∧ gk = n + 1 - a ∧ Hid (Gpd z a L b) ∧ L.length ≤ a ∧ Below w.heap.size w wr ∧ ((b = a ∧ TkOwn wr w.heap.size v L) ∨ (b < a ∧ DP wr w.heap.size v L (piece z b a)))
theorem dj_row {wr : World} {B a b : Nat} {v : Value} {L : List Tk} {z : List Int} {O l : Int} {c : Nat} (h : (b = a ∧ TkOwn wr B v L) ∨ (b < a ∧ DP wr B v L (piece z b a))) (hla : L.length ≤ a) (haz : a ≤ z.length) (hG : Hid (Gpd z c (L ++ rn1 (piece z b a) ++ [([], O, l)]) c)) :
    ∃ T2, TkOwn wr B v T2 ∧ T2.length ≤ a + 1 ∧ Hid (Gpd z c (T2 ++ [([], O, l)]) c) := by
  have hl : (piece z b a).length = a - b := length_piece rfl haz
  refine ⟨L ++ rn1 (piece z b a), ?_, by have := rn1_len (piece z b a); rw [List.length_append]; omega, hG⟩
  unfold rn1
  rcases h with ⟨h1, h2⟩ | ⟨h1, h2⟩
  · rw [if_pos (List.eq_nil_of_length_eq_zero (by omega)), List.append_nil]
    exact h2
  · rw [if_neg (by intro e; rw [e] at hl; simp at hl; omega)]
    exact h2.tk
theorem dj_row2 {wr : World} {B a b : Nat} {v : Value} {L : List Tk} {z : List Int} {Q : List Tk → Prop} (h : (b = a ∧ TkOwn wr B v L) ∨ (b < a ∧ DP wr B v L (piece z b a))) (hla : L.length ≤ a) (haz : a ≤ z.length) (hG : Hid (Q (L ++ rn1 (piece z b a)))) :
    ∃ T2, TkOwn wr B v T2 ∧ T2.length ≤ a + 1 ∧ Hid (Q T2) := by
  have hl : (piece z b a).length = a - b := length_piece rfl haz
  refine ⟨L ++ rn1 (piece z b a), ?_, by have := rn1_len (piece z b a); rw [List.length_append]; omega, hG⟩
  unfold rn1
  rcases h with ⟨h1, h2⟩ | ⟨h1, h2⟩
  · rw [if_pos (List.eq_nil_of_length_eq_zero (by omega)), List.append_nil]
    exact h2
  · rw [if_neg (by intro e; rw [e] at hl; simp at hl; omega)]
    exact h2.tk
def RTokPost (z : List Int) (w : World) (e : Ending) (w' : World) : Prop :=
  ∃ v L p, e = .returned v ∧ TkOwn w' w.heap.size v L ∧ Gth z 0 false L z.length p ∧ Below w.heap.size w w'
set_option maxHeartbeats 8000000 in
theorem rtokens15_any {w : World} {A : Option Addr} {n m : Nat} {z : List Int} (hz : Bs w A n z) (hby : ∀ x ∈ z, 0 ≤ x ∧ x < 256) (hm : n ≤ m) (hn : n ≤ 60000) : Calls Try.prog 12 #[.slice A n m] w (RTokPost z w) := by
  have hzl := hz.1
  have HZ := Lib.hid hz
  have HBY := Lib.hid hby
  clear hz hby
  go_enter Try.func12, Try.ntmps12
  go_wp2
  go_loopg [3, 4] (n + 1) (fun gk v u wr => DJ z n w gk v u wr)
  case atStart => exact ⟨0, 0, [], rfl, by omega, Lib.hid (Gpd.start z), by simp, Below.refl _ _, .inl ⟨rfl, TkOwn.nil _ _⟩⟩
  case round =>
    obtain ⟨a, b, L, rfl, hgk, HG, hla, hbd, hst⟩ := hrel
    have hba := HG.out.2.1
    have haz := HG.out.2.2.1
    have HBD := Lib.hid hbd
    have hsz := hbd.size
    clear hbd
    by_cases hlt : a < n
    · have hR := rbest_any (m := m) a (HZ.out.below HBD.out) HBY.out hm hn hlt
      unfold RBestPost at hR
      by_cases h0 : bn z a = 0
      · rw [h0] at hR
        have HGL := Lib.hid (HG.out.lit (by omega) h0)
        generalize bo z a = O at hR
        clear h0
        rcases hst with ⟨hb, hT⟩ | ⟨hb, hD⟩
        · have h3 : b < a + 1 := by omega
          have HPS : Hid (piece z b (a + 1) = [z.getD a 0]) := Lib.hid (by
            rw [piece_succ hba (by omega), hb]
            unfold piece
            rw [Nat.sub_self, List.take_zero, List.nil_append])
          by_cases hL : L = []
          · subst hL
            obtain ⟨Av, cv, rfl⟩ := hT.slice
            go_wp2_with fail
            with_reducible refine hR.mono ?_
            rintro e w2 ⟨rfl, q, rfl⟩
            have hb2 : Below wr.heap.size wr (wr.drewN q) := below_drewN (Below.refl _ _) q
            have hBD := HBD.out.trans (hb2.mono hsz)
            obtain ⟨vs, hown, hTV⟩ := hT.below hb2
            have hs2 := hBD.size
            clear hT hb2 hR
            generalize wr.drewN q = W at *
            have hZW := HZ.out.below hBD
            obtain ⟨gb, ob, rfl, cb⟩ := hZW.at_ hlt
            generalize z.getD a 0 = x at HPS cb
            have HK1 : Hid (([] : List Tk).length = 0) := Lib.hid rfl
            have hb1 := below_one W (.cells #[.int .u8 x] 5)
            have hu1 : Own (W.alloc (.cells #[.int .u8 x] 5)) W.heap.size (.slice (some ⟨W.heap.size, 0, none⟩) 1 1) [x] := own_of_row (z := [x]) (Blk.new W #[.int .u8 x] 5) (Nat.le_refl _) (by simp)
            have hb2 := below_one (W.alloc (.cells #[.int .u8 x] 5)) (.cells #[.slice (some ⟨W.heap.size, 0, none⟩) 1 1, .int .i64 0, .int .i64 0] 33)
            have hrwA := rw_new (W.alloc (.cells #[.int .u8 x] 5)) [.slice (some ⟨W.heap.size, 0, none⟩) 1 1, .int .i64 0, .int .i64 0] 33
            rw [World.size_alloc] at hrwA
            have hbA := hb1.trans (hb2.mono hb1.size)
            have huA := hu1.below hb2
            have hownA := own_below hown hbA
            have hTVA := hTV.keep (fun v z ho => Own.below (B := 0) ho hbA)
            have hlo := hTV.lo
            have hBA := hBD.trans (hbA.mono hs2)
            have hB9 := hBA.size
            have hX9 := hbA.size
            have HS2 := Lib.hid (fun v' w' (k1 : World.ownsRow w' w.heap.size 33 3 v' (0 + 1) (vs ++ [.slice (some ⟨W.heap.size, 0, none⟩) 1 1, .int .i64 0, .int .i64 0])) k2 => DP.new (T := []) (w' := w') (v' := v') (by rw [HK1.out]; exact hownA) hTVA hlo huA hs2 hX9 (by rw [HK1.out]; exact k1) k2)
            have HGE := Lib.hid (own_ge hownA)
            have HBA := Lib.hid hBA
            have HLEN : Hid (0 + 1 ≤ 1000000) := Lib.hid (by omega)
            clear hb1 hu1 hb2 hbA huA hTVA hlo hBA hown hTV hBD hZW
            go_wp2_with (at_builtin; go_must (refine list_append_rw kindK rfl (.tmp 57) (.tmp 64) rfl w.heap.size _ _ _ rfl hownA _ 1 _ [.slice (some ⟨W.heap.size, 0, none⟩) 1 1, .int .i64 0, .int .i64 0] rfl rfl hrwA (by simp) (by simp [Value.oneCell']) HLEN.out (by omega) hB9 ?_; intro v' w10 ho' hg' hgr; have hN := Lib.hid (HS2.out _ _ ho' hg'); have hBN := Lib.hid (HBA.out.grown hg' hB9 HGE.out); clear ho' hg' hgr hownA HS2 hrwA hX9))
            go_roundg (n + 1 - (a + 1))
            case measure => omega
            case rel => exact ⟨a + 1, b, [], by congr 1, rfl, HGL, by omega, hBN.out, .inr ⟨h3, by rw [HPS.out]; exact hN.out⟩⟩
          · have hof := gth_last (HG.out.1) hL
            obtain ⟨k, hk⟩ : ∃ k, L.length = k + 1 := ⟨L.length - 1, by have := List.length_pos_iff.2 hL; omega⟩
            rw [hk, Nat.add_sub_cancel] at hof
            obtain ⟨vs, hown, hTV⟩ := hT
            rw [hk] at hown
            obtain ⟨g, cv, rfl, hgB⟩ := own_some hown
            have hk6 : k ≤ 60000 := by omega
            obtain ⟨x0, _, hx1, _⟩ := hTV.2 k (by omega)
            have k1 := World.ownsRow.cells hown (g := g) rfl (k * 3 + 1) _ hx1
            rw [addr0] at k1
            have hob : ((L.getD k tk0).2.1 == 0) = false := by rw [beq_eq_false_iff_ne]; exact hof
            generalize (L.getD k tk0).2.1 = off at *
            have HK1 := Lib.hid hk
            clear hx1 hof hk
            go_wp2_with fail
            with_reducible refine hR.mono ?_
            rintro e w2 ⟨rfl, q, rfl⟩
            have hb2 : Below wr.heap.size wr (wr.drewN q) := below_drewN (Below.refl _ _) q
            have hBD := HBD.out.trans (hb2.mono hsz)
            replace hown := own_below hown hb2
            replace hTV := hTV.keep (fun v z ho => Own.below (B := 0) ho hb2)
            replace k1 := (hb2.cell (lt_of_cell k1)).trans k1
            have hs2 := hBD.size
            clear hb2 hR
            generalize wr.drewN q = W at *
            have hZW := HZ.out.below hBD
            obtain ⟨gb, ob, rfl, cb⟩ := hZW.at_ hlt
            generalize z.getD a 0 = x at HPS cb
            have hb1 := below_one W (.cells #[.int .u8 x] 5)
            have hu1 : Own (W.alloc (.cells #[.int .u8 x] 5)) W.heap.size (.slice (some ⟨W.heap.size, 0, none⟩) 1 1) [x] := own_of_row (z := [x]) (Blk.new W #[.int .u8 x] 5) (Nat.le_refl _) (by simp)
            have hb2 := below_one (W.alloc (.cells #[.int .u8 x] 5)) (.cells #[.slice (some ⟨W.heap.size, 0, none⟩) 1 1, .int .i64 0, .int .i64 0] 33)
            have hrwA := rw_new (W.alloc (.cells #[.int .u8 x] 5)) [.slice (some ⟨W.heap.size, 0, none⟩) 1 1, .int .i64 0, .int .i64 0] 33
            rw [World.size_alloc] at hrwA
            have hbA := hb1.trans (hb2.mono hb1.size)
            have huA := hu1.below hb2
            have hownA := own_below hown hbA
            have hTVA := hTV.keep (fun v z ho => Own.below (B := 0) ho hbA)
            have hlo := hTV.lo
            have hBA := hBD.trans (hbA.mono hs2)
            have hB9 := hBA.size
            have hX9 := hbA.size
            have HS2 := Lib.hid (fun v' w' (k1 : World.ownsRow w' w.heap.size 33 3 v' ((k + 1) + 1) (vs ++ [.slice (some ⟨W.heap.size, 0, none⟩) 1 1, .int .i64 0, .int .i64 0])) k2 => DP.new (T := L) (w' := w') (v' := v') (by rw [HK1.out]; exact hownA) hTVA hlo huA hs2 hX9 (by rw [HK1.out]; exact k1) k2)
            have HGE := Lib.hid (own_ge hownA)
            have HBA := Lib.hid hBA
            have HLEN : Hid ((k + 1) + 1 ≤ 1000000) := Lib.hid (by omega)
            clear hb1 hu1 hb2 hbA huA hTVA hlo hBA hown hTV hBD hZW
            go_wp2_with (at_builtin; go_must (refine list_append_rw kindK rfl (.tmp 57) (.tmp 64) rfl w.heap.size _ _ _ rfl hownA _ 1 _ [.slice (some ⟨W.heap.size, 0, none⟩) 1 1, .int .i64 0, .int .i64 0] rfl rfl hrwA (by simp) (by simp [Value.oneCell']) HLEN.out (by omega) hB9 ?_; intro v' w10 ho' hg' hgr; have hN := Lib.hid (HS2.out _ _ ho' hg'); have hBN := Lib.hid (HBA.out.grown hg' hB9 HGE.out); clear ho' hg' hgr hownA HS2 hrwA hX9))
            go_roundg (n + 1 - (a + 1))
            case measure => omega
            case rel => exact ⟨a + 1, b, L, by congr 1, rfl, HGL, by omega, hBN.out, .inr ⟨h3, by rw [HPS.out]; exact hN.out⟩⟩
        · obtain ⟨vs, u, G, hrow, hTV, hlo, hu, hBG, hGW⟩ := hD
          obtain ⟨g, c, rfl, hgB⟩ := own_some hrow
          go_wp2_with fail
          with_reducible refine hR.mono ?_
          rintro e w2 ⟨rfl, q, rfl⟩
          have hb2 : Below wr.heap.size wr (wr.drewN q) := below_drewN (Below.refl _ _) q
          have hBD := HBD.out.trans (hb2.mono hsz)
          have hrow2 := own_below hrow hb2
          have hu2 := hu.below hb2
          have hTV2 := hTV.keep (fun v z ho => Own.below (B := 0) ho hb2)
          have hs2 := hBD.size
          have hWr := hb2.size
          clear hrow hu hTV hb2 hR
          generalize wr.drewN q = W at *
          have hZW := HZ.out.below hBD
          obtain ⟨Au, cu, rfl⟩ := hu2.slice
          have k0 := World.ownsRow.cells hrow2 (g := g) rfl (L.length * 3) (.slice Au (piece z b a).length cu) (by rw [← hTV2.1, List.getElem?_append_right (Nat.le_refl _), Nat.sub_self]; rfl)
          have k1 := World.ownsRow.cells hrow2 (g := g) rfl (L.length * 3 + 1) (.int .i64 0) (by rw [← hTV2.1, List.getElem?_append_right (by omega), Nat.add_sub_cancel_left]; rfl)
          rw [addr0] at k0 k1
          obtain ⟨gb, ob, rfl, cb⟩ := hZW.at_ hlt
          have hyl : (piece z b a).length ≤ 60000 := by rw [length_piece rfl haz]; omega
          have HPS := Lib.hid (piece_succ (z := z) (b := b) (a := a) hba (by omega))
          have h3 : b < a + 1 := by omega
          generalize piece z b a = y at *
          generalize z.getD a 0 = x at *
          have hgu : (Value.slice Au y.length cu).ownBlock ≠ some g := own_far_own hrow2 hu2 (by decide) rfl
          have hgl := (World.ownsRow.lt hrow2 g rfl).2
          have hbl := lt_of_cell cb
          have hbu : (Value.slice Au y.length cu).ownBlock ≠ some gb := fun e => by
            have h1 := (World.ownsRow.lt hu2 gb e).1
            have h2 := HZ.out.lt (by omega) _ rfl
            have h2 : gb < w.heap.size := h2
            omega
          have HROW := Lib.hid hrow2
          have HU := Lib.hid hu2
          have HTV := Lib.hid hTV2
          have HBD2 := Lib.hid hBD
          have hS : W.drew.cell? ⟨g, L.length * 3, none⟩ = some (.slice Au y.length cu) ∧ W.drew.cell? ⟨gb, ob + a, none⟩ = some (.int .u8 x) := ⟨k0, cb⟩
          have L1 : ∀ w' : World, (w'.cell? ⟨g, L.length * 3, none⟩ = some (.slice Au y.length cu) ∧ w'.cell? ⟨gb, ob + a, none⟩ = some (.int .u8 x)) → w'.cell? ⟨g, L.length * 3, none⟩ = some (.slice Au y.length cu) ∧ w'.cell? ⟨gb, ob + a, none⟩ = some (.int .u8 x) := fun w' h => h
          clear hrow2 hu2 hTV2 hBD hZW
          go_wp2
          clear k0 k1 cb
          have b5 : (L.length : Int) < (L.length : Int) + 1 := by omega
          have b6 : (a : Int) < (n : Int) := by omega
          refine Seq.wp_region_last (fun w' => w'.cell? ⟨g, L.length * 3, none⟩ = some (.slice Au y.length cu) ∧ w'.cell? ⟨gb, ob + a, none⟩ = some (.int .u8 x)) (by kernel_rfl) (by kernel_rfl) (by kernel_rfl) hS ?_
          repeat (first | (refine Seq.SeqE.skip (by rfl) ?_; (try simp only [Act.put, List.setIfInBounds_toArray, List.set_cons_zero, List.set_cons_succ])) | (refine Seq.SeqE.det ?_ (by rfl) (fun w hS => ?_) ?_; rotate_left; ((try dsimp only at hS); go_simp; (try rw [if_pos (by omega)]); with_reducible rfl); (try simp only [Act.put, List.setIfInBounds_toArray, List.set_cons_zero, List.set_cons_succ])))
          refine Seq.SeqE.make (by rfl) (by rfl) (fun K Q' hK => ?_)
          go_simp
          have hA1 : Below W.heap.size W (W.alloc (.cells #[.int .u8 x] 5)).drew := (below_one' W).alloc (Nat.le_refl _) (.cells #[.int .u8 x] 5)
          have hbs : Bs (W.alloc (.cells #[.int .u8 x] 5)).drew (some ⟨W.heap.size, 0, none⟩) 1 [x] := bs_new W.drew [x] 5
          have hSA : (W.alloc (.cells #[.int .u8 x] 5)).drew.cell? ⟨g, L.length * 3, none⟩ = some (.slice Au y.length cu) ∧ (W.alloc (.cells #[.int .u8 x] 5)).drew.cell? ⟨gb, ob + a, none⟩ = some (.int .u8 x) := ⟨(hA1.cell hgl).trans hS.1, (hA1.cell hbl).trans hS.2⟩
          refine hK.out _ _ (hSA) ?_
          clear hK K
          try simp only [Act.put, List.setIfInBounds_toArray, List.set_cons_zero, List.set_cons_succ]
          generalize (W.alloc (.cells #[.int .u8 x] 5)).drew = wA at *
          have huA := HU.out.below hA1
          have hGA : G ≤ wA.heap.size := by have := hA1.size; omega
          have HA1 := Lib.hid hA1
          have HGU := Lib.hid hgu
          have HBU := Lib.hid hbu
          have HGE := Lib.hid (own_ge huA)
          clear hA1 hS hgu hbu
          refine Seq.SeqE.make (by rfl) (by rfl) (fun K Q' hK => ?_)
          refine oper_append_gr (.tmp 48) (.tmp 53) rfl G _ _ rfl huA _ _ _ _ rfl hbs (by simp) (by omega) hGA ?_
          intro u' w2 ho' hg' hgr
          have hgA := lt_of_cell hSA.1
          have hbA := lt_of_cell hSA.2
          have hSB : w2.cell? ⟨g, L.length * 3, none⟩ = some (.slice Au y.length cu) ∧ w2.cell? ⟨gb, ob + a, none⟩ = some (.int .u8 x) :=
            ⟨(World.cell?_of_block (hg'.block g hgA (fun e => HGU.out e.symm))).trans hSA.1, (World.cell?_of_block (hg'.block gb hbA (fun e => HBU.out e.symm))).trans hSA.2⟩
          have hfz := DP.free HROW.out HU.out HA1.out hg' (L.length * 3)
          have hstep := DP.step HROW.out HTV.out hlo HU.out hBG (by omega) HA1.out ho' hg'
          have hBD3 := ((HBD2.out.trans (HA1.out.mono hs2)).grown hg' (by omega) (fun k hk => by have := HGE.out k hk; omega)).setCell (p := ⟨g, L.length * 3, none⟩) hgB u'
          obtain ⟨Au', cu', rfl⟩ := ho'.slice
          obtain ⟨y', hy'⟩ : ∃ y', y' = y ++ [x] := ⟨_, rfl⟩
          rw [← hy'] at hstep hBD3 HPS ⊢
          have HST := Lib.hid (And.intro hstep hBD3)
          clear hy' hstep hBD3 ho' hg' hgr huA hbs hSA
          refine hK.out _ _ (hSB) ?_
          clear hK K
          try simp only [Act.put, List.setIfInBounds_toArray, List.set_cons_zero, List.set_cons_succ]
          repeat (first | (refine Seq.SeqE.skip (by rfl) ?_; (try simp only [Act.put, List.setIfInBounds_toArray, List.set_cons_zero, List.set_cons_succ])) | (refine Seq.SeqE.det ?_ (by rfl) (fun w hS => ?_) ?_; rotate_left; ((try dsimp only at hS); go_simp; (try rw [if_pos (by omega)]); with_reducible rfl); (try simp only [Act.put, List.setIfInBounds_toArray, List.set_cons_zero, List.set_cons_succ])))
          have c2 := hSB.1
          refine Seq.SeqE.last (by rfl) (by rfl) (fun K Q' hK => ?_)
          go_simp
          refine hK.out _ _ ?_
          clear hK K
          try simp only [Act.put, List.setIfInBounds_toArray, List.set_cons_zero, List.set_cons_succ]
          clear c2 hSB L1 hfz
          go_wp2
          go_roundg (n + 1 - (a + 1))
          case measure => omega
          case rel => exact ⟨a + 1, b, L, by congr 1, rfl, HGL, by omega, HST.out.2, .inr ⟨h3, by rw [HPS.out]; exact HST.out.1⟩⟩
      · obtain ⟨p, l, e1, e2, h3, h4, h5, h6, h7, h8⟩ := best_good h0
        have HGC := Lib.hid (HG.out.copy (by omega) h0)
        rw [e1, e2, ← gfin_rn hba haz] at HGC
        rw [e1, e2] at hR
        obtain ⟨O, hO⟩ : ∃ O : Int, O = (a : Int) - p := ⟨_, rfl⟩
        rw [← hO] at hR HGC
        have ew : IntKind.i64.wrap ((a : Int) + l) = (a : Int) + l := IntWalk.i64_in _ (by omega)
        have hgt : (0 : Int) < (l : Int) := by omega
        clear e1 e2 h0 h7 h8 hO
        obtain ⟨T2, hT, hl2, HG2⟩ := dj_row hst hla haz HGC
        clear HGC hst
        obtain ⟨Av, cv, rfl⟩ := hT.slice
        go_wp2_with fail
        with_reducible refine hR.mono ?_
        rintro e w2 ⟨rfl, q, rfl⟩
        have hb2 : Below wr.heap.size wr (wr.drewN q) := below_drewN (Below.refl _ _) q
        have hBD := HBD.out.trans (hb2.mono hsz)
        have hTW := hT.below hb2
        have hs2 := hBD.size
        clear hT hb2 hR
        generalize wr.drewN q = W at *
        have hbA := below_one W (.cells #[.slice none 0 0, .int .i64 O, .int .i64 (l : Int)] 33)
        have hTA := hTW.below hbA
        have hBA := hBD.trans (hbA.mono hs2)
        have hrwA := rw_new W [.slice none 0 0, .int .i64 O, .int .i64 (l : Int)] 33
        have hB9 := hBA.size
        have HLEN : Hid (T2.length + 1 ≤ 1000000) := Lib.hid (by omega)
        obtain ⟨vs, hown, hTV⟩ := hTA
        have HS2 := Lib.hid (fun v' w' k1 k2 => TkOwn.snoc (w' := w') (v' := v') (t := ([], O, (l : Int))) hown hTV (Own.nil _ _) k1 k2)
        have HGE := Lib.hid (own_ge hown)
        have HBA := Lib.hid hBA
        clear hTW hbA hBA hBD hTV
        go_wp2_with (at_builtin; go_must (refine list_append_rw kindK rfl (.tmp 20) (.tmp 24) rfl w.heap.size _ _ _ rfl hown _ 1 _ [.slice none 0 0, .int .i64 O, .int .i64 (l : Int)] rfl rfl hrwA (by simp) (by simp [Value.oneCell']) HLEN.out (by omega) hB9 ?_; intro v' w10 ho' hg' hgr; have hN := Lib.hid (HS2.out _ _ ho' hg'); have hBN := Lib.hid (HBA.out.grown hg' hB9 HGE.out); clear ho' hg' hgr hown HS2 hrwA))
        go_roundg (n + 1 - (a + l))
        case measure => omega
        case rel => exact ⟨a + l, a + l, T2 ++ [([], O, (l : Int))], by congr 1, rfl, HG2, by rw [List.length_append, List.length_singleton]; omega, hBN.out, .inl ⟨rfl, hN.out⟩⟩
    · obtain rfl : a = n := by omega
      have HFI := Lib.hid HG.out.fin
      rw [← gfin_rn hba haz] at HFI
      obtain ⟨T2, hT, _, HG2⟩ := dj_row2 (Q := fun T => ∃ p, Gth z 0 false T a p ∧ (b < a ∨ p = false)) hst hla haz HFI
      have HZN : Hid (a = z.length) := Lib.hid hzl.symm
      obtain ⟨Av, cv, rfl⟩ := hT.slice
      have HT := Lib.hid hT
      clear hT hst HFI
      go_wp2
      go_ret
      obtain ⟨p, hp, _⟩ := HG2.out
      refine ⟨_, T2, p, rfl, HT.out, ?_, HBD.out⟩
      rw [← HZN.out]
      exact hp
end Go.Proofs.Ytmflnnfgkcmlhaa.Cur
