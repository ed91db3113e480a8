/- Greedy compression: the tokens of a text, by the program. -/
import Derived.Test.YtmflnnfgkcmlhaaPreA
namespace Go.Proofs.Ytmflnnfgkcmlhaa.Cur
open Go.RowKit Go.Shelf Mem
attribute [local go_sem] Oper.semAt_some
set_option linter.unusedVariables false
set_option maxRecDepth 100000

theorem Bs.off {w : World} {A : Option Addr} {n b t : Nat} {z : List Int} {cs : Array Value} (h : Bs w A n z) (hr : Blk w b cs t) (hcs : ∀ (i : Nat) (v : Value), cs[i]? = some v → ∀ x : Int, v ≠ Value.int .u8 x) : 0 < n → ∀ a, A = some a → a.block ≠ b := by
  intro hn
  obtain ⟨g, o, rfl, hc⟩ := h.2 hn
  rintro a ha rfl
  injection ha with ha
  subst ha
  have h0 := hc 0 _ (List.getElem?_eq_getElem (by have := h.1; omega))
  unfold Blk at hr
  have hl := h.1
  have h1 : cs[o + 0]? = some (.int .u8 (z[0]'(by omega))) := by simpa [World.cell?, hr] using h0
  exact hcs _ _ h1 _ rfl
theorem blk1_off {v : Value} (hv : ∀ x : Int, v ≠ Value.int .u8 x) : ∀ (i : Nat) (u : Value), (#[v] : Array Value)[i]? = some u → ∀ x : Int, u ≠ Value.int .u8 x
  | 0, u, h => by obtain rfl : v = u := by simpa using h
                  exact hv
  | i + 1, u, h => by simp at h
theorem blk3_off {a b c : Value} (ha : ∀ x : Int, a ≠ Value.int .u8 x) (hb : ∀ x : Int, b ≠ Value.int .u8 x) (hc : ∀ x : Int, c ≠ Value.int .u8 x) : ∀ (i : Nat) (u : Value), (#[a, b, c] : Array Value)[i]? = some u → ∀ x : Int, u ≠ Value.int .u8 x
  | 0, u, h => by obtain rfl : a = u := by simpa using h
                  exact ha
  | 1, u, h => by obtain rfl : b = u := by simpa using h
                  exact hb
  | 2, u, h => by obtain rfl : c = u := by simpa using h
                  exact hc
  | i + 3, u, h => by simp at h

theorem gfin_rn {z : List Int} {a b : Nat} {L : List Tk} (hb : b ≤ a) (ha : a ≤ z.length) : L ++ rn1 (piece z b a) = Gfin z a L b := by
  have hl : (piece z b a).length = a - b := length_piece rfl ha
  unfold Gfin rn1
  by_cases h : b < a
  · rw [if_pos h, if_neg (by intro e; rw [e] at hl; simp at hl; omega)]
  · rw [if_neg h, if_pos (List.eq_nil_of_length_eq_zero (by omega)), List.append_nil]
theorem bof_bo {z : List Int} (hz : z.length ≤ 65536) (a : Int) : bof z a (nrs z z.length a) = bo z a ∧ bnf z a (nrs z z.length a) = bn z a := by
  unfold bof bnf bo bn bm
  rw [bst_nrs hz]
  exact ⟨rfl, rfl⟩

theorem toolong_any {w : World} (A : Option Addr) (n m : Nat) (hn : n ≤ 60000) : Calls Try.prog 32 #[.slice A n m] w fun e w' => e = .returned (.bool false) ∧ w = w' := by
  have hd : decide (1048576 < (n : Int)) = false := decide_eq_false (by omega)
  go_enter Try.func32, Try.ntmps32
  go_wp2
  go_ret
  exact ⟨rfl, rfl⟩

/-- What holds whenever the next place is looked at. -/
def PJ (z : List Int) (A A' : Option Addr) (n m m' bb s c : Nat) (w4 : World) (gk : Nat) (u : Value) (wr : World) : Prop :=
  ∃ (a b tr : Nat) (v : Value) (L : List Tk), u = .int .i64 (a : Int) ∧ gk = n + 1 - a ∧ Hid (Gpd z a L b) ∧ tr ≤ 60000 * a ∧ TkOwn wr w4.heap.size v L ∧ Blk wr (bb + 1) #[v] 24 ∧ Blk wr (bb + 1 + 1) #[.int .i64 (b : Int)] 3 ∧
    Blk wr s #[.slice A' n m', .pointer (some ⟨c, 0, none⟩), .int .i64 (tr : Nat)] 84 ∧ Ks (fun k => k = bb + 1 ∨ k = bb + 1 + 1 ∨ k = s ∨ w4.heap.size ≤ k) w4 wr
def PTokPost (z : List Int) (w : World) (e : Ending) (w' : World) : Prop :=
  ∃ v L p, e = .returned (.tuple #[v, .int .i64 0]) ∧ TkOwn w' w.heap.size v L ∧ Gth z 0 false L z.length p ∧ Below w.heap.size w w'
set_option maxHeartbeats 8000000 in
theorem ptokens_any {w : World} {A : Option Addr} {n m : Nat} {z : List Int} (hz : Bs w A n z) (hby : ∀ x ∈ z, 0 ≤ x ∧ x < 256) (hm : n ≤ m) (hn : n ≤ 60000) : Calls Try.prog 9 #[.slice A n m] w (PTokPost z w) := by
  have hzl := hz.1
  have hN := fun (w3 : World) (h : Below w.heap.size w w3) => sknew_two (m := m) (hz.below h) hby hn
  have HZ := Lib.hid hz
  have HBY := Lib.hid hby
  clear hz hby
  go_enter Try.func9, Try.ntmps9
  go_wp2_with fail
  refine (toolong_any (w := _) A n m hn).mono ?_
  rintro e w0 ⟨rfl, rfl⟩
  have hb3 := below_three w (.cells #[.slice A n m] 22) (.cells #[.slice none 0 0] 24) (.cells #[.int .i64 0] 3)
  have hN3 := hN _ hb3
  clear hN
  go_wp2_with fail
  refine hN3.mono ?_
  rintro e w4 ⟨s, A', m', Bc, c, mb, r, A2, m2, rfl, hs, hbs, hm', hc, hss, hBc, hb4⟩
  obtain ⟨hX, hL, hF, hbd⟩ := three_new hb4
  have hHS := hbd.size
  have hsl := hs.lt
  have hbl := hbd.size
  have HHC := Lib.hid hc
  have HHB := Lib.hid hbs
  have HHX := Lib.hid hX
  have HBD := Lib.hid hbd
  have hszL : w.heap.size + 2 < w4.heap.size := hF.lt
  have hs3 : w.heap.size + 3 ≤ s := by simpa using hss
  have hBc3 : w.heap.size + 3 ≤ Bc := by simpa using hBc
  have HHL := Lib.hid hL
  have HHF := Lib.hid hF
  have HHS := Lib.hid hs
  clear hN3 hb3 hb4 hss hBc hc hbs hX hbd
  go_wp2
  go_loopg [8] (n + 1) (fun gk u wr => PJ z A A' n m m' w.heap.size s c w4 gk u wr)
  case atStart => exact ⟨0, 0, 0, _, [], rfl, by omega, Lib.hid (Gpd.start z), by omega, TkOwn.nil _ _, hL, hF, hs, Ks.refl _ _⟩
  case round =>
    clear hL hF hs
    obtain ⟨a, b, tr, v, L, rfl, hgk, HG, htr, hT, hL, hF, hs, hK⟩ := hrel
    have hba := HG.out.2.1
    have hla : L.length ≤ a := by have := gth_le HG.out.1; omega
    have haz := HG.out.2.2.1
    have hX4 : Blk wr w.heap.size #[.slice A n m] 22 := HHX.out.ks hK (by omega)
    have hC4 : Chn wr Bc c mb r A2 n m2 z n := HHC.out.ks hK fun k hk => by
      rcases hk with rfl | rfl | rfl | hk
      · exact HHC.out.far (by omega)
      · exact HHC.out.far (by omega)
      · exact HHC.out.ne_blk HHS.out (by decide) (by decide) (by decide)
      · have h1 := chn_lts HHC.out
        exact ⟨fun e => by have := h1.1 k e; omega, fun e => by have := h1.2 k e; omega⟩
    have hB4 : Bs wr A' n z := HHB.out.ks hK fun hn0 ad ha => by
      have k1 := HHB.out.off HHL.out (blk1_off (by intro x e; cases e)) hn0 ad ha
      have k2 := HHB.out.off HHF.out (blk1_off (by intro x e; cases e)) hn0 ad ha
      have k3 := HHB.out.off HHS.out (blk3_off (by intro x e; cases e) (by intro x e; cases e) (by intro x e; cases e)) hn0 ad ha
      have k4 := HHB.out.lt hn0 ad ha
      omega
    have hZ4 : Bs wr A n z := (HZ.out.below HBD.out).ks hK fun hn0 ad ha => by
      have k4 := HZ.out.lt hn0 ad ha
      omega
    have hD4 : w4.heap.size ≤ wr.heap.size := hK.size
    by_cases hlt : a < n
    · have hS := skbest_kp (a : Int) hs hB4 hm' hC4 HBY.out hn (by omega) (by omega)
      unfold SkBestPost at hS
      have hbb := bof_bo (z := z) (by omega) (a : Int)
      rw [hzl] at hbb
      rw [hbb.1, hbb.2] at hS
      clear hbb
      have HT := Lib.hid hT
      have HL := Lib.hid hL
      have HF := Lib.hid hF
      have cX := hX4.c1
      have HX4 := Lib.hid hX4
      have HZ4 := Lib.hid hZ4
      have HK := Lib.hid hK
      have HS := Lib.hid hs
      clear hT hL hF hX4 hZ4 hK hs hB4 hC4
      by_cases h0 : bn z a = 0
      · rw [h0] at hS
        have HGL := Lib.hid (HG.out.lit (by omega) h0)
        generalize bo z a = O at hS
        clear h0
        go_wp2_with fail
        with_reducible refine hS.mono ?_
        rintro e w5 ⟨rfl, t, ht, hs5, hk5⟩
        have hF5 := blk_kp HF.out hk5 (by omega)
        have cF := hF5.c1
        have HS5 := Lib.hid hs5
        have HK5 := Lib.hid hk5
        clear hS hs5 hk5
        go_wp2
        go_roundg (n + 1 - (a + 1))
        case measure => omega
        case rel => exact ⟨a + 1, b, tr + t, v, L, by congr 1; omega, rfl, HGL, by omega, HT.out.kp_blk HS.out (by decide) (.inl (by decide)) HK5.out, blk_kp HL.out HK5.out (by omega), hF5, HS5.out, HK.out.trans (Ks.of_kp HK5.out (.inr (.inr (.inl rfl))))⟩
      · obtain ⟨p, l, e1, e2, h3, h4, h5, h6, h7, h8⟩ := best_good h0
        have HGC := Lib.hid (HG.out.copy (by omega) h0)
        rw [e1, e2, ← gfin_rn hba haz] at HGC
        rw [e1, e2] at hS
        have ew : IntKind.i64.wrap ((a : Int) + l) = (a : Int) + l := IntWalk.i64_in _ (by omega)
        have hgt : (0 : Int) < (l : Int) := by omega
        obtain ⟨O, hO⟩ : ∃ O : Int, O = (a : Int) - p := ⟨_, rfl⟩
        rw [← hO] at hS HGC
        clear e1 e2 h0 h7 h8 hO
        go_wp2_with fail
        with_reducible refine hS.mono ?_
        rintro e w5 ⟨rfl, t, ht, hs5, hk5⟩
        have hF5 := blk_kp HF.out hk5 (by omega)
        have hL5 := blk_kp HL.out hk5 (by omega)
        have hX5 := blk_kp HX4.out hk5 (by omega)
        have hT5 := HT.out.kp_blk HS.out (by decide) (.inl (by decide)) hk5
        have hZ5 : Bs w5 A n z := HZ4.out.ks (Ks.of_kp (S := fun k => k = s) hk5 rfl) fun hn0 ad ha => by
          have := HZ.out.lt hn0 ad ha
          omega
        have hK5 := HK.out.trans (Ks.of_kp hk5 (.inr (.inr (.inl rfl))))
        have hD5 : w4.heap.size ≤ w5.heap.size := hK5.size
        have hCo := pcollect_any ((a : Int) + l) hL5 hX5 hF5 hT5 hZ5 hm hn hba (by omega) (by omega) hD5 (by omega) (by omega) (by omega) (by omega) (by omega) (by omega)
        have HGE := Lib.hid hT5.ge
        have cX5 := hX5.c1
        have HK5 := Lib.hid hK5
        have HS5 := Lib.hid hs5
        clear hS hk5 hF5 hL5 hX5 hT5 hZ5 hK5 hs5
        go_wp2_with fail
        with_reducible refine hCo.mono ?_
        rintro e w6 ⟨rfl, v6, hT6, hL6, hX6, hF6, hk6, hgr6⟩
        have hge6 := hT6.ge
        have hK6 := HK5.out.trans' hk6 (fun k _ h => by
          rcases h with h | h | h
          · exact .inl h
          · exact .inr (.inl h)
          · exact .inr (.inr (.inr (HGE.out k h))))
        have hs6 := HS5.out.ks hk6 (by
          rintro (h | h | h)
          · omega
          · omega
          · have := HGE.out s h; omega)
        obtain ⟨T2, hT2⟩ : ∃ T2, T2 = L ++ rn1 (piece z b a) := ⟨_, rfl⟩
        rw [← hT2] at hT6 HGC
        have hl2 : T2.length ≤ a + 1 := by have := rn1_len (piece z b a); rw [hT2, List.length_append]; omega
        clear hT2 hCo hk6 hgr6
        have hbA := below_one w6 (.cells #[.slice none 0 0, .int .i64 O, .int .i64 (l : Int)] 33)
        have hLA := hL6.below hbA
        have hFA := hF6.below hbA
        have hsA := hs6.below hbA
        have hKA := hK6.trans (Ks.of_below hbA)
        have hrwA := rw_new w6 [.slice none 0 0, .int .i64 O, .int .i64 (l : Int)] 33
        have hD6 : w4.heap.size ≤ (w6.alloc (.cells #[.slice none 0 0, .int .i64 O, .int .i64 (l : Int)] 33)).heap.size := hKA.size
        have HLEN : Hid (T2.length + 1 ≤ 1000000) := Lib.hid (by omega)
        have hTA := hT6.below hbA
        have cL6 := hL6.c1
        obtain ⟨Av6, cv6, rfl⟩ := hT6.slice
        obtain ⟨vs, hown, hTV⟩ := hTA
        have HS2 := Lib.hid (fun v' w' k1 k2 => TkOwn.snoc (w' := w') (v' := v') (t := ([], O, (l : Int))) hown hTV (Own.nil _ _) k1 k2)
        have HKA := Lib.hid hKA
        have HGE6 := Lib.hid hge6
        obtain ⟨T3, hT3⟩ : ∃ T3, T3 = T2 ++ [(([] : List Int), O, (l : Int))] := ⟨_, rfl⟩
        rw [← hT3] at HS2 HGC
        have HL3 : Hid (T3.length = T2.length + 1) := Lib.hid (by rw [hT3, List.length_append]; rfl)
        clear hT3 hX6 hL6 hF6 hs6 hK6 hT6 hbA hKA hge6
        go_wp2_with (at_builtin; go_must (refine list_append_rw kindK rfl (.tmp 38) (.tmp 42) rfl w4.heap.size _ _ _ rfl hown _ 1 _ [.slice none 0 0, .int .i64 O, .int .i64 (l : Int)] rfl rfl hrwA (by simp) (by simp [Value.oneCell']) HLEN.out (by omega) hD6 ?_; intro v' w10 ho' hg' hgr; have hKS := Ks.of_grown (S := fun k => w4.heap.size ≤ k) hg' HGE6.out; have hL10 := hLA.ks hKS (by omega); have hF10 := hFA.ks hKS (by omega); have hs10 := hsA.ks hKS (by omega); have hK10 := HKA.out.trans' hKS (fun k _ h => .inr (.inr (.inr h))); have hT10 := HS2.out _ _ ho' hg'; obtain ⟨A8, c8, rfl⟩ := hT10.slice; have c10 := hL10.c1; have f10 := hL10.free 0; have d10 := hF10.c1; have HK10 := Lib.hid hK10; have HT10 := Lib.hid hT10; have HL10 := Lib.hid hL10; have HF10 := Lib.hid hF10; have HS10 := Lib.hid hs10; clear ho' hg' hgr hown hLA hFA hsA hTV HS2 hrwA hKS hK10 hT10 hL10 hF10 hs10))
        go_roundg (n + 1 - (a + l))
        case measure => omega
        case rel =>
          refine ⟨a + l, a + l, tr + t, .slice A8 T3.length c8, T3, ?_, rfl, HGC, by omega, ?_, ?_, ?_, ?_, ?_⟩
          · congr 1
            omega
          · exact HT10.out.kp_blk HL10.out (by decide) (.inl (by decide)) (Kp.setCell w10 (w.heap.size + 1) 0 (.slice A8 T3.length c8))
          · exact HL10.out.set 0 _
          · exact blk_kp HF10.out (Kp.setCell _ _ 0 _) (by omega)
          · exact blk_kp HS10.out (Kp.setCell _ _ 0 _) (by omega)
          · exact HK10.out.trans (Ks.setCell _ _ _ _ (.inl rfl))
    · obtain rfl : a = n := by omega
      have hCo := pcollect_any (a : Int) hL hX4 hF hT hZ4 hm hn hba (by omega) (by omega) hD4 (by omega) (by omega) (by omega) (by omega) (by omega) (by omega)
      have cX := hX4.c1
      have hfin := HG.out.fin
      rw [← gfin_rn hba haz] at hfin
      have HFI := Lib.hid hfin
      have HGE := Lib.hid hT.ge
      have HK := Lib.hid hK
      clear hL hX4 hF hT hZ4 hs hC4 hB4 hK hfin
      go_wp2_with fail
      with_reducible refine hCo.mono ?_
      rintro e w6 ⟨rfl, v6, hT6, hL6, hX6, hF6, hk6, hgr6⟩
      have hK6 := HK.out.trans' hk6 (fun k _ h => by
        rcases h with h | h | h
        · exact .inl h
        · exact .inr (.inl h)
        · exact .inr (.inr (.inr (HGE.out k h))))
      obtain ⟨T2, hT2⟩ : ∃ T2, T2 = L ++ rn1 (piece z b a) := ⟨_, rfl⟩
      rw [← hT2] at hT6 HFI
      have c6 := hL6.c1
      obtain ⟨A6, n6, rfl⟩ := hT6.slice
      have HT6 := Lib.hid hT6
      have HK6 := Lib.hid hK6
      have HZN : Hid (a = z.length) := Lib.hid hzl.symm
      clear hCo hT2 hT6 hL6 hX6 hF6 hk6 hgr6 hK6 HGE
      go_wp2
      go_ret2
      obtain ⟨p, hp, _⟩ := HFI.out
      refine ⟨_, T2, p, rfl, HT6.out.base (fun g hg => by have := HT6.out.ge g hg; omega), ?_, Ks.below HBD.out (Nat.le_refl _) HK6.out (by rintro k (h | h | h | h) <;> omega)⟩
      rw [← HZN.out]
      exact hp
end Go.Proofs.Ytmflnnfgkcmlhaa.Cur
