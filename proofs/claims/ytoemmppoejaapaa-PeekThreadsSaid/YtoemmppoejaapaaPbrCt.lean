/- As the seat's text, without what nothing here names. -/
import Derived.Test.YtoemmppoejaapaaPbrBt
import Derived.Test.YtoemmppoejaapaaLnkQt
import Derived.Test.YtoemmppoejaapaaBtcBt
import Derived.BigQuiet
import Derived.Carry
namespace Go.Proofs.Ytoemmppoejaapaa.Cur
open Go.RowKit Mem
set_option linter.unusedVariables false
set_option maxRecDepth 100000
def lriseb (L : List Lk) : Nat → Bool
  | 0 => true
  | k + 1 => lriseb L k && (decide (k = 0) || decide ((L.getD (k - 1) lk0).1 < (L.getD k lk0).1))
theorem lriseb_iff (L : List Lk) : ∀ k, lriseb L k = true ↔ lrise L k
  | 0 => ⟨fun _ => trivial, fun _ => rfl⟩
  | k + 1 => by
    show (lriseb L k && (decide (k = 0) || decide ((L.getD (k - 1) lk0).1 < (L.getD k lk0).1))) = true ↔ lrise L k ∧ (k = 0 ∨ (L.getD (k - 1) lk0).1 < (L.getD k lk0).1)
    rw [Bool.and_eq_true, lriseb_iff L k, Bool.or_eq_true, decide_eq_true_iff, decide_eq_true_iff]
theorem lriseb_next (L : List Lk) {k : Nat} (h : 1 ≤ k) : lriseb L (k + 1) = (lriseb L k && decide ((L.getD (k - 1) lk0).1 < (L.getD k lk0).1)) := by
  show (lriseb L k && (decide (k = 0) || decide ((L.getD (k - 1) lk0).1 < (L.getD k lk0).1))) = _
  rw [decide_eq_false (by omega), Bool.false_or]
def RThPost (e b : Int) (L : List En) (Lt : List Lk) (w : World) (en : Ending) (w' : World) : Prop :=
  Below w.heap.size w w' ∧ ((¬ thok e b L Lt ∧ en = .returned (.tuple #[btagg 0 0 none 0 0, .slice none 0 0, .int .i64 3])) ∨
    (thok e b L Lt ∧ ∃ A2 m2 At nt mt, en = .returned (.tuple #[btagg e b A2 L.length m2, .slice At nt mt, .int .i64 0]) ∧ Ens w' (fun _ => True) A2 L.length (thEn b L (fl Lt)) ∧ Lks w' (fun _ => True) At nt (tes b (lksOf L) Lt L.length)))
def RtI (w : World) (e b : Int) (n m2 O gO : Nat) (cur : Array Value) (gk : Nat → Nat) (L : List En) (Lt : List Lk) (k i : Nat) (At : Option Addr) (nt : Nat) (wr : World) : Prop :=
  Blk wr (w.heap.size + 1) (btenc 0 0 none 0 0) 25 ∧ Blk wr O (btenc e b (some ⟨gO, 0, none⟩) n m2) 25 ∧ OutR (w.heap.size + 1) wr gO n cur gk (pen b L (fl Lt) k i) ∧ Lks wr (fun b => b ≠ w.heap.size + 1) At nt (tls (b + k) ((lksOf L).getD k []) (tes b (lksOf L) Lt k) i) ∧
  (∀ a, At = some a → 0 < nt → ∀ j, j < n → 0 < (L.getD j en0).1.length → a.block ≠ gk j) ∧ Below w.heap.size w wr
theorem RtI.next {w : World} {e b : Int} {n m2 O gO : Nat} {cur : Array Value} {gk : Nat → Nat} {L : List En} {Lt : List Lk} {k : Nat} {At : Option Addr} {nt : Nat} {wr : World} (hk : k < L.length) (h : RtI w e b n m2 O gO cur gk L Lt k (L.getD k en0).1.length At nt wr) : RtI w e b n m2 O gO cur gk L Lt (k + 1) 0 At nt wr := by
  obtain ⟨h1, h2, h3, h4, h5⟩ := h
  rw [pen_next b L (fl Lt) hk] at h3
  refine ⟨h1, h2, h3, ?_, h5⟩
  show Lks wr (fun b => b ≠ w.heap.size + 1) At nt (tls (b + k) ((lksOf L).getD k []) (tes b (lksOf L) Lt k) ((lksOf L).getD k []).length)
  rw [lksOf_at] at h4 ⊢
  exact h4
theorem fl_found {L : List Lk} {s : Int} (h : 0 ≤ fnl L s) : fl L s = some (L.getD (fnl L s).toNat lk0).2 := by rw [fl_fnl, if_pos h]
theorem fl_lost {L : List Lk} {s : Int} (h : ¬ 0 ≤ fnl L s) : fl L s = none := by rw [fl_fnl, if_neg h]
def RtS (wr w' : World) : Prop := Below wr.heap.size wr w'
set_option maxHeartbeats 8000000 in
theorem rthread_any (e b : Int) (A : Option Addr) (n m : Nat) (L : List En) (At : Option Addr) (nt mt : Nat) (Lt : List Lk) (w : World) (hz : Ens w (fun b => b < w.heap.size) A n L) (hn : n ≤ 30) (hs : esm L) (e0 : 0 ≤ e) (b0 : 0 ≤ b) (b9 : b < 18446744073709551616)
    (ht : Lks w (fun b => b < w.heap.size) At nt Lt) (hnt : nt ≤ 50) (hbt : blen 50 Lt) :
    Calls Try.prog 17 #[btagg e b A n m, .slice At nt mt] w (RThPost e b L Lt w) := by
  have hX := (Blk.new w (btenc e b A n m) 25).alloc (.cells (btenc 0 0 none 0 0) 25)
  have hY := Blk.new (w.alloc (.cells (btenc e b A n m) 25)) (btenc 0 0 none 0 0) 25
  rw [World.size_alloc] at hY
  have hb := below_two w (.cells (btenc e b A n m) 25) (.cells (btenc 0 0 none 0 0) 25)
  have hsz : ((w.alloc (.cells (btenc e b A n m) 25)).alloc (.cells (btenc 0 0 none 0 0) 25)).heap.size = w.heap.size + 2 := by simp
  have hba := rbare_any (w.heap.size + 1) e b A n m L _ ((hz.below hb).mono (fun x hx _ => by have h9 : x < w.heap.size := hx; show x ≠ w.heap.size + 1; omega)) hn hs
  unfold RbaPost at hba
  rw [hsz] at hba
  have HLN := Lib.hid hz.1
  have HSM := Lib.hid hs
  have HBT := Lib.hid hbt
  have HTW := Lib.hid ht
  have HL50 : Hid (Lt.length ≤ 50) := Lib.hid (by rw [ht.1]; exact hnt)
  have HBD := Lib.hid hb
  have HY := Lib.hid hY
  have HLB : Hid (∀ x ∈ L, lbd x.1) := Lib.hid (fun x hx => (hz.bds x hx).1)
  obtain ⟨x0, x1, x2⟩ := hX.c3
  have hs9 : esm (bareEn L) := fun k => by
    rw [bareEn_at]
    refine ⟨by rw [bareL_len]; exact (hs k).1, fun s hm => ?_, (hs k).2.2⟩
    unfold bareL at hm
    obtain ⟨y, _, rfl⟩ := List.mem_map.1 hm
    exact Nat.zero_le _
  have HS9 := Lib.hid hs9
  have hs8 : esm (thEn b L (fl Lt)) := thEn_esm (fl_len hbt) hs
  have HS8 := Lib.hid hs8
  have HNL : Hid (∀ k i, (nwl (b + (k : Nat)) (L.getD k en0).1 (TE b (lksOf L) (fl Lt) k) i).2.length ≤ 1000000) := Lib.hid (fun k i => by
    have := TT_len (p := b + k) (l := (L.getD k en0).1) (TE_len (b := b) (Ls := lksOf L) (fl_len hbt) k) i ((L.getD k en0).1.getD i lk0).1
    show ((TT (b + k) (L.getD k en0).1 (TE b (lksOf L) (fl Lt) k) i ((L.getD k en0).1.getD i lk0).1).getD []).length ≤ 1000000
    omega)
  clear hz hs ht hbt hb hX hY hs9 hs8
  go_enter Try.func17, Try.ntmps17
  go_wp2_with fail
  generalize (w.alloc (.cells (btenc e b A n m) 25)).alloc (.cells (btenc 0 0 none 0 0) 25) = w0 at *
  refine hba.mono ?_
  rintro en w1 ⟨hb1, hcase⟩
  rw [← hsz] at hb1
  have HB1 := Lib.hid (HBD.out.trans (hb1.mono HBD.out.size))
  have hY1 := HY.out.below hb1
  have hw1 : w.heap.size + 2 ≤ w1.heap.size := by have := hb1.size; omega
  clear hba x0 x1 x2 hb1 hsz
  obtain ⟨A2, m2, rfl, hE1, hpos⟩ : ∃ A2 m2, en = .returned (btagg e b A2 n m2) ∧ Ens w1 (fun b => b ≠ w.heap.size + 1) A2 n (bareEn L) ∧ (0 < n → ∃ g cur gk, A2 = some ⟨g, 0, none⟩ ∧ w.heap.size + 2 ≤ g ∧ OutR (w.heap.size + 1) w1 g n cur gk (bareEn L) ∧ ∀ j, j < n → 0 < (L.getD j en0).1.length → w.heap.size + 2 ≤ gk j) := by
    rcases hcase with ⟨h0, A2, m2, rfl⟩ | ⟨h0, g, cap, cur, gk, rfl, h1, h2, h3, h4⟩
    · subst h0
      refine ⟨A2, m2, rfl, ?_, fun h => absurd h (by omega)⟩
      have hnil : bareEn L = [] := List.eq_nil_of_length_eq_zero (by rw [bareEn_len, HLN.out])
      rw [hnil]
      exact ⟨rfl, Sq.nil _ _ _ _⟩
    · exact ⟨_, _, rfl, h3.ens (by omega) (fun j hj hl => by rw [bareEn_at] at hl; dsimp only at hl; rw [bareL_len] at hl; have := h4 j hj hl; omega), fun _ => ⟨g, cur, gk, rfl, h2, h3, h4⟩⟩
  clear hcase
  have hO2 := Blk.new w1 (btenc e b A2 n m2) 25
  have hbO := below_one w1 (.cells (btenc e b A2 n m2) 25)
  have hr := rbright_any _ e b A2 n m2 (bareEn L) _ (hE1.below hbO) (by omega) HS9.out e0 b0 b9
  unfold BPost at hr
  have hY2 := hY1.below hbO
  have hB2 := HB1.out.trans (hbO.mono HB1.out.size)
  obtain ⟨x0, x1, x2⟩ := hO2.c3
  have hszO : w1.heap.size < (w1.alloc (.cells (btenc e b A2 n m2) 25)).heap.size := by simp
  have HP0 := Lib.hid hpos
  have HP : Hid (0 < n → ∃ g cur gk, A2 = some ⟨g, 0, none⟩ ∧ w.heap.size + 2 ≤ g ∧ OutR (w.heap.size + 1) (w1.alloc (.cells (btenc e b A2 n m2) 25)) g n cur gk (bareEn L) ∧ ∀ j, j < n → 0 < (L.getD j en0).1.length → w.heap.size + 2 ≤ gk j ∧ gk j < w1.heap.size) := Lib.hid (fun h0 => by
    obtain ⟨g, cur, gk, p1, p2, p3, p4⟩ := HP0.out h0
    refine ⟨g, cur, gk, p1, p2, p3.below hbO, fun j hj h1 => ⟨p4 j hj h1, ?_⟩⟩
    obtain ⟨_, _, _, _, q⟩ := p3.at_ hj
    rw [bareEn_at] at q
    dsimp only at q
    rw [bareL_len] at q
    exact (q h1).2.1.lt)
  have HO2 := Lib.hid hO2
  have HY2 := Lib.hid hY2
  have HB2 := Lib.hid hB2
  obtain ⟨O, hOO⟩ : ∃ O, O = w1.heap.size := ⟨_, rfl⟩
  clear hpos hE1 hY1 hY2 hB2 hbO HB1 hO2 HP0
  go_wp2_with fail
  generalize w1.alloc (.cells (btenc e b A2 n m2) 25) = w2 at *
  refine hr.mono ?_
  rintro en w3 ⟨rfl, hb3⟩
  have HO3 := Lib.hid (HO2.out.below hb3)
  have HY3 := Lib.hid (HY2.out.below hb3)
  have HB3 := Lib.hid (HB2.out.trans (hb3.mono HB2.out.size))
  have HP3 : Hid (0 < n → ∃ g cur gk, A2 = some ⟨g, 0, none⟩ ∧ w.heap.size + 2 ≤ g ∧ OutR (w.heap.size + 1) w3 g n cur gk (bareEn L) ∧ ∀ j, j < n → 0 < (L.getD j en0).1.length → w.heap.size + 2 ≤ gk j ∧ gk j < w1.heap.size) := Lib.hid (fun h0 => by
    obtain ⟨g, cur, gk, p1, p2, p3, p4⟩ := HP.out h0
    exact ⟨g, cur, gk, p1, p2, p3.below hb3, p4⟩)
  rw [← hOO] at HO3 HP3 ⊢
  have hO9 : w.heap.size + 2 ≤ O := by omega
  obtain ⟨rb, hrb⟩ : ∃ rb, rb = btk (e, b, bareEn L) := ⟨_, rfl⟩
  rw [← hrb]
  have HRB := Lib.hid hrb
  clear hr x0 x1 x2 hb3 hszO HO2 HY2 HB2 HP hrb hOO hw1
  clear HY HBD
  have H0 : Hid ((rb && lriseb Lt 1) = rb) := Lib.hid (by show (rb && true) = rb; simp)
  go_wp2
  go_loopw [8, 9] (fun v i wr => Hid (Below w3.heap.size w3 wr) ∧ ∃ k : Nat, 1 ≤ k ∧ (k ≤ nt ∨ k = 1) ∧ i = .int .i64 k ∧ v = .bool (rb && lriseb Lt k)) (fun _ i _ => nt + 1 - (intOf i).toNat)
  case atStart => exact ⟨Lib.hid (Below.refl _ _), 1, by omega, by omega, rfl, by rw [H0.out]⟩
  case round =>
    clear H0
    obtain ⟨hwr, k, hk1, hk2, rfl, rfl⟩ := hrel
    have HBr := Lib.hid (HB3.out.trans (hwr.out.mono HB3.out.size))
    by_cases hlt : k < nt
    · obtain ⟨g, o, rfl, _, _, hc⟩ := (HTW.out.below HBr.out).cells (by omega)
      obtain ⟨x, z, a, l, mm, q1, _, _, _, _, _, _, _, _, q10⟩ := hc k hlt
      obtain ⟨x', z', a', l', mm', q1', _, _, _, _, _, _, _, _, q10'⟩ := hc (k - 1) (by omega)
      have c0 := (q10 _ (Below.refl _ _)).1
      have c1 := (q10' _ (Below.refl _ _)).1
      have ek : (k : Int) < nt := by omega
      have e3 : IntKind.i64.wrap ((k : Int) + 1) = ((k + 1 : Nat) : Int) := IntWalk.i64_in _ (by omega)
      have e4 : IntKind.i64.wrap ((k : Int) - 1) = ((k - 1 : Nat) : Int) := by rw [IntWalk.i64_in _ (by omega)]; omega
      have hk0 : k - 1 < nt := by omega
      have HNX : Hid (lriseb Lt (k + 1) = (lriseb Lt k && decide (x' < x))) := Lib.hid (by rw [lriseb_next Lt hk1, q1, q1'])
      clear hc q1 q1' q10 q10'
      cases hcb : (rb && lriseb Lt k)
      · have HNF : Hid ((rb && lriseb Lt (k + 1)) = false) := Lib.hid (by rw [HNX.out, ← Bool.and_assoc, hcb]; rfl)
        clear hcb c0 c1
        go_wp2
        go_quiet (fail)
        go_wp2
        go_roundw
        case rel => exact ⟨Lib.hid (Below.trans hwr.out (below_drewN (Below.refl _ _) _)), k + 1, by omega, by omega, by go_num, by rw [HNF.out]⟩
        case measure => simp [intOf]; omega
      · have HNF : Hid ((rb && lriseb Lt (k + 1)) = decide (x' < x)) := Lib.hid (by rw [HNX.out, ← Bool.and_assoc, hcb]; rfl)
        obtain ⟨K1, hK1⟩ : ∃ K1, K1 = k - 1 := ⟨_, rfl⟩
        rw [← hK1] at c1 e4 hk0
        clear hcb hK1
        go_wp2
        go_quiet (fail)
        go_wp2
        go_roundw
        case rel => exact ⟨Lib.hid (Below.trans hwr.out (below_drewN (Below.refl _ _) _)), k + 1, by omega, by omega, by go_num, by rw [HNF.out]⟩
        case measure => simp [intOf]; omega
    · have ek : ¬ (k : Int) < nt := by omega
      have hrl : lriseb Lt k = true ↔ lrise Lt Lt.length := by
        rw [lriseb_iff, HTW.out.1]
        constructor
        · exact fun h => lrise_le h (by omega)
        · intro h
          rcases hk2 with h2 | h2
          · have e : k = nt := by omega
            rw [e]; exact h
          · subst h2
            exact ⟨trivial, .inl rfl⟩
      cases hcb : (rb && lriseb Lt k)
      · have HNO : Hid (¬ thok e b L Lt) := Lib.hid (fun h => by
          have h1 := btk_th_bare h.2
          rw [← HRB.out] at h1
          rw [h1, hrl.2 h.1] at hcb
          cases hcb)
        have HBB := HBr
        have hY9 := HY3.out.below hwr.out
        clear hrl hcb
        obtain ⟨y0, y1, y2⟩ := hY9.c3
        obtain ⟨k0, k1, k2⟩ := blk_f3 hY9
        have HYY := Lib.hid hY9
        clear hY9
        go_wp2
        obtain ⟨hY8, hk8⟩ := set3 HYY.out (.int .u64 0) (.int .u64 0) (.slice none 0 0)
        obtain ⟨d0, d1, d2⟩ := hY8.c3
        have hfin := Kp.below HBB.out (Nat.le_refl _) hk8 (by omega)
        exact bodyPost_ret (v := .tuple #[btagg 0 0 none 0 0, .slice none 0 0, .int .i64 3]) (by simp [results, Try.results17, go_sem, d0, d1, d2]) rfl ⟨hfin, .inl ⟨HNO.out, rfl⟩⟩
      · rw [Bool.and_eq_true] at hcb
        obtain ⟨hcb1, hcb2⟩ := hcb
        have HRI := Lib.hid (hrl.1 hcb2)
        have hbk : btk (e, b, bareEn L) = true := by rw [← HRB.out]; exact hcb1
        have hn1 : 0 < n := by
          have h := hbk
          unfold btk at h
          simp only [Bool.and_eq_true] at h
          have h1 := (of_decide_eq_true h.1.1.2).1
          have h2 : (bareEn L).length = n := by rw [bareEn_len, HLN.out]
          have h3 : 1 ≤ ((bareEn L).length : Int) := h1
          omega
        have HFIT : Hid (b + n ≤ 4611686018427387904) := Lib.hid (by
          have := btk_fit hbk
          rw [bareEn_len, HLN.out] at this
          exact this)
        have HLS : Hid (∀ k, ((lksOf L).getD k []).length ≤ 16) := Lib.hid (fun k => by
          have := btk_ls hbk k
          rw [lksOf_at, bareEn_at] at this
          rw [lksOf_at]
          dsimp only at this
          rw [bareL_len] at this
          exact this)
        obtain ⟨gO, cur, gk, rfl, hgO, hU, hgk⟩ := HP3.out hn1
        replace hU := hU.below hwr.out
        have hYb := HY3.out.below hwr.out
        have hOb := HO3.out.below hwr.out
        have HG : Hid (∀ j, j < n → 0 < (L.getD j en0).1.length → w.heap.size + 2 ≤ gk j ∧ gk j < O) := Lib.hid (fun j hj h0 => hgk j hj h0)
        have H0 : Hid (RtI w e b n m2 O gO cur gk L Lt 0 0 At nt wr) := Lib.hid ⟨hYb, hOb, by rw [pen_0]; exact hU, (HTW.out.below HBr.out).mono (fun x hx _ => by have h9 : x < w.heap.size := hx; show x ≠ w.heap.size + 1; omega), fun a e2 h0 j hj hl e3 => by
          have h1 := (HG.out j hj hl).1
          obtain ⟨g, o, e4, _, h5, _⟩ := HTW.out.cells (by omega)
          rw [e4] at e2
          injection e2 with e2
          subst e2
          dsimp only at e3
          omega, HBr.out⟩
        clear hYb hOb HBr hwr hrl hcb1 hcb2 hbk hU hgk HP3 HO3 HY3 HB3 HTW HRB
        go_wp2
        go_loopw [1, 10] (fun v i wr => ∃ (k : Nat) (At : Option Addr) (nt mt : Nat), k ≤ n ∧ v = .slice At nt mt ∧ i = .int .i64 k ∧ Hid (RtI w e b n m2 O gO cur gk L Lt k 0 At nt wr)) (fun _ i _ => n - (intOf i).toNat)
        case atStart => exact ⟨0, _, _, _, by omega, rfl, rfl, H0⟩
        case round =>
          clear H0
          obtain ⟨k, At, nt, mt, hkn', rfl, rfl, HR⟩ := hrel
          obtain ⟨wo, hwo⟩ : ∃ wo, wo = wr := ⟨_, rfl⟩
          subst hwo
          obtain ⟨x0, x1, x2⟩ := HR.out.2.1.c3
          by_cases hkn : k < n
          · obtain ⟨a5, m5, c0, _, hpos5⟩ := HR.out.2.2.1.at_ hkn
            obtain ⟨l, hl⟩ : ∃ l, l = (L.getD k en0).1.length := ⟨_, rfl⟩
            have hlen5 : ((pen b L (fl Lt) k 0).getD k en0).1.length = l := by rw [pen_at b L (fl Lt) k 0 (by rw [HLN.out]; exact hkn)]; dsimp only; rw [pth_len, hl]
            rw [hlen5] at c0 hpos5
            have HKL := Lib.hid hl.symm
            have hl16 : l ≤ 16 := by have := HLS.out k; rw [lksOf_at] at this; omega
            have HA5 : Hid (0 < l → a5 = some ⟨gk k, 0, none⟩) := Lib.hid (fun h0 => (hpos5 h0).1)
            have ek : (k : Int) < n := by omega
            have e3 : IntKind.i64.wrap ((k : Int) + 1) = ((k + 1 : Nat) : Int) := IntWalk.i64_in _ (by omega)
            have H0 := HR
            clear hpos5 hlen5 hl HR
            go_wp2
            clear x0 x1 x2 c0
            go_loopw [1, 12] (fun v i wr => ∃ (i2 : Nat) (At : Option Addr) (nt mt : Nat), i2 ≤ l ∧ v = .slice At nt mt ∧ i = .int .i64 i2 ∧ Hid (RtI w e b n m2 O gO cur gk L Lt k i2 At nt wr)) (fun _ i _ => l - (intOf i).toNat)
            case atStart => exact ⟨0, _, _, _, by omega, rfl, rfl, H0⟩
            case round =>
              clear H0
              obtain ⟨i, At, nt, mt, hi, rfl, rfl, HR⟩ := hrel
              by_cases hil : i < l
              · obtain ⟨rfl⟩ : a5 = some ⟨gk k, 0, none⟩ := HA5.out (by omega)
                obtain ⟨hYr, hOr, hUr, hTr, hDr, hBr⟩ := HR.out
                obtain ⟨ts, hts⟩ : ∃ ts, ts = tls (b + k) ((lksOf L).getD k []) (tes b (lksOf L) Lt k) i := ⟨_, rfl⟩
                rw [← hts] at hTr
                have HTS := Lib.hid hts.symm
                have hnt5 : nt ≤ 600 := by
                  rw [← hTr.1, hts]
                  have h1 := tls_len (p := b + k) (l := (lksOf L).getD k []) (ts := tes b (lksOf L) Lt k) i
                  have h2 := tes_len (b := b) (ts := Lt) HLS.out k
                  have h3 : Lt.length ≤ 50 := HL50.out
                  have h4 : k * 16 ≤ 30 * 16 := Nat.mul_le_mul_right _ (by omega)
                  omega
                obtain ⟨s, hs⟩ : ∃ s, s = ((L.getD k en0).1.getD i lk0).1 := ⟨_, rfl⟩
                have HSI := Lib.hid hs.symm
                have hli : i < (L.getD k en0).1.length := by rw [HKL.out]; exact hil
                have hkL : k < L.length := by rw [HLN.out]; exact hkn
                have hsb : 0 ≤ s ∧ s < 18446744073709551616 := by
                  rw [hs, getD_of hli]
                  have h1 : L.getD k en0 ∈ L := by rw [List.getD_eq_getElem?_getD, List.getElem?_eq_getElem hkL]; exact List.getElem_mem _
                  exact (HLB.out _ h1 _ (List.getElem_mem _)).1
                have hFL : fl ts s = TT (b + k) (L.getD k en0).1 (TE b (lksOf L) (fl Lt) k) i s := by rw [hts, tls_fl, tes_fl, lksOf_at]
                obtain ⟨a6, m6, _, _, hpos6⟩ := hUr.at_ hkn
                have hlen6 : ((pen b L (fl Lt) k i).getD k en0).1.length = l := by rw [pen_at b L (fl Lt) k i hkL]; dsimp only; rw [pth_len, HKL.out]
                obtain ⟨_, hln6, hgg⟩ := hpos6 (by rw [hlen6]; omega)
                obtain ⟨A6, M6, d0, d1, _⟩ := hln6.cell (i := i) (by rw [hlen6]; exact hil)
                have hst6 : (((pen b L (fl Lt) k i).getD k en0).1.getD i lk0).1 = s := by rw [pen_at b L (fl Lt) k i hkL]; dsimp only; rw [pth_str _ _ _ _ hli, hs]
                rw [hst6] at d0
                have df := hln6.free (i * 2 + 1)
                have hfc := rfind_any _ At nt mt ts s wr hTr (by omega)
                unfold BPost at hfc
                have ei : (i : Int) < l := by omega
                have e4 : IntKind.i64.wrap ((i : Int) + 1) = ((i + 1 : Nat) : Int) := IntWalk.i64_in _ (by omega)
                have HYr := Lib.hid hYr
                have HOr := Lib.hid hOr
                have HUr := Lib.hid hUr
                have HTr := Lib.hid hTr
                have HDr := Lib.hid hDr
                have HBr := Lib.hid hBr
                have HFL := Lib.hid hFL
                have HST6 := Lib.hid hst6
                have HL6 := Lib.hid hlen6
                have HLI := Lib.hid hli
                have HKK := Lib.hid hkL
                have HSB := Lib.hid hsb
                have HGG := Lib.hid hgg
                have hfb := fnl_lt ts s
                rw [hTr.1] at hfb
                have HGB := HG.out k hkn (by omega)
                have HLN6 := Lib.hid hln6
                clear hYr hOr hUr hTr hDr hBr hts hs hFL hpos6 hln6 hlen6 hst6 hli hkL hsb hgg HR d1
                go_wp2_with fail
                refine hfc.mono ?_
                rintro en w7 ⟨rfl, hb7⟩
                have d0' := (hb7.cell (lt_of_cell d0)).trans d0
                have hln7 := HLN6.out.below hb7
                obtain ⟨A7, M7, _, d1, hR7⟩ := hln7.cell (i := i) (by rw [HL6.out]; exact hil)
                have df7 := hln7.free (i * 2 + 1)
                have hT7 := HTr.out.below hb7
                have HY7 := Lib.hid (HYr.out.below hb7)
                have HO7 := Lib.hid (HOr.out.below hb7)
                have HU7 := Lib.hid (HUr.out.below hb7)
                have HT7 := Lib.hid hT7
                have HB7 := Lib.hid (HBr.out.trans (hb7.mono HBr.out.size))
                by_cases hf : 0 ≤ fnl ts s
                · have hFS := fl_found hf
                  obtain ⟨q, hq⟩ : ∃ q : Nat, fnl ts s = q := ⟨(fnl ts s).toNat, by omega⟩
                  rw [hq, Int.toNat_natCast] at hFS
                  rw [hq] at hfb ⊢
                  have hqn : q < nt := by omega
                  obtain ⟨gt, ot, rfl, _, _, hct⟩ := hT7.cells (by omega)
                  obtain ⟨xt, zt, at', lt', mt', t1, t2, t3, t4, t5, t6, t7, t8, t9, t10⟩ := hct q hqn
                  have c8 := (t10 _ (Below.refl _ _)).2
                  have HRz : Hid (LkE.R w7 (fun b => b ≠ w.heap.size + 1) [.int .u64 s, .slice at' zt.length mt'] (s, zt)) := Lib.hid (LkE.mk HSB.out rfl (by omega) t5 t9)
                  have HZT : Hid ((TT (b + k) (L.getD k en0).1 (TE b (lksOf L) (fl Lt) k) i s).getD [] = zt) := Lib.hid (by rw [← HFL.out, hFS, t1]; rfl)
                  have hcs : w7.cell? ⟨gk k, i * 2 + 1, none⟩ = some (.slice (A7, (((pen b L (fl Lt) k i).getD k en0).1.getD i lk0).2.length, M7).1 (A7, (((pen b L (fl Lt) k i).getD k en0).1.getD i lk0).2.length, M7).2.1 (A7, (((pen b L (fl Lt) k i).getD k en0).1.getD i lk0).2.length, M7).2.2) := d1
                  have HST : Hid (RtI w e b n m2 O gO cur gk L Lt k (i + 1) (some ⟨gt, ot, none⟩) nt (w7.setCell ⟨gk k, i * 2 + 1, none⟩ (.slice at' lt' mt')) ∨ True) := Lib.hid (.inr trivial)
                  have hput := HU7.out.put (k := k) (i := i) (A := at') (z := zt) (m := mt') hkn (by rw [HL6.out]; exact hil) (by rw [HST6.out]; exact HRz.out)
                  have HSTT : Hid (Blk (w7.setCell ⟨gk k, i * 2 + 1, none⟩ (.slice at' lt' mt')) (w.heap.size + 1) (btenc 0 0 none 0 0) 25 ∧ Blk (w7.setCell ⟨gk k, i * 2 + 1, none⟩ (.slice at' lt' mt')) O (btenc e b (some ⟨gO, 0, none⟩) n m2) 25 ∧ OutR (w.heap.size + 1) (w7.setCell ⟨gk k, i * 2 + 1, none⟩ (.slice at' lt' mt')) gO n cur gk (pen b L (fl Lt) k (i + 1)) ∧
                      Lks (w7.setCell ⟨gk k, i * 2 + 1, none⟩ (.slice at' lt' mt')) (fun b => b ≠ w.heap.size + 1) (some ⟨gt, ot, none⟩) nt ts ∧ (∀ a, (some ⟨gt, ot, none⟩ : Option Addr) = some a → 0 < nt → ∀ j, j < n → 0 < (L.getD j en0).1.length → a.block ≠ gk j) ∧ Below w.heap.size w (w7.setCell ⟨gk k, i * 2 + 1, none⟩ (.slice at' lt' mt'))) := Lib.hid (by
                    rw [← t3]
                    refine ⟨HY7.out.far _ _ (by omega), HO7.out.far _ _ (by omega), ?_, lks_slw hcs HT7.out (fun a e2 h0 => HDr.out a e2 h0 k hkn (by rw [HKL.out]; omega)), HDr.out, Below.setCell HB7.out (p := ⟨gk k, i * 2 + 1, none⟩) (by show w.heap.size ≤ gk k; omega) _⟩
                    rw [← pen_set b L (fl Lt) HKK.out HLI.out, HSI.out, HZT.out]
                    exact hput)
                  have fq : decide ((0 : Int) ≤ (q : Int)) = true := decide_eq_true (by omega)
                  clear hT7 hct t1 t2 t3 t4 t5 t6 t7 t8 t9 t10 hput hcs hFS hf hq hfb hb7 hfc HST
                  go_wp2
                  generalize hw8 : w7.setCell ⟨gk k, i * 2 + 1, none⟩ (.slice at' lt' mt') = w8 at *
                  have HST := HSTT
                  clear HSTT hw8 c8 d0 d1 d0' df df7 hR7 hln7
                  obtain ⟨hY8, hO8, hU8, hT8, hD8, hB8⟩ := HST.out
                  obtain ⟨a8, m8, _, _, hn8⟩ := hU8.at_ hkn
                  have hlen8 : ((pen b L (fl Lt) k (i + 1)).getD k en0).1.length = l := by rw [pen_at b L (fl Lt) k (i + 1) (by rw [HLN.out]; exact hkn)]; dsimp only; rw [pth_len, HKL.out]
                  obtain ⟨_, hln8, _⟩ := hn8 (by rw [hlen8]; omega)
                  obtain ⟨A8, M8, hc0, hc1, hR8⟩ := hln8.cell (i := i) (by rw [hlen8]; exact hil)
                  have hel8 : (((pen b L (fl Lt) k (i + 1)).getD k en0).1.getD i lk0) = nwl (b + k) (L.getD k en0).1 (TE b (lksOf L) (fl Lt) k) i := by
                    rw [pen_at b L (fl Lt) k (i + 1) (by rw [HLN.out]; exact hkn)]
                    dsimp only
                    rw [if_neg (Nat.lt_irrefl _), if_pos rfl, pth_at _ _ _ _ (by rw [HKL.out]; exact hil), if_pos (by omega)]
                  rw [hel8] at hc0 hc1 hR8
                  obtain ⟨A0, M0, e9, sb8, hm8, hn8', hus8, hzb8, _, hsq8⟩ := link_parts hR8
                  injection e9 with _ e9
                  injection e9 with e9
                  injection e9 with e1 _ e3
                  subst e1 e3
                  have hs8 : (nwl (b + k) (L.getD k en0).1 (TE b (lksOf L) (fl Lt) k) i).1 = s := by show ((L.getD k en0).1.getD i lk0).1 = s; exact HSI.out
                  have HNX : Hid (tls (b + k) ((lksOf L).getD k []) (tes b (lksOf L) Lt k) (i + 1) = wth ts (ext (b + k) (s, (nwl (b + k) (L.getD k en0).1 (TE b (lksOf L) (fl Lt) k) i).2))) := Lib.hid (by
                    show wth (tls (b + k) ((lksOf L).getD k []) (tes b (lksOf L) Lt k) i) (ext (b + k) (nwl (b + k) ((lksOf L).getD k []) (fl (tes b (lksOf L) Lt k)) i)) = _
                    rw [HTS.out, tes_fl, lksOf_at]
                    congr 2
                    rw [← hs8])
                  rw [hs8] at hc0 hR8 sb8
                  have HZL8 : Hid ((nwl (b + k) (L.getD k en0).1 (TE b (lksOf L) (fl Lt) k) i).2.length ≤ 1000000) := Lib.hid (HNL.out k i)
                  generalize hz8 : (nwl (b + k) (L.getD k en0).1 (TE b (lksOf L) (fl Lt) k) i).2 = z8 at *
                  obtain ⟨l8, hl8⟩ : ∃ l8, l8 = z8.length := ⟨_, rfl⟩
                  rw [← hl8] at hc1 hm8 hus8 HZL8
                  have HEX := Lib.hid (fun w' (h : RtS w8 w') => rextend_any s A8 l8 M8 z8 (b + k) w' sb8 (hus8.below h) hzb8 HZL8.out (by omega) (by have := HFIT.out; omega))
                  have HWI := Lib.hid (fun B nb cb z w' (h : RtS w8 w') => rwithf_any (fun b => b ≠ w.heap.size + 1) (some ⟨gt, ot, none⟩) nt mt ts s B nb cb z w' (hT8.below h) (by omega) sb8)
                  have HY8 := Lib.hid hY8
                  have HO8 := Lib.hid hO8
                  have HU8 := Lib.hid hU8
                  have HB8 := Lib.hid hB8
                  have L1 : ∀ w', RtS w8 w' → (w'.cell? ⟨gk k, i * 2, none⟩ = some (.int .u64 s) ∧ w'.cell? ⟨gk k, i * 2 + 1, none⟩ = some (.slice A8 l8 M8)) ∧ w'.cell? ⟨O, 1, none⟩ = some (.int .u64 b) := fun w' h => ⟨⟨(h.cell (lt_of_cell hc0)).trans hc0, (h.cell (lt_of_cell hc1)).trans hc1⟩, (HO8.out.below h).c3.2.1⟩
                  have e7 : IntKind.u64.wrap (k : Int) = k := IntWalk.u64_in _ (by omega)
                  have e8 : IntKind.u64.wrap (b + k) = b + k := IntWalk.u64_in _ (by have := HFIT.out; omega)
                  have hil8 : (i : Int) < l := by omega
                  clear hY8 hO8 hU8 hB8 hn8 hln8 hc0 hc1 hel8 hlen8 hs8 hus8 hsq8 hR8 hn8' hm8 hzb8 sb8 hz8 hl8 hT8 HST
                  go_wp2
                  have hS : RtS w8 w8.drew := below_one' _
                  refine Seq.wp_region_seq (RtS w8) (by kernel_rfl) (by kernel_rfl) hS ?_
                  generalize w8.drew = wd at *
                  repeat (first | (refine Seq.Seq.skip (by rfl) ?_; (try simp only [Act.put, List.setIfInBounds_toArray, List.set_cons_zero, List.set_cons_succ])) | (refine Seq.Seq.det ?_ (by rfl) (fun w hS => ?_) ?_; rotate_left; ((try dsimp only at hS); go_simp; (try rw [if_pos (by omega)]); with_reducible rfl); (try simp only [Act.put, List.setIfInBounds_toArray, List.set_cons_zero, List.set_cons_succ])))
                  refine Seq.Seq.make (by rfl) (by rfl) (fun K Q' hK => ?_)
                  go_simp
                  go_at_call 41
                  refine (HEX.out _ hS).mono ?_
                  rintro en v1 ⟨Ae, me, rfl, hb1, hR1⟩
                  have hS1 : RtS w8 v1 := hS.trans (hb1.mono hS.size)
                  obtain ⟨A1, M1, e9, sb1, hm1, hn1, hus1, hzb1, hpb1, _⟩ := link_parts hR1
                  injection e9 with _ e9
                  injection e9 with e9
                  injection e9 with e1 _ e3
                  subst e1 e3
                  have HW1 := Lib.hid (HWI.out Ae _ me _ v1 hS1 hus1 hzb1 hm1 hn1 (fun h0 a ha => by have h2 : wd.heap.size ≤ a.block := hpb1 h0 a ha; have h3 := hS.size; have h4 := HO8.out.lt; show a.block ≠ w.heap.size + 1; omega))
                  clear hR1 hus1 hzb1 hm1 hn1 sb1 hb1 hpb1
                  refine hK.out _ _ (hS1) ?_
                  clear hK K
                  try simp only [Act.put, List.setIfInBounds_toArray, List.set_cons_zero, List.set_cons_succ]
                  repeat (first | (refine Seq.Seq.skip (by rfl) ?_; (try simp only [Act.put, List.setIfInBounds_toArray, List.set_cons_zero, List.set_cons_succ])) | (refine Seq.Seq.det ?_ (by rfl) (fun w hS => ?_) ?_; rotate_left; ((try dsimp only at hS); go_simp; (try rw [if_pos (by omega)]); with_reducible rfl); (try simp only [Act.put, List.setIfInBounds_toArray, List.set_cons_zero, List.set_cons_succ])))
                  refine Seq.Seq.make (by rfl) (by rfl) (fun K Q' hK => ?_)
                  go_simp
                  go_at_call 40
                  refine HW1.out.mono ?_
                  rintro en v2 ⟨A2', n2', m2', rfl, hb2, hl2, hn2, hf2⟩
                  have hS2 : RtS w8 v2 := hS1.trans (hb2.mono hS1.size)
                  have HL2 := Lib.hid (hl2.mono (Q := fun b => b ≠ w.heap.size + 1) (fun x hx _ => hx.elim id (fun h1 => by have h2 : v1.heap.size ≤ x := h1; have h3 := hS1.size; have h4 := HO8.out.lt; show x ≠ w.heap.size + 1; omega)))
                  have HF2 : Hid (∀ a, A2' = some a → w8.heap.size ≤ a.block) := Lib.hid (fun a e => Nat.le_trans hS1.size (hf2 a e))
                  clear hb2 hl2 hn2 hf2 hS hS1
                  refine hK.out _ _ (hS2) ?_
                  clear hK K
                  try simp only [Act.put, List.setIfInBounds_toArray, List.set_cons_zero, List.set_cons_succ]
                  repeat (first | (refine Seq.Seq.skip (by rfl) ?_; (try simp only [Act.put, List.setIfInBounds_toArray, List.set_cons_zero, List.set_cons_succ])) | (refine Seq.Seq.det ?_ (by rfl) (fun w hS => ?_) ?_; rotate_left; ((try dsimp only at hS); go_simp; (try rw [if_pos (by omega)]); with_reducible rfl); (try simp only [Act.put, List.setIfInBounds_toArray, List.set_cons_zero, List.set_cons_succ])))
                  refine Seq.Seq.nil ?_
                  have HFIN : Hid (RtI w e b n m2 O gO cur gk L Lt k (i + 1) A2' n2' v2) := Lib.hid ⟨HY8.out.below hS2, HO8.out.below hS2, HU8.out.below hS2, by rw [HNX.out]; exact HL2.out, fun a e2 _ j hj h0 => by
                    have h1 := HF2.out a e2
                    have h2 := (HG.out j hj h0).2
                    have h3 := HO8.out.lt
                    omega, HB8.out.trans (Below.mono hS2 HB8.out.size)⟩
                  clear L1 hS2
                  go_wp2
                  go_roundw
                  case rel => exact ⟨i + 1, A2', n2', m2', by omega, rfl, by go_num, HFIN⟩
                  case measure => simp [intOf]; omega
                · have hFS := fl_lost hf
                  have HST : Hid (Blk w7 (w.heap.size + 1) (btenc 0 0 none 0 0) 25 ∧ Blk w7 O (btenc e b (some ⟨gO, 0, none⟩) n m2) 25 ∧ OutR (w.heap.size + 1) w7 gO n cur gk (pen b L (fl Lt) k (i + 1)) ∧
                      Lks w7 (fun b => b ≠ w.heap.size + 1) At nt ts ∧ (∀ a, At = some a → 0 < nt → ∀ j, j < n → 0 < (L.getD j en0).1.length → a.block ≠ gk j) ∧ Below w.heap.size w w7) := Lib.hid (by
                    refine ⟨HY7.out, HO7.out, ?_, HT7.out, HDr.out, HB7.out⟩
                    rw [← pen_same b L (fl Lt) HKK.out HLI.out (by rw [HSI.out, ← HFL.out, hFS]; rfl)]
                    exact HU7.out)
                  obtain ⟨q, hq⟩ : ∃ q, q = fnl ts s := ⟨_, rfl⟩
                  rw [← hq] at hf ⊢
                  have fq : decide ((0 : Int) ≤ q) = false := decide_eq_false hf
                  obtain ⟨w8, hw8⟩ : ∃ w8, w8 = w7 := ⟨_, rfl⟩
                  subst hw8
                  clear hFS hf hq hfb hb7 hfc hT7 d0 d1 d0' df df7 hR7 hln7
                  go_wp2
                  obtain ⟨hY8, hO8, hU8, hT8, hD8, hB8⟩ := HST.out
                  obtain ⟨a8, m8, _, _, hn8⟩ := hU8.at_ hkn
                  have hlen8 : ((pen b L (fl Lt) k (i + 1)).getD k en0).1.length = l := by rw [pen_at b L (fl Lt) k (i + 1) (by rw [HLN.out]; exact hkn)]; dsimp only; rw [pth_len, HKL.out]
                  obtain ⟨_, hln8, _⟩ := hn8 (by rw [hlen8]; omega)
                  obtain ⟨A8, M8, hc0, hc1, hR8⟩ := hln8.cell (i := i) (by rw [hlen8]; exact hil)
                  have hel8 : (((pen b L (fl Lt) k (i + 1)).getD k en0).1.getD i lk0) = nwl (b + k) (L.getD k en0).1 (TE b (lksOf L) (fl Lt) k) i := by
                    rw [pen_at b L (fl Lt) k (i + 1) (by rw [HLN.out]; exact hkn)]
                    dsimp only
                    rw [if_neg (Nat.lt_irrefl _), if_pos rfl, pth_at _ _ _ _ (by rw [HKL.out]; exact hil), if_pos (by omega)]
                  rw [hel8] at hc0 hc1 hR8
                  obtain ⟨A0, M0, e9, sb8, hm8, hn8', hus8, hzb8, _, hsq8⟩ := link_parts hR8
                  injection e9 with _ e9
                  injection e9 with e9
                  injection e9 with e1 _ e3
                  subst e1 e3
                  have hs8 : (nwl (b + k) (L.getD k en0).1 (TE b (lksOf L) (fl Lt) k) i).1 = s := by show ((L.getD k en0).1.getD i lk0).1 = s; exact HSI.out
                  have HNX : Hid (tls (b + k) ((lksOf L).getD k []) (tes b (lksOf L) Lt k) (i + 1) = wth ts (ext (b + k) (s, (nwl (b + k) (L.getD k en0).1 (TE b (lksOf L) (fl Lt) k) i).2))) := Lib.hid (by
                    show wth (tls (b + k) ((lksOf L).getD k []) (tes b (lksOf L) Lt k) i) (ext (b + k) (nwl (b + k) ((lksOf L).getD k []) (fl (tes b (lksOf L) Lt k)) i)) = _
                    rw [HTS.out, tes_fl, lksOf_at]
                    congr 2
                    rw [← hs8])
                  rw [hs8] at hc0 hR8 sb8
                  have HZL8 : Hid ((nwl (b + k) (L.getD k en0).1 (TE b (lksOf L) (fl Lt) k) i).2.length ≤ 1000000) := Lib.hid (HNL.out k i)
                  generalize hz8 : (nwl (b + k) (L.getD k en0).1 (TE b (lksOf L) (fl Lt) k) i).2 = z8 at *
                  obtain ⟨l8, hl8⟩ : ∃ l8, l8 = z8.length := ⟨_, rfl⟩
                  rw [← hl8] at hc1 hm8 hus8 HZL8
                  have HEX := Lib.hid (fun w' (h : RtS w8 w') => rextend_any s A8 l8 M8 z8 (b + k) w' sb8 (hus8.below h) hzb8 HZL8.out (by omega) (by have := HFIT.out; omega))
                  have HWI := Lib.hid (fun B nb cb z w' (h : RtS w8 w') => rwithf_any (fun b => b ≠ w.heap.size + 1) (At) nt mt ts s B nb cb z w' (hT8.below h) (by omega) sb8)
                  have HY8 := Lib.hid hY8
                  have HO8 := Lib.hid hO8
                  have HU8 := Lib.hid hU8
                  have HB8 := Lib.hid hB8
                  have L1 : ∀ w', RtS w8 w' → (w'.cell? ⟨gk k, i * 2, none⟩ = some (.int .u64 s) ∧ w'.cell? ⟨gk k, i * 2 + 1, none⟩ = some (.slice A8 l8 M8)) ∧ w'.cell? ⟨O, 1, none⟩ = some (.int .u64 b) := fun w' h => ⟨⟨(h.cell (lt_of_cell hc0)).trans hc0, (h.cell (lt_of_cell hc1)).trans hc1⟩, (HO8.out.below h).c3.2.1⟩
                  have e7 : IntKind.u64.wrap (k : Int) = k := IntWalk.u64_in _ (by omega)
                  have e8 : IntKind.u64.wrap (b + k) = b + k := IntWalk.u64_in _ (by have := HFIT.out; omega)
                  have hil8 : (i : Int) < l := by omega
                  clear hY8 hO8 hU8 hB8 hn8 hln8 hc0 hc1 hel8 hlen8 hs8 hus8 hsq8 hR8 hn8' hm8 hzb8 sb8 hz8 hl8 hT8 HST
                  go_wp2
                  have hS : RtS w8 w8.drew := below_one' _
                  refine Seq.wp_region_seq (RtS w8) (by kernel_rfl) (by kernel_rfl) hS ?_
                  generalize w8.drew = wd at *
                  repeat (first | (refine Seq.Seq.skip (by rfl) ?_; (try simp only [Act.put, List.setIfInBounds_toArray, List.set_cons_zero, List.set_cons_succ])) | (refine Seq.Seq.det ?_ (by rfl) (fun w hS => ?_) ?_; rotate_left; ((try dsimp only at hS); go_simp; (try rw [if_pos (by omega)]); with_reducible rfl); (try simp only [Act.put, List.setIfInBounds_toArray, List.set_cons_zero, List.set_cons_succ])))
                  refine Seq.Seq.make (by rfl) (by rfl) (fun K Q' hK => ?_)
                  go_simp
                  go_at_call 41
                  refine (HEX.out _ hS).mono ?_
                  rintro en v1 ⟨Ae, me, rfl, hb1, hR1⟩
                  have hS1 : RtS w8 v1 := hS.trans (hb1.mono hS.size)
                  obtain ⟨A1, M1, e9, sb1, hm1, hn1, hus1, hzb1, hpb1, _⟩ := link_parts hR1
                  injection e9 with _ e9
                  injection e9 with e9
                  injection e9 with e1 _ e3
                  subst e1 e3
                  have HW1 := Lib.hid (HWI.out Ae _ me _ v1 hS1 hus1 hzb1 hm1 hn1 (fun h0 a ha => by have h2 : wd.heap.size ≤ a.block := hpb1 h0 a ha; have h3 := hS.size; have h4 := HO8.out.lt; show a.block ≠ w.heap.size + 1; omega))
                  clear hR1 hus1 hzb1 hm1 hn1 sb1 hb1 hpb1
                  refine hK.out _ _ (hS1) ?_
                  clear hK K
                  try simp only [Act.put, List.setIfInBounds_toArray, List.set_cons_zero, List.set_cons_succ]
                  repeat (first | (refine Seq.Seq.skip (by rfl) ?_; (try simp only [Act.put, List.setIfInBounds_toArray, List.set_cons_zero, List.set_cons_succ])) | (refine Seq.Seq.det ?_ (by rfl) (fun w hS => ?_) ?_; rotate_left; ((try dsimp only at hS); go_simp; (try rw [if_pos (by omega)]); with_reducible rfl); (try simp only [Act.put, List.setIfInBounds_toArray, List.set_cons_zero, List.set_cons_succ])))
                  refine Seq.Seq.make (by rfl) (by rfl) (fun K Q' hK => ?_)
                  go_simp
                  go_at_call 40
                  refine HW1.out.mono ?_
                  rintro en v2 ⟨A2', n2', m2', rfl, hb2, hl2, hn2, hf2⟩
                  have hS2 : RtS w8 v2 := hS1.trans (hb2.mono hS1.size)
                  have HL2 := Lib.hid (hl2.mono (Q := fun b => b ≠ w.heap.size + 1) (fun x hx _ => hx.elim id (fun h1 => by have h2 : v1.heap.size ≤ x := h1; have h3 := hS1.size; have h4 := HO8.out.lt; show x ≠ w.heap.size + 1; omega)))
                  have HF2 : Hid (∀ a, A2' = some a → w8.heap.size ≤ a.block) := Lib.hid (fun a e => Nat.le_trans hS1.size (hf2 a e))
                  clear hb2 hl2 hn2 hf2 hS hS1
                  refine hK.out _ _ (hS2) ?_
                  clear hK K
                  try simp only [Act.put, List.setIfInBounds_toArray, List.set_cons_zero, List.set_cons_succ]
                  repeat (first | (refine Seq.Seq.skip (by rfl) ?_; (try simp only [Act.put, List.setIfInBounds_toArray, List.set_cons_zero, List.set_cons_succ])) | (refine Seq.Seq.det ?_ (by rfl) (fun w hS => ?_) ?_; rotate_left; ((try dsimp only at hS); go_simp; (try rw [if_pos (by omega)]); with_reducible rfl); (try simp only [Act.put, List.setIfInBounds_toArray, List.set_cons_zero, List.set_cons_succ])))
                  refine Seq.Seq.nil ?_
                  have HFIN : Hid (RtI w e b n m2 O gO cur gk L Lt k (i + 1) A2' n2' v2) := Lib.hid ⟨HY8.out.below hS2, HO8.out.below hS2, HU8.out.below hS2, by rw [HNX.out]; exact HL2.out, fun a e2 _ j hj h0 => by
                    have h1 := HF2.out a e2
                    have h2 := (HG.out j hj h0).2
                    have h3 := HO8.out.lt
                    omega, HB8.out.trans (Below.mono hS2 HB8.out.size)⟩
                  clear L1 hS2
                  go_wp2
                  go_roundw
                  case rel => exact ⟨i + 1, A2', n2', m2', by omega, rfl, by go_num, HFIN⟩
                  case measure => simp [intOf]; omega
              · obtain rfl : l = i := by omega
                have hil' : ¬ (l : Int) < l := by omega
                have HN := Lib.hid (RtI.next (by rw [HLN.out]; exact hkn) (by rw [HKL.out]; exact HR.out))
                clear HR
                go_wp2
                go_roundw
                case rel => exact ⟨k + 1, At, nt, mt, by omega, rfl, by go_num, HN⟩
                case measure => simp [intOf]; omega
          · obtain rfl : n = k := by omega
            have hnk : ¬ (n : Int) < n := by omega
            obtain ⟨hYr, hOr, hUr, hTr, hDr, hBr⟩ := HR.out
            have HGY : Hid (∀ j, j < n → 0 < ((thEn b L (fl Lt)).getD j en0).1.length → gk j ≠ w.heap.size + 1) := Lib.hid (fun j hj hl => by
              rw [thEn_at b L _ (by rw [HLN.out]; exact hj)] at hl
              dsimp only at hl
              rw [thL_len] at hl
              have := HG.out j hj hl
              omega)
            have hend : pen b L (fl Lt) n 0 = thEn b L (fl Lt) := by have := pen_end b L (fl Lt); rw [HLN.out] at this; exact this
            rw [hend] at hUr
            have hr := rbright_any _ e b (some ⟨gO, 0, none⟩) n m2 (thEn b L (fl Lt)) wo (hUr.ens (by omega) HGY.out) (by omega) HS8.out e0 b0 b9
            unfold BPost at hr
            have HYr := Lib.hid hYr
            have HOr := Lib.hid hOr
            have HEr := Lib.hid (hUr.ens (by omega) HGY.out)
            have HTr := Lib.hid hTr
            have HBr := Lib.hid hBr
            clear hYr hOr hUr hTr hDr hBr hend HR
            go_wp2_with fail
            refine hr.mono ?_
            rintro en w9 ⟨rfl, hb9⟩
            have hY9 := HYr.out.below hb9
            have hO9' := HOr.out.below hb9
            have HBB := Lib.hid (HBr.out.trans (hb9.mono HBr.out.size))
            have HE9 := Lib.hid (HEr.out.below hb9)
            have HT9 := Lib.hid (HTr.out.below hb9)
            clear hr hb9 x0 x1 x2
            cases hbk : btk (e, b, thEn b L (fl Lt))
            · have HNO : Hid (¬ thok e b L Lt) := Lib.hid (fun h => by rw [h.2] at hbk; cases hbk)
              clear hbk hO9'
              obtain ⟨y0, y1, y2⟩ := hY9.c3
              obtain ⟨k0, k1, k2⟩ := blk_f3 hY9
              have HYY := Lib.hid hY9
              clear hY9
              go_wp2
              obtain ⟨hY8, hk8⟩ := set3 HYY.out (.int .u64 0) (.int .u64 0) (.slice none 0 0)
              obtain ⟨d0, d1, d2⟩ := hY8.c3
              have hfin := Kp.below HBB.out (Nat.le_refl _) hk8 (by omega)
              exact bodyPost_ret (v := .tuple #[btagg 0 0 none 0 0, .slice none 0 0, .int .i64 3]) (by simp [results, Try.results17, go_sem, d0, d1, d2]) rfl ⟨hfin, .inl ⟨HNO.out, rfl⟩⟩
            · have HOK : Hid (thok e b L Lt) := Lib.hid ⟨HRI.out, hbk⟩
              obtain ⟨x0, x1, x2⟩ := hO9'.c3
              obtain ⟨y0, y1, y2⟩ := hY9.c3
              obtain ⟨k0, k1, k2⟩ := blk_f3 hY9
              have HYY := Lib.hid hY9
              clear hbk hO9' hY9
              go_wp2
              obtain ⟨hY8, hk8⟩ := set3 HYY.out (.int .u64 e) (.int .u64 b) (.slice (some ⟨gO, 0, none⟩) n m2)
              obtain ⟨d0, d1, d2⟩ := hY8.c3
              have hfin := Kp.below HBB.out (Nat.le_refl _) hk8 (by omega)
              refine bodyPost_ret (v := .tuple #[btagg e b (some ⟨gO, 0, none⟩) n m2, .slice At nt mt, .int .i64 0]) (by simp [results, Try.results17, go_sem, d0, d1, d2]) rfl ⟨hfin, .inr ⟨HOK.out, ?_⟩⟩
              exact ⟨_, m2, At, nt, mt, by rw [HLN.out], by rw [HLN.out]; exact (HE9.out.keep (fun x hx hl => hk8.block x hl hx)).mono (fun _ _ _ => trivial), by rw [HLN.out]; exact Lks.mono (Lks.keep HT9.out (fun x hx hl => hk8.block x hl hx)) (fun _ _ _ => trivial)⟩
end Go.Proofs.Ytoemmppoejaapaa.Cur
