/- As the seat's text, without what nothing here names. -/
import Derived.Test.YtlealkfkddhnnaaGreatBtcEv
import Derived.Test.YtlealkfkddhnnaaGreatBtcAv
import Derived.Test.YtlealkfkddhnnaaGreatK24v
namespace Go.Proofs.YtlealkfkddhnnaaGreat.Cur
open Go.RowKit Mem
set_option linter.unusedVariables false
set_option maxRecDepth 100000
def rhd (z : List Int) (base p : Int) : Rs (List Hd) := (vm z 16 p).bind [] fun nn p3 => if fitn base nn = true then hgo z nn.toNat base 1048576 p3 [] else ([], 0, 3, p)
abbrev Bh := Int × Int × List Hd
def bh0 : Bh := (0, 0, [])
def bhd (z : List Int) (p : Int) : Rs Bh := (ve epk z p).bind bh0 fun e p1 => (ve psk z p1).bind bh0 fun b p2 => (rhd z b p2).bind bh0 fun H p4 => ((e, b, H), p4, 0, 0)
def bfin (K : List Int → Int → Rs (List Int)) (z : List Int) (h : Bh) (p4 : Int) : Rs Bt := (K z p4).bind bt0 fun y p5 => if hsum h.2.2 = (y.length : Int) then ((h.1, h.2.1, hdl h.2.2 y), p5, 0, 0) else (bt0, 0, 3, p4)
theorem brd_bhd (K : List Int → Int → Rs (List Int)) (z : List Int) (p : Int) : brd K z p = (bhd z p).bind bt0 (bfin K z) := by
  unfold brd bhd
  rw [Rs.bind_assoc]
  congr 1
  funext e p1
  rw [Rs.bind_assoc]
  congr 1
  funext b p2
  unfold rhd
  rw [Rs.bind_assoc, Rs.bind_assoc]
  congr 1
  funext n p3
  by_cases h : fitn b n = true
  · rw [if_pos h, if_pos h]
    congr 1
  · rw [if_neg h, if_neg h]
    rfl
def hen (H : List Hd) : List En := H.map fun h => (h.1, [])
theorem hen_length (H : List Hd) : (hen H).length = H.length := by simp [hen]
theorem rhd_st {n : Nat} {z : List Int} {base p c q NN p1 c1 q1 c2 q2 p3 c3 q3 : Int} {H : List Hd} (h1 : St 0 n (vm z 16 p) p c q NN p1 c1 q1)
    (hf : fitn base NN = true → c2 = c1 ∧ q2 = q1) (hnf : fitn base NN = false → FailSt c1 q1 3 p c2 q2) (h2 : St [] n (hgo z NN.toNat base 1048576 p1 []) p1 c2 q2 H p3 c3 q3) : St [] n (rhd z base p) p c q H p3 c3 q3 := by
  unfold rhd
  refine h1.bind ?_
  cases h : fitn base NN
  · rw [if_neg (by decide)]
    obtain ⟨k0, k1⟩ := h2.place
    rcases hnf h with ⟨rfl, rfl, rfl⟩ | ⟨hc, rfl, rfl⟩
    · obtain ⟨rfl, rfl, rfl⟩ := h2.bad (by decide)
      exact St.fault (x := []) (y := 0) rfl (by decide) k0 k1
    · obtain ⟨rfl, rfl, rfl⟩ := h2.bad hc
      exact St.stay k0 k1 hc
  · rw [if_pos rfl]
    obtain ⟨rfl, rfl⟩ := hf h
    exact h2
theorem St.pv {α : Type} {P : α → Prop} {d : α} {n : Nat} {g : Rs α} {p c q : Int} {v : α} {p' c' q' : Int} (h : St d n g p c q v p' c' q') (hd : P d) (hg : P g.1) : P v := by
  obtain ⟨_, _, ⟨_, rfl, _⟩ | ⟨_, _, rfl, _⟩ | ⟨_, _, rfl, _⟩⟩ := h
  · exact hd
  · exact hg
  · exact hd
theorem Rs.bind_val {α β : Type} {P : β → Prop} {g : Rs α} {d : β} {f : α → Int → Rs β} (hd : P d) (hf : g.2.2.1 = 0 → P (f g.1 g.2.1).1) : P (g.bind d f).1 := by
  unfold Rs.bind
  by_cases h : g.2.2.1 = 0
  · rw [if_neg (fun e => e h)]; exact hf h
  · rw [if_pos h]; exact hd
theorem hrd_bd {z : List Int} (hby : ∀ x ∈ z, 0 ≤ x ∧ x < 256) (pos mo p : Int) (hm : 0 ≤ mo) : 0 ≤ (hrd z pos mo p).1.2 ∧ (hrd z pos mo p).1.2 ≤ mo := by
  unfold hrd
  refine Rs.bind_val (P := fun x : Hd => 0 ≤ x.2 ∧ x.2 ≤ mo) ⟨Int.le_refl _, hm⟩ fun _ => ?_
  refine Rs.bind_val (P := fun x : Hd => 0 ≤ x.2 ∧ x.2 ≤ mo) ⟨Int.le_refl _, hm⟩ fun h2 => ?_
  have h3 := vm_ok h2
  refine ⟨?_, ?_⟩
  · show 0 ≤ (vm z mo _).1
    rw [h3.2.2]
    exact vg_bd z _ hby
  · show (vm z mo _).1 ≤ mo
    rw [h3.2.2]
    exact h3.2.1
def Hs2 (w : World) (B : Nat) (vH vS : Value) (L : List En) (S : List Int) : Prop :=
  OwnQ EnE 62 w B (fun k => B ≤ k ∧ vH.ownBlock ≠ some k ∧ vS.ownBlock ≠ some k) vH L ∧ OwnN w B vS S ∧ ∀ g, vH.ownBlock = some g → vS.ownBlock ≠ some g
theorem Hs2.nil (w : World) (B : Nat) : Hs2 w B (.slice none 0 0) (.slice none 0 0) [] [] := ⟨OwnQ.nil _ _ _ _ _, World.ownsRow_nil w B _ _, fun g h => by cases h⟩
theorem Hs2.keep {w w' : World} {B : Nat} {vH vS : Value} {L : List En} {S : List Int} (h : Hs2 w B vH vS L S) (hk : ∀ b, B ≤ b → b < w.heap.size → w'.heap[b]? = w.heap[b]?) : Hs2 w' B vH vS L S := by
  obtain ⟨⟨cs, h1, h2, h3⟩, h4, h5⟩ := h
  exact ⟨⟨cs, h1.keep fun b hb hlt => hk b hb.1 hlt, own_block h2 fun k hk' => hk k (own_ge h2 k hk') (World.ownsRow.lt h2 k hk').2, h3⟩,
    own_block h4 fun k hk' => hk k (own_ge h4 k hk') (World.ownsRow.lt h4 k hk').2, h5⟩
theorem Hs2.below {w w' : World} {B : Nat} {vH vS : Value} {L : List En} {S : List Int} (h : Hs2 w B vH vS L S) (hb : Below w.heap.size w w') : Hs2 w' B vH vS L S := h.keep fun b _ hlt => hb.block b hlt
theorem Hs2.kp {b : Nat} {w w' : World} {B : Nat} {vH vS : Value} {L : List En} {S : List Int} (h : Hs2 w B vH vS L S) (k : Kp b w w') (h0 : b < B) : Hs2 w' B vH vS L S := h.keep fun g hb hlt => k.block g hlt (by omega)
theorem Hs2.pushH {w w' : World} {B : Nat} {vH vS vH' : Value} {L : List En} {S : List Int} {cs : List (List Value)} {c : List Value} {x : En}
    (g1 : Ch EnE w (fun k => B ≤ k ∧ vH.ownBlock ≠ some k ∧ vS.ownBlock ≠ some k) cs L) (g3 : ∀ g, vH.ownBlock = some g → ¬ (B ≤ g ∧ vH.ownBlock ≠ some g ∧ vS.ownBlock ≠ some g)) (hN : OwnN w B vS S) (hne : ∀ g, vH.ownBlock = some g → vS.ownBlock ≠ some g)
    (hx : EnE.R w (fun k => B ≤ k ∧ vH.ownBlock ≠ some k ∧ vS.ownBlock ≠ some k) c x) (ho : w'.ownsRow B 62 2 vH' (L.length + 1) (cs.flatten ++ c)) (hg : w.grownBy w' vH.ownBlock) (hgr : Gr vH.ownBlock vH'.ownBlock w) : Hs2 w' B vH' vS (L ++ [x]) S := by
  have hlt := fun g hg => (World.ownsRow.lt hN g hg).2
  have h := OwnQ.snoc (E := EnE) (e := 62) g1 g3 hx ho hg hgr
  have hnew : ∀ g, vH'.ownBlock = some g → vS.ownBlock ≠ some g := fun g e e2 => by
    rcases hgr with e3 | ⟨g', e3, hg'⟩
    · exact hne g (by rw [← e3]; exact e) e2
    · rw [e3] at e; injection e with e
      have := hlt g e2
      omega
  refine ⟨h.mono (fun b hb _ => ⟨hb.1.1, fun e => ?_, hb.1.2.2⟩) (fun g hg2 hh => hh.2.1 hg2), ?_, hnew⟩
  · rcases hgr with e2 | ⟨g', e2, hg'⟩
    · exact hb.1.2.1 (by rw [← e2]; exact e)
    · rw [e2] at e
      injection e with e
      have := hb.2
      omega
  · exact own_block hN fun k hk => hg.block k (hlt k hk) fun e => hne k e.symm hk
theorem Hs2.pushS {w w' : World} {B : Nat} {vH vS vS' : Value} {L : List En} {S : List Int} {y : Int} (h : Hs2 w B vH vS L S) (ho : w'.ownsRow B 3 1 vS' (S.length + 1) (iv S ++ iv [y])) (hg : w.grownBy w' vS.ownBlock) (hgr : Gr vS.ownBlock vS'.ownBlock w) : Hs2 w' B vH vS' L (S ++ [y]) := by
  obtain ⟨⟨cs, h1, h2, h3⟩, h4, h5⟩ := h
  have hP : ∀ b, (B ≤ b ∧ vH.ownBlock ≠ some b ∧ vS.ownBlock ≠ some b) → b < w.heap.size → (B ≤ b ∧ vH.ownBlock ≠ some b ∧ vS'.ownBlock ≠ some b) := fun b hb hlt => ⟨hb.1, hb.2.1, fun e => by
    rcases hgr with e2 | ⟨g', e2, hg'⟩
    · exact hb.2.2 (by rw [← e2]; exact e)
    · rw [e2] at e; injection e with e; omega⟩
  have hltH := fun g hg => (World.ownsRow.lt h2 g hg).2
  refine ⟨⟨cs, ?_, own_block h2 fun k hk => hg.block k (hltH k hk) fun e => h5 k hk e.symm, fun g hg hh => hh.2.1 hg⟩, ?_, fun g e e2 => ?_⟩
  · have k1 := (h1.mono (Q := fun b => (B ≤ b ∧ vH.ownBlock ≠ some b ∧ vS.ownBlock ≠ some b) ∧ (B ≤ b ∧ vH.ownBlock ≠ some b ∧ vS'.ownBlock ≠ some b)) fun b hb hlt => ⟨hb, hP b hb hlt⟩).keep (w' := w') fun b hb hlt => hg.block b hlt fun e => hb.1.2.2 e.symm
    exact k1.mono fun b hb _ => hb.2
  · unfold OwnN
    rw [show iv (S ++ [y]) = iv S ++ iv [y] by simp, List.length_append]
    exact ho
  · rcases hgr with e3 | ⟨g', e3, hg'⟩
    · exact h5 g e (by rw [← e3]; exact e2)
    · rw [e3] at e2; injection e2 with e2
      have := hltH g e
      omega
theorem Hs2.out {w : World} {B : Nat} {vH vS : Value} {L : List En} {S : List Int} (h : Hs2 w B vH vS L S) :
    ∃ A m A2 m2, vH = .slice A L.length m ∧ vS = .slice A2 S.length m2 ∧ (A = none → m = 0) ∧ Ens w (fun k => B ≤ k) A L.length L ∧ Is w A2 S.length S ∧ ∀ ad, A2 = some ad → B ≤ ad.block := by
  obtain ⟨h1, h2, h3⟩ := h
  have hge : ∀ g, vH.ownBlock = some g → B ≤ g := by obtain ⟨cs, _, h5, _⟩ := h1; exact own_ge h5
  obtain ⟨A, m, rfl, _, hn, hq⟩ := h1.slice
  have hge2 := own_ge h2
  obtain ⟨A2, m2, rfl, hi⟩ := h2.is
  exact ⟨A, m, A2, m2, rfl, rfl, hn, ⟨rfl, hq.mono fun b hb _ => by
    rcases hb with hb | hb
    · exact hb.1
    · exact hge b hb⟩, hi, fun ad e => hge2 ad.block (by rw [e]; rfl)⟩
def RHPost (b : Nat) (s : Value) (n : Nat) (z : List Int) (base p c q : Int) (w : World) (e : Ending) (w' : World) : Prop :=
  ∃ A N m A2 m2 H p' c' q', e = .returned (.tuple #[.slice A N m, .slice A2 N m2]) ∧ Kp b w w' ∧ IsRd w' b s p' c' q' ∧ Ens w' (fun k => w.heap.size ≤ k) A N (hen H) ∧ Is w' A2 N (H.map (·.2)) ∧ (∀ ad, A2 = some ad → w.heap.size ≤ ad.block) ∧ N = H.length ∧ N ≤ 16 ∧
    (∀ h ∈ H, (0 ≤ h.2 ∧ h.2 ≤ 1048576) ∧ h.1.length ≤ 16 ∧ blen 4 h.1) ∧ St [] n (rhd z base p) p c q H p' c' q'
theorem Hs2.post {b : Nat} {s : Value} {n : Nat} {z : List Int} {base p c q : Int} {w wr : World} {vH vS : Value} {H : List Hd} {p' c' q' : Int} (h : Hs2 wr w.heap.size vH vS (hen H) (H.map (·.2))) (hk : Kp b w wr) (hr : IsRd wr b s p' c' q') (hl : H.length ≤ 16)
    (hH : ∀ h ∈ H, (0 ≤ h.2 ∧ h.2 ≤ 1048576) ∧ h.1.length ≤ 16 ∧ blen 4 h.1) (hs : St [] n (rhd z base p) p c q H p' c' q') : RHPost b s n z base p c q w (.returned (.tuple #[vH, vS])) wr := by
  obtain ⟨A, m, A2, m2, rfl, rfl, _, he, hi, hge⟩ := h.out
  rw [hen_length] at he ⊢
  rw [List.length_map] at hi ⊢
  exact ⟨A, _, m, A2, m2, H, p', c', q', rfl, hk, hr, he, hi, hge, rfl, hl, hH, hs⟩
set_option maxHeartbeats 8000000 in
theorem rheads_any (b : Nat) (a : Option Addr) (n m : Nat) (z : List Int) (base p c q : Int) (w : World) (h : IsRd w b (.slice a n m) p c q) (hz : Bs w a n z) (h0 : 0 ≤ p) (h1 : p ≤ n) (hn : n ≤ 100000) (hby : ∀ x ∈ z, 0 ≤ x ∧ x < 256) (b0 : 0 ≤ base) (b1 : base < 18446744073709551616) :
    Calls Tryz.prog 89 #[.pointer (some ⟨b, 0, none⟩), .int .u64 base] w (RHPost b (.slice a n m) n z base p c q w) := by
  have HBY := Lib.hid hby
  have HE := Lib.hid (And.intro b0 b1)
  have hbw := h.lt
  have hzl := hz.1
  have HZ : Hid (∀ w', Kp b w w' → Bs w' a n z) := Lib.hid fun w' hk => hz.kp h (by simp) hk
  have HH := Lib.hid h
  clear hby h
  go_enter Tryz.func89, Tryz.ntmps89
  go_wp2_with fail
  refine (at_any _ _ _ _ _ _ HH.out).mono ?_
  rintro e w0 ⟨rfl, rfl⟩
  go_wp2_with fail
  refine (vint_any _ _ _ _ _ _ _ _ _ _ HH.out hz h0 h1 (by omega) HBY.out (by omega)).mono ?_
  rintro e w1 ⟨NN, p1, c1, q1, rfl, hk1, hr1, hs1⟩
  have hst := hs1.st hzl h0 h1 HBY.out
  obtain ⟨p10, p11⟩ := hst.place
  obtain ⟨n0, n16⟩ := vm_bd hst HBY.out
  have hN16 : NN ≤ 16 := by omega
  obtain ⟨N, rfl⟩ := Int.eq_ofNat_of_zero_le n0
  have HS1 := Lib.hid hst
  have hFT := fun w' => fits_any base (N : Int) w' HE.out.1 HE.out.2 (by omega)
  clear hs1 hst n0 n16 hz HH
  cases hF : fitn base N
  · have HFS := Lib.hid hF
    rw [hF] at hFT
    have HF := Lib.hid hFT
    clear hF hFT
    go_wp2_with fail
    refine (HF.out _).mono ?_
    rintro e w2 ⟨rfl, rfl⟩
    go_wp2_with fail
    refine (fail_any _ _ _ _ _ _ _ _ hr1).mono ?_
    rintro e w2 ⟨c2, q2, rfl, hk2, hr2, hf2⟩
    have hc2 : c2 ≠ 0 := by
      rcases hf2 with ⟨_, h, _⟩ | ⟨h, h2, _⟩
      · rw [h]; decide
      · rw [h2]; exact h
    have HFT : Hid (c2 = 0 → fitn base N = true) := Lib.hid (fun h => absurd h hc2)
    have HK2 := Lib.hid (hk1.trans hk2)
    have hsz2 := HK2.out.size
    have H0 := Lib.hid (HgSt.start (z := z) (b := base) (mx := 1048576) (N := N) (c1 := c2) (q1 := q2) p10 p11)
    have HRS : Hid (∀ H p' c' q', St [] n (hgo z N base 1048576 p1 []) p1 c2 q2 H p' c' q' → St [] n (rhd z base p) p c q H p' c' q') := Lib.hid (fun H p' c' q' hh => rhd_st HS1.out (fun e => by rw [HFS.out] at e; cases e) (fun _ => hf2) (by rw [Int.toNat_natCast]; exact hh))
    clear hk1 hk2 hr1 hf2 hc2 HF
    go_wp2
    go_loopw [8, 9, 10, 26] (fun vH vS lf i wr => ∃ (k : Nat) (H : List Hd) (pk ck qk T : Int), k ≤ N ∧ i = .int .i64 k ∧ lf = .int .i64 T ∧ Hid (Hs2 wr w.heap.size vH vS (hen H) (H.map (·.2))) ∧ Hid (H.length = k) ∧ Hid (∀ h ∈ H, (0 ≤ h.2 ∧ h.2 ≤ 1048576) ∧ h.1.length ≤ 16 ∧ blen 4 h.1) ∧ IsRd wr b (.slice a n m) pk ck qk ∧ Hid (Kp b w wr) ∧ 0 ≤ pk ∧ pk ≤ n ∧ w.heap.size ≤ wr.heap.size ∧ Hid (ck ≠ 0 → H = []) ∧ 0 ≤ T ∧ T ≤ 1048576 ∧ Hid (T = 1048576 - hsum H) ∧ Hid (HgSt n z base 1048576 N p1 c2 q2 k H pk ck qk)) (fun _ _ _ i _ => N - (intOf i).toNat)
    case atStart => exact ⟨0, [], p1, c2, q2, 1048576, by omega, rfl, rfl, Lib.hid (Hs2.nil _ _), Lib.hid rfl, Lib.hid (fun h hh => by simp at hh), hr2, HK2, p10, p11, hsz2, Lib.hid (fun _ => rfl), by omega, by omega, Lib.hid rfl, H0⟩
    case round =>
      clear hr2 HK2 H0 hsz2
      obtain ⟨k, H, pk, ck, qk, T, hk, rfl, rfl, HO, HLL, HLE, hr, HK, hp0, hp1, hsz, HNE, t0, t1, HT, HST⟩ := hrel
      by_cases hlt : k < N
      · have e2 : (k : Int) < N := by omega
        have e3 : IntKind.i64.wrap ((k : Int) + 1) = ((k + 1 : Nat) : Int) := IntWalk.i64_in _ (by omega)
        have e4 : IntKind.u64.wrap (k : Int) = k := IntWalk.u64_in _ (by omega)
        obtain ⟨pos, hpos⟩ : ∃ pos, pos = IntKind.u64.wrap (base + k) := ⟨_, rfl⟩
        have hpb : 0 ≤ pos ∧ pos < 18446744073709551616 := by rw [hpos, IntKind.wrap_u64]; omega
        have HPOS : Hid (ck = 0 → pos = base + k) := Lib.hid (fun hc => by
          have hc2 : c2 = 0 := by
            rcases HST.out with ⟨_, h, _⟩ | ⟨h, _⟩
            · exact h
            · exact absurd hc h
          have hf := fitn_bd (HFT.out hc2)
          have := HE.out
          rw [hpos]
          exact IntWalk.u64_in _ (by omega))
        have hcon := readhead_any b a n m z pos T pk ck qk wr hr (HZ.out _ HK.out) hp0 hp1 hn HBY.out hpb.1 hpb.2 (by omega)
        have e5 := hpos.symm
        clear hr hpos hpb
        go_wp2_with fail
        refine hcon.mono ?_
        rintro en w3 ⟨A1, m1, N1, L1, v1, p3, c3, q3, rfl, hk3, hr3, hlk3, hN1, hnl1, hN16, hbl4, hs3⟩
        have hvb := hs3.pv (P := fun x => 0 ≤ x.2 ∧ x.2 ≤ T) ⟨Int.le_refl _, t0⟩ (hrd_bd HBY.out pos T pk t0)
        replace hvb : 0 ≤ v1 ∧ v1 ≤ T := hvb
        have HK3 := Lib.hid (HK.out.trans hk3)
        have HO3 := Lib.hid (HO.out.kp hk3 hbw)
        have hpl3 := hs3.place
        have hsz3 := Nat.le_trans hsz hk3.size
        have HS3 : Hid (St hd0 n (hrd z (base + k) (1048576 - hsum H) pk) pk ck qk (L1, v1) p3 c3 q3) := Lib.hid (by
          by_cases hc : ck = 0
          · rw [← HPOS.out hc, ← HT.out]; exact hs3
          · obtain ⟨e1, rfl, rfl⟩ := hs3.bad hc
            rw [e1]
            exact St.stay hpl3.1 hpl3.2 hc)
        have HNX := Lib.hid (HST.out.next (s2 := (L1, v1)) hlt HS3.out (fun _ => rfl))
        have hA := below_one w3 (.cells (enc' A1 N1 m1 none 0 0) 62)
        have hX := Blk.new w3 (enc' A1 N1 m1 none 0 0) 62
        have hr4 := hr3.below hA
        have HK4 := Lib.hid (HK3.out.trans (Kp.of_below (b := b) hA))
        have HO4 := Lib.hid (HO3.out.below hA)
        have hlk4 := hlk3.below hA
        have hlkl := Lib.hid hlk3.1.symm
        have hsz4 := Nat.le_trans hsz3 hA.size
        have HB4 := Lib.hid (And.intro hN16 hbl4)
        obtain ⟨y0, y1⟩ := hX.c2
        have hwr := HK.out.size
        have hwr3 := hk3.size
        clear hcon hk3 hr3 hlk3 hs3 hN16 hbl4 HPOS hA e5
        go_wp2_with fail
        refine (good_any _ _ _ _ _ _ hr4).mono ?_
        rintro en w5 ⟨rfl, hb5⟩
        have hr5 := hr4.below hb5
        have HK5 := Lib.hid (HK4.out.trans (Kp.of_below (b := b) hb5))
        have HO5 := Lib.hid (HO4.out.below hb5)
        have hlk5 := hlk4.below hb5
        have hX5 := hX.below hb5
        have hsz5 := Nat.le_trans hsz4 hb5.size
        have hsz35 : w3.heap.size < w5.heap.size := hX5.lt
        clear hr4 hlk4 hX hb5 y0 y1
        obtain ⟨y0, y1⟩ := hX5.c2
        by_cases hc : c3 = 0
        · have hcb : (c3 == 0) = true := by simpa using hc
          have HC3 : Hid (c3 ≠ 0 → H ++ [(L1, v1)] = []) := Lib.hid (fun h => absurd hc h)
          clear hc
          have hA6 := below_one w5 (.cells (enc' A1 N1 m1 none 0 0) 62)
          have hrw6 := rw_new w5 [.slice A1 N1 m1, .slice none 0 0] 62
          have hr6 := hr5.below hA6
          have hK6 := HK5.out.trans (Kp.of_below (b := b) hA6)
          have hlk6 := hlk5.below hA6
          obtain ⟨⟨cs, g1, g2', g3⟩, gN, gne⟩ := HO5.out.below hA6
          have g2 : (w5.alloc (.cells (enc' A1 N1 m1 none 0 0) 62)).ownsRow w.heap.size 62 2 _ (hen H).length cs.flatten := g2'
          clear g2'
          have hge2 := own_ge g2
          have hgeN := own_ge gN
          have HOL := Lib.hid HO.out
          have hltH : ∀ g, Value.ownBlock _ = some g → g < wr.heap.size := fun g hg => by
            obtain ⟨⟨_, _, k2, _⟩, _, _⟩ := HO.out
            exact (World.ownsRow.lt k2 g hg).2
          have hltN : ∀ g, Value.ownBlock _ = some g → g < wr.heap.size := fun g hg => by
            obtain ⟨_, k2, _⟩ := HO.out
            exact (World.ownsRow.lt k2 g hg).2
          have hel := EnE.mk (hlk6.mono (Q := fun i => w.heap.size ≤ i ∧ u8.ownBlock ≠ some i ∧ u9.ownBlock ≠ some i) (fun g hg _ => ⟨by have h2 : wr.heap.size ≤ g := hg; omega, fun e => by have := hltH g e; have h2 : wr.heap.size ≤ g := hg; omega, fun e => by have := hltN g e; have h2 : wr.heap.size ≤ g := hg; omega⟩)) hN1 hnl1 (D := []) (r := 0) (k := 0) (B := none) rfl (Nat.le_refl _) (fun _ => rfl) (Sq.nil _ _ _ _)
          have HL1 : Hid ((hen H).length + 1 ≤ 1000000) := Lib.hid (by rw [hen_length, HLL.out]; omega)
          have hB6 : w.heap.size ≤ (w5.alloc (.cells (enc' A1 N1 m1 none 0 0) 62)).heap.size := by simp; omega
          clear hr5 hlk5 hlk6 hX5 hltH hltN hA6
          go_upto_region 15 with (at_builtin; go_must (refine list_append_rw kindEN rfl (.tmp 42) (.tmp 44) rfl w.heap.size _ _ _ rfl g2 _ 1 _ [.slice A1 N1 m1, .slice none 0 0] rfl rfl hrw6 (by simp) (by simp [Value.oneCell']) HL1.out (by omega) hB6 ?_; intro v' w8 ho8 hg8 hgr8; have H8 := Hs2.pushH g1 g3 gN gne hel ho8 hg8 hgr8; have hr8 := rd_grown hr6 hg8 (fun e => by have := hge2 b e; omega); have hK8 := hK6.grown hg8 (fun g e => by have := hge2 g e; omega); have hs8 := Nat.le_trans hB6 hg8.size; clear g1 g2 g3 gN gne hel ho8 hg8 hgr8 hrw6 hr6 hge2 hgeN hB6 hK6))
          have hA9 := below_one w8 (.cells #[.int .i64 v1] 3)
          have hrw9 := rw_new24 w8 (iv [v1]) 3
          have h9 := H8.below hA9
          have hr9 := hr8.below hA9
          have hK9 := hK8.trans (Kp.of_below (b := b) hA9)
          have hs9 := Nat.le_trans hs8 hA9.size
          have gS : (w8.alloc (.cells #[.int .i64 v1] 3)).ownsRow w.heap.size 3 1 u9 (H.map (·.2)).length (iv (H.map (·.2))) := h9.2.1
          have hgeS := own_ge gS
          have HL2 : Hid ((H.map (·.2)).length + 1 ≤ 1000000) := Lib.hid (by rw [List.length_map, HLL.out]; omega)
          have e7 : IntKind.i64.wrap (T - v1) = T - v1 := IntWalk.i64_in _ (by omega)
          have HVB := Lib.hid hvb
          have HTN : Hid (0 ≤ T - v1 ∧ T - v1 ≤ 1048576) := Lib.hid (by omega)
          clear hr8 hK8 hs8 H8 hA9
          go_wp2_with (at_builtin; go_must (refine list_append_rw kindI24 rfl (.tmp 46) (.tmp 48) rfl w.heap.size _ _ _ rfl gS _ 1 _ (iv [v1]) rfl rfl hrw9 (by simp) (fun u hu => by simp at hu; subst hu; rfl) HL2.out (by omega) hs9 ?_; intro v'' w10 ho10 hg10 hgr10; have H10 := h9.pushS ho10 hg10 hgr10; have hr10 := rd_grown hr9 hg10 (fun e => by have := hgeS b e; omega); have HK10 := Lib.hid (hK9.grown hg10 (fun g e => by have := hgeS g e; omega)); have hs10 := Nat.le_trans hs9 hg10.size; clear h9 gS ho10 hg10 hgr10 hrw9 hr9 hgeS hs9 hK9))
          go_roundw
          case rel => exact ⟨k + 1, H ++ [(L1, v1)], p3, c3, q3, T - v1, by omega, by go_num, by go_num, Lib.hid (by rw [show hen (H ++ [(L1, v1)]) = hen H ++ [(L1, [])] by simp [hen], List.map_append]; exact H10), Lib.hid (by rw [List.length_append, HLL.out]; rfl), Lib.hid (fun h hh => by
            rcases List.mem_append.1 hh with hh | hh
            · exact HLE.out h hh
            · rw [List.mem_singleton] at hh; subst hh
              exact ⟨⟨HVB.out.1, by have := HVB.out.2; show v1 ≤ 1048576; omega⟩, by rw [← hlkl.out]; exact HB4.out.1, HB4.out.2⟩), hr10, HK10, hpl3.1, hpl3.2, hs10, HC3, HTN.out.1, HTN.out.2, Lib.hid (by rw [hsum_snoc, HT.out]; show 1048576 - hsum H - v1 = 1048576 - (hsum H + v1); omega), HNX⟩
          case measure => simp [intOf]; omega
        · have hcb : (c3 == 0) = false := by simpa using hc
          have HFIN := Lib.hid (HNX.out.fin (.inr hc) hpl3.1 hpl3.2)
          rw [if_neg hc] at HFIN
          have HPO := Lib.hid (Hs2.post (H := []) (p' := p3) (c' := c3) (q' := q3) (Hs2.nil w5 w.heap.size) HK5.out hr5 (by simp) (fun h hh => by simp at hh) (HRS.out _ _ _ _ HFIN.out))
          clear hc hr5 hX5 hlk5
          go_wp2
          go_ret2
          exact HPO.out
      · obtain rfl : k = N := by omega
        have HFIN := Lib.hid (HST.out.fin (.inl rfl) hp0 hp1)
        have HPO := Lib.hid (Hs2.post (p' := pk) (c' := ck) (q' := qk) HO.out HK.out hr (by rw [HLL.out]; omega) HLE.out (HRS.out _ _ _ _ (by
          by_cases hc : ck = 0
          · rw [if_pos hc] at HFIN; exact HFIN.out
          · rw [if_neg hc] at HFIN; rw [HNE.out hc]; exact HFIN.out)))
        go_wp2
        go_ret2
        exact HPO.out
  · have HFS := Lib.hid hF
    rw [hF] at hFT
    have HF := Lib.hid hFT
    clear hF hFT
    go_wp2_with fail
    refine (HF.out _).mono ?_
    rintro e w2 ⟨rfl, rfl⟩
    obtain ⟨c2, hc2⟩ : ∃ c2, c2 = c1 := ⟨_, rfl⟩
    obtain ⟨q2, hq2⟩ : ∃ q2, q2 = q1 := ⟨_, rfl⟩
    rw [← hc2, ← hq2] at hr1
    have hr2 := hr1
    have HFT : Hid (c2 = 0 → fitn base N = true) := Lib.hid (fun _ => HFS.out)
    have HK2 := Lib.hid hk1
    have hsz2 := HK2.out.size
    have H0 := Lib.hid (HgSt.start (z := z) (b := base) (mx := 1048576) (N := N) (c1 := c2) (q1 := q2) p10 p11)
    have HRS : Hid (∀ H p' c' q', St [] n (hgo z N base 1048576 p1 []) p1 c2 q2 H p' c' q' → St [] n (rhd z base p) p c q H p' c' q') := Lib.hid (fun H p' c' q' hh => rhd_st HS1.out (fun _ => ⟨hc2, hq2⟩) (fun e => by rw [HFS.out] at e; cases e) (by rw [Int.toNat_natCast]; exact hh))
    clear hk1 hr1 hc2 hq2 HF
    go_wp2
    go_loopw [8, 9, 10, 26] (fun vH vS lf i wr => ∃ (k : Nat) (H : List Hd) (pk ck qk T : Int), k ≤ N ∧ i = .int .i64 k ∧ lf = .int .i64 T ∧ Hid (Hs2 wr w.heap.size vH vS (hen H) (H.map (·.2))) ∧ Hid (H.length = k) ∧ Hid (∀ h ∈ H, (0 ≤ h.2 ∧ h.2 ≤ 1048576) ∧ h.1.length ≤ 16 ∧ blen 4 h.1) ∧ IsRd wr b (.slice a n m) pk ck qk ∧ Hid (Kp b w wr) ∧ 0 ≤ pk ∧ pk ≤ n ∧ w.heap.size ≤ wr.heap.size ∧ Hid (ck ≠ 0 → H = []) ∧ 0 ≤ T ∧ T ≤ 1048576 ∧ Hid (T = 1048576 - hsum H) ∧ Hid (HgSt n z base 1048576 N p1 c2 q2 k H pk ck qk)) (fun _ _ _ i _ => N - (intOf i).toNat)
    case atStart => exact ⟨0, [], p1, c2, q2, 1048576, by omega, rfl, rfl, Lib.hid (Hs2.nil _ _), Lib.hid rfl, Lib.hid (fun h hh => by simp at hh), hr2, HK2, p10, p11, hsz2, Lib.hid (fun _ => rfl), by omega, by omega, Lib.hid rfl, H0⟩
    case round =>
      clear hr2 HK2 H0 hsz2
      obtain ⟨k, H, pk, ck, qk, T, hk, rfl, rfl, HO, HLL, HLE, hr, HK, hp0, hp1, hsz, HNE, t0, t1, HT, HST⟩ := hrel
      by_cases hlt : k < N
      · have e2 : (k : Int) < N := by omega
        have e3 : IntKind.i64.wrap ((k : Int) + 1) = ((k + 1 : Nat) : Int) := IntWalk.i64_in _ (by omega)
        have e4 : IntKind.u64.wrap (k : Int) = k := IntWalk.u64_in _ (by omega)
        obtain ⟨pos, hpos⟩ : ∃ pos, pos = IntKind.u64.wrap (base + k) := ⟨_, rfl⟩
        have hpb : 0 ≤ pos ∧ pos < 18446744073709551616 := by rw [hpos, IntKind.wrap_u64]; omega
        have HPOS : Hid (ck = 0 → pos = base + k) := Lib.hid (fun hc => by
          have hc2 : c2 = 0 := by
            rcases HST.out with ⟨_, h, _⟩ | ⟨h, _⟩
            · exact h
            · exact absurd hc h
          have hf := fitn_bd (HFT.out hc2)
          have := HE.out
          rw [hpos]
          exact IntWalk.u64_in _ (by omega))
        have hcon := readhead_any b a n m z pos T pk ck qk wr hr (HZ.out _ HK.out) hp0 hp1 hn HBY.out hpb.1 hpb.2 (by omega)
        have e5 := hpos.symm
        clear hr hpos hpb
        go_wp2_with fail
        refine hcon.mono ?_
        rintro en w3 ⟨A1, m1, N1, L1, v1, p3, c3, q3, rfl, hk3, hr3, hlk3, hN1, hnl1, hN16, hbl4, hs3⟩
        have hvb := hs3.pv (P := fun x => 0 ≤ x.2 ∧ x.2 ≤ T) ⟨Int.le_refl _, t0⟩ (hrd_bd HBY.out pos T pk t0)
        replace hvb : 0 ≤ v1 ∧ v1 ≤ T := hvb
        have HK3 := Lib.hid (HK.out.trans hk3)
        have HO3 := Lib.hid (HO.out.kp hk3 hbw)
        have hpl3 := hs3.place
        have hsz3 := Nat.le_trans hsz hk3.size
        have HS3 : Hid (St hd0 n (hrd z (base + k) (1048576 - hsum H) pk) pk ck qk (L1, v1) p3 c3 q3) := Lib.hid (by
          by_cases hc : ck = 0
          · rw [← HPOS.out hc, ← HT.out]; exact hs3
          · obtain ⟨e1, rfl, rfl⟩ := hs3.bad hc
            rw [e1]
            exact St.stay hpl3.1 hpl3.2 hc)
        have HNX := Lib.hid (HST.out.next (s2 := (L1, v1)) hlt HS3.out (fun _ => rfl))
        have hA := below_one w3 (.cells (enc' A1 N1 m1 none 0 0) 62)
        have hX := Blk.new w3 (enc' A1 N1 m1 none 0 0) 62
        have hr4 := hr3.below hA
        have HK4 := Lib.hid (HK3.out.trans (Kp.of_below (b := b) hA))
        have HO4 := Lib.hid (HO3.out.below hA)
        have hlk4 := hlk3.below hA
        have hlkl := Lib.hid hlk3.1.symm
        have hsz4 := Nat.le_trans hsz3 hA.size
        have HB4 := Lib.hid (And.intro hN16 hbl4)
        obtain ⟨y0, y1⟩ := hX.c2
        have hwr := HK.out.size
        have hwr3 := hk3.size
        clear hcon hk3 hr3 hlk3 hs3 hN16 hbl4 HPOS hA e5
        go_wp2_with fail
        refine (good_any _ _ _ _ _ _ hr4).mono ?_
        rintro en w5 ⟨rfl, hb5⟩
        have hr5 := hr4.below hb5
        have HK5 := Lib.hid (HK4.out.trans (Kp.of_below (b := b) hb5))
        have HO5 := Lib.hid (HO4.out.below hb5)
        have hlk5 := hlk4.below hb5
        have hX5 := hX.below hb5
        have hsz5 := Nat.le_trans hsz4 hb5.size
        have hsz35 : w3.heap.size < w5.heap.size := hX5.lt
        clear hr4 hlk4 hX hb5 y0 y1
        obtain ⟨y0, y1⟩ := hX5.c2
        by_cases hc : c3 = 0
        · have hcb : (c3 == 0) = true := by simpa using hc
          have HC3 : Hid (c3 ≠ 0 → H ++ [(L1, v1)] = []) := Lib.hid (fun h => absurd hc h)
          clear hc
          have hA6 := below_one w5 (.cells (enc' A1 N1 m1 none 0 0) 62)
          have hrw6 := rw_new w5 [.slice A1 N1 m1, .slice none 0 0] 62
          have hr6 := hr5.below hA6
          have hK6 := HK5.out.trans (Kp.of_below (b := b) hA6)
          have hlk6 := hlk5.below hA6
          obtain ⟨⟨cs, g1, g2', g3⟩, gN, gne⟩ := HO5.out.below hA6
          have g2 : (w5.alloc (.cells (enc' A1 N1 m1 none 0 0) 62)).ownsRow w.heap.size 62 2 _ (hen H).length cs.flatten := g2'
          clear g2'
          have hge2 := own_ge g2
          have hgeN := own_ge gN
          have HOL := Lib.hid HO.out
          have hltH : ∀ g, Value.ownBlock _ = some g → g < wr.heap.size := fun g hg => by
            obtain ⟨⟨_, _, k2, _⟩, _, _⟩ := HO.out
            exact (World.ownsRow.lt k2 g hg).2
          have hltN : ∀ g, Value.ownBlock _ = some g → g < wr.heap.size := fun g hg => by
            obtain ⟨_, k2, _⟩ := HO.out
            exact (World.ownsRow.lt k2 g hg).2
          have hel := EnE.mk (hlk6.mono (Q := fun i => w.heap.size ≤ i ∧ u8.ownBlock ≠ some i ∧ u9.ownBlock ≠ some i) (fun g hg _ => ⟨by have h2 : wr.heap.size ≤ g := hg; omega, fun e => by have := hltH g e; have h2 : wr.heap.size ≤ g := hg; omega, fun e => by have := hltN g e; have h2 : wr.heap.size ≤ g := hg; omega⟩)) hN1 hnl1 (D := []) (r := 0) (k := 0) (B := none) rfl (Nat.le_refl _) (fun _ => rfl) (Sq.nil _ _ _ _)
          have HL1 : Hid ((hen H).length + 1 ≤ 1000000) := Lib.hid (by rw [hen_length, HLL.out]; omega)
          have hB6 : w.heap.size ≤ (w5.alloc (.cells (enc' A1 N1 m1 none 0 0) 62)).heap.size := by simp; omega
          clear hr5 hlk5 hlk6 hX5 hltH hltN hA6
          go_upto_region 15 with (at_builtin; go_must (refine list_append_rw kindEN rfl (.tmp 42) (.tmp 44) rfl w.heap.size _ _ _ rfl g2 _ 1 _ [.slice A1 N1 m1, .slice none 0 0] rfl rfl hrw6 (by simp) (by simp [Value.oneCell']) HL1.out (by omega) hB6 ?_; intro v' w8 ho8 hg8 hgr8; have H8 := Hs2.pushH g1 g3 gN gne hel ho8 hg8 hgr8; have hr8 := rd_grown hr6 hg8 (fun e => by have := hge2 b e; omega); have hK8 := hK6.grown hg8 (fun g e => by have := hge2 g e; omega); have hs8 := Nat.le_trans hB6 hg8.size; clear g1 g2 g3 gN gne hel ho8 hg8 hgr8 hrw6 hr6 hge2 hgeN hB6 hK6))
          have hA9 := below_one w8 (.cells #[.int .i64 v1] 3)
          have hrw9 := rw_new24 w8 (iv [v1]) 3
          have h9 := H8.below hA9
          have hr9 := hr8.below hA9
          have hK9 := hK8.trans (Kp.of_below (b := b) hA9)
          have hs9 := Nat.le_trans hs8 hA9.size
          have gS : (w8.alloc (.cells #[.int .i64 v1] 3)).ownsRow w.heap.size 3 1 u9 (H.map (·.2)).length (iv (H.map (·.2))) := h9.2.1
          have hgeS := own_ge gS
          have HL2 : Hid ((H.map (·.2)).length + 1 ≤ 1000000) := Lib.hid (by rw [List.length_map, HLL.out]; omega)
          have e7 : IntKind.i64.wrap (T - v1) = T - v1 := IntWalk.i64_in _ (by omega)
          have HVB := Lib.hid hvb
          have HTN : Hid (0 ≤ T - v1 ∧ T - v1 ≤ 1048576) := Lib.hid (by omega)
          clear hr8 hK8 hs8 H8 hA9
          go_wp2_with (at_builtin; go_must (refine list_append_rw kindI24 rfl (.tmp 46) (.tmp 48) rfl w.heap.size _ _ _ rfl gS _ 1 _ (iv [v1]) rfl rfl hrw9 (by simp) (fun u hu => by simp at hu; subst hu; rfl) HL2.out (by omega) hs9 ?_; intro v'' w10 ho10 hg10 hgr10; have H10 := h9.pushS ho10 hg10 hgr10; have hr10 := rd_grown hr9 hg10 (fun e => by have := hgeS b e; omega); have HK10 := Lib.hid (hK9.grown hg10 (fun g e => by have := hgeS g e; omega)); have hs10 := Nat.le_trans hs9 hg10.size; clear h9 gS ho10 hg10 hgr10 hrw9 hr9 hgeS hs9 hK9))
          go_roundw
          case rel => exact ⟨k + 1, H ++ [(L1, v1)], p3, c3, q3, T - v1, by omega, by go_num, by go_num, Lib.hid (by rw [show hen (H ++ [(L1, v1)]) = hen H ++ [(L1, [])] by simp [hen], List.map_append]; exact H10), Lib.hid (by rw [List.length_append, HLL.out]; rfl), Lib.hid (fun h hh => by
            rcases List.mem_append.1 hh with hh | hh
            · exact HLE.out h hh
            · rw [List.mem_singleton] at hh; subst hh
              exact ⟨⟨HVB.out.1, by have := HVB.out.2; show v1 ≤ 1048576; omega⟩, by rw [← hlkl.out]; exact HB4.out.1, HB4.out.2⟩), hr10, HK10, hpl3.1, hpl3.2, hs10, HC3, HTN.out.1, HTN.out.2, Lib.hid (by rw [hsum_snoc, HT.out]; show 1048576 - hsum H - v1 = 1048576 - (hsum H + v1); omega), HNX⟩
          case measure => simp [intOf]; omega
        · have hcb : (c3 == 0) = false := by simpa using hc
          have HFIN := Lib.hid (HNX.out.fin (.inr hc) hpl3.1 hpl3.2)
          rw [if_neg hc] at HFIN
          have HPO := Lib.hid (Hs2.post (H := []) (p' := p3) (c' := c3) (q' := q3) (Hs2.nil w5 w.heap.size) HK5.out hr5 (by simp) (fun h hh => by simp at hh) (HRS.out _ _ _ _ HFIN.out))
          clear hc hr5 hX5 hlk5
          go_wp2
          go_ret2
          exact HPO.out
      · obtain rfl : k = N := by omega
        have HFIN := Lib.hid (HST.out.fin (.inl rfl) hp0 hp1)
        have HPO := Lib.hid (Hs2.post (p' := pk) (c' := ck) (q' := qk) HO.out HK.out hr (by rw [HLL.out]; omega) HLE.out (HRS.out _ _ _ _ (by
          by_cases hc : ck = 0
          · rw [if_pos hc] at HFIN; exact HFIN.out
          · rw [if_neg hc] at HFIN; rw [HNE.out hc]; exact HFIN.out)))
        go_wp2
        go_ret2
        exact HPO.out
end Go.Proofs.YtlealkfkddhnnaaGreat.Cur
