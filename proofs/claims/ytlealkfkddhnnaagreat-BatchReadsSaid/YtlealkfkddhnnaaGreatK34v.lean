/- As the seat's text, without what nothing here names. -/
import Derived.Test.YtlealkfkddhnnaaGreatK33v
import Derived.Test.YtlealkfkddhnnaaGreatK24v
import Derived.Test.YtlealkfkddhnnaaGreatK32v
namespace Go.Proofs.YtlealkfkddhnnaaGreat.Cur
open Go.RowKit Mem
set_option linter.unusedVariables false
set_option maxRecDepth 100000
theorem kindLK : Kind 60 135 (.agg #[.int .u64 0, .slice none 0 0]) 2 32 := ⟨Tryz.underlying60, by kernel_rfl, rfl, by decide⟩
def OwnLks (w : World) (B : Nat) (v : Value) (L : List Lk) : Prop := OwnQ LkE 135 w B (fun k => B ≤ k ∧ v.ownBlock ≠ some k) v L
theorem OwnLks.nil (w : World) (B : Nat) : OwnLks w B (.slice none 0 0) [] := OwnQ.nil _ _ _ _ _
theorem OwnLks.ge {w : World} {B : Nat} {v : Value} {L : List Lk} (h : OwnLks w B v L) : ∀ g, v.ownBlock = some g → B ≤ g := by
  obtain ⟨cs, h1, h2, h3⟩ := h
  exact own_ge h2
theorem OwnLks.lt {w : World} {B : Nat} {v : Value} {L : List Lk} (h : OwnLks w B v L) : ∀ g, v.ownBlock = some g → g < w.heap.size := by
  obtain ⟨cs, h1, h2, h3⟩ := h
  exact fun g hg => (World.ownsRow.lt h2 g hg).2
theorem OwnLks.keep {w w' : World} {B : Nat} {v : Value} {L : List Lk} (h : OwnLks w B v L) (hk : ∀ b, B ≤ b → b < w.heap.size → w'.heap[b]? = w.heap[b]?) : OwnLks w' B v L := by
  have hge := h.ge
  have hlt := h.lt
  obtain ⟨cs, h1, h2, h3⟩ := h
  exact ⟨cs, h1.keep fun b hb hlt => hk b hb.1 hlt, own_block h2 fun k hk' => hk k (hge k hk') (hlt k hk'), h3⟩
theorem OwnLks.below {w w' : World} {B : Nat} {v : Value} {L : List Lk} (h : OwnLks w B v L) (hb : Below w.heap.size w w') : OwnLks w' B v L := h.keep fun b _ hlt => hb.block b hlt
theorem OwnLks.ks {S0 : Nat → Prop} {w w' : World} {B : Nat} {v : Value} {L : List Lk} (h : OwnLks w B v L) (k : Ks S0 w w') (h0 : ∀ g, S0 g → g < B) : OwnLks w' B v L := h.keep fun b hb hlt => k.block b hlt fun hs => by have := h0 b hs; omega
theorem OwnLks.kp {b : Nat} {w w' : World} {B : Nat} {v : Value} {L : List Lk} (h : OwnLks w B v L) (k : Kp b w w') (h0 : b < B) : OwnLks w' B v L := h.keep fun g hb hlt => k.block g hlt (by omega)
theorem OwnLks.lks {w : World} {B : Nat} {v : Value} {L : List Lk} (h : OwnLks w B v L) : ∃ A c, v = .slice A L.length c ∧ L.length ≤ c ∧ (A = none → c = 0) ∧ Lks w (fun k => B ≤ k) A L.length L := by
  have hge := h.ge
  obtain ⟨A, c, e, h1, h2, h3⟩ := OwnQ.slice h
  exact ⟨A, c, e, h1, h2, rfl, h3.mono fun b hb _ => by
    rcases hb with hb | hb
    · exact hb.1
    · exact hge b hb⟩
theorem OwnLks.snoc {w w' : World} {B : Nat} {v v' : Value} {L : List Lk} {cs : List (List Value)} {c : List Value} {x : Lk}
    (h1 : Ch LkE w (fun k => B ≤ k ∧ v.ownBlock ≠ some k) cs L) (h3 : ∀ g, v.ownBlock = some g → ¬ (fun k => B ≤ k ∧ v.ownBlock ≠ some k) g)
    (hx : LkE.R w (fun k => B ≤ k ∧ v.ownBlock ≠ some k) c x) (ho : w'.ownsRow B 135 2 v' (L.length + 1) (cs.flatten ++ c)) (hg : w.grownBy w' v.ownBlock) (hgr : Gr v.ownBlock v'.ownBlock w) : OwnLks w' B v' (L ++ [x]) := by
  have h := OwnQ.snoc (E := LkE) (e := 135) h1 h3 hx ho hg hgr
  refine h.mono (fun b hb _ => ⟨hb.1.1, fun e => ?_⟩) (fun g hg2 hh => hh.2 hg2)
  rcases hgr with e2 | ⟨g', e2, hg'⟩
  · exact hb.1.2 (by rw [← e2]; exact e)
  · rw [e2] at e
    injection e with e
    have := hb.2
    omega
def lks1 (z : List Int) (pr p : Int) : Rs Int := (vg z p).bind 0 fun x p1 => if 18446744073709551615 < pr + 1 + x then (0, 0, 13, p) else (pr + 1 + x, p1, 0, 0)
theorem lkr_eq (z : List Int) (pos pr p : Int) : lkr z pos pr p = (lks1 z pr p).bind lk0 fun s p1 => (dl z 4 pos p1).bind lk0 fun l p2 => ((s, l), p2, 0, 0) := by
  unfold lkr lks1
  rw [Rs.bind_assoc]
  congr 1
  funext x p1
  by_cases h : 18446744073709551615 < pr + 1 + x
  · rw [if_pos h, if_pos h]; rfl
  · rw [if_neg h, if_neg h]; rfl
theorem lkr_st {n : Nat} {z : List Int} {pos pr p c q t p1 c1 q1 : Int} {l : List Int} {p2 c2 q2 : Int} (h1 : St 0 n (lks1 z pr p) p c q (if c1 = 0 then t else 0) p1 c1 q1) (h2 : St [] n (dl z 4 pos p1) p1 c1 q1 l p2 c2 q2) :
    St lk0 n (lkr z pos pr p) p c q (if c2 = 0 then (t, l) else lk0) p2 c2 q2 := by
  rw [lkr_eq]
  refine h1.bind (h2.bind ?_)
  by_cases hc : c2 = 0
  · subst hc
    obtain ⟨hc1, _⟩ := h2.good
    rw [if_pos rfl, if_pos hc1]
    exact St.done rfl h2.place.1 h2.place.2
  · rw [if_neg hc]
    exact St.stay h2.place.1 h2.place.2 hc
theorem dl_most {n : Nat} {z : List Int} {mo b p c q : Int} {l : List Int} {p' c' q' : Int} (h : St [] n (dl z mo b p) p c q l p' c' q') (hz : z.length = n) (h0 : 0 ≤ p) (h1 : p ≤ n) (hb : b < 18446744073709551616) (hmo : 0 ≤ mo) (hby : ∀ x ∈ z, 0 ≤ x ∧ x < 256) : (l.length : Int) ≤ mo := by
  by_cases hc : c' = 0
  · subst hc
    obtain ⟨_, g0, gl, _⟩ := h.good
    obtain ⟨l', p2, e, e1, _⟩ := dl_once hby h0 (by rw [hz]; exact h1) hb g0
    rw [e] at gl
    have : l = l' := gl
    subst this
    exact e1
  · rw [h.nil hc]; simpa using hmo
def LkSt (n : Nat) (z : List Int) (pos : Int) (N : Nat) (p1 c1 q1 : Int) (k : Nat) (L : List Lk) (pk ck qk : Int) : Prop :=
  (ck = 0 ∧ c1 = 0 ∧ qk = q1 ∧ lkgo z pos N (-1) p1 [] = lkgo z pos (N - k) (lkp (-1) L L.length) pk L) ∨ (ck ≠ 0 ∧ St [] n (lkgo z pos N (-1) p1 []) p1 c1 q1 [] pk ck qk)
theorem LkSt.start {n : Nat} {z : List Int} {pos : Int} {N : Nat} {p1 c1 q1 : Int} (h0 : 0 ≤ p1) (h1 : p1 ≤ n) : LkSt n z pos N p1 c1 q1 0 [] p1 c1 q1 := by
  by_cases hc : c1 = 0
  · exact .inl ⟨hc, hc, rfl, rfl⟩
  · exact .inr ⟨hc, St.stay h0 h1 hc⟩
theorem lkp_end (L : List Lk) (s : Lk) : lkp (-1) (L ++ [s]) (L ++ [s]).length = s.1 := by
  rw [List.length_append, List.length_singleton, lkp_succ, List.getD_eq_getElem?_getD, List.getElem?_append_right (Nat.le_refl _), Nat.sub_self]; rfl
theorem LkSt.next {n : Nat} {z : List Int} {pos : Int} {N : Nat} {p1 c1 q1 : Int} {k : Nat} {L : List Lk} {pk ck qk : Int} (h : LkSt n z pos N p1 c1 q1 k L pk ck qk) (hk : k < N) {s s2 : Lk} {p' c' q' : Int} (hs : St lk0 n (lkr z pos (lkp (-1) L L.length) pk) pk ck qk s p' c' q') (h2 : c' = 0 → s2 = s) :
    LkSt n z pos N p1 c1 q1 (k + 1) (L ++ [s2]) p' c' q' := by
  obtain ⟨s0, s1⟩ := hs.place
  rcases h with ⟨rfl, rfl, rfl, e⟩ | ⟨hc, h⟩
  · have e2 : lkgo z pos (N - k) (lkp (-1) L L.length) pk L = (lkr z pos (lkp (-1) L L.length) pk).bind [] fun s p' => lkgo z pos (N - (k + 1)) s.1 p' (L ++ [s]) := by
      rw [show N - k = N - (k + 1) + 1 by omega]; rfl
    by_cases hc : c' = 0
    · subst hc
      obtain rfl := h2 rfl
      obtain ⟨_, g0, gl, gp, gq⟩ := hs.good
      refine .inl ⟨rfl, rfl, gq, ?_⟩
      rw [e, e2, lkp_end]
      unfold Rs.bind
      rw [if_neg (by simp [g0]), ← gl, ← gp]
    · refine .inr ⟨hc, ?_⟩
      rw [e, e2]
      have := hs.bind (f := fun s p' => lkgo z pos (N - (k + 1)) s.1 p' (L ++ [s])) (St.stay (d := []) s0 s1 hc)
      obtain ⟨a0, a1, a2⟩ := this
      refine ⟨a0, a1, ?_⟩
      rcases a2 with ⟨h, _⟩ | ⟨_, _, _, _, h, _⟩ | a2
      · exact absurd rfl h
      · exact absurd h hc
      · exact .inr (.inr a2)
  · have hb := hs.bad hc
    obtain ⟨_, rfl, rfl⟩ := hb
    refine .inr ⟨hc, ?_⟩
    obtain ⟨_, _, a2⟩ := h
    refine ⟨s0, s1, ?_⟩
    rcases a2 with a2 | ⟨_, _, _, _, h, _⟩ | a2
    · exact .inl a2
    · exact absurd h hc
    · exact .inr (.inr a2)
theorem LkSt.fin {n : Nat} {z : List Int} {pos : Int} {p c q : Int} {N : Nat} {p1 c1 q1 : Int} {k : Nat} {L : List Lk} {pk ck qk : Int} (h : LkSt n z pos N p1 c1 q1 k L pk ck qk) (h1 : St 0 n (vm z 16 p) p c q (N : Int) p1 c1 q1) (hk : k = N ∨ ck ≠ 0) (h0 : 0 ≤ pk) (h2 : pk ≤ n) :
    St [] n (lrd z pos p) p c q (if ck = 0 then L else []) pk ck qk := by
  unfold lrd
  refine h1.bind ?_
  rw [Int.toNat_natCast]
  rcases h with ⟨rfl, rfl, rfl, e⟩ | ⟨hc, h⟩
  · obtain rfl : k = N := by rcases hk with h | h; exact h; exact absurd rfl h
    rw [if_pos rfl]
    exact St.done (by rw [e, Nat.sub_self]; rfl) h0 h2
  · rw [if_neg hc]; exact h
set_option maxHeartbeats 2000000 in
theorem lstream_any (P : Nat → Prop) (b : Nat) (a : Option Addr) (n m : Nat) (z : List Int) (p c q : Int) (A : Option Addr) (k cap : Nat) (L : List Lk) (w : World) (h : IsRd w b (.slice a n m) p c q) (hz : Bs w a n z) (h0 : 0 ≤ p) (h1 : p ≤ n) (hn : n ≤ 1000000) (hby : ∀ x ∈ z, 0 ≤ x ∧ x < 256)
    (hl : Lks w P A k L) (hk16 : k ≤ 1000000) (hoff : ∀ b', P b' → b' ≠ b) :
    Calls Tryz.prog 169 #[.pointer (some ⟨b, 0, none⟩), .slice A k cap] w (ToPost b (.slice a n m) n (lks1 z (lkp (-1) L L.length) p) p c q w) := by
  have HBY := Lib.hid hby
  have HZL := Lib.hid hz.1
  clear hby
  by_cases hk0 : k = 0
  · have hL : L = [] := List.eq_nil_of_length_eq_zero (by rw [hl.1]; exact hk0)
    subst hk0
    subst hL
    clear hl
    have HG : Hid (∀ v p' c' q', St 0 n (vg z p) p c q v p' c' q' → 0 ≤ v → v < 18446744073709551616 → St 0 n (lks1 z (-1) p) p c q (if c' = 0 then v else 0) p' c' q') := Lib.hid (fun v p' c' q' hs v0 v1 => by
      refine hs.bind ?_
      by_cases hc : c' = 0
      · subst hc
        rw [if_pos rfl]
        exact St.done (by rw [if_neg (by omega)]; congr 1; omega) hs.place.1 hs.place.2
      · rw [if_neg hc]
        exact St.stay hs.place.1 hs.place.2 hc)
    show Calls _ _ _ _ (ToPost b (.slice a n m) n (lks1 z (-1) p) p c q w)
    go_enter Tryz.func169, Tryz.ntmps169
    go_wp2_with fail
    refine (at_any b _ p c q w h).mono ?_
    rintro e w' ⟨rfl, rfl⟩
    go_wp2_with fail
    refine (vread_any _ _ _ _ _ _ _ _ _ h hz h0 h1 hn HBY.out).mono ?_
    rintro e w2 ⟨v, p2, c2, q2, rfl, hk2, hr2, hs2⟩
    have hst := hs2.st hz.1 h0 h1 HBY.out
    have hvb := rd_lt hs2 hz.1 h0 h1 HBY.out
    have HF := Lib.hid (HG.out _ _ _ _ hst hvb.1 hvb.2)
    have HV := Lib.hid hvb
    clear hs2 hst hvb
    go_wp2
    go_ret
    exact ⟨v, p2, c2, q2, rfl, HV.out.1, HV.out.2, hk2, hr2, HF.out⟩
  · obtain ⟨g, o, rfl, hPg, hg, hc⟩ := hl.cells hk0
    obtain ⟨y, zz, aa, ll, mm, he, yb, _, _, _, _, _, _, _, hcell⟩ := hc (k - 1) (by omega)
    have HPR : Hid (lkp (-1) L L.length = y) := Lib.hid (by
      have := lkp_succ (-1) L (k - 1)
      rw [show k - 1 + 1 = k by omega, he] at this
      rw [hl.1]; exact this)
    have hgb := hoff g hPg
    have d0 := (hcell w (Below.refl _ _)).1
    rw [HPR.out]
    have e1 : IntKind.i64.wrap ((k : Int) - 1) = ((k - 1 : Nat) : Int) := by rw [IntWalk.i64_in _ (by omega)]; omega
    have e2 : ((k - 1 : Nat) : Int) < k := by omega
    have e3 : ((k : Int) == 0) = false := by simpa using hk0
    have e4 : IntKind.u64.wrap (18446744073709551615 - y) = 18446744073709551615 - y := IntWalk.u64_in _ (by omega)
    clear hc hcell he hl
    go_enter Tryz.func169, Tryz.ntmps169
    go_wp2_with fail
    refine (at_any b _ p c q w h).mono ?_
    rintro e w' ⟨rfl, rfl⟩
    go_wp2_with fail
    refine (vread_any _ _ _ _ _ _ _ _ _ h hz h0 h1 hn HBY.out).mono ?_
    rintro e w2 ⟨v, p2, c2, q2, rfl, hk2, hr2, hs2⟩
    have hst := hs2.st hz.1 h0 h1 HBY.out
    have hvb := rd_lt hs2 hz.1 h0 h1 HBY.out
    have d1 := (World.cell?_of_block (w := w) (hk2.block g hg hgb)).trans d0
    obtain ⟨p20, p21⟩ := hst.place
    have HS := Lib.hid hst
    clear hs2 hst d0
    by_cases hv : 18446744073709551615 - y ≤ v
    · have d2 : decide (18446744073709551615 - y ≤ v) = true := decide_eq_true hv
      go_wp2_with fail
      refine (fail_any _ _ _ _ _ 13 p _ hr2).mono ?_
      rintro e w3 ⟨c3, q3, rfl, hk3, hr3, hfs⟩
      have hc3 : c3 ≠ 0 := by
        rcases hfs with ⟨_, rfl, _⟩ | ⟨h, rfl, _⟩
        · decide
        · exact h
      have HF : Hid (St 0 n (lks1 z y p) p c q (if c3 = 0 then 0 else 0) p2 c3 q3) := Lib.hid (by
        rw [if_neg hc3]
        exact HS.out.bind (St.fail (d := (0 : Int)) (d' := 0) (x := 0) (by rw [if_pos (by omega)]) (by decide) p20 p21 hfs))
      have HK := Lib.hid (hk2.trans hk3)
      clear hk2 hk3 hfs hc3 hv hvb
      go_wp2
      go_ret
      exact ⟨0, p2, _, _, rfl, by omega, by omega, HK.out, hr3, HF.out⟩
    · have d2 : decide (18446744073709551615 - y ≤ v) = false := decide_eq_false hv
      have e5 : IntKind.u64.wrap (y + v) = y + v := IntWalk.u64_in _ (by omega)
      have e6 : IntKind.u64.wrap (y + v + 1) = y + v + 1 := IntWalk.u64_in _ (by omega)
      have HT : Hid (0 ≤ y + v + 1 ∧ y + v + 1 < 18446744073709551616) := Lib.hid (by omega)
      have HF : Hid (St 0 n (lks1 z y p) p c q (if c2 = 0 then y + v + 1 else 0) p2 c2 q2) := Lib.hid (by
        refine HS.out.bind ?_
        by_cases hc : c2 = 0
        · subst hc
          rw [if_pos rfl]
          exact St.done (by rw [if_neg (by omega)]; congr 1; omega) p20 p21
        · rw [if_neg hc]
          exact St.stay p20 p21 hc)
      clear hv
      go_wp2
      go_ret
      exact ⟨y + v + 1, p2, c2, q2, rfl, HT.out.1, HT.out.2, hk2, hr2, HF.out⟩
end Go.Proofs.YtlealkfkddhnnaaGreat.Cur
namespace Go.Proofs.YtlealkfkddhnnaaGreat.Cur
open Go.RowKit Mem
set_option linter.unusedVariables false
set_option maxRecDepth 100000
def LkRPost (b : Nat) (s : Value) (n : Nat) (z : List Int) (pos p c q : Int) (w : World) (e : Ending) (w' : World) : Prop :=
  ∃ v L p' c' q', e = .returned v ∧ Kp b w w' ∧ IsRd w' b s p' c' q' ∧ OwnLks w' w.heap.size v L ∧ L.length ≤ 16 ∧ (∀ s ∈ L, s.2.length ≤ 4) ∧ St [] n (lrd z pos p) p c q L p' c' q'
theorem own_sq {w : World} {B n c : Nat} {A : Option Addr} {z : List Int} (h : OwnU w B (.slice A n c) z) (hb : ∀ x ∈ z, 0 ≤ x ∧ x < 18446744073709551616) : z.length = n ∧ n ≤ c ∧ (A = none → c = 0) ∧ Sq U64E w (fun b => B ≤ b) A z := by
  obtain ⟨rfl, h1, h2, h3⟩ := OwnU.us h
  exact ⟨rfl, h1, h2, h3.sq hb fun _ a ha => own_ge h a.block (by rw [ha]; rfl)⟩
set_option maxHeartbeats 4000000 in
theorem lread_any (b : Nat) (a : Option Addr) (n m : Nat) (z : List Int) (pos p c q : Int) (w : World) (h : IsRd w b (.slice a n m) p c q) (hz : Bs w a n z) (h0 : 0 ≤ p) (h1 : p ≤ n) (hn : n ≤ 100000) (hby : ∀ x ∈ z, 0 ≤ x ∧ x < 256) (p0 : 0 ≤ pos) (p1' : pos < 18446744073709551616) :
    Calls Tryz.prog 151 #[.pointer (some ⟨b, 0, none⟩), .int .u64 pos] w (LkRPost b (.slice a n m) n z pos p c q w) := by
  have HBY := Lib.hid hby
  have HZL := Lib.hid hz.1
  have HE := Lib.hid (And.intro p0 p1')
  have hbw := h.lt
  have HZ : Hid (∀ w', Kp b w w' → Bs w' a n z) := Lib.hid fun w' hk => hz.kp h (by simp) hk
  clear hby p0 p1'
  go_enter Tryz.func151, Tryz.ntmps151
  go_wp2_with fail
  refine (vint_any _ _ _ _ _ _ _ _ _ _ h hz h0 h1 (by omega) HBY.out (by omega)).mono ?_
  rintro e w1 ⟨N, p1, c1, q1, rfl, hk1, hr1, hs1⟩
  have hst := hs1.st hz.1 h0 h1 HBY.out
  obtain ⟨p10, p11⟩ := hst.place
  obtain ⟨n0, n16⟩ := vm_bd hst HBY.out
  have hN16 : N ≤ 16 := by omega
  obtain ⟨N, rfl⟩ := Int.eq_ofNat_of_zero_le n0
  have HS1 := Lib.hid hst
  have HK1 := Lib.hid hk1
  have H0 := Lib.hid (LkSt.start (z := z) (pos := pos) (N := N) (c1 := c1) (q1 := q1) p10 p11)
  have hsz1 := hk1.size
  clear hs1 hst hk1 n0 n16 h hz
  go_wp2
  go_loopw [5, 10] (fun lv i wr => ∃ (k : Nat) (L : List Lk) (pk ck qk : Int), k ≤ N ∧ i = .int .i64 k ∧ OwnLks wr w.heap.size lv L ∧ L.length = k ∧ Hid (∀ s ∈ L, s.2.length ≤ 4) ∧ IsRd wr b (.slice a n m) pk ck qk ∧ Hid (Kp b w wr) ∧ 0 ≤ pk ∧ pk ≤ n ∧ w.heap.size ≤ wr.heap.size ∧ Hid (ck ≠ 0 → L = []) ∧ Hid (LkSt n z pos N p1 c1 q1 k L pk ck qk)) (fun _ i _ => N - (intOf i).toNat)
  case atStart => exact ⟨0, [], p1, c1, q1, by omega, rfl, OwnLks.nil _ _, rfl, Lib.hid (fun s h => by simp at h), hr1, HK1, p10, p11, hsz1, Lib.hid (fun _ => rfl), H0⟩
  case round =>
    clear hr1 HK1 H0 hsz1
    obtain ⟨k, L, pk, ck, qk, hk, rfl, ho, hLl, HLE, hr, HK, hp0, hp1, hsz, HNE, HST⟩ := hrel
    obtain ⟨Av, cv, rfl, hlc, hnil, hlk⟩ := ho.lks
    have HLL := Lib.hid hLl
    by_cases hlt : k < N
    · have hcon := lstream_any _ b a n m z pk ck qk Av L.length cv L wr hr (HZ.out _ HK.out) hp0 hp1 (by omega) HBY.out hlk (by omega) (fun b' hb' => by have h2 : w.heap.size ≤ b' := hb'; omega)
      rw [hLl] at hcon
      have e2 : (k : Int) < N := by omega
      have e3 : IntKind.i64.wrap ((k : Int) + 1) = ((k + 1 : Nat) : Int) := IntWalk.i64_in _ (by omega)
      have ho' : OwnLks wr w.heap.size (.slice Av k cv) L := by rw [hLl] at ho; exact ho
      have HPR : Hid (lkp (-1) L k = lkp (-1) L L.length) := Lib.hid (by rw [hLl])
      rw [hLl]
      clear hr hlk hnil hlc hLl ho
      go_wp2_with fail
      refine hcon.mono ?_
      rintro en w3 ⟨t, p3, c3, q3, rfl, t0, t1, hk3, hr3, hs3⟩
      have HK3 := Lib.hid (HK.out.trans hk3)
      have ho3 := ho'.kp hk3 hbw
      have hpl3 := hs3.place
      have HS3 := Lib.hid hs3
      have hsz3 := Nat.le_trans hsz hk3.size
      have HTB := Lib.hid (And.intro t0 t1)
      clear hcon hk3 hs3 ho' t0 t1
      go_wp2_with fail
      refine (dread_any b a n m z p3 c3 q3 pos 4 w3 hr3 (HZ.out _ HK3.out) hpl3.1 hpl3.2 hn HBY.out (by omega) HE.out.1 HE.out.2).mono ?_
      rintro en w4 ⟨v4, l4, p4, c4, q4, rfl, ho4, hk4, hr4, hs4, hb4⟩
      have hl4 := dl_most hs4 HZL.out hpl3.1 hpl3.2 HE.out.2 (by omega) HBY.out
      have hpl4 := hs4.place
      have HNX := Lib.hid (HST.out.next (s2 := (t, l4)) hlt (by rw [← HPR.out]; exact lkr_st HS3.out hs4) (fun hc => by rw [if_pos hc]))
      have HK4 := Lib.hid (HK3.out.trans hk4)
      have hoL := ho3.kp hk4 hbw
      have hsz4 := Nat.le_trans hsz3 hk4.size
      have hltv := ho3.lt
      clear hs4 hk4 hr3 ho3
      go_wp2_with fail
      refine (good_any _ _ _ _ _ _ hr4).mono ?_
      rintro en w5 ⟨rfl, hb5⟩
      have hr5 := hr4.below hb5
      have HK5 := Lib.hid (HK4.out.trans (Kp.of_below (b := b) hb5))
      have hoL5 := hoL.below hb5
      have ho5 : OwnU w5 w3.heap.size v4 l4 := own_below ho4 hb5
      have hsz5 := Nat.le_trans hsz4 hb5.size
      clear hr4 hoL ho4 hb5
      by_cases hc : c4 = 0
      · have hcb : (c4 == 0) = true := by simpa using hc
        have HC4 : Hid (c4 ≠ 0 → L ++ [(t, l4)] = []) := Lib.hid (fun h => absurd hc h)
        clear hc
        obtain ⟨A4, m4, rfl⟩ := ho5.slice
        have hA := below_one w5 (.cells #[.int .u64 t, .slice A4 l4.length m4] 135)
        have hrwX := rw_new w5 [.int .u64 t, .slice A4 l4.length m4] 135
        have hoL6 := hoL5.below hA
        have ho6 : OwnU _ w3.heap.size (.slice A4 l4.length m4) l4 := own_below ho5 hA
        have hr6 := hr5.below hA
        have hK6 := HK5.out.trans (Kp.of_below (b := b) hA)
        obtain ⟨_, q1', q2', q3'⟩ := own_sq ho6 hb4
        have hel := LkE.mk HTB.out rfl q1' q2' (q3'.mono (Q := fun i => w.heap.size ≤ i ∧ (Value.slice Av k cv).ownBlock ≠ some i) (fun g hg _ => ⟨by have h2 : w3.heap.size ≤ g := hg; omega, fun e => by have := hltv g e; have h2 : w3.heap.size ≤ g := hg; omega⟩))
        obtain ⟨cs, g1, g2', g3⟩ := hoL6
        have g2 : (w5.alloc (.cells #[.int .u64 t, .slice A4 l4.length m4] 135)).ownsRow w.heap.size 135 2 (.slice Av k cv) L.length cs.flatten := g2'
        clear g2'
        have hge2 := own_ge g2
        have HL1 : Hid (L.length + 1 ≤ 1000000) := Lib.hid (by rw [HLL.out]; omega)
        have hB6 : w.heap.size ≤ (w5.alloc (.cells #[.int .u64 t, .slice A4 l4.length m4] 135)).heap.size := by simp; omega
        have HL4 : Hid (l4.length ≤ 4) := Lib.hid (by omega)
        clear hoL5 ho5 hr5 ho6 hA q1' q2' q3' hltv hb4 hl4
        go_wp2_with (at_builtin; go_must (refine list_append_rw kindLK rfl (.tmp 21) (.tmp 25) rfl w.heap.size _ _ _ rfl g2 _ 1 _ [.int .u64 t, .slice A4 l4.length m4] rfl rfl hrwX (by simp) (by simp [Value.oneCell']) HL1.out (by omega) hB6 ?_; intro v' w8 ho8 hg8 hgr8; have H8 := OwnLks.snoc g1 g3 hel ho8 hg8 hgr8; have hr8 := rd_grown hr6 hg8 (fun e => by have := hge2 b e; omega); have HK8 := Lib.hid (hK6.grown hg8 (fun g e => by have := hge2 g e; omega)); have hs8 := Nat.le_trans hB6 hg8.size; clear g1 g2 g3 hel ho8 hg8 hgr8 hrwX hr6 hge2 hB6 hK6))
        go_roundw
        case rel => exact ⟨k + 1, L ++ [(t, l4)], p4, c4, q4, by omega, by go_num, H8, by simp [HLL.out], Lib.hid (fun s hs => by
          rcases List.mem_append.1 hs with hs | hs
          · exact HLE.out s hs
          · rw [List.mem_singleton] at hs; subst hs; exact HL4.out), hr8, HK8, hpl4.1, hpl4.2, hs8, HC4, HNX⟩
        case measure => simp [intOf]; omega
      · have hcb : (c4 == 0) = false := by simpa using hc
        have HFIN := Lib.hid (HNX.out.fin HS1.out (.inr hc) hpl4.1 hpl4.2)
        rw [if_neg hc] at HFIN
        clear hc
        go_wp2
        go_ret
        exact ⟨_, [], p4, c4, q4, rfl, HK5.out, hr5, OwnLks.nil _ _, by simp, (fun s h => by simp at h), HFIN.out⟩
    · obtain rfl : k = N := by omega
      have HFIN := Lib.hid (HST.out.fin HS1.out (.inl rfl) hp0 hp1)
      by_cases hc : ck = 0
      · rw [if_pos hc] at HFIN
        clear hc
        go_wp2
        go_ret
        exact ⟨_, L, pk, ck, qk, rfl, HK.out, hr, ho, by omega, HLE.out, HFIN.out⟩
      · rw [if_neg hc] at HFIN
        have hL := HNE.out hc
        have HN : Hid ((0 : Nat) ≤ 16) := Lib.hid (by omega)
        clear hc
        go_wp2
        go_ret
        exact ⟨_, [], pk, ck, qk, rfl, HK.out, hr, by rw [hL] at ho ⊢; exact ho, by simp, (fun s h => by simp at h), HFIN.out⟩
end Go.Proofs.YtlealkfkddhnnaaGreat.Cur
namespace Go.Proofs.YtlealkfkddhnnaaGreat.Cur
open Go.RowKit Mem
set_option linter.unusedVariables false
set_option maxRecDepth 100000
theorem OwnLks.base {w : World} {B B' : Nat} {v : Value} {L : List Lk} (h : OwnLks w B v L) (hB : B' ≤ B) : OwnLks w B' v L := by
  obtain ⟨cs, h1, h2, h3⟩ := h
  exact ⟨cs, h1.mono (fun b hb _ => ⟨Nat.le_trans hB hb.1, hb.2⟩), ⟨h2.1, h2.2.imp id fun ⟨g, cap, cur, e, hg, r⟩ => ⟨g, cap, cur, e, Nat.le_trans hB hg, r⟩⟩, fun g hg hh => hh.2 hg⟩
def RLkPost (s : Value) (n : Nat) (z : List Int) (pos p c q : Int) (w : World) (e : Ending) (w' : World) : Prop :=
  ∃ v L p' c' q', e = .returned (.tuple #[cv s p' c' q', v]) ∧ Below w.heap.size w w' ∧ OwnLks w' w.heap.size v L ∧ L.length ≤ 16 ∧ (∀ s ∈ L, s.2.length ≤ 4) ∧ St [] n (lrd z pos p) p c q L p' c' q'
def RLL (a : Option Addr) (n m : Nat) (z : List Int) (pos : Int) (W : World) (D N : Nat) (p1 c1 q1 : Int) (k : Nat) (v : Value) (L : List Lk) (pk ck qk : Int) (wr : World) : Prop :=
  Blk wr D (cvs (.slice a n m) pk ck qk) 50 ∧ Blk wr (W.heap.size + 1) (cvs (.slice none 0 0) 0 0 0) 50 ∧ OwnLks wr (D + 1) v L ∧ L.length = k ∧ (∀ s ∈ L, s.2.length ≤ 4) ∧ Below W.heap.size W wr ∧ 0 ≤ pk ∧ pk ≤ n ∧ LkSt n z pos N p1 c1 q1 k L pk ck qk
set_option maxHeartbeats 8000000 in
theorem rlread_any (a : Option Addr) (n m : Nat) (z : List Int) (pos p c q : Int) (w : World) (hz : Bs w a n z) (h0 : 0 ≤ p) (h1 : p ≤ n) (hm : n ≤ m) (hn : n ≤ 100000) (hby : ∀ x ∈ z, 0 ≤ x ∧ x < 256) (q0 : 0 ≤ pos) (q1' : pos < 18446744073709551616) :
    Calls Tryz.prog 99 #[cv (.slice a n m) p c q, .int .u64 pos] w (RLkPost (.slice a n m) n z pos p c q w) := by
  have HBY := Lib.hid hby
  have HZL := Lib.hid hz.1
  have HZ := Lib.hid hz
  have HP := Lib.hid (And.intro q0 q1')
  clear hby q0 q1'
  go_enter Tryz.func99, Tryz.ntmps99
  go_wp2_with fail
  refine (rint_any _ _ _ _ _ _ _ _ _ (hz.below (below_two _ _ _)) h0 h1 hm (by omega) HBY.out (by omega)).mono ?_
  rintro e w1 ⟨N, p1, c1, q1, rfl, hb1, hs1⟩
  obtain ⟨hC0, hR0, hbd0⟩ := two_new hb1
  have hst := hs1.st hz.1 h0 h1 HBY.out
  obtain ⟨p10, p11⟩ := hst.place
  obtain ⟨n0, n16⟩ := vm_bd hst HBY.out
  have hN16 : N ≤ 16 := by omega
  have HS := Lib.hid hst
  obtain ⟨N, rfl⟩ := Int.eq_ofNat_of_zero_le n0
  have hbd := hbd0.alloc hbd0.size (.cells (cvs (.slice a n m) p1 c1 q1) 50)
  have hR := hR0.alloc (.cells (cvs (.slice a n m) p1 c1 q1) 50)
  have hD := Blk.new w1 (cvs (.slice a n m) p1 c1 q1) 50
  have hwD : w.heap.size + 1 < w1.heap.size := hR0.lt
  have H0 : Hid (RLL a n m z pos w w1.heap.size N p1 c1 q1 0 (.slice none 0 0) [] p1 c1 q1 (w1.alloc (.cells (cvs (.slice a n m) p1 c1 q1) 50))) := Lib.hid ⟨hD, hR, OwnLks.nil _ _, rfl, (fun s h => by simp at h), hbd, p10, p11, LkSt.start p10 p11⟩
  clear hb1 hC0 hR0 hbd0 hs1 hst hD hR hbd n0 n16 hz
  go_wp2
  generalize w1.alloc (.cells (cvs (.slice a n m) p1 c1 q1) 50) = w2 at *
  generalize w1.heap.size = D at *
  go_loopw [8, 9] (fun lv i wr => ∃ (k : Nat) (v : Value) (L : List Lk) (pk ck qk : Int), k ≤ N ∧ i = .int .i64 k ∧ lv = v ∧ Hid (RLL a n m z pos w D N p1 c1 q1 k v L pk ck qk wr)) (fun _ i _ => N - (intOf i).toNat)
  case atStart => exact ⟨0, _, _, _, _, _, by omega, rfl, rfl, H0⟩
  case round =>
    clear H0
    obtain ⟨k, v, L, pk, ck, qk, hk, rfl, rfl, HR0⟩ := hrel
    obtain ⟨hD, hR, ho, hLl, hle, hbd, hp0, hp1, hst⟩ := HR0.out
    have HLL := Lib.hid hLl
    have HLE := Lib.hid hle
    have HST := Lib.hid hst
    obtain ⟨Av, cq9, rfl, hcv, hnil, hlk⟩ := ho.lks
    rw [hLl] at ho hlk ⊢
    have HVLT := Lib.hid ho.lt
    obtain ⟨d0, d1, d2, d3⟩ := hD.c4
    clear HR0 hle hst hcv hnil hLl
    by_cases hck : ck = 0
    case neg =>
      have hcb : (ck == 0) = false := by simpa using hck
      have hcb' : (ck != 0) = true := by simpa using hck
      have HFIN := Lib.hid (HST.out.fin HS.out (.inr hck) hp0 hp1)
      rw [if_neg hck] at HFIN
      clear hck hlk ho
      by_cases hlt : k < N
      · have e4 : (k : Int) < N := by omega
        obtain ⟨r0, r1, r2, r3⟩ := hR.c4
        obtain ⟨g0, g1, g2, g3⟩ := hR.f4
        obtain ⟨_, hkR⟩ := set4 hR (.slice a n m) (.int .i64 pk) (.int .i64 ck) (.int .i64 qk)
        have HBE := Lib.hid (Kp.below hbd (Nat.le_refl _) hkR (by omega))
        clear hR hD hkR hbd
        go_wp2
        refine bodyPost_ret (v := .tuple #[cv (.slice a n m) pk ck qk, .slice none 0 0]) (by simp [results, Tryz.results99, go_sem, r0, r1, r2, r3]) rfl ⟨_, [], _, _, _, rfl, HBE.out, OwnLks.nil _ _, by simp, (fun s h => by simp at h), HFIN.out⟩
      · have e4 : ¬ (k : Int) < N := by omega
        obtain ⟨r0, r1, r2, r3⟩ := hR.c4
        obtain ⟨g0, g1, g2, g3⟩ := hR.f4
        obtain ⟨_, hkR⟩ := set4 hR (.slice a n m) (.int .i64 pk) (.int .i64 ck) (.int .i64 qk)
        have HBE := Lib.hid (Kp.below hbd (Nat.le_refl _) hkR (by omega))
        clear hR hD hkR hbd
        go_wp2
        refine bodyPost_ret (v := .tuple #[cv (.slice a n m) pk ck qk, .slice none 0 0]) (by simp [results, Tryz.results99, go_sem, r0, r1, r2, r3]) rfl ⟨_, [], _, _, _, rfl, HBE.out, OwnLks.nil _ _, by simp, (fun s h => by simp at h), HFIN.out⟩
    subst hck
    by_cases hlt : k < N
    case neg =>
      obtain rfl : k = N := by omega
      have HFIN := Lib.hid (HST.out.fin HS.out (.inl rfl) hp0 hp1)
      rw [if_pos rfl] at HFIN
      have e4 : ¬ (k : Int) < k := by omega
      obtain ⟨r0, r1, r2, r3⟩ := hR.c4
      obtain ⟨g0, g1, g2, g3⟩ := hR.f4
      obtain ⟨_, hkR⟩ := set4 hR (.slice a n m) (.int .i64 pk) (.int .i64 0) (.int .i64 qk)
      have HBE := Lib.hid (Kp.below hbd (Nat.le_refl _) hkR (by omega))
      have HO := Lib.hid ((ho.kp hkR (by omega)).base (B' := w.heap.size) (by omega))
      have HN9 : Hid (L.length ≤ 16) := Lib.hid (by rw [HLL.out]; omega)
      clear hR hD hkR hbd ho hlk
      go_wp2
      refine bodyPost_ret (v := .tuple #[cv (.slice a n m) pk 0 qk, .slice Av k cq9]) (by simp [results, Tryz.results99, go_sem, r0, r1, r2, r3]) rfl ⟨_, L, _, _, _, rfl, HBE.out, HO.out, HN9.out, HLE.out, HFIN.out⟩
    have e4 : (k : Int) < N := by omega
    have e3 : IntKind.i64.wrap ((k : Int) + 1) = ((k + 1 : Nat) : Int) := IntWalk.i64_in _ (by omega)
    go_wp2_with fail
    refine (rread_any _ _ _ _ _ _ _ _ (HZ.out.below hbd) hp0 hp1 hm (by omega) HBY.out).mono ?_
    rintro e w3 ⟨x, p', c', q', rfl, hb3, hs3⟩
    have hst3 := hs3.st HZL.out hp0 hp1 HBY.out
    have hx := rd_lt hs3 HZL.out hp0 hp1 HBY.out
    obtain ⟨pe0, pe1⟩ := hst3.place
    have HS3 := Lib.hid hst3
    have hE := Blk.new w3 (cvs (.slice a n m) p' c' q') 50
    have hbE0 := below_one w3 (.cells (cvs (.slice a n m) p' c' q') 50)
    have hbE := hb3.trans (hbE0.mono hb3.size)
    have hw6 : wr.heap.size ≤ (w3.alloc (.cells (cvs (.slice a n m) p' c' q') 50)).heap.size := Nat.le_trans hb3.size hbE0.size
    have hEw : wr.heap.size ≤ w3.heap.size := hb3.size
    have hDw := hD.lt
    have HO0 := Lib.hid ho
    have HBW := Lib.hid hbE
    replace hD := hD.below hbE
    replace hR := hR.below hbE
    replace ho := ho.below hbE
    replace hlk := hlk.below hbE
    replace hbd := hbd.trans (hbE.mono hbd.size)
    clear hs3 hst3 hb3 hbE hbE0 d0 d1 d2 d3
    go_upto_region 7 with (fail)
    generalize w3.alloc (.cells (cvs (.slice a n m) p' c' q') 50) = w6 at *
    generalize w3.heap.size = E at *
    obtain ⟨y0, y1, y2, y3⟩ := hE.c4
    by_cases hk0 : k = 0
    · have e5 : ¬ 0 < (k : Int) := by omega
      have e5n : ¬ 0 < k := by omega
      have HXB := Lib.hid hx
      have hx0 : St 0 n (lks1 z (lkp (-1) L L.length) pk) pk 0 qk (if c' = 0 then x else 0) p' c' q' := by
        rw [show lkp (-1) L L.length = -1 by rw [HLL.out, hk0, lkp_zero]]
        refine HS3.out.bind ?_
        by_cases hc : c' = 0
        · subst hc
          rw [if_pos rfl]
          exact St.done (by rw [if_neg (by omega)]; congr 1; omega) pe0 pe1
        · rw [if_neg hc]
          exact St.stay pe0 pe1 hc
      have HX := Lib.hid (fun l p2 c2 q2 (h2 : St [] n (dl z 4 pos p') p' c' q' l p2 c2 q2) => lkr_st hx0 h2)
      clear hx0
      clear hk0 hlk y0 y1 y2 y3
      obtain ⟨y0, y1, y2, y3⟩ := hE.c4
      go_wp2_with fail
      with_reducible refine (rdread_any a n m z p' c' q' pos 4 w6 (HZ.out.below hbd) pe0 pe1 hm hn HBY.out (by omega) HP.out.1 HP.out.2).mono ?_
      rintro en w7 ⟨v7, l7, p7, c7, q7, rfl, ho7, hb7, hs7, hlb7⟩
      have hl4 := dl_most hs7 HZL.out pe0 pe1 HP.out.2 (by omega) HBY.out
      have HNX := Lib.hid (HST.out.next (s2 := (x, l7)) hlt (HX.out _ _ _ _ hs7) (fun hc => by rw [if_pos hc]))
      have HPL7 := Lib.hid hs7.place
      have HL4 : Hid (l7.length ≤ 4) := Lib.hid (by omega)
      have hF := Blk.new w7 (cvs (.slice a n m) p7 c7 q7) 50
      have hbF0 := below_one w7 (.cells (cvs (.slice a n m) p7 c7 q7) 50)
      have hbF := hb7.trans (hbF0.mono hb7.size)
      have hwF : wr.heap.size ≤ w7.heap.size := Nat.le_trans hw6 hb7.size
      have hDF := hD.lt
      replace hD := hD.below hbF
      replace hR := hR.below hbF
      replace ho := ho.below hbF
      replace hbd := hbd.trans (hbF.mono hbd.size)
      replace ho7 : OwnU _ w6.heap.size v7 l7 := own_below ho7 hbF0
      have hFl := hF.lt
      clear hs7 hb7 hbF hbF0 hE y0 y1 y2 y3 hl4
      go_upto_region 13 with (fail)
      generalize w7.alloc (.cells (cvs (.slice a n m) p7 c7 q7) 50) = w8 at *
      generalize w7.heap.size = fb at *
      generalize w6.heap.size = b6 at *
      obtain ⟨A7, m7, rfl⟩ := ho7.slice
      have hA := below_one w8 (.cells #[.int .u64 x, .slice A7 l7.length m7] 135)
      have hrwX := rw_new w8 [.int .u64 x, .slice A7 l7.length m7] 135
      have hoA := ho.below hA
      have ho7A : OwnU _ b6 (.slice A7 l7.length m7) l7 := own_below ho7 hA
      have hDA := hD.below hA
      have hRA := hR.below hA
      have hFA := hF.below hA
      have hbdA := hbd.trans (hA.mono hbd.size)
      obtain ⟨_, t1, t2, t3⟩ := own_sq ho7A hlb7
      have hel := LkE.mk HXB.out rfl t1 t2 (t3.mono (Q := fun i => D + 1 ≤ i ∧ (Value.slice Av k cq9).ownBlock ≠ some i) (fun g hg _ => ⟨by have h2 : b6 ≤ g := hg; omega, fun e => by have := HVLT.out g e; have h2 : b6 ≤ g := hg; omega⟩))
      obtain ⟨cs, g1, g2', g3⟩ := hoA
      have g2 : (w8.alloc (.cells #[.int .u64 x, .slice A7 l7.length m7] 135)).ownsRow (D + 1) 135 2 (.slice Av k cq9) L.length cs.flatten := g2'
      clear g2'
      have hge2 := own_ge g2
      have HL1 : Hid (L.length + 1 ≤ 1000000) := Lib.hid (by rw [HLL.out]; omega)
      have hB8 : D + 1 ≤ (w8.alloc (.cells #[.int .u64 x, .slice A7 l7.length m7] 135)).heap.size := by simp; omega
      clear hD hR hF ho ho7 ho7A hbd hA t1 t2 t3
      go_wp2_with (at_builtin; go_must (refine list_append_rw kindLK rfl (.tmp 74) (.tmp 78) rfl (D + 1) _ _ _ rfl g2 _ 1 _ [.int .u64 x, .slice A7 l7.length m7] rfl rfl hrwX (by simp) (by simp [Value.oneCell']) HL1.out (by omega) hB8 ?_; intro v' w9 ho9 hg9 hgr9; have H9 := OwnLks.snoc g1 g3 hel ho9 hg9 hgr9; have hkk : Ks (fun g => D + 1 ≤ g) _ w9 := Ks.of_grown hg9 (fun g e => hge2 g e); have hD9 := hDA.ks hkk (by omega); have hR9 := hRA.ks hkk (by omega); have hF9 : Blk w9 fb (cvs (.slice a n m) p7 c7 q7) 50 := hFA.ks (Ks.of_grown (S := fun i => (Value.slice Av k cq9).ownBlock = some i) hg9 (fun i e => e)) (fun e => by have := HVLT.out fb e; omega); have hbd9 := hkk.below hbdA (Nat.le_refl _) (fun g hg => by omega); obtain ⟨hDs, hkD⟩ := set4 hD9 (.slice a n m) (.int .i64 p7) (.int .i64 c7) (.int .i64 q7); have HEND : Hid (RLL a n m z pos w D N p1 c1 q1 (k + 1) v' (L ++ [(x, l7)]) p7 c7 q7 ((((w9.setCell ⟨D, 0, none⟩ (.slice a n m)).setCell ⟨D, 1, none⟩ (.int .i64 p7)).setCell ⟨D, 2, none⟩ (.int .i64 c7)).setCell ⟨D, 3, none⟩ (.int .i64 q7))) := Lib.hid ⟨hDs, blk_kp hR9 hkD (by omega), H9.kp hkD (by omega), by simp [HLL.out], (fun s hs => by
            rcases List.mem_append.1 hs with hs | hs
            · exact HLE.out s hs
            · rw [List.mem_singleton] at hs; subst hs; exact HL4.out), Kp.below hbd9 (Nat.le_refl _) hkD (by omega), HPL7.out.1, HPL7.out.2, HNX.out⟩; obtain ⟨z0, z1, z2, z3⟩ := hF9.c4; obtain ⟨f0, f1, f2, f3⟩ := hD9.f4; obtain ⟨d0, d1, d2, d3⟩ := hD9.c4; clear g1 g2 g3 hel ho9 hg9 hgr9 hrwX hge2 hB8 H9 hkk hDA hD9 hRA hR9 hFA hF9 hbdA hbd9 hDs hkD))
      go_roundw
      case rel => exact ⟨k + 1, v', L ++ [(x, l7)], p7, c7, q7, by omega, by go_num, rfl, HEND⟩
      case measure => simp [intOf]; omega
    · have e5 : 0 < (k : Int) := by omega
      have e5n : 0 < k := by omega
      by_cases hc : c' = 0
      · subst hc
        obtain ⟨g, o, rfl, hPg, hg, hcs⟩ := hlk.cells (by omega)
        obtain ⟨y, zz, aa, ll, mm, he, yb, _, _, _, _, _, _, _, hcell⟩ := hcs (k - 1) (by omega)
        have HPR : Hid (lkp (-1) L L.length = y) := Lib.hid (by
          have := lkp_succ (-1) L (k - 1)
          rw [show k - 1 + 1 = k by omega, he] at this
          rw [HLL.out]; exact this)
        have b0 := (hcell w6 (Below.refl _ _)).1
        have e6 : IntKind.i64.wrap ((k : Int) - 1) = ((k - 1 : Nat) : Int) := by rw [IntWalk.i64_in _ (by omega)]; omega
        have e7 : ((k - 1 : Nat) : Int) < (k : Int) := by omega
        have e7n : k - 1 < k := by omega
        have e8 : IntKind.u64.wrap (18446744073709551615 - y) = 18446744073709551615 - y := IntWalk.u64_in _ (by omega)
        clear hcs hcell he hlk hk0
        by_cases hv : 18446744073709551615 - y ≤ x
        · have hD1 := hD.c4.2.1
          obtain ⟨T, hT⟩ : ∃ T, T = IntKind.u64.wrap (IntKind.u64.wrap (y + x) + 1) := ⟨_, rfl⟩
          have hTb := wrap_bd (IntKind.u64.wrap (y + x) + 1)
          rw [← hT] at hTb
          have HXB := Lib.hid hTb
          have hT2 := hT.symm
          by_cases hv2 : 18446744073709551615 - y < x
          · have dx1 : decide (18446744073709551615 - y < x) = true := decide_eq_true hv2
            clear hv2 hT hTb
            go_wp2_with fail
            with_reducible refine (rfail_any _ _ _ _ _ _ _ _ _).mono ?_
            rintro en w5 ⟨c5, q5, rfl, hb5, hf5⟩
            have hc5 : c5 ≠ 0 := by
              rcases hf5 with ⟨_, rfl, _⟩ | ⟨h, rfl, _⟩
              · decide
              · exact h
            have hx0 : St 0 n (lks1 z (lkp (-1) L L.length) pk) pk 0 qk (if c5 = 0 then T else 0) p' c5 q5 := by
              rw [HPR.out, if_neg hc5]
              exact HS3.out.bind (St.fail (d := (0 : Int)) (d' := 0) (x := 0) (by rw [if_pos (by omega)]) (by decide) pe0 pe1 hf5)
            have HX := Lib.hid (fun l p2 c2 q2 (h2 : St [] n (dl z 4 pos p') p' c5 q5 l p2 c2 q2) => lkr_st hx0 h2)
            clear hx0
            replace hD := hD.below hb5
            replace hR := hR.below hb5
            replace hE := hE.below hb5
            replace hbd := hbd.trans (hb5.mono hbd.size)
            have hbW5 := HBW.out.trans (hb5.mono HBW.out.size)
            clear hf5 hc5 hb5 hD1 y0 y1 y2 y3 b0 ho hv
            obtain ⟨y0, y1, y2, y3⟩ := hE.c4
            obtain ⟨s0, s1, s2, s3⟩ := hE.f4
            obtain ⟨hE2, hkE⟩ := set4 hE (.slice a n m) (.int .i64 p') (.int .i64 c5) (.int .i64 q5)
            replace hD := blk_kp hD hkE (by omega)
            replace hR := blk_kp hR hkE (by omega)
            replace hbd := Kp.below hbd (Nat.le_refl _) hkE (by omega)
            have hbW6 := Kp.below hbW5 (Nat.le_refl _) hkE (by omega)
            have ho := HO0.out.below hbW6
            have hw6 := hbW6.size
            clear hE hkE hbW5 hbW6
            go_upto_region 11 with (fail)
            clear y0 y1 y2 y3 s0 s1 s2 s3
            generalize ((((w5.setCell ⟨E, 0, none⟩ (.slice a n m)).setCell ⟨E, 1, none⟩ (.int .i64 p')).setCell ⟨E, 2, none⟩ (.int .i64 c5)).setCell ⟨E, 3, none⟩ (.int .i64 q5)) = w6 at *
            have hE := hE2
            clear hE2
            obtain ⟨y0, y1, y2, y3⟩ := hE.c4
            go_wp2_with fail
            with_reducible refine (rdread_any a n m z p' c5 q5 pos 4 w6 (HZ.out.below hbd) pe0 pe1 hm hn HBY.out (by omega) HP.out.1 HP.out.2).mono ?_
            rintro en w7 ⟨v7, l7, p7, c7, q7, rfl, ho7, hb7, hs7, hlb7⟩
            have hl4 := dl_most hs7 HZL.out pe0 pe1 HP.out.2 (by omega) HBY.out
            have HNX := Lib.hid (HST.out.next (s2 := (T, l7)) hlt (HX.out _ _ _ _ hs7) (fun hc => by rw [if_pos hc]))
            have HPL7 := Lib.hid hs7.place
            have HL4 : Hid (l7.length ≤ 4) := Lib.hid (by omega)
            have hF := Blk.new w7 (cvs (.slice a n m) p7 c7 q7) 50
            have hbF0 := below_one w7 (.cells (cvs (.slice a n m) p7 c7 q7) 50)
            have hbF := hb7.trans (hbF0.mono hb7.size)
            have hwF : wr.heap.size ≤ w7.heap.size := Nat.le_trans hw6 hb7.size
            have hDF := hD.lt
            replace hD := hD.below hbF
            replace hR := hR.below hbF
            replace ho := ho.below hbF
            replace hbd := hbd.trans (hbF.mono hbd.size)
            replace ho7 : OwnU _ w6.heap.size v7 l7 := own_below ho7 hbF0
            have hFl := hF.lt
            clear hs7 hb7 hbF hbF0 hE y0 y1 y2 y3 hl4
            go_upto_region 13 with (fail)
            generalize w7.alloc (.cells (cvs (.slice a n m) p7 c7 q7) 50) = w8 at *
            generalize w7.heap.size = fb at *
            generalize w6.heap.size = b6 at *
            obtain ⟨A7, m7, rfl⟩ := ho7.slice
            have hA := below_one w8 (.cells #[.int .u64 T, .slice A7 l7.length m7] 135)
            have hrwX := rw_new w8 [.int .u64 T, .slice A7 l7.length m7] 135
            have hoA := ho.below hA
            have ho7A : OwnU _ b6 (.slice A7 l7.length m7) l7 := own_below ho7 hA
            have hDA := hD.below hA
            have hRA := hR.below hA
            have hFA := hF.below hA
            have hbdA := hbd.trans (hA.mono hbd.size)
            obtain ⟨_, t1, t2, t3⟩ := own_sq ho7A hlb7
            have hel := LkE.mk HXB.out rfl t1 t2 (t3.mono (Q := fun i => D + 1 ≤ i ∧ (Value.slice (some ⟨g, o, none⟩) k cq9).ownBlock ≠ some i) (fun g hg _ => ⟨by have h2 : b6 ≤ g := hg; omega, fun e => by have := HVLT.out g e; have h2 : b6 ≤ g := hg; omega⟩))
            obtain ⟨cs, g1, g2', g3⟩ := hoA
            have g2 : (w8.alloc (.cells #[.int .u64 T, .slice A7 l7.length m7] 135)).ownsRow (D + 1) 135 2 (.slice (some ⟨g, o, none⟩) k cq9) L.length cs.flatten := g2'
            clear g2'
            have hge2 := own_ge g2
            have HL1 : Hid (L.length + 1 ≤ 1000000) := Lib.hid (by rw [HLL.out]; omega)
            have hB8 : D + 1 ≤ (w8.alloc (.cells #[.int .u64 T, .slice A7 l7.length m7] 135)).heap.size := by simp; omega
            clear hD hR hF ho ho7 ho7A hbd hA t1 t2 t3
            go_wp2_with (at_builtin; go_must (refine list_append_rw kindLK rfl (.tmp 74) (.tmp 78) rfl (D + 1) _ _ _ rfl g2 _ 1 _ [.int .u64 T, .slice A7 l7.length m7] rfl rfl hrwX (by simp) (by simp [Value.oneCell']) HL1.out (by omega) hB8 ?_; intro v' w9 ho9 hg9 hgr9; have H9 := OwnLks.snoc g1 g3 hel ho9 hg9 hgr9; have hkk : Ks (fun g => D + 1 ≤ g) _ w9 := Ks.of_grown hg9 (fun g e => hge2 g e); have hD9 := hDA.ks hkk (by omega); have hR9 := hRA.ks hkk (by omega); have hF9 : Blk w9 fb (cvs (.slice a n m) p7 c7 q7) 50 := hFA.ks (Ks.of_grown (S := fun i => (Value.slice (some ⟨g, o, none⟩) k cq9).ownBlock = some i) hg9 (fun i e => e)) (fun e => by have := HVLT.out fb e; omega); have hbd9 := hkk.below hbdA (Nat.le_refl _) (fun g hg => by omega); obtain ⟨hDs, hkD⟩ := set4 hD9 (.slice a n m) (.int .i64 p7) (.int .i64 c7) (.int .i64 q7); have HEND : Hid (RLL a n m z pos w D N p1 c1 q1 (k + 1) v' (L ++ [(T, l7)]) p7 c7 q7 ((((w9.setCell ⟨D, 0, none⟩ (.slice a n m)).setCell ⟨D, 1, none⟩ (.int .i64 p7)).setCell ⟨D, 2, none⟩ (.int .i64 c7)).setCell ⟨D, 3, none⟩ (.int .i64 q7))) := Lib.hid ⟨hDs, blk_kp hR9 hkD (by omega), H9.kp hkD (by omega), by simp [HLL.out], (fun s hs => by
                  rcases List.mem_append.1 hs with hs | hs
                  · exact HLE.out s hs
                  · rw [List.mem_singleton] at hs; subst hs; exact HL4.out), Kp.below hbd9 (Nat.le_refl _) hkD (by omega), HPL7.out.1, HPL7.out.2, HNX.out⟩; obtain ⟨z0, z1, z2, z3⟩ := hF9.c4; obtain ⟨f0, f1, f2, f3⟩ := hD9.f4; obtain ⟨d0, d1, d2, d3⟩ := hD9.c4; clear g1 g2 g3 hel ho9 hg9 hgr9 hrwX hge2 hB8 H9 hkk hDA hD9 hRA hR9 hFA hF9 hbdA hbd9 hDs hkD))
            go_roundw
            case rel => exact ⟨k + 1, v', L ++ [(T, l7)], p7, c7, q7, by omega, by go_num, rfl, HEND⟩
            case measure => simp [intOf]; omega
          · have dx1 : decide (18446744073709551615 - y < x) = false := decide_eq_false hv2
            have dx2 : (x == 18446744073709551615 - y) = true := by simp; omega
            clear hv2 hT hTb
            go_wp2_with fail
            with_reducible refine (rfail_any _ _ _ _ _ _ _ _ _).mono ?_
            rintro en w5 ⟨c5, q5, rfl, hb5, hf5⟩
            have hc5 : c5 ≠ 0 := by
              rcases hf5 with ⟨_, rfl, _⟩ | ⟨h, rfl, _⟩
              · decide
              · exact h
            have hx0 : St 0 n (lks1 z (lkp (-1) L L.length) pk) pk 0 qk (if c5 = 0 then T else 0) p' c5 q5 := by
              rw [HPR.out, if_neg hc5]
              exact HS3.out.bind (St.fail (d := (0 : Int)) (d' := 0) (x := 0) (by rw [if_pos (by omega)]) (by decide) pe0 pe1 hf5)
            have HX := Lib.hid (fun l p2 c2 q2 (h2 : St [] n (dl z 4 pos p') p' c5 q5 l p2 c2 q2) => lkr_st hx0 h2)
            clear hx0
            replace hD := hD.below hb5
            replace hR := hR.below hb5
            replace hE := hE.below hb5
            replace hbd := hbd.trans (hb5.mono hbd.size)
            have hbW5 := HBW.out.trans (hb5.mono HBW.out.size)
            clear hf5 hc5 hb5 hD1 y0 y1 y2 y3 b0 ho hv
            obtain ⟨y0, y1, y2, y3⟩ := hE.c4
            obtain ⟨s0, s1, s2, s3⟩ := hE.f4
            obtain ⟨hE2, hkE⟩ := set4 hE (.slice a n m) (.int .i64 p') (.int .i64 c5) (.int .i64 q5)
            replace hD := blk_kp hD hkE (by omega)
            replace hR := blk_kp hR hkE (by omega)
            replace hbd := Kp.below hbd (Nat.le_refl _) hkE (by omega)
            have hbW6 := Kp.below hbW5 (Nat.le_refl _) hkE (by omega)
            have ho := HO0.out.below hbW6
            have hw6 := hbW6.size
            clear hE hkE hbW5 hbW6
            go_upto_region 11 with (fail)
            clear y0 y1 y2 y3 s0 s1 s2 s3
            generalize ((((w5.setCell ⟨E, 0, none⟩ (.slice a n m)).setCell ⟨E, 1, none⟩ (.int .i64 p')).setCell ⟨E, 2, none⟩ (.int .i64 c5)).setCell ⟨E, 3, none⟩ (.int .i64 q5)) = w6 at *
            have hE := hE2
            clear hE2
            obtain ⟨y0, y1, y2, y3⟩ := hE.c4
            go_wp2_with fail
            with_reducible refine (rdread_any a n m z p' c5 q5 pos 4 w6 (HZ.out.below hbd) pe0 pe1 hm hn HBY.out (by omega) HP.out.1 HP.out.2).mono ?_
            rintro en w7 ⟨v7, l7, p7, c7, q7, rfl, ho7, hb7, hs7, hlb7⟩
            have hl4 := dl_most hs7 HZL.out pe0 pe1 HP.out.2 (by omega) HBY.out
            have HNX := Lib.hid (HST.out.next (s2 := (T, l7)) hlt (HX.out _ _ _ _ hs7) (fun hc => by rw [if_pos hc]))
            have HPL7 := Lib.hid hs7.place
            have HL4 : Hid (l7.length ≤ 4) := Lib.hid (by omega)
            have hF := Blk.new w7 (cvs (.slice a n m) p7 c7 q7) 50
            have hbF0 := below_one w7 (.cells (cvs (.slice a n m) p7 c7 q7) 50)
            have hbF := hb7.trans (hbF0.mono hb7.size)
            have hwF : wr.heap.size ≤ w7.heap.size := Nat.le_trans hw6 hb7.size
            have hDF := hD.lt
            replace hD := hD.below hbF
            replace hR := hR.below hbF
            replace ho := ho.below hbF
            replace hbd := hbd.trans (hbF.mono hbd.size)
            replace ho7 : OwnU _ w6.heap.size v7 l7 := own_below ho7 hbF0
            have hFl := hF.lt
            clear hs7 hb7 hbF hbF0 hE y0 y1 y2 y3 hl4
            go_upto_region 13 with (fail)
            generalize w7.alloc (.cells (cvs (.slice a n m) p7 c7 q7) 50) = w8 at *
            generalize w7.heap.size = fb at *
            generalize w6.heap.size = b6 at *
            obtain ⟨A7, m7, rfl⟩ := ho7.slice
            have hA := below_one w8 (.cells #[.int .u64 T, .slice A7 l7.length m7] 135)
            have hrwX := rw_new w8 [.int .u64 T, .slice A7 l7.length m7] 135
            have hoA := ho.below hA
            have ho7A : OwnU _ b6 (.slice A7 l7.length m7) l7 := own_below ho7 hA
            have hDA := hD.below hA
            have hRA := hR.below hA
            have hFA := hF.below hA
            have hbdA := hbd.trans (hA.mono hbd.size)
            obtain ⟨_, t1, t2, t3⟩ := own_sq ho7A hlb7
            have hel := LkE.mk HXB.out rfl t1 t2 (t3.mono (Q := fun i => D + 1 ≤ i ∧ (Value.slice (some ⟨g, o, none⟩) k cq9).ownBlock ≠ some i) (fun g hg _ => ⟨by have h2 : b6 ≤ g := hg; omega, fun e => by have := HVLT.out g e; have h2 : b6 ≤ g := hg; omega⟩))
            obtain ⟨cs, g1, g2', g3⟩ := hoA
            have g2 : (w8.alloc (.cells #[.int .u64 T, .slice A7 l7.length m7] 135)).ownsRow (D + 1) 135 2 (.slice (some ⟨g, o, none⟩) k cq9) L.length cs.flatten := g2'
            clear g2'
            have hge2 := own_ge g2
            have HL1 : Hid (L.length + 1 ≤ 1000000) := Lib.hid (by rw [HLL.out]; omega)
            have hB8 : D + 1 ≤ (w8.alloc (.cells #[.int .u64 T, .slice A7 l7.length m7] 135)).heap.size := by simp; omega
            clear hD hR hF ho ho7 ho7A hbd hA t1 t2 t3
            go_wp2_with (at_builtin; go_must (refine list_append_rw kindLK rfl (.tmp 74) (.tmp 78) rfl (D + 1) _ _ _ rfl g2 _ 1 _ [.int .u64 T, .slice A7 l7.length m7] rfl rfl hrwX (by simp) (by simp [Value.oneCell']) HL1.out (by omega) hB8 ?_; intro v' w9 ho9 hg9 hgr9; have H9 := OwnLks.snoc g1 g3 hel ho9 hg9 hgr9; have hkk : Ks (fun g => D + 1 ≤ g) _ w9 := Ks.of_grown hg9 (fun g e => hge2 g e); have hD9 := hDA.ks hkk (by omega); have hR9 := hRA.ks hkk (by omega); have hF9 : Blk w9 fb (cvs (.slice a n m) p7 c7 q7) 50 := hFA.ks (Ks.of_grown (S := fun i => (Value.slice (some ⟨g, o, none⟩) k cq9).ownBlock = some i) hg9 (fun i e => e)) (fun e => by have := HVLT.out fb e; omega); have hbd9 := hkk.below hbdA (Nat.le_refl _) (fun g hg => by omega); obtain ⟨hDs, hkD⟩ := set4 hD9 (.slice a n m) (.int .i64 p7) (.int .i64 c7) (.int .i64 q7); have HEND : Hid (RLL a n m z pos w D N p1 c1 q1 (k + 1) v' (L ++ [(T, l7)]) p7 c7 q7 ((((w9.setCell ⟨D, 0, none⟩ (.slice a n m)).setCell ⟨D, 1, none⟩ (.int .i64 p7)).setCell ⟨D, 2, none⟩ (.int .i64 c7)).setCell ⟨D, 3, none⟩ (.int .i64 q7))) := Lib.hid ⟨hDs, blk_kp hR9 hkD (by omega), H9.kp hkD (by omega), by simp [HLL.out], (fun s hs => by
                  rcases List.mem_append.1 hs with hs | hs
                  · exact HLE.out s hs
                  · rw [List.mem_singleton] at hs; subst hs; exact HL4.out), Kp.below hbd9 (Nat.le_refl _) hkD (by omega), HPL7.out.1, HPL7.out.2, HNX.out⟩; obtain ⟨z0, z1, z2, z3⟩ := hF9.c4; obtain ⟨f0, f1, f2, f3⟩ := hD9.f4; obtain ⟨d0, d1, d2, d3⟩ := hD9.c4; clear g1 g2 g3 hel ho9 hg9 hgr9 hrwX hge2 hB8 H9 hkk hDA hD9 hRA hR9 hFA hF9 hbdA hbd9 hDs hkD))
            go_roundw
            case rel => exact ⟨k + 1, v', L ++ [(T, l7)], p7, c7, q7, by omega, by go_num, rfl, HEND⟩
            case measure => simp [intOf]; omega
        · have dx1 : decide (18446744073709551615 - y < x) = false := decide_eq_false (by omega)
          have dx2 : (x == 18446744073709551615 - y) = false := by simp; omega
          have dx3 : decide (18446744073709551615 - y ≤ x) = false := decide_eq_false hv
          have f1 : IntKind.u64.wrap (y + x) = y + x := IntWalk.u64_in _ (by omega)
          have f2 : IntKind.u64.wrap (y + x + 1) = y + x + 1 := IntWalk.u64_in _ (by omega)
          obtain ⟨T, hT⟩ : ∃ T, T = y + x + 1 := ⟨_, rfl⟩
          have hTb : 0 ≤ T ∧ T < 18446744073709551616 := by omega
          have HXB := Lib.hid hTb
          have hx0 : St 0 n (lks1 z (lkp (-1) L L.length) pk) pk 0 qk (if (0 : Int) = 0 then T else 0) p' 0 q' := by
            rw [HPR.out]
            refine HS3.out.bind ?_
            rw [if_pos rfl]
            exact St.done (by rw [if_neg (by omega), hT]; congr 1; omega) pe0 pe1
          have HX := Lib.hid (fun l p2 c2 q2 (h2 : St [] n (dl z 4 pos p') p' 0 q' l p2 c2 q2) => lkr_st hx0 h2)
          clear hx0
          have f3 : IntKind.u64.wrap (y + x + 1) = T := by rw [f2, hT]
          clear hv f2 hTb hT
          obtain ⟨y0, y1, y2, y3⟩ := hE.c4
          go_wp2_with fail
          with_reducible refine (rdread_any a n m z p' 0 q' pos 4 w6 (HZ.out.below hbd) pe0 pe1 hm hn HBY.out (by omega) HP.out.1 HP.out.2).mono ?_
          rintro en w7 ⟨v7, l7, p7, c7, q7, rfl, ho7, hb7, hs7, hlb7⟩
          have hl4 := dl_most hs7 HZL.out pe0 pe1 HP.out.2 (by omega) HBY.out
          have HNX := Lib.hid (HST.out.next (s2 := (T, l7)) hlt (HX.out _ _ _ _ hs7) (fun hc => by rw [if_pos hc]))
          have HPL7 := Lib.hid hs7.place
          have HL4 : Hid (l7.length ≤ 4) := Lib.hid (by omega)
          have hF := Blk.new w7 (cvs (.slice a n m) p7 c7 q7) 50
          have hbF0 := below_one w7 (.cells (cvs (.slice a n m) p7 c7 q7) 50)
          have hbF := hb7.trans (hbF0.mono hb7.size)
          have hwF : wr.heap.size ≤ w7.heap.size := Nat.le_trans hw6 hb7.size
          have hDF := hD.lt
          replace hD := hD.below hbF
          replace hR := hR.below hbF
          replace ho := ho.below hbF
          replace hbd := hbd.trans (hbF.mono hbd.size)
          replace ho7 : OwnU _ w6.heap.size v7 l7 := own_below ho7 hbF0
          have hFl := hF.lt
          clear hs7 hb7 hbF hbF0 hE y0 y1 y2 y3 hl4
          go_upto_region 13 with (fail)
          generalize w7.alloc (.cells (cvs (.slice a n m) p7 c7 q7) 50) = w8 at *
          generalize w7.heap.size = fb at *
          generalize w6.heap.size = b6 at *
          obtain ⟨A7, m7, rfl⟩ := ho7.slice
          have hA := below_one w8 (.cells #[.int .u64 T, .slice A7 l7.length m7] 135)
          have hrwX := rw_new w8 [.int .u64 T, .slice A7 l7.length m7] 135
          have hoA := ho.below hA
          have ho7A : OwnU _ b6 (.slice A7 l7.length m7) l7 := own_below ho7 hA
          have hDA := hD.below hA
          have hRA := hR.below hA
          have hFA := hF.below hA
          have hbdA := hbd.trans (hA.mono hbd.size)
          obtain ⟨_, t1, t2, t3⟩ := own_sq ho7A hlb7
          have hel := LkE.mk HXB.out rfl t1 t2 (t3.mono (Q := fun i => D + 1 ≤ i ∧ (Value.slice (some ⟨g, o, none⟩) k cq9).ownBlock ≠ some i) (fun g hg _ => ⟨by have h2 : b6 ≤ g := hg; omega, fun e => by have := HVLT.out g e; have h2 : b6 ≤ g := hg; omega⟩))
          obtain ⟨cs, g1, g2', g3⟩ := hoA
          have g2 : (w8.alloc (.cells #[.int .u64 T, .slice A7 l7.length m7] 135)).ownsRow (D + 1) 135 2 (.slice (some ⟨g, o, none⟩) k cq9) L.length cs.flatten := g2'
          clear g2'
          have hge2 := own_ge g2
          have HL1 : Hid (L.length + 1 ≤ 1000000) := Lib.hid (by rw [HLL.out]; omega)
          have hB8 : D + 1 ≤ (w8.alloc (.cells #[.int .u64 T, .slice A7 l7.length m7] 135)).heap.size := by simp; omega
          clear hD hR hF ho ho7 ho7A hbd hA t1 t2 t3
          go_wp2_with (at_builtin; go_must (refine list_append_rw kindLK rfl (.tmp 74) (.tmp 78) rfl (D + 1) _ _ _ rfl g2 _ 1 _ [.int .u64 T, .slice A7 l7.length m7] rfl rfl hrwX (by simp) (by simp [Value.oneCell']) HL1.out (by omega) hB8 ?_; intro v' w9 ho9 hg9 hgr9; have H9 := OwnLks.snoc g1 g3 hel ho9 hg9 hgr9; have hkk : Ks (fun g => D + 1 ≤ g) _ w9 := Ks.of_grown hg9 (fun g e => hge2 g e); have hD9 := hDA.ks hkk (by omega); have hR9 := hRA.ks hkk (by omega); have hF9 : Blk w9 fb (cvs (.slice a n m) p7 c7 q7) 50 := hFA.ks (Ks.of_grown (S := fun i => (Value.slice (some ⟨g, o, none⟩) k cq9).ownBlock = some i) hg9 (fun i e => e)) (fun e => by have := HVLT.out fb e; omega); have hbd9 := hkk.below hbdA (Nat.le_refl _) (fun g hg => by omega); obtain ⟨hDs, hkD⟩ := set4 hD9 (.slice a n m) (.int .i64 p7) (.int .i64 c7) (.int .i64 q7); have HEND : Hid (RLL a n m z pos w D N p1 c1 q1 (k + 1) v' (L ++ [(T, l7)]) p7 c7 q7 ((((w9.setCell ⟨D, 0, none⟩ (.slice a n m)).setCell ⟨D, 1, none⟩ (.int .i64 p7)).setCell ⟨D, 2, none⟩ (.int .i64 c7)).setCell ⟨D, 3, none⟩ (.int .i64 q7))) := Lib.hid ⟨hDs, blk_kp hR9 hkD (by omega), H9.kp hkD (by omega), by simp [HLL.out], (fun s hs => by
                rcases List.mem_append.1 hs with hs | hs
                · exact HLE.out s hs
                · rw [List.mem_singleton] at hs; subst hs; exact HL4.out), Kp.below hbd9 (Nat.le_refl _) hkD (by omega), HPL7.out.1, HPL7.out.2, HNX.out⟩; obtain ⟨z0, z1, z2, z3⟩ := hF9.c4; obtain ⟨f0, f1, f2, f3⟩ := hD9.f4; obtain ⟨d0, d1, d2, d3⟩ := hD9.c4; clear g1 g2 g3 hel ho9 hg9 hgr9 hrwX hge2 hB8 H9 hkk hDA hD9 hRA hR9 hFA hF9 hbdA hbd9 hDs hkD))
          go_roundw
          case rel => exact ⟨k + 1, v', L ++ [(T, l7)], p7, c7, q7, by omega, by go_num, rfl, HEND⟩
          case measure => simp [intOf]; omega
      · have hcb : (c' == 0) = false := by simpa using hc
        have HXB := Lib.hid hx
        have hx0 : St 0 n (lks1 z (lkp (-1) L L.length) pk) pk 0 qk (if c' = 0 then x else 0) p' c' q' := by
          rw [if_neg hc]
          exact HS3.out.bind (St.stay pe0 pe1 hc)
        have HX := Lib.hid (fun l p2 c2 q2 (h2 : St [] n (dl z 4 pos p') p' c' q' l p2 c2 q2) => lkr_st hx0 h2)
        clear hx0
        clear hk0 hlk y0 y1 y2 y3 hc
        obtain ⟨y0, y1, y2, y3⟩ := hE.c4
        obtain ⟨y0, y1, y2, y3⟩ := hE.c4
        go_wp2_with fail
        with_reducible refine (rdread_any a n m z p' c' q' pos 4 w6 (HZ.out.below hbd) pe0 pe1 hm hn HBY.out (by omega) HP.out.1 HP.out.2).mono ?_
        rintro en w7 ⟨v7, l7, p7, c7, q7, rfl, ho7, hb7, hs7, hlb7⟩
        have hl4 := dl_most hs7 HZL.out pe0 pe1 HP.out.2 (by omega) HBY.out
        have HNX := Lib.hid (HST.out.next (s2 := (x, l7)) hlt (HX.out _ _ _ _ hs7) (fun hc => by rw [if_pos hc]))
        have HPL7 := Lib.hid hs7.place
        have HL4 : Hid (l7.length ≤ 4) := Lib.hid (by omega)
        have hF := Blk.new w7 (cvs (.slice a n m) p7 c7 q7) 50
        have hbF0 := below_one w7 (.cells (cvs (.slice a n m) p7 c7 q7) 50)
        have hbF := hb7.trans (hbF0.mono hb7.size)
        have hwF : wr.heap.size ≤ w7.heap.size := Nat.le_trans hw6 hb7.size
        have hDF := hD.lt
        replace hD := hD.below hbF
        replace hR := hR.below hbF
        replace ho := ho.below hbF
        replace hbd := hbd.trans (hbF.mono hbd.size)
        replace ho7 : OwnU _ w6.heap.size v7 l7 := own_below ho7 hbF0
        have hFl := hF.lt
        clear hs7 hb7 hbF hbF0 hE y0 y1 y2 y3 hl4
        go_upto_region 13 with (fail)
        generalize w7.alloc (.cells (cvs (.slice a n m) p7 c7 q7) 50) = w8 at *
        generalize w7.heap.size = fb at *
        generalize w6.heap.size = b6 at *
        obtain ⟨A7, m7, rfl⟩ := ho7.slice
        have hA := below_one w8 (.cells #[.int .u64 x, .slice A7 l7.length m7] 135)
        have hrwX := rw_new w8 [.int .u64 x, .slice A7 l7.length m7] 135
        have hoA := ho.below hA
        have ho7A : OwnU _ b6 (.slice A7 l7.length m7) l7 := own_below ho7 hA
        have hDA := hD.below hA
        have hRA := hR.below hA
        have hFA := hF.below hA
        have hbdA := hbd.trans (hA.mono hbd.size)
        obtain ⟨_, t1, t2, t3⟩ := own_sq ho7A hlb7
        have hel := LkE.mk HXB.out rfl t1 t2 (t3.mono (Q := fun i => D + 1 ≤ i ∧ (Value.slice Av k cq9).ownBlock ≠ some i) (fun g hg _ => ⟨by have h2 : b6 ≤ g := hg; omega, fun e => by have := HVLT.out g e; have h2 : b6 ≤ g := hg; omega⟩))
        obtain ⟨cs, g1, g2', g3⟩ := hoA
        have g2 : (w8.alloc (.cells #[.int .u64 x, .slice A7 l7.length m7] 135)).ownsRow (D + 1) 135 2 (.slice Av k cq9) L.length cs.flatten := g2'
        clear g2'
        have hge2 := own_ge g2
        have HL1 : Hid (L.length + 1 ≤ 1000000) := Lib.hid (by rw [HLL.out]; omega)
        have hB8 : D + 1 ≤ (w8.alloc (.cells #[.int .u64 x, .slice A7 l7.length m7] 135)).heap.size := by simp; omega
        clear hD hR hF ho ho7 ho7A hbd hA t1 t2 t3
        go_wp2_with (at_builtin; go_must (refine list_append_rw kindLK rfl (.tmp 74) (.tmp 78) rfl (D + 1) _ _ _ rfl g2 _ 1 _ [.int .u64 x, .slice A7 l7.length m7] rfl rfl hrwX (by simp) (by simp [Value.oneCell']) HL1.out (by omega) hB8 ?_; intro v' w9 ho9 hg9 hgr9; have H9 := OwnLks.snoc g1 g3 hel ho9 hg9 hgr9; have hkk : Ks (fun g => D + 1 ≤ g) _ w9 := Ks.of_grown hg9 (fun g e => hge2 g e); have hD9 := hDA.ks hkk (by omega); have hR9 := hRA.ks hkk (by omega); have hF9 : Blk w9 fb (cvs (.slice a n m) p7 c7 q7) 50 := hFA.ks (Ks.of_grown (S := fun i => (Value.slice Av k cq9).ownBlock = some i) hg9 (fun i e => e)) (fun e => by have := HVLT.out fb e; omega); have hbd9 := hkk.below hbdA (Nat.le_refl _) (fun g hg => by omega); obtain ⟨hDs, hkD⟩ := set4 hD9 (.slice a n m) (.int .i64 p7) (.int .i64 c7) (.int .i64 q7); have HEND : Hid (RLL a n m z pos w D N p1 c1 q1 (k + 1) v' (L ++ [(x, l7)]) p7 c7 q7 ((((w9.setCell ⟨D, 0, none⟩ (.slice a n m)).setCell ⟨D, 1, none⟩ (.int .i64 p7)).setCell ⟨D, 2, none⟩ (.int .i64 c7)).setCell ⟨D, 3, none⟩ (.int .i64 q7))) := Lib.hid ⟨hDs, blk_kp hR9 hkD (by omega), H9.kp hkD (by omega), by simp [HLL.out], (fun s hs => by
              rcases List.mem_append.1 hs with hs | hs
              · exact HLE.out s hs
              · rw [List.mem_singleton] at hs; subst hs; exact HL4.out), Kp.below hbd9 (Nat.le_refl _) hkD (by omega), HPL7.out.1, HPL7.out.2, HNX.out⟩; obtain ⟨z0, z1, z2, z3⟩ := hF9.c4; obtain ⟨f0, f1, f2, f3⟩ := hD9.f4; obtain ⟨d0, d1, d2, d3⟩ := hD9.c4; clear g1 g2 g3 hel ho9 hg9 hgr9 hrwX hge2 hB8 H9 hkk hDA hD9 hRA hR9 hFA hF9 hbdA hbd9 hDs hkD))
        go_roundw
        case rel => exact ⟨k + 1, v', L ++ [(x, l7)], p7, c7, q7, by omega, by go_num, rfl, HEND⟩
        case measure => simp [intOf]; omega
end Go.Proofs.YtlealkfkddhnnaaGreat.Cur
