/- As the seat's text, without what nothing here names. -/
import Derived.Test.YtlealkfkddhnnaaGreatK35v
import Derived.Test.YtlealkfkddhnnaaGreatK34v
import Derived.Test.YtlealkfkddhnnaaGreatK1v
import Derived.Test.YtlealkfkddhnnaaGreatK24v
import Derived.Test.YtlealkfkddhnnaaGreatLnkPv
import Derived.Test.YtlealkfkddhnnaaGreatShelfv
namespace Go.Proofs.YtlealkfkddhnnaaGreat.Cur
open Go.RowKit Mem Go.ChangeShapes Go.WideShapes
set_option linter.unusedVariables false
set_option maxRecDepth 100000
def U8E : El Int where
  k := 1
  R := fun _ _ c x => c = [.int .u8 x] ∧ 0 ≤ x ∧ x < 256
  len := fun ⟨e, _⟩ => by rw [e]; rfl
  one := fun ⟨e, _⟩ u hu => by rw [e] at hu; simp at hu; subst hu; rfl
  keep := fun h _ => h
  mono := fun h _ => h
abbrev bv8 (z : List Int) : List Value := z.map (Value.int .u8)
theorem Sq.bs {w : World} {P : Nat → Prop} {A : Option Addr} {z : List Int} (h : Sq U8E w P A z) : Bs w A z.length z ∧ (∀ x ∈ z, 0 ≤ x ∧ x < 256) ∧ (0 < z.length → ∀ a, A = some a → P a.block) := by
  obtain ⟨cs, h1, h2⟩ := h
  have key : ∀ (cs : List (List Value)) (z : List Int), Ch U8E w P cs z → cs.flatten = bv8 z ∧ ∀ x ∈ z, 0 ≤ x ∧ x < 256 := by
    intro cs
    induction cs with
    | nil => intro z h; cases z with
      | nil => exact ⟨rfl, fun x hx => by simp at hx⟩
      | cons x z => exact h.elim
    | cons c cs ih => intro z h; cases z with
      | nil => exact h.elim
      | cons x z =>
        obtain ⟨⟨e, b⟩, h2⟩ := h
        obtain ⟨i1, i2⟩ := ih z h2
        refine ⟨by rw [List.flatten_cons, e, i1]; rfl, fun y hy => ?_⟩
        rcases List.mem_cons.1 hy with rfl | hy
        · exact b
        · exact i2 y hy
  obtain ⟨k1, k2⟩ := key cs z h1
  rw [k1] at h2
  refine ⟨⟨rfl, fun hn => ?_⟩, k2, fun hn a ha => ?_⟩
  · obtain ⟨k, o, e, _, hc⟩ := h2 (by rw [List.length_map]; exact hn)
    exact ⟨k, o, e, fun i x hx => hc i _ (by rw [List.getElem?_map, hx]; rfl)⟩
  · obtain ⟨k, o, e, hP, _⟩ := h2 (by rw [List.length_map]; exact hn)
    rw [e] at ha
    injection ha with ha
    subst ha
    exact hP
theorem Bs.sq {w : World} {A : Option Addr} {n : Nat} {z : List Int} (h : Bs w A n z) (hb : ∀ x ∈ z, 0 ≤ x ∧ x < 256) {P : Nat → Prop} (hP : 0 < n → ∀ a, A = some a → P a.block) : Sq U8E w P A z := by
  refine ⟨z.map fun x => [.int .u8 x], ?_, ?_⟩
  · have : ∀ l : List Int, (∀ x ∈ l, 0 ≤ x ∧ x < 256) → Ch U8E w P (l.map fun x => [.int .u8 x]) l := by
      intro l
      induction l with
      | nil => intro _; trivial
      | cons x l ih => intro hl; exact ⟨⟨rfl, hl x (by simp)⟩, ih fun y hy => hl y (by simp [hy])⟩
    exact this z hb
  · have key : ∀ l : List Int, (l.map fun x => [Value.int .u8 x]).flatten = bv8 l := by
      intro l
      induction l with
      | nil => rfl
      | cons x l ih => rw [List.map_cons, List.flatten_cons, ih]; rfl
    rw [key z]
    intro hn
    rw [List.length_map] at hn
    obtain ⟨k, o, ea, hc⟩ := h.2 (by rw [← h.1]; exact hn)
    refine ⟨k, o, ea, hP (by rw [← h.1]; exact hn) _ ea, fun i v hv => ?_⟩
    rw [List.getElem?_map, Option.map_eq_some_iff] at hv
    obtain ⟨x, hx, rfl⟩ := hv
    exact hc i x hx
abbrev En := List Lk × List Int
def en0 : En := ([], [])
abbrev EnE : El En := PrE (SlE LkE) (SlE U8E)
abbrev enagg (A : Option Addr) (n m : Nat) (B : Option Addr) (r k : Nat) : Value := .agg #[.slice A n m, .slice B r k]
abbrev enc' (A : Option Addr) (n m : Nat) (B : Option Addr) (r k : Nat) : Array Value := #[.slice A n m, .slice B r k]
theorem ent_parts {w : World} {P : Nat → Prop} {c : List Value} {e : En} (h : EnE.R w P c e) :
    ∃ A m B k, c = [.slice A e.1.length m, .slice B e.2.length k] ∧ e.1.length ≤ m ∧ (A = none → m = 0) ∧ Lks w P A e.1.length e.1 ∧ e.2.length ≤ k ∧ (B = none → k = 0) ∧ Bs w B e.2.length e.2 ∧ (∀ x ∈ e.2, 0 ≤ x ∧ x < 256) ∧ Sq U8E w P B e.2 := by
  obtain ⟨d, f, rfl, ⟨A, m, rfl, h1, h2, h3⟩, B, k, rfl, h4, h5, h6⟩ := h
  obtain ⟨u1, u2, _⟩ := h6.bs
  exact ⟨A, m, B, k, rfl, h1, h2, ⟨rfl, h3⟩, h4, h5, u1, u2, h6⟩
theorem EnE.mk {w : World} {P : Nat → Prop} {A B : Option Addr} {n m r k : Nat} {L : List Lk} {D : List Int} (hL : Lks w P A n L) (hm : n ≤ m) (hn : A = none → m = 0) (hD : D.length = r) (hk : r ≤ k) (hb : B = none → k = 0) (h : Sq U8E w P B D) : EnE.R w P [.slice A n m, .slice B r k] (L, D) := by
  obtain ⟨rfl, hL⟩ := hL
  subst hD
  exact ⟨[_], [_], rfl, ⟨A, m, rfl, hm, hn, hL⟩, B, k, rfl, hk, hb, h⟩
def Ens (w : World) (P : Nat → Prop) (A : Option Addr) (n : Nat) (L : List En) : Prop := L.length = n ∧ Sq EnE w P A L
theorem Ens.keep {w w' : World} {P : Nat → Prop} {A : Option Addr} {n : Nat} {L : List En} (h : Ens w P A n L) (hk : ∀ b, P b → b < w.heap.size → w'.heap[b]? = w.heap[b]?) : Ens w' P A n L := ⟨h.1, h.2.keep hk⟩
theorem Ens.mono {w : World} {P Q : Nat → Prop} {A : Option Addr} {n : Nat} {L : List En} (h : Ens w P A n L) (hq : ∀ b, P b → b < w.heap.size → Q b) : Ens w Q A n L := ⟨h.1, h.2.mono hq⟩
theorem Ens.below {w w' : World} {P : Nat → Prop} {A : Option Addr} {n : Nat} {L : List En} (h : Ens w P A n L) (hb : Below w.heap.size w w') : Ens w' P A n L := ⟨h.1, h.2.below hb⟩
theorem Ens.cells {w : World} {P : Nat → Prop} {A : Option Addr} {n : Nat} {L : List En} (h : Ens w P A n L) (hn : n ≠ 0) :
    ∃ g o, A = some ⟨g, o, none⟩ ∧ P g ∧ g < w.heap.size ∧ ∀ i, i < n → ∃ K D a l m b r k, L.getD i en0 = (K, D) ∧ l ≤ m ∧ (a = none → m = 0) ∧ Lks w P a l K ∧ r ≤ k ∧ (b = none → k = 0) ∧ Bs w b r D ∧ (∀ x ∈ D, 0 ≤ x ∧ x < 256) ∧ Sq U8E w P b D ∧
      ∀ w', Below w.heap.size w w' → w'.cell? ⟨g, o + i * 2, none⟩ = some (.slice a l m) ∧ w'.cell? ⟨g, o + i * 2 + 1, none⟩ = some (.slice b r k) := by
  obtain ⟨rfl, h⟩ := h
  obtain ⟨g, o, c, e, hP, hg, _⟩ := h.at_ (i := 0) (by decide) (List.getElem?_eq_getElem (Nat.pos_of_ne_zero hn))
  refine ⟨g, o, e, hP, hg, fun i hi => ?_⟩
  obtain ⟨g', o', c', e', hP', hg', hR, hcell⟩ := h.at_ (i := i) (by decide) (List.getElem?_eq_getElem hi)
  rw [e] at e'
  injection e' with e'
  injection e' with e1 e2
  subst e1 e2
  have hS : L.getD i en0 = L[i] := by rw [List.getD_eq_getElem?_getD, List.getElem?_eq_getElem hi]; rfl
  obtain ⟨a, m, b, k, rfl, h1, h2, h3, h4, h5, h6, h7, h8⟩ := ent_parts hR
  rw [hS]
  refine ⟨L[i].1, L[i].2, a, _, m, b, _, k, rfl, h1, h2, h3, h4, h5, h6, h7, h8, fun w' hb => ⟨?_, ?_⟩⟩
  · have := hcell 0 _ rfl; exact (hb.cell (lt_of_cell this)).trans this
  · have := hcell 1 _ rfl; exact (hb.cell (lt_of_cell this)).trans this
section
variable {H : Type} {enc : TypeId × Value → H} {w : World} {base : Nat} {v : Value} {d : DataW H} {p : List MemPlace}
end
end Go.Proofs.YtlealkfkddhnnaaGreat.Cur
namespace Go.Proofs.YtlealkfkddhnnaaGreat.Cur
open Go.RowKit Mem
set_option linter.unusedVariables false
set_option maxRecDepth 100000
def enok (pos : Int) (L : List Lk) (r : Nat) : Bool := decide (r ≤ 1048576) && lkok pos L
theorem enright_any (P : Nat → Prop) (pos : Int) (A : Option Addr) (n m : Nat) (L : List Lk) (B : Option Addr) (r k : Nat) (w : World) (hz : Lks w P A n L) (p0 : 0 ≤ pos) (p1 : pos < 18446744073709551616) :
    Calls Tryz.prog 41 #[.int .u64 pos, enagg A n m B r k] w (BPost (.bool (enok pos L r)) w) := by
  have hX := Blk.new w (enc' A n m B r k) 62
  have hb := below_one w (.cells (enc' A n m B r k) 62)
  obtain ⟨x0, x1⟩ := hX.c2
  have hcon := lkright_any P pos A n m L _ (hz.below hb) p0 p1
  unfold BPost at hcon ⊢
  have HV : Hid (enok pos L r = (decide (r ≤ 1048576) && lkok pos L)) := Lib.hid rfl
  generalize enok pos L r = V at *
  generalize lkok pos L = lv at *
  clear hX hz
  by_cases hr : r ≤ 1048576
  · have e1 : (r : Int) ≤ 1048576 := by omega
    rw [decide_eq_true hr] at HV
    go_enter Tryz.func41, Tryz.ntmps41
    go_wp2_with fail
    refine hcon.mono ?_
    rintro e w1 ⟨rfl, hb1⟩
    have HB := Lib.hid (hb.trans (hb1.mono hb.size))
    clear hcon hb1
    go_wp2
    go_ret
    exact ⟨by rw [HV.out]; rfl, HB.out⟩
  · have e1 : ¬ (r : Int) ≤ 1048576 := by omega
    rw [decide_eq_false hr] at HV
    clear hcon hr
    go_enter Tryz.func41, Tryz.ntmps41
    go_wp2
    go_ret
    exact ⟨by rw [HV.out]; rfl, hb⟩
set_option maxHeartbeats 2000000 in
theorem puthead_yes {w : World} {B0 b : Nat} {r0 : Option Nat} {y : List Int} {M c : Int} (P : Nat → Prop) (pos : Int) (A : Option Addr) (n m : Nat) (L : List Lk) (B : Option Addr) (r k : Nat) (h : Wr w B0 b r0 y M c) (hz : Lks w P A n L) (p0 : 0 ≤ pos) (p1 : pos < 18446744073709551616) (hok : enok pos L r = true)
    (hoff : ∀ b', P b' → b' < w.heap.size → ¬ WS b r0 b') (hy : y.length ≤ 500000) (hBw : B0 ≤ w.heap.size) :
    Calls Tryz.prog 35 #[.pointer (some ⟨b, 0, none⟩), .int .u64 pos, enagg A n m B r k] w (WPutsPost B0 b r0 y (lkis pos L n ++ [vz r]) M c w) := by
  have hX := Blk.new w (enc' A n m B r k) 62
  have hb := below_one w (.cells (enc' A n m B r k) 62)
  obtain ⟨x0, x1⟩ := hX.c2
  have hoff2 : ¬ WS b r0 w.heap.size := h.off (Nat.le_refl _)
  have hrc := enright_any P pos A n m L B r k _ (hz.below hb) p0 p1
  rw [hok] at hrc
  unfold BPost at hrc
  have hlk : lkok pos L = true := by unfold enok at hok; simp only [Bool.and_eq_true] at hok; exact hok.2
  have hrl : r ≤ 1048576 := by unfold enok at hok; simp only [Bool.and_eq_true, decide_eq_true_eq] at hok; exact hok.1
  have hn16 : n ≤ 16 := by rw [← hz.1]; exact (lkok_parts hlk).1
  have hle := lkis_len hlk n (by rw [hz.1]; exact Nat.le_refl _)
  have hpl := puts_le (lkis pos L n) y M c
  have HZ := Lib.hid (hz.mono (Q := fun b' => P b' ∧ b' < w.heap.size) (fun b' h1 h2 => ⟨h1, h2⟩))
  have HLK := Lib.hid hlk
  have HOFF := Lib.hid hoff
  have HSN : Hid (puts (lkis pos L n ++ [vz r]) y M c = (putZ (puts (lkis pos L n) y M c).1 (vz r) M (puts (lkis pos L n) y M c).2, putC (puts (lkis pos L n) y M c).1 (vz r) M (puts (lkis pos L n) y M c).2)) := Lib.hid (puts_snoc _ _ _ _ _)
  have HL5 : Hid ((puts (lkis pos L n) y M c).1.length ≤ 900000) := Lib.hid (by omega)
  have e1 : IntKind.u64.wrap (r : Int) = r := IntWalk.u64_in _ (by omega)
  have hr0 : (0 : Int) ≤ r := by omega
  have hr1 : (r : Int) < 18446744073709551616 := by omega
  have h1 := h.below hb
  clear hz hok hlk hoff hle hpl h
  go_enter Tryz.func35, Tryz.ntmps35
  go_wp2_with fail
  refine hrc.mono ?_
  rintro en w1 ⟨rfl, hb1⟩
  have hX1 := hX.below hb1
  have h2 := h1.below hb1
  have hbd1 := hb.trans (hb1.mono hb.size)
  have hB1 : B0 ≤ w1.heap.size := Nat.le_trans hBw hbd1.size
  have hks1 : Ks (WS b r0) w w1 := Ks.of_below hbd1
  clear hrc hb1 hX h1 x0 x1 hb
  obtain ⟨x0, x1⟩ := hX1.c2
  go_wp2_with fail
  refine (lput_yes (fun b' => P b' ∧ b' < w.heap.size) pos A n m L h2 (HZ.out.below hbd1) p0 p1 HLK.out (fun b' hp _ => HOFF.out b' hp.1 hp.2) (by omega) hB1).mono ?_
  rintro en w2 ⟨r2, rfl, hk2, hg2, hw2⟩
  have hX2 := hX1.ks hk2 hoff2
  have hks2 := hks1.trans hk2
  have hgr2 : Gr r0 r2 w := (Gr.refl _ _).trans hg2 hks1.size
  have hB2 : B0 ≤ w2.heap.size := Nat.le_trans hBw hks2.size
  clear hk2 hg2 hks1 h2 hX1 x0 x1 hbd1
  obtain ⟨x0, x1⟩ := hX2.c2
  go_wp2_with fail
  refine (vput_any _ hw2 hr0 hr1 HL5.out hB2).mono ?_
  rintro en w3 ⟨r3, rfl, hk3, hg3, hw3⟩
  have H1 := Lib.hid (Ks.wr hks2 hgr2 hk3)
  have H2 := Lib.hid (hgr2.trans hg3 hks2.size)
  have H3 : Hid (Wr w3 B0 b r3 (puts (lkis pos L n ++ [vz r]) y M c).1 M (puts (lkis pos L n ++ [vz r]) y M c).2) := Lib.hid (by rw [HSN.out]; exact hw3)
  clear hk3 hg3 hw3 hw2 hks2 hgr2
  go_wp2
  go_end0
  exact ⟨r3, rfl, H1.out, H2.out, H3.out⟩
end Go.Proofs.YtlealkfkddhnnaaGreat.Cur
namespace Go.Proofs.YtlealkfkddhnnaaGreat.Cur
open Go.RowKit Mem
set_option linter.unusedVariables false
set_option maxRecDepth 100000
abbrev Hd := List Lk × Int
def hd0 : Hd := ([], 0)
def hrd (z : List Int) (pos mo p : Int) : Rs Hd := (lrd z pos p).bind hd0 fun L p1 => (vm z mo p1).bind hd0 fun v p2 => ((L, v), p2, 0, 0)
theorem hrd_st {n : Nat} {z : List Int} {pos mo p c q : Int} {L : List Lk} {p1 c1 q1 v p2 c2 q2 : Int} (h1 : St [] n (lrd z pos p) p c q L p1 c1 q1) (h2 : St 0 n (vm z mo p1) p1 c1 q1 v p2 c2 q2) :
    St hd0 n (hrd z pos mo p) p c q (if c2 = 0 then (L, v) else hd0) p2 c2 q2 := by
  unfold hrd
  refine h1.bind (h2.bind ?_)
  by_cases hc : c2 = 0
  · subst hc
    rw [if_pos rfl]
    exact St.done rfl h2.place.1 h2.place.2
  · rw [if_neg hc]
    exact St.stay h2.place.1 h2.place.2 hc
def EhPost (b : Nat) (s : Value) (n : Nat) (z : List Int) (pos mo p c q : Int) (w : World) (e : Ending) (w' : World) : Prop :=
  ∃ A m N L v p' c' q', e = .returned (.tuple #[enagg A N m none 0 0, .int .i64 v]) ∧ Kp b w w' ∧ IsRd w' b s p' c' q' ∧ Lks w' (fun k => w.heap.size ≤ k) A N L ∧ N ≤ m ∧ (A = none → m = 0) ∧ N ≤ 16 ∧ blen 4 L ∧ St hd0 n (hrd z pos mo p) p c q (L, v) p' c' q'
set_option maxHeartbeats 4000000 in
theorem readhead_any (b : Nat) (a : Option Addr) (n m : Nat) (z : List Int) (pos mo p c q : Int) (w : World) (h : IsRd w b (.slice a n m) p c q) (hz : Bs w a n z) (h0 : 0 ≤ p) (h1 : p ≤ n) (hn : n ≤ 100000) (hby : ∀ x ∈ z, 0 ≤ x ∧ x < 256) (p0 : 0 ≤ pos) (p1' : pos < 18446744073709551616) (hmo : mo ≤ 9223372036854775807) :
    Calls Tryz.prog 124 #[.pointer (some ⟨b, 0, none⟩), .int .u64 pos, .int .i64 mo] w (EhPost b (.slice a n m) n z pos mo p c q w) := by
  have hX := Blk.new w (enc' none 0 0 none 0 0) 62
  have hbX := below_one w (.cells (enc' none 0 0 none 0 0) 62)
  have hbw := h.lt
  have hr := h.below hbX
  have HK := Lib.hid (Kp.of_below (b := b) hbX)
  have HBY := Lib.hid hby
  have HZL := Lib.hid hz.1
  have HE := Lib.hid (And.intro p0 p1')
  have HZ : Hid (∀ w', Kp b w w' → Bs w' a n z) := Lib.hid fun w' hk => hz.kp h (by simp) hk
  have hsz : (w.alloc (.cells (enc' none 0 0 none 0 0) 62)).heap.size = w.heap.size + 1 := by simp
  clear hby p0 p1' hbX h hz
  go_enter Tryz.func124, Tryz.ntmps124
  go_wp2_with fail
  generalize w.alloc (.cells (enc' none 0 0 none 0 0) 62) = w0 at *
  refine (lread_any b a n m z pos p c q w0 hr (HZ.out _ HK.out) h0 h1 hn HBY.out HE.out.1 HE.out.2).mono ?_
  rintro en w1 ⟨v1, L, p1, c1, q1, rfl, hk1, hr1, ho1, hl16, hb4, hs1⟩
  have hpl := hs1.place
  have HS1 := Lib.hid hs1
  have HK1 := Lib.hid (HK.out.trans hk1)
  have hX1 := blk_kp hX hk1 (by omega)
  have HB4 := Lib.hid hb4
  clear hs1 hk1 hr hX hb4
  go_wp2_with fail
  refine (vint_any _ _ _ _ _ _ _ _ _ _ hr1 (HZ.out _ HK1.out) hpl.1 hpl.2 (by omega) HBY.out hmo).mono ?_
  rintro en w2 ⟨x, p2, c2, q2, rfl, hk2, hr2, hs2⟩
  have hst := hs2.st HZL.out hpl.1 hpl.2 HBY.out
  have HS2 := Lib.hid (hrd_st HS1.out hst)
  have HK2 := Lib.hid (HK1.out.trans hk2)
  have hX2 := blk_kp hX1 hk2 (by omega)
  have ho2 := ho1.kp hk2 (by omega)
  clear hs2 hst hk2 hr1 hX1 ho1 HS1
  go_wp2_with fail
  refine (good_any _ _ _ _ _ _ hr2).mono ?_
  rintro en w3 ⟨rfl, hb3⟩
  have HR3 := Lib.hid (hr2.below hb3)
  have HK3 := Lib.hid (HK2.out.trans (Kp.of_below (b := b) hb3))
  have hX3 := hX2.below hb3
  have ho3 := ho2.below hb3
  obtain ⟨x0, x1⟩ := hX3.c2
  have f0 := hX3.free 0
  have f1 := hX3.free 1
  clear hr2 hX2 ho2 hb3 hX3
  by_cases hc : c2 = 0
  · have hcb : (c2 == 0) = true := by simpa using hc
    obtain ⟨A1, m1, rfl, k1, k2, k3⟩ := ho3.lks
    have HSF : Hid (St hd0 n (hrd z pos mo p) p c q (L, x) p2 c2 q2) := Lib.hid (by have := HS2.out; rwa [if_pos hc] at this)
    have HLK := Lib.hid k3
    have HNN := Lib.hid (And.intro k1 k2)
    obtain ⟨N, hN⟩ : ∃ N, N = L.length := ⟨_, rfl⟩
    rw [← hN] at HLK HNN hl16 ⊢
    clear hc ho3 k1 k2 k3 hN
    go_wp2
    refine bodyPost_ret (v := .tuple #[enagg A1 N m1 none 0 0, .int .i64 x]) (by simp [results, Tryz.results124, go_sem, x0, x1]) rfl ⟨A1, m1, N, L, x, p2, c2, q2, rfl, ?_, ?_, ?_, HNN.out.1, HNN.out.2, hl16, HB4.out, HSF.out⟩
    · iterate 2 (refine Kp.far ?_ (by simp) _)
      exact HK3.out
    · iterate 2 (refine IsRd.kp ?_ (Kp.setCell _ w.heap.size _ _) (by omega))
      exact HR3.out
    · refine Lks.mono (Lks.keep HLK.out (fun g hg hl => ?_)) (fun g hg _ => by have h2 : w0.heap.size ≤ g := hg; omega)
      have h2 : w0.heap.size ≤ g := hg
      rw [Below.heap_setCell _ _ _ _ (by simp; omega), Below.heap_setCell _ _ _ _ (by simp; omega)]
  · have hcb : (c2 == 0) = false := by simpa using hc
    have HSF : Hid (St hd0 n (hrd z pos mo p) p c q hd0 p2 c2 q2) := Lib.hid (by have := HS2.out; rwa [if_neg hc] at this)
    clear hc ho3
    go_wp2
    refine bodyPost_ret (v := .tuple #[enagg none 0 0 none 0 0, .int .i64 0]) (by simp [results, Tryz.results124, go_sem, x0, x1]) rfl ⟨none, 0, 0, [], 0, p2, c2, q2, rfl, ?_, ?_, ⟨rfl, Sq.nil _ _ _ _⟩, Nat.le_refl _, (fun _ => rfl), by omega, (fun s hs => by simp at hs), HSF.out⟩
    · iterate 2 (refine Kp.far ?_ (by simp) _)
      exact HK3.out
    · iterate 2 (refine IsRd.kp ?_ (Kp.setCell _ w.heap.size _ _) (by omega))
      exact HR3.out
def REhPost (s : Value) (n : Nat) (z : List Int) (pos mo p c q : Int) (w : World) (e : Ending) (w' : World) : Prop :=
  ∃ v L x p' c' q', e = .returned (.tuple #[cv s p' c' q', v, .int .i64 x]) ∧ Below w.heap.size w w' ∧ OwnLks w' w.heap.size v L ∧ L.length ≤ 16 ∧ blen 4 L ∧ St hd0 n (hrd z pos mo p) p c q (L, x) p' c' q'
set_option maxHeartbeats 4000000 in
theorem rreadhead_any (a : Option Addr) (n m : Nat) (z : List Int) (pos mo p c q : Int) (w : World) (hz : Bs w a n z) (h0 : 0 ≤ p) (h1 : p ≤ n) (hm : n ≤ m) (hn : n ≤ 100000) (hby : ∀ x ∈ z, 0 ≤ x ∧ x < 256) (q0 : 0 ≤ pos) (q1' : pos < 18446744073709551616) (hmo : mo ≤ 9223372036854775807) :
    Calls Tryz.prog 59 #[cv (.slice a n m) p c q, .int .u64 pos, .int .i64 mo] w (REhPost (.slice a n m) n z pos mo p c q w) := by
  have HBY := Lib.hid hby
  have HZL := Lib.hid hz.1
  have HZ := Lib.hid hz
  have HP := Lib.hid (And.intro q0 q1')
  clear hby q0 q1'
  go_enter Tryz.func59, Tryz.ntmps59
  go_wp2_with fail
  refine (rlread_any _ _ _ _ _ _ _ _ _ (hz.below (below_two _ _ _)) h0 h1 hm hn HBY.out HP.out.1 HP.out.2).mono ?_
  rintro e w1 ⟨v1, L, p1, c1, q1, rfl, hb1, ho1, hl16, hb4, hs1⟩
  obtain ⟨hC0, hR0, hbd0⟩ := two_new hb1
  have hpl := hs1.place
  have HS1 := Lib.hid hs1
  have HB4 := Lib.hid hb4
  have hD := Blk.new w1 (cvs (.slice a n m) p1 c1 q1) 50
  have hbD := below_one w1 (.cells (cvs (.slice a n m) p1 c1 q1) 50)
  have hR := hR0.below hbD
  have ho := ho1.below hbD
  have hbd := hbd0.trans (hbD.mono hbd0.size)
  have hwD : w.heap.size + 1 < w1.heap.size := hR0.lt
  clear hb1 hC0 hR0 hbd0 hs1 hbD ho1 hz hb4
  obtain ⟨d0, d1, d2, d3⟩ := hD.c4
  go_wp2_with fail
  generalize w1.alloc (.cells (cvs (.slice a n m) p1 c1 q1) 50) = w2 at *
  generalize w1.heap.size = D at *
  refine (rint_any _ _ _ _ _ _ _ _ _ (HZ.out.below hbd) hpl.1 hpl.2 hm (by omega) HBY.out hmo).mono ?_
  rintro e w3 ⟨x, p2, c2, q2, rfl, hb3, hs2⟩
  have hst := hs2.st HZL.out hpl.1 hpl.2 HBY.out
  have HS2 := Lib.hid (hrd_st HS1.out hst)
  have hF := Blk.new w3 (cvs (.slice a n m) p2 c2 q2) 50
  have hbF := hb3.trans ((below_one w3 (.cells (cvs (.slice a n m) p2 c2 q2) 50)).mono hb3.size)
  replace hR := hR.below hbF
  replace ho := ho.below hbF
  replace hbd := hbd.trans (hbF.mono hbd.size)
  clear hs2 hst hb3 hbF hD d0 d1 d2 d3 HS1
  go_upto_region 3 with (fail)
  generalize w3.alloc (.cells (cvs (.slice a n m) p2 c2 q2) 50) = w4 at *
  generalize w3.heap.size = F at *
  obtain ⟨y0, y1, y2, y3⟩ := hF.c4
  obtain ⟨r0, r1, r2, r3⟩ := hR.c4
  obtain ⟨g0, g1, g2, g3⟩ := hR.f4
  obtain ⟨_, hkR⟩ := set4 hR (.slice a n m) (.int .i64 p2) (.int .i64 c2) (.int .i64 q2)
  have HBE := Lib.hid (Kp.below hbd (Nat.le_refl _) hkR (by omega))
  have HO := Lib.hid ((ho.kp hkR (by simp)).base (B' := w.heap.size) (by simp; omega))
  clear hR hkR hbd ho hF
  by_cases hc : c2 = 0
  · have hcb : (c2 != 0) = false := by simpa using hc
    have HSF : Hid (St hd0 n (hrd z pos mo p) p c q (L, x) p2 c2 q2) := Lib.hid (by have := HS2.out; rwa [if_pos hc] at this)
    clear hc
    go_wp2
    refine bodyPost_ret (v := .tuple #[cv (.slice a n m) p2 c2 q2, v1, .int .i64 x]) (by simp [results, Tryz.results59, go_sem, r0, r1, r2, r3]) rfl ⟨v1, L, x, p2, c2, q2, rfl, HBE.out, HO.out, hl16, HB4.out, HSF.out⟩
  · have hcb : (c2 != 0) = true := by simpa using hc
    have HSF : Hid (St hd0 n (hrd z pos mo p) p c q hd0 p2 c2 q2) := Lib.hid (by have := HS2.out; rwa [if_neg hc] at this)
    clear hc
    go_wp2
    refine bodyPost_ret (v := .tuple #[cv (.slice a n m) p2 c2 q2, .slice none 0 0, .int .i64 0]) (by simp [results, Tryz.results59, go_sem, r0, r1, r2, r3]) rfl ⟨.slice none 0 0, [], 0, p2, c2, q2, rfl, HBE.out, OwnLks.nil _ _, by simp, (fun s hs => by simp at hs), HSF.out⟩
end Go.Proofs.YtlealkfkddhnnaaGreat.Cur
namespace Go.Proofs.YtlealkfkddhnnaaGreat.Cur
open Go.RowKit Mem
set_option linter.unusedVariables false
set_option maxRecDepth 100000
theorem en_dec (L : List Lk) (D : List Int) (L2 : List Lk) (D2 : List Int) : decide (((L, D) : En) = (L2, D2)) = (decide (L = L2) && decide (D = D2)) := by
  simp only [Prod.mk.injEq, Bool.decide_and]
set_option maxHeartbeats 1000000 in
theorem rensame_any (P P2 : Nat → Prop) (A A2 B B2 : Option Addr) (n n2 m m2 r r2 k k2 : Nat) (L L2 : List Lk) (D D2 : List Int) (w : World) (hz : Lks w P A n L) (hz2 : Lks w P2 A2 n2 L2) (hn : n ≤ 1000000) (hn2 : n2 ≤ 1000000) (h1 : blen 1000000 L) (h2 : blen 1000000 L2)
    (hd : Bs w B r D) (hd2 : Bs w B2 r2 D2) (hb : ∀ x ∈ D, 0 ≤ x ∧ x < 256) (hb2 : ∀ x ∈ D2, 0 ≤ x ∧ x < 256) :
    Calls Tryz.prog 77 #[enagg A n m B r k, enagg A2 n2 m2 B2 r2 k2] w (BPost (.bool (decide (((L, D) : En) = (L2, D2)))) w) := by
  have hX := (Blk.new w (enc' A n m B r k) 62).alloc (.cells (enc' A2 n2 m2 B2 r2 k2) 62)
  have hY := Blk.new (w.alloc (.cells (enc' A n m B r k) 62)) (enc' A2 n2 m2 B2 r2 k2) 62
  rw [show (w.alloc (.cells (enc' A n m B r k) 62)).heap.size = w.heap.size + 1 by simp] at hY
  have hbd := below_two w (.cells (enc' A n m B r k) 62) (.cells (enc' A2 n2 m2 B2 r2 k2) 62)
  unfold BPost
  have HV : Hid (decide (((L, D) : En) = (L2, D2)) = (decide (L = L2) && decide (D = D2))) := Lib.hid (en_dec _ _ _ _)
  generalize decide (((L, D) : En) = (L2, D2)) = V at *
  obtain ⟨x0, x1⟩ := hX.c2
  obtain ⟨y0, y1⟩ := hY.c2
  have hcon := rlsame_any P P2 A A2 n n2 m m2 L L2 _ (hz.below hbd) (hz2.below hbd) hn hn2 h1 h2
  have HCD := Lib.hid (fun w' (h : Below w.heap.size w w') => same_dec B B2 r r2 k k2 D D2 w' (hd.below h) (hd2.below h) hb hb2)
  unfold BPost at hcon
  generalize decide (L = L2) = sv at *
  generalize decide (D = D2) = dv at *
  clear hz hz2 hd hd2 h1 h2
  cases sv
  · clear HCD hX hY
    go_enter Tryz.func77, Tryz.ntmps77
    go_wp2_with fail
    refine hcon.mono ?_
    rintro e w1 ⟨rfl, hb1⟩
    have HB := Lib.hid (hbd.trans (hb1.mono hbd.size))
    clear hcon hb1
    go_wp2
    go_ret
    exact ⟨by rw [HV.out]; rfl, HB.out⟩
  · go_enter Tryz.func77, Tryz.ntmps77
    go_wp2_with fail
    refine hcon.mono ?_
    rintro e w1 ⟨rfl, hb1⟩
    have hX1 := (hX.below hb1).c2
    have hY1 := (hY.below hb1).c2
    have hbd1 := hbd.trans (hb1.mono hbd.size)
    clear hcon hb1 x0 x1 y0 y1 hX hY
    obtain ⟨x0, x1⟩ := hX1
    obtain ⟨y0, y1⟩ := hY1
    go_wp2_with fail
    refine (HCD.out w1 hbd1).mono ?_
    rintro e w2 ⟨rfl, rfl⟩
    go_wp2
    go_ret
    exact ⟨by rw [HV.out]; rfl, hbd1⟩
end Go.Proofs.YtlealkfkddhnnaaGreat.Cur
