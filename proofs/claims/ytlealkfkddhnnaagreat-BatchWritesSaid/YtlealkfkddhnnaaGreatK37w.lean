/- As the seat's text, without what nothing here names. -/
import Derived.Test.YtlealkfkddhnnaaGreatK35w
import Derived.Test.YtlealkfkddhnnaaGreatK34w
import Derived.Test.YtlealkfkddhnnaaGreatK1w
import Derived.Test.YtlealkfkddhnnaaGreatK24w
import Derived.Test.YtlealkfkddhnnaaGreatLnkPw
import Derived.Test.YtlealkfkddhnnaaGreatShelfw
namespace Go.Proofs.YtlealkfkddhnnaaGreat.Cur
open Go.RowKit Mem Go.ChangeShapes Go.WideShapes
set_option linter.unusedVariables false
set_option maxRecDepth 100000
def U8E : El Int where
  k := 1
  R := fun _ _ c x => c = [.int .u8 x] ∧ 0 ≤ x ∧ x < 256
  len := fun ⟨e, _⟩ => by rw [e]; rfl
  one := fun ⟨e, _⟩ u hu => by rw [e] at hu; simp at hu; subst hu; rfl
  keep := fun h _ => h
  mono := fun h _ => h
theorem opens_u8 {t : TypeId} (hu : Tryz.prog.underlying t = some (.int .u8)) : Opens U8E t := by
  intro H enc w fuel cs x h
  obtain ⟨y, e, _, r⟩ := DataW.trod_int hu h
  have := bounds_u8 r
  exact ⟨y, e, by omega, by omega⟩
abbrev bv8 (z : List Int) : List Value := z.map (Value.int .u8)
theorem Sq.bs {w : World} {P : Nat → Prop} {A : Option Addr} {z : List Int} (h : Sq U8E w P A z) : Bs w A z.length z ∧ (∀ x ∈ z, 0 ≤ x ∧ x < 256) ∧ (0 < z.length → ∀ a, A = some a → P a.block) := by
  obtain ⟨cs, h1, h2⟩ := h
  have key : ∀ (cs : List (List Value)) (z : List Int), Ch U8E w P cs z → cs.flatten = bv8 z ∧ ∀ x ∈ z, 0 ≤ x ∧ x < 256 := by
    intro cs
    induction cs with
    | nil => intro z h; cases z with
      | nil => exact ⟨rfl, fun x hx => by simp at hx⟩
      | cons x z => exact h.elim
    | cons c cs ih => intro z h; cases z with
      | nil => exact h.elim
      | cons x z =>
        obtain ⟨⟨e, b⟩, h2⟩ := h
        obtain ⟨i1, i2⟩ := ih z h2
        refine ⟨by rw [List.flatten_cons, e, i1]; rfl, fun y hy => ?_⟩
        rcases List.mem_cons.1 hy with rfl | hy
        · exact b
        · exact i2 y hy
  obtain ⟨k1, k2⟩ := key cs z h1
  rw [k1] at h2
  refine ⟨⟨rfl, fun hn => ?_⟩, k2, fun hn a ha => ?_⟩
  · obtain ⟨k, o, e, _, hc⟩ := h2 (by rw [List.length_map]; exact hn)
    exact ⟨k, o, e, fun i x hx => hc i _ (by rw [List.getElem?_map, hx]; rfl)⟩
  · obtain ⟨k, o, e, hP, _⟩ := h2 (by rw [List.length_map]; exact hn)
    rw [e] at ha
    injection ha with ha
    subst ha
    exact hP
theorem Bs.sq {w : World} {A : Option Addr} {n : Nat} {z : List Int} (h : Bs w A n z) (hb : ∀ x ∈ z, 0 ≤ x ∧ x < 256) {P : Nat → Prop} (hP : 0 < n → ∀ a, A = some a → P a.block) : Sq U8E w P A z := by
  refine ⟨z.map fun x => [.int .u8 x], ?_, ?_⟩
  · have : ∀ l : List Int, (∀ x ∈ l, 0 ≤ x ∧ x < 256) → Ch U8E w P (l.map fun x => [.int .u8 x]) l := by
      intro l
      induction l with
      | nil => intro _; trivial
      | cons x l ih => intro hl; exact ⟨⟨rfl, hl x (by simp)⟩, ih fun y hy => hl y (by simp [hy])⟩
    exact this z hb
  · have key : ∀ l : List Int, (l.map fun x => [Value.int .u8 x]).flatten = bv8 l := by
      intro l
      induction l with
      | nil => rfl
      | cons x l ih => rw [List.map_cons, List.flatten_cons, ih]; rfl
    rw [key z]
    intro hn
    rw [List.length_map] at hn
    obtain ⟨k, o, ea, hc⟩ := h.2 (by rw [← h.1]; exact hn)
    refine ⟨k, o, ea, hP (by rw [← h.1]; exact hn) _ ea, fun i v hv => ?_⟩
    rw [List.getElem?_map, Option.map_eq_some_iff] at hv
    obtain ⟨x, hx, rfl⟩ := hv
    exact hc i x hx
abbrev En := List Lk × List Int
def en0 : En := ([], [])
abbrev EnE : El En := PrE (SlE LkE) (SlE U8E)
abbrev enagg (A : Option Addr) (n m : Nat) (B : Option Addr) (r k : Nat) : Value := .agg #[.slice A n m, .slice B r k]
abbrev enc' (A : Option Addr) (n m : Nat) (B : Option Addr) (r k : Nat) : Array Value := #[.slice A n m, .slice B r k]
theorem ent_parts {w : World} {P : Nat → Prop} {c : List Value} {e : En} (h : EnE.R w P c e) :
    ∃ A m B k, c = [.slice A e.1.length m, .slice B e.2.length k] ∧ e.1.length ≤ m ∧ (A = none → m = 0) ∧ Lks w P A e.1.length e.1 ∧ e.2.length ≤ k ∧ (B = none → k = 0) ∧ Bs w B e.2.length e.2 ∧ (∀ x ∈ e.2, 0 ≤ x ∧ x < 256) ∧ Sq U8E w P B e.2 := by
  obtain ⟨d, f, rfl, ⟨A, m, rfl, h1, h2, h3⟩, B, k, rfl, h4, h5, h6⟩ := h
  obtain ⟨u1, u2, _⟩ := h6.bs
  exact ⟨A, m, B, k, rfl, h1, h2, ⟨rfl, h3⟩, h4, h5, u1, u2, h6⟩
theorem EnE.mk {w : World} {P : Nat → Prop} {A B : Option Addr} {n m r k : Nat} {L : List Lk} {D : List Int} (hL : Lks w P A n L) (hm : n ≤ m) (hn : A = none → m = 0) (hD : D.length = r) (hk : r ≤ k) (hb : B = none → k = 0) (h : Sq U8E w P B D) : EnE.R w P [.slice A n m, .slice B r k] (L, D) := by
  obtain ⟨rfl, hL⟩ := hL
  subst hD
  exact ⟨[_], [_], rfl, ⟨A, m, rfl, hm, hn, hL⟩, B, k, rfl, hk, hb, h⟩
def Ens (w : World) (P : Nat → Prop) (A : Option Addr) (n : Nat) (L : List En) : Prop := L.length = n ∧ Sq EnE w P A L
theorem Ens.keep {w w' : World} {P : Nat → Prop} {A : Option Addr} {n : Nat} {L : List En} (h : Ens w P A n L) (hk : ∀ b, P b → b < w.heap.size → w'.heap[b]? = w.heap[b]?) : Ens w' P A n L := ⟨h.1, h.2.keep hk⟩
theorem Ens.mono {w : World} {P Q : Nat → Prop} {A : Option Addr} {n : Nat} {L : List En} (h : Ens w P A n L) (hq : ∀ b, P b → b < w.heap.size → Q b) : Ens w Q A n L := ⟨h.1, h.2.mono hq⟩
theorem Ens.below {w w' : World} {P : Nat → Prop} {A : Option Addr} {n : Nat} {L : List En} (h : Ens w P A n L) (hb : Below w.heap.size w w') : Ens w' P A n L := ⟨h.1, h.2.below hb⟩
theorem Ens.cells {w : World} {P : Nat → Prop} {A : Option Addr} {n : Nat} {L : List En} (h : Ens w P A n L) (hn : n ≠ 0) :
    ∃ g o, A = some ⟨g, o, none⟩ ∧ P g ∧ g < w.heap.size ∧ ∀ i, i < n → ∃ K D a l m b r k, L.getD i en0 = (K, D) ∧ l ≤ m ∧ (a = none → m = 0) ∧ Lks w P a l K ∧ r ≤ k ∧ (b = none → k = 0) ∧ Bs w b r D ∧ (∀ x ∈ D, 0 ≤ x ∧ x < 256) ∧ Sq U8E w P b D ∧
      ∀ w', Below w.heap.size w w' → w'.cell? ⟨g, o + i * 2, none⟩ = some (.slice a l m) ∧ w'.cell? ⟨g, o + i * 2 + 1, none⟩ = some (.slice b r k) := by
  obtain ⟨rfl, h⟩ := h
  obtain ⟨g, o, c, e, hP, hg, _⟩ := h.at_ (i := 0) (by decide) (List.getElem?_eq_getElem (Nat.pos_of_ne_zero hn))
  refine ⟨g, o, e, hP, hg, fun i hi => ?_⟩
  obtain ⟨g', o', c', e', hP', hg', hR, hcell⟩ := h.at_ (i := i) (by decide) (List.getElem?_eq_getElem hi)
  rw [e] at e'
  injection e' with e'
  injection e' with e1 e2
  subst e1 e2
  have hS : L.getD i en0 = L[i] := by rw [List.getD_eq_getElem?_getD, List.getElem?_eq_getElem hi]; rfl
  obtain ⟨a, m, b, k, rfl, h1, h2, h3, h4, h5, h6, h7, h8⟩ := ent_parts hR
  rw [hS]
  refine ⟨L[i].1, L[i].2, a, _, m, b, _, k, rfl, h1, h2, h3, h4, h5, h6, h7, h8, fun w' hb => ⟨?_, ?_⟩⟩
  · have := hcell 0 _ rfl; exact (hb.cell (lt_of_cell this)).trans this
  · have := hcell 1 _ rfl; exact (hb.cell (lt_of_cell this)).trans this
theorem opens_entry : Opens EnE 62 := opens_pair Tryz.underlying62 rfl rfl (by kernel_rfl) (by kernel_rfl) (by kernel_rfl) (opens_slice Tryz.underlying60 (by kernel_rfl) (by decide) opens_link) (opens_slice Tryz.underlying28 (by kernel_rfl) (by decide) (opens_u8 Tryz.underlying5))
section
variable {H : Type} {enc : TypeId × Value → H} {w : World} {base : Nat} {v : Value} {d : DataW H} {p : List MemPlace}
end
end Go.Proofs.YtlealkfkddhnnaaGreat.Cur
namespace Go.Proofs.YtlealkfkddhnnaaGreat.Cur
open Go.RowKit Mem
set_option linter.unusedVariables false
set_option maxRecDepth 100000
def enok (pos : Int) (L : List Lk) (r : Nat) : Bool := decide (r ≤ 1048576) && lkok pos L
theorem enright_any (P : Nat → Prop) (pos : Int) (A : Option Addr) (n m : Nat) (L : List Lk) (B : Option Addr) (r k : Nat) (w : World) (hz : Lks w P A n L) (p0 : 0 ≤ pos) (p1 : pos < 18446744073709551616) :
    Calls Tryz.prog 41 #[.int .u64 pos, enagg A n m B r k] w (BPost (.bool (enok pos L r)) w) := by
  have hX := Blk.new w (enc' A n m B r k) 62
  have hb := below_one w (.cells (enc' A n m B r k) 62)
  obtain ⟨x0, x1⟩ := hX.c2
  have hcon := lkright_any P pos A n m L _ (hz.below hb) p0 p1
  unfold BPost at hcon ⊢
  have HV : Hid (enok pos L r = (decide (r ≤ 1048576) && lkok pos L)) := Lib.hid rfl
  generalize enok pos L r = V at *
  generalize lkok pos L = lv at *
  clear hX hz
  by_cases hr : r ≤ 1048576
  · have e1 : (r : Int) ≤ 1048576 := by omega
    rw [decide_eq_true hr] at HV
    go_enter Tryz.func41, Tryz.ntmps41
    go_wp2_with fail
    refine hcon.mono ?_
    rintro e w1 ⟨rfl, hb1⟩
    have HB := Lib.hid (hb.trans (hb1.mono hb.size))
    clear hcon hb1
    go_wp2
    go_ret
    exact ⟨by rw [HV.out]; rfl, HB.out⟩
  · have e1 : ¬ (r : Int) ≤ 1048576 := by omega
    rw [decide_eq_false hr] at HV
    clear hcon hr
    go_enter Tryz.func41, Tryz.ntmps41
    go_wp2
    go_ret
    exact ⟨by rw [HV.out]; rfl, hb⟩
theorem renright_any (P : Nat → Prop) (pos : Int) (A : Option Addr) (n m : Nat) (L : List Lk) (B : Option Addr) (r k : Nat) (w : World) (hz : Lks w P A n L) (p0 : 0 ≤ pos) (p1 : pos < 18446744073709551616) :
    Calls Tryz.prog 46 #[.int .u64 pos, enagg A n m B r k] w (BPost (.bool (enok pos L r)) w) := by
  have hX := Blk.new w (enc' A n m B r k) 62
  have hb := below_one w (.cells (enc' A n m B r k) 62)
  obtain ⟨x0, x1⟩ := hX.c2
  have hcon := rlkright_any P pos A n m L _ (hz.below hb) p0 p1
  unfold BPost at hcon ⊢
  have HV : Hid (enok pos L r = (decide (r ≤ 1048576) && lkok pos L)) := Lib.hid rfl
  generalize enok pos L r = V at *
  generalize lkok pos L = lv at *
  clear hz
  by_cases hr : r ≤ 1048576
  · have e1 : decide ((r : Int) ≤ 1048576) = true := by simp; omega
    rw [decide_eq_true hr] at HV
    clear hr
    go_enter Tryz.func46, Tryz.ntmps46
    go_wp2_with fail
    refine hcon.mono ?_
    rintro e w1 ⟨rfl, hb1⟩
    have y := (hX.below hb1).c2
    obtain ⟨y0, y1⟩ := y
    have HB := Lib.hid (hb.trans (hb1.mono hb.size))
    clear hcon hb1 x0 x1 hX
    cases lv
    · go_wp2
      go_ret
      exact ⟨by rw [HV.out]; rfl, HB.out⟩
    · go_wp2
      go_ret
      exact ⟨by rw [HV.out]; rfl, HB.out⟩
  · have e1 : decide ((r : Int) ≤ 1048576) = false := by simp; omega
    rw [decide_eq_false hr] at HV
    clear hr
    go_enter Tryz.func46, Tryz.ntmps46
    go_wp2_with fail
    refine hcon.mono ?_
    rintro e w1 ⟨rfl, hb1⟩
    have y := (hX.below hb1).c2
    obtain ⟨y0, y1⟩ := y
    have HB := Lib.hid (hb.trans (hb1.mono hb.size))
    clear hcon hb1 x0 x1 hX
    cases lv
    · go_wp2
      go_ret
      exact ⟨by rw [HV.out]; rfl, HB.out⟩
    · go_wp2
      go_ret
      exact ⟨by rw [HV.out]; rfl, HB.out⟩
set_option maxHeartbeats 2000000 in
theorem puthead_yes {w : World} {B0 b : Nat} {r0 : Option Nat} {y : List Int} {M c : Int} (P : Nat → Prop) (pos : Int) (A : Option Addr) (n m : Nat) (L : List Lk) (B : Option Addr) (r k : Nat) (h : Wr w B0 b r0 y M c) (hz : Lks w P A n L) (p0 : 0 ≤ pos) (p1 : pos < 18446744073709551616) (hok : enok pos L r = true)
    (hoff : ∀ b', P b' → b' < w.heap.size → ¬ WS b r0 b') (hy : y.length ≤ 500000) (hBw : B0 ≤ w.heap.size) :
    Calls Tryz.prog 35 #[.pointer (some ⟨b, 0, none⟩), .int .u64 pos, enagg A n m B r k] w (WPutsPost B0 b r0 y (lkis pos L n ++ [vz r]) M c w) := by
  have hX := Blk.new w (enc' A n m B r k) 62
  have hb := below_one w (.cells (enc' A n m B r k) 62)
  obtain ⟨x0, x1⟩ := hX.c2
  have hoff2 : ¬ WS b r0 w.heap.size := h.off (Nat.le_refl _)
  have hrc := enright_any P pos A n m L B r k _ (hz.below hb) p0 p1
  rw [hok] at hrc
  unfold BPost at hrc
  have hlk : lkok pos L = true := by unfold enok at hok; simp only [Bool.and_eq_true] at hok; exact hok.2
  have hrl : r ≤ 1048576 := by unfold enok at hok; simp only [Bool.and_eq_true, decide_eq_true_eq] at hok; exact hok.1
  have hn16 : n ≤ 16 := by rw [← hz.1]; exact (lkok_parts hlk).1
  have hle := lkis_len hlk n (by rw [hz.1]; exact Nat.le_refl _)
  have hpl := puts_le (lkis pos L n) y M c
  have HZ := Lib.hid (hz.mono (Q := fun b' => P b' ∧ b' < w.heap.size) (fun b' h1 h2 => ⟨h1, h2⟩))
  have HLK := Lib.hid hlk
  have HOFF := Lib.hid hoff
  have HSN : Hid (puts (lkis pos L n ++ [vz r]) y M c = (putZ (puts (lkis pos L n) y M c).1 (vz r) M (puts (lkis pos L n) y M c).2, putC (puts (lkis pos L n) y M c).1 (vz r) M (puts (lkis pos L n) y M c).2)) := Lib.hid (puts_snoc _ _ _ _ _)
  have HL5 : Hid ((puts (lkis pos L n) y M c).1.length ≤ 900000) := Lib.hid (by omega)
  have e1 : IntKind.u64.wrap (r : Int) = r := IntWalk.u64_in _ (by omega)
  have hr0 : (0 : Int) ≤ r := by omega
  have hr1 : (r : Int) < 18446744073709551616 := by omega
  have h1 := h.below hb
  clear hz hok hlk hoff hle hpl h
  go_enter Tryz.func35, Tryz.ntmps35
  go_wp2_with fail
  refine hrc.mono ?_
  rintro en w1 ⟨rfl, hb1⟩
  have hX1 := hX.below hb1
  have h2 := h1.below hb1
  have hbd1 := hb.trans (hb1.mono hb.size)
  have hB1 : B0 ≤ w1.heap.size := Nat.le_trans hBw hbd1.size
  have hks1 : Ks (WS b r0) w w1 := Ks.of_below hbd1
  clear hrc hb1 hX h1 x0 x1 hb
  obtain ⟨x0, x1⟩ := hX1.c2
  go_wp2_with fail
  refine (lput_yes (fun b' => P b' ∧ b' < w.heap.size) pos A n m L h2 (HZ.out.below hbd1) p0 p1 HLK.out (fun b' hp _ => HOFF.out b' hp.1 hp.2) (by omega) hB1).mono ?_
  rintro en w2 ⟨r2, rfl, hk2, hg2, hw2⟩
  have hX2 := hX1.ks hk2 hoff2
  have hks2 := hks1.trans hk2
  have hgr2 : Gr r0 r2 w := (Gr.refl _ _).trans hg2 hks1.size
  have hB2 : B0 ≤ w2.heap.size := Nat.le_trans hBw hks2.size
  clear hk2 hg2 hks1 h2 hX1 x0 x1 hbd1
  obtain ⟨x0, x1⟩ := hX2.c2
  go_wp2_with fail
  refine (vput_any _ hw2 hr0 hr1 HL5.out hB2).mono ?_
  rintro en w3 ⟨r3, rfl, hk3, hg3, hw3⟩
  have H1 := Lib.hid (Ks.wr hks2 hgr2 hk3)
  have H2 := Lib.hid (hgr2.trans hg3 hks2.size)
  have H3 : Hid (Wr w3 B0 b r3 (puts (lkis pos L n ++ [vz r]) y M c).1 M (puts (lkis pos L n ++ [vz r]) y M c).2) := Lib.hid (by rw [HSN.out]; exact hw3)
  clear hk3 hg3 hw3 hw2 hks2 hgr2
  go_wp2
  go_end0
  exact ⟨r3, rfl, H1.out, H2.out, H3.out⟩
set_option maxHeartbeats 2000000 in
theorem rhead_any24 (P : Nat → Prop) (pos : Int) (A : Option Addr) (n m : Nat) (L : List Lk) (B : Option Addr) (r k : Nat) (w : World) (hz : Lks w P A n L) (p0 : 0 ≤ pos) (p1 : pos < 18446744073709551616) (hlk : lkok pos L = true) (hrl : r ≤ 1048576) :
    Calls Tryz.prog 81 #[.int .u64 pos, enagg A n m B r k] w (RowPost (lkz pos L ++ vz r) w) := by
  have hX := Blk.new w (enc' A n m B r k) 62
  have hb := below_one w (.cells (enc' A n m B r k) 62)
  obtain ⟨x0, x1⟩ := hX.c2
  have hS : Blk (w.alloc (.cells (enc' A n m B r k) 62)).drew w.heap.size (enc' A n m B r k) 62 := hX
  have hbd := hb.trans ((below_one' _).mono hb.size)
  have HRB := Lib.hid (fun w' (h : Below w.heap.size w w') => rlkbytes_any P pos A n m L w' (hz.below h) p0 p1 hlk)
  have HLE := Lib.hid (lkz_len hlk)
  have HVL := Lib.hid (vz_length (r : Int))
  have hv := vsz_le (r : Int)
  have e1 : IntKind.u64.wrap (r : Int) = r := IntWalk.u64_in _ (by omega)
  have hr0 : (0 : Int) ≤ r := by omega
  have hr1 : (r : Int) < 18446744073709551616 := by omega
  have L0 : ∀ w', Blk w' w.heap.size (enc' A n m B r k) 62 → w'.cell? ⟨w.heap.size, 0, none⟩ = some (.slice A n m) ∧ w'.cell? ⟨w.heap.size, 1, none⟩ = some (.slice B r k) := fun w' h => h.c2
  generalize lkz pos L = Y at *
  clear hX hz hlk hb
  go_enter Tryz.func81, Tryz.ntmps81
  go_wp2
  clear x0 x1
  refine Seq.wp_region_seq (fun w' => Blk w' w.heap.size (enc' A n m B r k) 62) (by kernel_rfl) (by kernel_rfl) hS ?_
  generalize (w.alloc (.cells (enc' A n m B r k) 62)).drew = wd at *
  repeat (first | (refine Seq.Seq.skip (by rfl) ?_; (try simp only [Act.put, List.setIfInBounds_toArray, List.set_cons_zero, List.set_cons_succ])) | (refine Seq.Seq.det ?_ (by rfl) (fun w hS => ?_) ?_; rotate_left; ((try dsimp only at hS); go_simp; (try rw [if_pos (by omega)]); with_reducible rfl); (try simp only [Act.put, List.setIfInBounds_toArray, List.set_cons_zero, List.set_cons_succ])))
  refine Seq.Seq.make (by rfl) (by rfl) (fun K Q' hK => ?_)
  go_simp
  go_at_call 119
  refine (HRB.out _ hbd).mono ?_
  rintro en v1 ⟨A1, m1, rfl, hc1, _, _, _, ho1⟩
  replace hS := hS.below hc1
  have ho1' : Own v1 w.heap.size (.slice A1 Y.length m1) Y := ho1.base (fun g hg => by have := ho1.ge g hg; have := hbd.size; omega)
  replace hbd := hbd.trans (hc1.mono hbd.size)
  clear hc1 ho1
  refine hK.out _ _ (hS) ?_
  clear hK K
  try simp only [Act.put, List.setIfInBounds_toArray, List.set_cons_zero, List.set_cons_succ]
  repeat (first | (refine Seq.Seq.skip (by rfl) ?_; (try simp only [Act.put, List.setIfInBounds_toArray, List.set_cons_zero, List.set_cons_succ])) | (refine Seq.Seq.det ?_ (by rfl) (fun w hS => ?_) ?_; rotate_left; ((try dsimp only at hS); go_simp; (try rw [if_pos (by omega)]); with_reducible rfl); (try simp only [Act.put, List.setIfInBounds_toArray, List.set_cons_zero, List.set_cons_succ])))
  refine Seq.Seq.make (by rfl) (by rfl) (fun K Q' hK => ?_)
  go_simp
  go_at_call 80
  refine (rbytes_any 10 _ _ (vsz_le _) hr0 hr1).mono ?_
  rintro en v2 ⟨A2, m2, rfl, hc2, hbs2, hnil2, _⟩
  replace hS := hS.below hc2
  have ho2 := ho1'.below hc2
  replace hbd := hbd.trans (hc2.mono hbd.size)
  have hB2 := hbd.size
  clear hc2 ho1'
  refine hK.out _ _ (hS) ?_
  clear hK K
  try simp only [Act.put, List.setIfInBounds_toArray, List.set_cons_zero, List.set_cons_succ]
  repeat (first | (refine Seq.Seq.skip (by rfl) ?_; (try simp only [Act.put, List.setIfInBounds_toArray, List.set_cons_zero, List.set_cons_succ])) | (refine Seq.Seq.det ?_ (by rfl) (fun w hS => ?_) ?_; rotate_left; ((try dsimp only at hS); go_simp; (try rw [if_pos (by omega)]); with_reducible rfl); (try simp only [Act.put, List.setIfInBounds_toArray, List.set_cons_zero, List.set_cons_succ])))
  refine Seq.Seq.make (by rfl) (by rfl) (fun K Q' hK => ?_)
  refine oper_append_gr (.tmp 8) (.tmp 13) rfl w.heap.size _ _ rfl ho2 _ _ _ _ rfl hbs2 hnil2 (by rw [HVL.out]; have := HLE.out; omega) hB2 ?_
  intro v' w9 ho9 hg9 hgr9
  have hb9 := Own.belowOf hbd hB2 ho2 hg9
  have hS9 : Blk w9 w.heap.size (enc' A n m B r k) 62 := (hg9.block w.heap.size hS.lt (fun e => own_ne_blk ho2 hS (by decide) e.symm)).trans hS
  obtain ⟨A9, c9, hv9⟩ := ho9.slice
  obtain ⟨Z, hZ⟩ : ∃ Z, Z = Y ++ vz (r : Int) := ⟨_, rfl⟩
  rw [← hZ] at ho9 hv9
  have HZ9 := Lib.hid hZ
  have HO9 := Lib.hid ho9
  subst hv9
  clear ho2 hg9 hgr9 hbs2 hbd hS hZ ho9
  refine hK.out _ _ (hS9) ?_
  clear hK K
  try simp only [Act.put, List.setIfInBounds_toArray, List.set_cons_zero, List.set_cons_succ]
  repeat (first | (refine Seq.Seq.skip (by rfl) ?_; (try simp only [Act.put, List.setIfInBounds_toArray, List.set_cons_zero, List.set_cons_succ])) | (refine Seq.Seq.det ?_ (by rfl) (fun w hS => ?_) ?_; rotate_left; ((try dsimp only at hS); go_simp; (try rw [if_pos (by omega)]); with_reducible rfl); (try simp only [Act.put, List.setIfInBounds_toArray, List.set_cons_zero, List.set_cons_succ])))
  refine Seq.Seq.nil ?_
  clear hS9 L0
  go_wp2
  go_ret
  rw [← HZ9.out]
  exact Own.rowPost (B := 0) HO9.out hb9
end Go.Proofs.YtlealkfkddhnnaaGreat.Cur
namespace Go.Proofs.YtlealkfkddhnnaaGreat.Cur
open Go.RowKit Mem
set_option linter.unusedVariables false
set_option maxRecDepth 100000
abbrev Hd := List Lk × Int
def hd0 : Hd := ([], 0)
def hrd (z : List Int) (pos mo p : Int) : Rs Hd := (lrd z pos p).bind hd0 fun L p1 => (vm z mo p1).bind hd0 fun v p2 => ((L, v), p2, 0, 0)
end Go.Proofs.YtlealkfkddhnnaaGreat.Cur
namespace Go.Proofs.YtlealkfkddhnnaaGreat.Cur
open Go.RowKit Mem
set_option linter.unusedVariables false
set_option maxRecDepth 100000
theorem bytesOf_inj24 {x y : List Int} (hx : ∀ u ∈ x, 0 ≤ u ∧ u < 256) (hy : ∀ u ∈ y, 0 ≤ u ∧ u < 256) : (Lib.bytesOf x == Lib.bytesOf y) = decide (x = y) := by
  rw [Bool.eq_iff_iff, beq_iff_eq, decide_eq_true_eq]
  refine ⟨fun h => ?_, fun h => by rw [h]⟩
  rw [← Lib.strOfNums_toList, ← Lib.strOfNums_toList] at h
  exact strOfNums_inj hx hy (bstr_inj h)
theorem en_dec (L : List Lk) (D : List Int) (L2 : List Lk) (D2 : List Int) : decide (((L, D) : En) = (L2, D2)) = (decide (L = L2) && decide (D = D2)) := by
  simp only [Prod.mk.injEq, Bool.decide_and]
theorem bequal_any (A B : Option Addr) (n m c d : Nat) (y z : List Int) (w : World) (ha : Bs w A n y) (hb : Bs w B m z) (hy : ∀ x ∈ y, 0 ≤ x ∧ x < 256) (hz : ∀ x ∈ z, 0 ≤ x ∧ x < 256) :
    Calls Tryz.prog 115 #[.slice A n c, .slice B m d] w fun e w' => e = .returned (.bool (decide (y = z))) ∧ w = w' := by
  have h := Tryz.bytes_Equal (.slice A n c) (.slice B m d) y z w (run_convert_bs c ha) (run_convert_bs d hb)
  rw [bytesOf_inj24 hy hz] at h
  exact h.mono fun e w' ⟨h1, h2⟩ => ⟨h1, h2.symm⟩
set_option maxHeartbeats 1000000 in
theorem ensame_any (P P2 : Nat → Prop) (A A2 B B2 : Option Addr) (n n2 m m2 r r2 k k2 : Nat) (L L2 : List Lk) (D D2 : List Int) (w : World) (hz : Lks w P A n L) (hz2 : Lks w P2 A2 n2 L2) (hn : n ≤ 1000000) (hn2 : n2 ≤ 1000000) (h1 : blen 1000000 L) (h2 : blen 1000000 L2)
    (hd : Bs w B r D) (hd2 : Bs w B2 r2 D2) (hb : ∀ x ∈ D, 0 ≤ x ∧ x < 256) (hb2 : ∀ x ∈ D2, 0 ≤ x ∧ x < 256) :
    Calls Tryz.prog 76 #[enagg A n m B r k, enagg A2 n2 m2 B2 r2 k2] w (BPost (.bool (decide (((L, D) : En) = (L2, D2)))) w) := by
  have hX := (Blk.new w (enc' A n m B r k) 62).alloc (.cells (enc' A2 n2 m2 B2 r2 k2) 62)
  have hY := Blk.new (w.alloc (.cells (enc' A n m B r k) 62)) (enc' A2 n2 m2 B2 r2 k2) 62
  rw [show (w.alloc (.cells (enc' A n m B r k) 62)).heap.size = w.heap.size + 1 by simp] at hY
  have hbd := below_two w (.cells (enc' A n m B r k) 62) (.cells (enc' A2 n2 m2 B2 r2 k2) 62)
  unfold BPost
  have HV : Hid (decide (((L, D) : En) = (L2, D2)) = (decide (L = L2) && decide (D = D2))) := Lib.hid (en_dec _ _ _ _)
  generalize decide (((L, D) : En) = (L2, D2)) = V at *
  obtain ⟨x0, x1⟩ := hX.c2
  obtain ⟨y0, y1⟩ := hY.c2
  have hcon := lsame_any P P2 A A2 n n2 m m2 L L2 _ (hz.below hbd) (hz2.below hbd) hn hn2 h1 h2
  have HCD := Lib.hid (fun w' (h : Below w.heap.size w w') => bequal_any B B2 r r2 k k2 D D2 w' (hd.below h) (hd2.below h) hb hb2)
  unfold BPost at hcon
  generalize decide (L = L2) = sv at *
  generalize decide (D = D2) = dv at *
  clear hz hz2 hd hd2 h1 h2
  cases sv
  · clear HCD hX hY
    go_enter Tryz.func76, Tryz.ntmps76
    go_wp2_with fail
    refine hcon.mono ?_
    rintro e w1 ⟨rfl, hb1⟩
    have HB := Lib.hid (hbd.trans (hb1.mono hbd.size))
    clear hcon hb1
    go_wp2
    go_ret
    exact ⟨by rw [HV.out]; rfl, HB.out⟩
  · go_enter Tryz.func76, Tryz.ntmps76
    go_wp2_with fail
    refine hcon.mono ?_
    rintro e w1 ⟨rfl, hb1⟩
    have hX1 := (hX.below hb1).c2
    have hY1 := (hY.below hb1).c2
    have hbd1 := hbd.trans (hb1.mono hbd.size)
    clear hcon hb1 x0 x1 y0 y1 hX hY
    obtain ⟨x0, x1⟩ := hX1
    obtain ⟨y0, y1⟩ := hY1
    go_wp2_with fail
    refine (HCD.out w1 hbd1).mono ?_
    rintro e w2 ⟨rfl, rfl⟩
    go_wp2
    go_ret
    exact ⟨by rw [HV.out]; rfl, hbd1⟩
set_option maxHeartbeats 1000000 in
theorem rensame_any (P P2 : Nat → Prop) (A A2 B B2 : Option Addr) (n n2 m m2 r r2 k k2 : Nat) (L L2 : List Lk) (D D2 : List Int) (w : World) (hz : Lks w P A n L) (hz2 : Lks w P2 A2 n2 L2) (hn : n ≤ 1000000) (hn2 : n2 ≤ 1000000) (h1 : blen 1000000 L) (h2 : blen 1000000 L2)
    (hd : Bs w B r D) (hd2 : Bs w B2 r2 D2) (hb : ∀ x ∈ D, 0 ≤ x ∧ x < 256) (hb2 : ∀ x ∈ D2, 0 ≤ x ∧ x < 256) :
    Calls Tryz.prog 77 #[enagg A n m B r k, enagg A2 n2 m2 B2 r2 k2] w (BPost (.bool (decide (((L, D) : En) = (L2, D2)))) w) := by
  have hX := (Blk.new w (enc' A n m B r k) 62).alloc (.cells (enc' A2 n2 m2 B2 r2 k2) 62)
  have hY := Blk.new (w.alloc (.cells (enc' A n m B r k) 62)) (enc' A2 n2 m2 B2 r2 k2) 62
  rw [show (w.alloc (.cells (enc' A n m B r k) 62)).heap.size = w.heap.size + 1 by simp] at hY
  have hbd := below_two w (.cells (enc' A n m B r k) 62) (.cells (enc' A2 n2 m2 B2 r2 k2) 62)
  unfold BPost
  have HV : Hid (decide (((L, D) : En) = (L2, D2)) = (decide (L = L2) && decide (D = D2))) := Lib.hid (en_dec _ _ _ _)
  generalize decide (((L, D) : En) = (L2, D2)) = V at *
  obtain ⟨x0, x1⟩ := hX.c2
  obtain ⟨y0, y1⟩ := hY.c2
  have hcon := rlsame_any P P2 A A2 n n2 m m2 L L2 _ (hz.below hbd) (hz2.below hbd) hn hn2 h1 h2
  have HCD := Lib.hid (fun w' (h : Below w.heap.size w w') => same_dec B B2 r r2 k k2 D D2 w' (hd.below h) (hd2.below h) hb hb2)
  unfold BPost at hcon
  generalize decide (L = L2) = sv at *
  generalize decide (D = D2) = dv at *
  clear hz hz2 hd hd2 h1 h2
  cases sv
  · clear HCD hX hY
    go_enter Tryz.func77, Tryz.ntmps77
    go_wp2_with fail
    refine hcon.mono ?_
    rintro e w1 ⟨rfl, hb1⟩
    have HB := Lib.hid (hbd.trans (hb1.mono hbd.size))
    clear hcon hb1
    go_wp2
    go_ret
    exact ⟨by rw [HV.out]; rfl, HB.out⟩
  · go_enter Tryz.func77, Tryz.ntmps77
    go_wp2_with fail
    refine hcon.mono ?_
    rintro e w1 ⟨rfl, hb1⟩
    have hX1 := (hX.below hb1).c2
    have hY1 := (hY.below hb1).c2
    have hbd1 := hbd.trans (hb1.mono hbd.size)
    clear hcon hb1 x0 x1 y0 y1 hX hY
    obtain ⟨x0, x1⟩ := hX1
    obtain ⟨y0, y1⟩ := hY1
    go_wp2_with fail
    refine (HCD.out w1 hbd1).mono ?_
    rintro e w2 ⟨rfl, rfl⟩
    go_wp2
    go_ret
    exact ⟨by rw [HV.out]; rfl, hbd1⟩
def LgEPost (n : Nat) (L : List Lk) (r : Nat) (w : World) (e : Ending) (w' : World) : Prop := ∃ b, e = .returned (.bool b) ∧ Below w.heap.size w w' ∧ (b = false → n ≤ 50 ∧ blen 50 L ∧ r ≤ 500)
set_option maxHeartbeats 1000000 in
theorem long24_any (P : Nat → Prop) (A : Option Addr) (n m : Nat) (L : List Lk) (B : Option Addr) (r k : Nat) (w : World) (hz : Lks w P A n L) :
    Calls Tryz.prog 64 #[enagg A n m B r k] w (LgEPost n L r w) := by
  have hX := Blk.new w (enc' A n m B r k) 62
  have hb := below_one w (.cells (enc' A n m B r k) 62)
  obtain ⟨x0, x1⟩ := hX.c2
  have hcon := long23_any P A n m L _ (hz.below hb)
  clear hz
  go_enter Tryz.func64, Tryz.ntmps64
  go_wp2_with fail
  refine hcon.mono ?_
  rintro e w1 ⟨lb, rfl, hb1, hl⟩
  have hbd := hb.trans (hb1.mono hb.size)
  obtain ⟨y0, y1⟩ := (hX.below hb1).c2
  clear hcon hb1 x0 x1 hX hb
  cases lb
  · have HL := Lib.hid (hl rfl)
    clear hl
    by_cases hr : 500 < (r : Int)
    · go_wp2
      go_ret
      exact ⟨true, rfl, hbd, fun h => by cases h⟩
    · have HR : Hid (r ≤ 500) := Lib.hid (by omega)
      have HD : Hid (decide (500 < (r : Int)) = false) := Lib.hid (decide_eq_false hr)
      go_wp2
      go_ret
      exact ⟨false, congrArg (fun b => Ending.returned (.bool b)) HD.out, hbd, fun _ => ⟨HL.out.1, HL.out.2, HR.out⟩⟩
  · clear hl
    go_wp2
    go_ret
    exact ⟨true, rfl, hbd, fun h => by cases h⟩
end Go.Proofs.YtlealkfkddhnnaaGreat.Cur
