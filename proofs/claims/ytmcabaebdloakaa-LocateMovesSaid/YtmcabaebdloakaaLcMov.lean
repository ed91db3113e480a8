/- LocateMoves: called with any two projections and any number, the law returns true; no condition. -/
import Derived.Test.YtmcabaebdloakaaRows
import Derived.Test.YtmcabaebdloakaaLocG
import Derived.Test.YtmcabaebdloakaaLocE
import Derived.ProofKit
import Derived.OpenShut
import Derived.ShutString
import Derived.ChangeOld
namespace Go.Proofs.Ytmcabaebdloakaa.locateMoves
open Go.ChangeShapes Go.WideShapes Go.ChangeAt Go.RowKit
open Go.ChangeMaps (open_string shut_string)
set_option linter.unusedVariables false

theorem own : ownKnob Try.prog.godebug = none := by kernel_rfl
theorem laidOut : laidOutB Try.prog = true := by kernel_rfl
open Cur Mem

set_option maxRecDepth 100000

/-- A slice of numbers, whole. -/
def Wg (v : Value) (N : List Int) (w : World) : Prop := ∃ a m, v = .slice a N.length m ∧ Us w a N.length N
theorem Wg.below {v : Value} {N : List Int} {w w' : World} (h : Wg v N w) (hb : Below w.heap.size w w') : Wg v N w' := by
  obtain ⟨a, m, h1, h2⟩ := h
  exact ⟨a, m, h1, h2.below hb⟩
theorem mvv_same (e : Int) (L : List Stp) (p : Int) : mvv e L e L p = false := by simp [mvv]


set_option maxHeartbeats 32000000 in
theorem walk {H : Type} (enc : TypeId × Value → H) (w : World) (base : Nat) (v0 : Value) (d0 : DataW H) (p0 : List MemPlace) (g0 : Value.okWide Try.prog w .any base 25 v0) (h0 : DataW.Trod enc Try.prog w 0 (fun _ => true) true 25 v0 d0 p0) (v1 : Value) (d1 : DataW H) (p1 : List MemPlace) (g1 : Value.okWide Try.prog w .any base 25 v1) (h1 : DataW.Trod enc Try.prog w 0 (fun _ => true) true 25 v1 d1 p1) (v2 : Value) (d2 : DataW H) (p2 : List MemPlace) (g2 : Value.okWide Try.prog w .any base 22 v2) (h2 : DataW.Trod enc Try.prog w 0 (fun _ => true) true 22 v2 d2 p2) :
    Calls Try.prog 6 #[v0, v1, v2] w fun e w' => e = .returned (.bool true) ∧ Below w.heap.size w w' := by
  obtain ⟨e, A, n, m, L, rfl, ⟨e0, e1⟩, hm, hnil, hz⟩ := open_prj g0 h0
  obtain ⟨e2, B, k, c, M, rfl, ⟨e20, e21⟩, hm2, hnil2, hz2⟩ := open_prj g1 h1
  obtain ⟨p, rfl, p0, p1⟩ := open_u64 g2 h2
  clear g0 h0 g1 h1 g2 h2
  have hX := (Blk.new w (prc e A n m) 25).alloc (.cells (prc e2 B k c) 25)
  have hY := Blk.new (w.alloc (.cells (prc e A n m) 25)) (prc e2 B k c) 25
  rw [World.size_alloc] at hY
  have hbd := below_two w (.cells (prc e A n m) 25) (.cells (prc e2 B k c) 25)
  have h2 : S2p w.heap.size (w.heap.size + 1) _ _ _ := ⟨hX, hY⟩
  have HZ := Lib.hid hz
  have HZ2 := Lib.hid hz2
  clear hz hz2 hnil hnil2 hX hY
  obtain ⟨x0, x1⟩ := h2.1.c2
  go_enter Try.func6, Try.ntmps6
  go_wp2_with fail
  generalize (w.alloc (.cells (prc e A n m) 25)).alloc (.cells (prc e2 B k c) 25) = w0 at *
  refine (long20_any _ e A n m L _ (HZ.out.below hbd)).mono ?_
  rintro en w1 ⟨b, rfl, hb1, hlg⟩
  replace h2 := h2.below hb1
  replace hbd := hbd.trans (hb1.mono hbd.size)
  clear hb1 x0 x1
  cases b
  case true =>
    clear hlg h2
    go_wp2_with fail
    refine (live21_any _).mono ?_
    rintro e wl ⟨rfl, hbl⟩
    replace hbd := hbd.trans (hbl.mono hbd.size)
    go_wp2
    go_ret
    exact ⟨rfl, hbd⟩
  obtain ⟨hn70, hpl⟩ := hlg rfl
  have hpl6 : plen 1000000 L := fun s hs => ⟨by have := (hpl s hs).1; omega, fun l hl => by have := (hpl s hs).2 l hl; omega⟩
  clear hlg hpl
  obtain ⟨y0, y1⟩ := h2.2.c2
  go_wp2_with fail
  refine (long20_any _ e2 B k c M _ (HZ2.out.below hbd)).mono ?_
  rintro en w2 ⟨b, rfl, hb1, hlg⟩
  replace h2 := h2.below hb1
  replace hbd := hbd.trans (hb1.mono hbd.size)
  clear hb1 y0 y1
  cases b
  case true =>
    clear hlg h2
    go_wp2_with fail
    refine (live21_any _).mono ?_
    rintro e wl ⟨rfl, hbl⟩
    replace hbd := hbd.trans (hbl.mono hbd.size)
    go_wp2
    go_ret
    exact ⟨rfl, hbd⟩
  obtain ⟨hk70, hpl⟩ := hlg rfl
  have hpl7 : plen 1000000 M := fun s hs => ⟨by have := (hpl s hs).1; omega, fun l hl => by have := (hpl s hs).2 l hl; omega⟩
  clear hlg hpl
  have hF := fun w' (h : Below w.heap.size w w') => first_any _ _ e A n m L e2 B k c M w' (HZ.out.below h) (HZ2.out.below h) (by omega) (by omega) hpl6 hpl7
  have hMV := fun w' (h : Below w.heap.size w w') => moved_any _ _ e A n m L e2 B k c M p w' (HZ.out.below h) (HZ2.out.below h) (by omega) (by omega) hpl6 hpl7 p0 p1
  have hAA := fun w' (h : Below w.heap.size w w') => moved_any _ _ e A n m L e A n m L p w' (HZ.out.below h) (HZ.out.below h) (by omega) (by omega) hpl6 hpl6 p0 p1
  have hRA := fun w' (h : Below w.heap.size w w') => rprright_any _ e A n m L w' (HZ.out.below h) (by omega) hpl6 e0
  have hRB := fun w' (h : Below w.heap.size w w') => rprright_any _ e2 B k c M w' (HZ2.out.below h) (by omega) hpl7 e20
  have hPP := fun w' => rpos17_any p w'
  unfold BPost at hMV hAA hRA hRB
  rw [mvv_same] at hAA
  unfold FiPost at hF
  obtain ⟨x0, x1⟩ := h2.1.c2
  obtain ⟨y0, y1⟩ := h2.2.c2
  go_wp2_with fail
  refine (hF _ hbd).mono ?_
  rintro en w3 ⟨r, ok, rfl, hb3, hbad, hgood⟩
  replace h2 := h2.below hb3
  replace hbd := hbd.trans (hb3.mono hbd.size)
  clear hb3 x0 x1 y0 y1 hF
  cases hp : prok (e, L)
  case false =>
    obtain ⟨rfl, rfl⟩ := hbad (fun h => by rw [hp] at h; cases h.1)
    have HPA := Lib.hid hp
    rw [mvv_no1 (fun h => by rw [hp] at h; cases h.1)] at hMV
    clear hgood hbad hp hRB
    obtain ⟨x0, x1⟩ := h2.1.c2
    go_wp2_with fail
    refine (hRA _ hbd).mono ?_
    rintro en w6 ⟨rfl, hb6⟩
    rw [HPA.out]
    replace h2 := h2.below hb6
    replace hbd := hbd.trans (hb6.mono hbd.size)
    clear hb6 x0 x1 hRA
    obtain ⟨x0, x1⟩ := h2.1.c2
    obtain ⟨y0, y1⟩ := h2.2.c2
    go_wp2_with fail
    refine (hMV _ hbd).mono ?_
    rintro en w8 ⟨rfl, hb8⟩
    replace h2 := h2.below hb8
    replace hbd := hbd.trans (hb8.mono hbd.size)
    clear hb8 x0 x1 y0 y1 hMV
    go_wp2_with fail
    refine (live21_any _).mono ?_
    rintro e wl ⟨rfl, hbl⟩
    replace hbd := hbd.trans (hbl.mono hbd.size)
    go_wp2
    go_ret
    exact ⟨rfl, hbd⟩
  cases hp2 : prok (e2, M)
  case false =>
    obtain ⟨rfl, rfl⟩ := hbad (fun h => by rw [hp2] at h; cases h.2)
    have HPA := Lib.hid hp
    have HPB := Lib.hid hp2
    rw [mvv_no2 (fun h => by rw [hp2] at h; cases h.1)] at hMV
    clear hgood hbad hp hp2
    obtain ⟨x0, x1⟩ := h2.1.c2
    go_wp2_with fail
    refine (hRA _ hbd).mono ?_
    rintro en w6 ⟨rfl, hb6⟩
    rw [HPA.out]
    replace h2 := h2.below hb6
    replace hbd := hbd.trans (hb6.mono hbd.size)
    clear hb6 x0 x1 hRA
    obtain ⟨y0, y1⟩ := h2.2.c2
    go_wp2_with fail
    refine (hRB _ hbd).mono ?_
    rintro en w7 ⟨rfl, hb7⟩
    rw [HPB.out]
    replace h2 := h2.below hb7
    replace hbd := hbd.trans (hb7.mono hbd.size)
    clear hb7 y0 y1 hRB
    obtain ⟨x0, x1⟩ := h2.1.c2
    obtain ⟨y0, y1⟩ := h2.2.c2
    go_wp2_with fail
    refine (hMV _ hbd).mono ?_
    rintro en w8 ⟨rfl, hb8⟩
    replace h2 := h2.below hb8
    replace hbd := hbd.trans (hb8.mono hbd.size)
    clear hb8 x0 x1 y0 y1 hMV
    go_wp2_with fail
    refine (live21_any _).mono ?_
    rintro e wl ⟨rfl, hbl⟩
    replace hbd := hbd.trans (hbl.mono hbd.size)
    go_wp2
    go_ret
    exact ⟨rfl, hbd⟩
  have HPA := Lib.hid hp
  have HPB := Lib.hid hp2
  have HNA := Lib.hid (fun q (hq : 0 ≤ q ∧ q < 4611686018427387904) w' (h : Below w.heap.size w w') => rnodes21_any _ e A n m L q w' (HZ.out.below h) (by omega) hpl6 e0 hq.1 hp (decide_eq_true (by have := hq.2; omega)))
  have HNB := Lib.hid (fun q (hq : 0 ≤ q ∧ q < 4611686018427387904) w' (h : Below w.heap.size w w') => rnodes21_any _ e2 B k c M q w' (HZ2.out.below h) (by omega) hpl7 e20 hq.1 hp2 (decide_eq_true (by have := hq.2; omega)))
  have HLA := Lib.hid (fun q (h : 0 ≤ q) (h2 : q < 4611686018427387904) => wsn_len (e := e) (L := L) (p := q) ⟨hp, decide_eq_true (by omega)⟩ h)
  have HLB := Lib.hid (fun q (h : 0 ≤ q) (h2 : q < 4611686018427387904) => wsn_len (e := e2) (L := M) (p := q) ⟨hp2, decide_eq_true (by omega)⟩ h)
  unfold WnPost at HNA HNB
  have hg := hgood hp hp2
  clear hbad hgood hpl6 hpl7
  cases hs : psk p
  case false =>
    rw [hs] at hPP
    rw [mvv_no1 (fun h => by rw [hs] at h; cases h.2)] at hMV
    cases ok
    case false =>
      obtain ⟨rfl, _⟩ := hg.2 rfl
      clear hg hs hp hp2
      obtain ⟨x0, x1⟩ := h2.1.c2
      go_wp2_with fail
      refine (hRA _ hbd).mono ?_
      rintro en w6 ⟨rfl, hb6⟩
      rw [HPA.out]
      replace h2 := h2.below hb6
      replace hbd := hbd.trans (hb6.mono hbd.size)
      clear hb6 x0 x1 hRA
      obtain ⟨y0, y1⟩ := h2.2.c2
      go_wp2_with fail
      refine (hRB _ hbd).mono ?_
      rintro en w7 ⟨rfl, hb7⟩
      rw [HPB.out]
      replace h2 := h2.below hb7
      replace hbd := hbd.trans (hb7.mono hbd.size)
      clear hb7 y0 y1 hRB
      go_wp2_with fail
      refine (hPP _).mono ?_
      rintro en w5 ⟨rfl, rfl⟩
      obtain ⟨x0, x1⟩ := h2.1.c2
      obtain ⟨y0, y1⟩ := h2.2.c2
      go_wp2_with fail
      refine (hMV _ hbd).mono ?_
      rintro en w8 ⟨rfl, hb8⟩
      replace h2 := h2.below hb8
      replace hbd := hbd.trans (hb8.mono hbd.size)
      clear hb8 x0 x1 y0 y1 hMV
      go_wp2_with fail
      refine (live21_any _).mono ?_
      rintro e wl ⟨rfl, hbl⟩
      replace hbd := hbd.trans (hbl.mono hbd.size)
      go_wp2
      go_ret
      exact ⟨rfl, hbd⟩
    obtain ⟨r0, r1, r2, r3⟩ := hg.1 rfl
    have HR := Lib.hid (And.intro r0 r1)
    have HNE : Hid (decide (wsn L r = wsn M r) = false) := Lib.hid (decide_eq_false r2)
    have HBEF := Lib.hid r3
    have HR8 := Lib.hid (And.intro (HLA.out r r0 r1) (HLB.out r r0 r1))
    clear hg hs hp hp2 r0 r1 r2 r3
    obtain ⟨x0, x1⟩ := h2.1.c2
    go_wp2_with fail
    refine (hRA _ hbd).mono ?_
    rintro en w6 ⟨rfl, hb6⟩
    rw [HPA.out]
    replace h2 := h2.below hb6
    replace hbd := hbd.trans (hb6.mono hbd.size)
    clear hb6 x0 x1 hRA
    obtain ⟨y0, y1⟩ := h2.2.c2
    go_wp2_with fail
    refine (hRB _ hbd).mono ?_
    rintro en w7 ⟨rfl, hb7⟩
    rw [HPB.out]
    replace h2 := h2.below hb7
    replace hbd := hbd.trans (hb7.mono hbd.size)
    clear hb7 y0 y1 hRB
    go_wp2_with fail
    refine (hPP _).mono ?_
    rintro en w5 ⟨rfl, rfl⟩
    obtain ⟨x0, x1⟩ := h2.1.c2
    obtain ⟨y0, y1⟩ := h2.2.c2
    go_wp2_with fail
    refine (hMV _ hbd).mono ?_
    rintro en w8 ⟨rfl, hb8⟩
    replace h2 := h2.below hb8
    replace hbd := hbd.trans (hb8.mono hbd.size)
    clear hb8 x0 x1 y0 y1 hMV
    go_wp2
    go_loopw [10] (fun pv wr => ∃ i : Int, pv = .int .u64 i ∧ 1 ≤ i ∧ i ≤ 200 ∧ S2p w.heap.size (w.heap.size + 1) (prc e A n m) (prc e2 B k c) wr ∧ Below w.heap.size w wr) (fun pv _ => (200 - intOf pv).toNat)
    case atStart => exact ⟨1, rfl, Int.le_refl _, by omega, h2, hbd⟩
    case round =>
      clear h2 hbd
      obtain ⟨i, rfl, i0, i1, h2, hbd⟩ := hrel
      by_cases hi : i < 200
      case neg =>
        have d8 : decide (i < 200) = false := decide_eq_false hi
        clear i0 i1 hi
        go_wp2
        have L1 : ∀ w', (S2p w.heap.size (w.heap.size + 1) (prc e A n m) (prc e2 B k c) w' ∧ Below w.heap.size w w') → (w'.cell? ⟨w.heap.size, 0, none⟩ = some (.int .u64 e) ∧ w'.cell? ⟨w.heap.size, 1, none⟩ = some (.slice A n m)) ∧ (w'.cell? ⟨w.heap.size + 1, 0, none⟩ = some (.int .u64 e2) ∧ w'.cell? ⟨w.heap.size + 1, 1, none⟩ = some (.slice B k c)) := fun w' h => ⟨h.1.1.c2, h.1.2.c2⟩
        refine SeqH.wp_region_hav (fun w' => S2p w.heap.size (w.heap.size + 1) (prc e A n m) (prc e2 B k c) w' ∧ Below w.heap.size w w') (fun w1 w2 => Below w1.heap.size w1 w2) (fun o => o.dst == some 107 || o.dst == some 110) (fun o v w' => (o.dst = some 107 ∧ Wg v (wsn L r) w') ∨ (o.dst = some 110 ∧ Wg v (wsn M r) w')) (fun _ _ => True) ⟨fun w => Below.refl _ _, fun h1 h2 => h1.trans (h2.mono h1.size), fun h ht => h.imp (fun h => ⟨h.1, h.2.below ht⟩) (fun h => ⟨h.1, h.2.below ht⟩), fun _ => trivial⟩ (by kernel_rfl) (by kernel_rfl) ⟨h2.below (below_one' _), hbd.trans ((below_one' _).mono hbd.size)⟩ ?_
        repeat (first | (refine SeqH.Rl.skip (by rfl) ?_; (try simp only [Act.put, List.setIfInBounds_toArray, List.set_cons_zero, List.set_cons_succ])) | (refine SeqH.Rl.det ?_ (by rfl) (by rfl) (fun w hS => ?_) ?_; rotate_left; ((try dsimp only at hS); go_simp; (try rw [if_pos (by omega)]); with_reducible rfl); (try simp only [Act.put, List.setIfInBounds_toArray, List.set_cons_zero, List.set_cons_succ])))
        refine SeqH.Rl.hav (by rfl) (by rfl) rfl (by simp) (fun w3 hT3 hS3 KK Q' hK => ?_) (fun v3 w3 hT3 hS3 hG3 _ => ?_)
        · go_simp
          go_at_call 15
          refine (HNA.out r (by first | exact HNQ.out | exact HR.out | exact HPP.out) w3 hS3.2).mono ?_
          rintro en w4 ⟨a4, l4, m4, rfl, _, hu4, hb4⟩
          obtain rfl : l4 = (wsn L r).length := hu4.1.symm
          exact hK.out _ _ hb4 ⟨hS3.1.below hb4, hS3.2.trans (hb4.mono hS3.2.size)⟩ (.inl ⟨rfl, a4, m4, rfl, hu4.below hb4⟩) (fun _ _ _ => trivial)
        rcases hG3 with ⟨_, a3, m3, rfl, hu3⟩ | ⟨hh, _⟩
        rotate_left
        · exact absurd hh (by decide)
        try simp only [Act.put, List.setIfInBounds_toArray, List.set_cons_zero, List.set_cons_succ]
        repeat (first | (refine SeqH.Rl.skip (by rfl) ?_; (try simp only [Act.put, List.setIfInBounds_toArray, List.set_cons_zero, List.set_cons_succ])) | (refine SeqH.Rl.det ?_ (by rfl) (by rfl) (fun w hS => ?_) ?_; rotate_left; ((try dsimp only at hS); go_simp; (try rw [if_pos (by omega)]); with_reducible rfl); (try simp only [Act.put, List.setIfInBounds_toArray, List.set_cons_zero, List.set_cons_succ])))
        refine SeqH.Rl.hav (by rfl) (by rfl) rfl (by simp) (fun w4 hT4 hS4 KK Q' hK => ?_) (fun v4 w4 hT4 hS4 hG4 _ => ?_)
        · go_simp
          go_at_call 15
          refine (HNB.out r (by first | exact HNQ.out | exact HR.out | exact HPP.out) w4 hS4.2).mono ?_
          rintro en w5 ⟨a5, l5, m5, rfl, _, hu5, hb5⟩
          obtain rfl : l5 = (wsn M r).length := hu5.1.symm
          exact hK.out _ _ hb5 ⟨hS4.1.below hb5, hS4.2.trans (hb5.mono hS4.2.size)⟩ (.inr ⟨rfl, a5, m5, rfl, hu5.below hb5⟩) (fun _ _ _ => trivial)
        rcases hG4 with ⟨hh, _⟩ | ⟨_, a4, m4, rfl, hu4⟩
        · exact absurd hh (by decide)
        replace hu3 := hu3.below hT4
        have hT := hT3.trans (hT4.mono hT3.size)
        clear hT3 hS3
        try simp only [Act.put, List.setIfInBounds_toArray, List.set_cons_zero, List.set_cons_succ]
        repeat (first | (refine SeqH.Rl.skip (by rfl) ?_; (try simp only [Act.put, List.setIfInBounds_toArray, List.set_cons_zero, List.set_cons_succ])) | (refine SeqH.Rl.det ?_ (by rfl) (by rfl) (fun w hS => ?_) ?_; rotate_left; ((try dsimp only at hS); go_simp; (try rw [if_pos (by omega)]); with_reducible rfl); (try simp only [Act.put, List.setIfInBounds_toArray, List.set_cons_zero, List.set_cons_succ])))
        refine SeqH.Rl.make (by rfl) (by rfl) (by rfl) (fun KK Q' hK => ?_)
        go_simp
        go_at_call 14
        refine (rsame5_gen _ _ _ _ _ _ (wsn L r) (wsn M r) _ hu3 hu4 (by have := HR8.out.1; omega) (by have := HR8.out.2; omega)).mono ?_
        rintro en w5 ⟨rfl, hb5⟩
        replace hT := hT.trans (hb5.mono hT.size)
        replace hS4 := And.intro (hS4.1.below hb5) (hS4.2.trans (hb5.mono hS4.2.size))
        rw [HNE.out]
        refine hK.out _ _ hT hS4 ?_
        clear hK KK hb5 hu3 hu4 hT4
        try simp only [Act.put, List.setIfInBounds_toArray, List.set_cons_zero, List.set_cons_succ]
        repeat (first | (refine SeqH.Rl.skip (by rfl) ?_; (try simp only [Act.put, List.setIfInBounds_toArray, List.set_cons_zero, List.set_cons_succ])) | (refine SeqH.Rl.det ?_ (by rfl) (by rfl) (fun w hS => ?_) ?_; rotate_left; ((try dsimp only at hS); go_simp; (try rw [if_pos (by omega)]); with_reducible rfl); (try simp only [Act.put, List.setIfInBounds_toArray, List.set_cons_zero, List.set_cons_succ])))
        refine SeqH.Rl.make (by rfl) (by rfl) (by rfl) (fun KK Q' hK => ?_)
        go_simp
        go_at_call 22
        refine (hAA _ hS4.2).mono ?_
        rintro en w8 ⟨rfl, hb8⟩
        replace hT := hT.trans (hb8.mono hT.size)
        replace hS4 := And.intro (hS4.1.below hb8) (hS4.2.trans (hb8.mono hS4.2.size))
        refine hK.out _ _ hT hS4 ?_
        clear hK KK hb8
        try simp only [Act.put, List.setIfInBounds_toArray, List.set_cons_zero, List.set_cons_succ]
        repeat (first | (refine SeqH.Rl.skip (by rfl) ?_; (try simp only [Act.put, List.setIfInBounds_toArray, List.set_cons_zero, List.set_cons_succ])) | (refine SeqH.Rl.det ?_ (by rfl) (by rfl) (fun w hS => ?_) ?_; rotate_left; ((try dsimp only at hS); go_simp; (try rw [if_pos (by omega)]); with_reducible rfl); (try simp only [Act.put, List.setIfInBounds_toArray, List.set_cons_zero, List.set_cons_succ])))
        refine SeqH.Rl.make (by rfl) (by rfl) (by rfl) (fun KK Q' hK => ?_)
        go_simp
        go_at_call 8
        refine (live21_any _).mono ?_
        rintro en w9 ⟨rfl, hb9⟩
        replace hT := hT.trans (hb9.mono hT.size)
        replace hS4 := And.intro (hS4.1.below hb9) (hS4.2.trans (hb9.mono hS4.2.size))
        refine hK.out _ _ hT hS4 ?_
        clear hK KK hb9
        try simp only [Act.put, List.setIfInBounds_toArray, List.set_cons_zero, List.set_cons_succ]
        repeat (first | (refine SeqH.Rl.skip (by rfl) ?_; (try simp only [Act.put, List.setIfInBounds_toArray, List.set_cons_zero, List.set_cons_succ])) | (refine SeqH.Rl.det ?_ (by rfl) (by rfl) (fun w hS => ?_) ?_; rotate_left; ((try dsimp only at hS); go_simp; (try rw [if_pos (by omega)]); with_reducible rfl); (try simp only [Act.put, List.setIfInBounds_toArray, List.set_cons_zero, List.set_cons_succ])))
        obtain ⟨h2, hbd⟩ := hS4
        clear hT L1
        refine SeqH.Rl.nil ?_
        go_wp2
        go_ret
        exact ⟨rfl, hbd⟩
      by_cases hir : i ≤ r
      case neg =>
        have d7 : decide (i < 200) = true := decide_eq_true hi
        have d8 : decide (i ≤ r) = false := decide_eq_false hir
        clear i0 i1 hi hir
        go_wp2
        have L1 : ∀ w', (S2p w.heap.size (w.heap.size + 1) (prc e A n m) (prc e2 B k c) w' ∧ Below w.heap.size w w') → (w'.cell? ⟨w.heap.size, 0, none⟩ = some (.int .u64 e) ∧ w'.cell? ⟨w.heap.size, 1, none⟩ = some (.slice A n m)) ∧ (w'.cell? ⟨w.heap.size + 1, 0, none⟩ = some (.int .u64 e2) ∧ w'.cell? ⟨w.heap.size + 1, 1, none⟩ = some (.slice B k c)) := fun w' h => ⟨h.1.1.c2, h.1.2.c2⟩
        refine SeqH.wp_region_hav (fun w' => S2p w.heap.size (w.heap.size + 1) (prc e A n m) (prc e2 B k c) w' ∧ Below w.heap.size w w') (fun w1 w2 => Below w1.heap.size w1 w2) (fun o => o.dst == some 107 || o.dst == some 110) (fun o v w' => (o.dst = some 107 ∧ Wg v (wsn L r) w') ∨ (o.dst = some 110 ∧ Wg v (wsn M r) w')) (fun _ _ => True) ⟨fun w => Below.refl _ _, fun h1 h2 => h1.trans (h2.mono h1.size), fun h ht => h.imp (fun h => ⟨h.1, h.2.below ht⟩) (fun h => ⟨h.1, h.2.below ht⟩), fun _ => trivial⟩ (by kernel_rfl) (by kernel_rfl) ⟨h2.below (below_one' _), hbd.trans ((below_one' _).mono hbd.size)⟩ ?_
        repeat (first | (refine SeqH.Rl.skip (by rfl) ?_; (try simp only [Act.put, List.setIfInBounds_toArray, List.set_cons_zero, List.set_cons_succ])) | (refine SeqH.Rl.det ?_ (by rfl) (by rfl) (fun w hS => ?_) ?_; rotate_left; ((try dsimp only at hS); go_simp; (try rw [if_pos (by omega)]); with_reducible rfl); (try simp only [Act.put, List.setIfInBounds_toArray, List.set_cons_zero, List.set_cons_succ])))
        refine SeqH.Rl.hav (by rfl) (by rfl) rfl (by simp) (fun w3 hT3 hS3 KK Q' hK => ?_) (fun v3 w3 hT3 hS3 hG3 _ => ?_)
        · go_simp
          go_at_call 15
          refine (HNA.out r (by first | exact HNQ.out | exact HR.out | exact HPP.out) w3 hS3.2).mono ?_
          rintro en w4 ⟨a4, l4, m4, rfl, _, hu4, hb4⟩
          obtain rfl : l4 = (wsn L r).length := hu4.1.symm
          exact hK.out _ _ hb4 ⟨hS3.1.below hb4, hS3.2.trans (hb4.mono hS3.2.size)⟩ (.inl ⟨rfl, a4, m4, rfl, hu4.below hb4⟩) (fun _ _ _ => trivial)
        rcases hG3 with ⟨_, a3, m3, rfl, hu3⟩ | ⟨hh, _⟩
        rotate_left
        · exact absurd hh (by decide)
        try simp only [Act.put, List.setIfInBounds_toArray, List.set_cons_zero, List.set_cons_succ]
        repeat (first | (refine SeqH.Rl.skip (by rfl) ?_; (try simp only [Act.put, List.setIfInBounds_toArray, List.set_cons_zero, List.set_cons_succ])) | (refine SeqH.Rl.det ?_ (by rfl) (by rfl) (fun w hS => ?_) ?_; rotate_left; ((try dsimp only at hS); go_simp; (try rw [if_pos (by omega)]); with_reducible rfl); (try simp only [Act.put, List.setIfInBounds_toArray, List.set_cons_zero, List.set_cons_succ])))
        refine SeqH.Rl.hav (by rfl) (by rfl) rfl (by simp) (fun w4 hT4 hS4 KK Q' hK => ?_) (fun v4 w4 hT4 hS4 hG4 _ => ?_)
        · go_simp
          go_at_call 15
          refine (HNB.out r (by first | exact HNQ.out | exact HR.out | exact HPP.out) w4 hS4.2).mono ?_
          rintro en w5 ⟨a5, l5, m5, rfl, _, hu5, hb5⟩
          obtain rfl : l5 = (wsn M r).length := hu5.1.symm
          exact hK.out _ _ hb5 ⟨hS4.1.below hb5, hS4.2.trans (hb5.mono hS4.2.size)⟩ (.inr ⟨rfl, a5, m5, rfl, hu5.below hb5⟩) (fun _ _ _ => trivial)
        rcases hG4 with ⟨hh, _⟩ | ⟨_, a4, m4, rfl, hu4⟩
        · exact absurd hh (by decide)
        replace hu3 := hu3.below hT4
        have hT := hT3.trans (hT4.mono hT3.size)
        clear hT3 hS3
        try simp only [Act.put, List.setIfInBounds_toArray, List.set_cons_zero, List.set_cons_succ]
        repeat (first | (refine SeqH.Rl.skip (by rfl) ?_; (try simp only [Act.put, List.setIfInBounds_toArray, List.set_cons_zero, List.set_cons_succ])) | (refine SeqH.Rl.det ?_ (by rfl) (by rfl) (fun w hS => ?_) ?_; rotate_left; ((try dsimp only at hS); go_simp; (try rw [if_pos (by omega)]); with_reducible rfl); (try simp only [Act.put, List.setIfInBounds_toArray, List.set_cons_zero, List.set_cons_succ])))
        refine SeqH.Rl.make (by rfl) (by rfl) (by rfl) (fun KK Q' hK => ?_)
        go_simp
        go_at_call 14
        refine (rsame5_gen _ _ _ _ _ _ (wsn L r) (wsn M r) _ hu3 hu4 (by have := HR8.out.1; omega) (by have := HR8.out.2; omega)).mono ?_
        rintro en w5 ⟨rfl, hb5⟩
        replace hT := hT.trans (hb5.mono hT.size)
        replace hS4 := And.intro (hS4.1.below hb5) (hS4.2.trans (hb5.mono hS4.2.size))
        rw [HNE.out]
        refine hK.out _ _ hT hS4 ?_
        clear hK KK hb5 hu3 hu4 hT4
        try simp only [Act.put, List.setIfInBounds_toArray, List.set_cons_zero, List.set_cons_succ]
        repeat (first | (refine SeqH.Rl.skip (by rfl) ?_; (try simp only [Act.put, List.setIfInBounds_toArray, List.set_cons_zero, List.set_cons_succ])) | (refine SeqH.Rl.det ?_ (by rfl) (by rfl) (fun w hS => ?_) ?_; rotate_left; ((try dsimp only at hS); go_simp; (try rw [if_pos (by omega)]); with_reducible rfl); (try simp only [Act.put, List.setIfInBounds_toArray, List.set_cons_zero, List.set_cons_succ])))
        refine SeqH.Rl.make (by rfl) (by rfl) (by rfl) (fun KK Q' hK => ?_)
        go_simp
        go_at_call 22
        refine (hAA _ hS4.2).mono ?_
        rintro en w8 ⟨rfl, hb8⟩
        replace hT := hT.trans (hb8.mono hT.size)
        replace hS4 := And.intro (hS4.1.below hb8) (hS4.2.trans (hb8.mono hS4.2.size))
        refine hK.out _ _ hT hS4 ?_
        clear hK KK hb8
        try simp only [Act.put, List.setIfInBounds_toArray, List.set_cons_zero, List.set_cons_succ]
        repeat (first | (refine SeqH.Rl.skip (by rfl) ?_; (try simp only [Act.put, List.setIfInBounds_toArray, List.set_cons_zero, List.set_cons_succ])) | (refine SeqH.Rl.det ?_ (by rfl) (by rfl) (fun w hS => ?_) ?_; rotate_left; ((try dsimp only at hS); go_simp; (try rw [if_pos (by omega)]); with_reducible rfl); (try simp only [Act.put, List.setIfInBounds_toArray, List.set_cons_zero, List.set_cons_succ])))
        refine SeqH.Rl.make (by rfl) (by rfl) (by rfl) (fun KK Q' hK => ?_)
        go_simp
        go_at_call 8
        refine (live21_any _).mono ?_
        rintro en w9 ⟨rfl, hb9⟩
        replace hT := hT.trans (hb9.mono hT.size)
        replace hS4 := And.intro (hS4.1.below hb9) (hS4.2.trans (hb9.mono hS4.2.size))
        refine hK.out _ _ hT hS4 ?_
        clear hK KK hb9
        try simp only [Act.put, List.setIfInBounds_toArray, List.set_cons_zero, List.set_cons_succ]
        repeat (first | (refine SeqH.Rl.skip (by rfl) ?_; (try simp only [Act.put, List.setIfInBounds_toArray, List.set_cons_zero, List.set_cons_succ])) | (refine SeqH.Rl.det ?_ (by rfl) (by rfl) (fun w hS => ?_) ?_; rotate_left; ((try dsimp only at hS); go_simp; (try rw [if_pos (by omega)]); with_reducible rfl); (try simp only [Act.put, List.setIfInBounds_toArray, List.set_cons_zero, List.set_cons_succ])))
        obtain ⟨h2, hbd⟩ := hS4
        clear hT L1
        refine SeqH.Rl.nil ?_
        go_wp2
        go_ret
        exact ⟨rfl, hbd⟩
      have d7 : decide (i < 200) = true := decide_eq_true hi
      have d8 : decide (i ≤ r) = true := decide_eq_true hir
      have HI := Lib.hid (And.intro i0 hi)
      obtain ⟨q, hq⟩ : ∃ q, q = r - i := ⟨_, rfl⟩
      have hq0 : 0 ≤ q ∧ q < r := by omega
      have w9' : IntKind.u64.wrap (r - i) = q := by rw [← hq]; have := HR.out; exact IntWalk.u64_in _ (by omega)
      have HQE : Hid (decide (wsn L q = wsn M q) = true) := Lib.hid (decide_eq_true (HBEF.out q hq0.1 hq0.2))
      have HQ8 := Lib.hid (And.intro (HLA.out q hq0.1 (by have := HR.out; omega)) (HLB.out q hq0.1 (by have := HR.out; omega)))
      have HNQ := Lib.hid (And.intro hq0.1 (show q < 4611686018427387904 by have := HR.out; omega))
      have w8' : IntKind.u64.wrap (i + 1) = i + 1 := IntWalk.u64_in _ (by omega)
      clear hq hq0 i0 hi hir
      go_wp2
      have L1 : ∀ w', (S2p w.heap.size (w.heap.size + 1) (prc e A n m) (prc e2 B k c) w' ∧ Below w.heap.size w w') → (w'.cell? ⟨w.heap.size, 0, none⟩ = some (.int .u64 e) ∧ w'.cell? ⟨w.heap.size, 1, none⟩ = some (.slice A n m)) ∧ (w'.cell? ⟨w.heap.size + 1, 0, none⟩ = some (.int .u64 e2) ∧ w'.cell? ⟨w.heap.size + 1, 1, none⟩ = some (.slice B k c)) := fun w' h => ⟨h.1.1.c2, h.1.2.c2⟩
      refine SeqH.wp_region_hav (fun w' => S2p w.heap.size (w.heap.size + 1) (prc e A n m) (prc e2 B k c) w' ∧ Below w.heap.size w w') (fun w1 w2 => Below w1.heap.size w1 w2) (fun o => o.dst == some 97 || o.dst == some 102) (fun o v w' => (o.dst = some 97 ∧ Wg v (wsn L q) w') ∨ (o.dst = some 102 ∧ Wg v (wsn M q) w')) (fun _ _ => True) ⟨fun w => Below.refl _ _, fun h1 h2 => h1.trans (h2.mono h1.size), fun h ht => h.imp (fun h => ⟨h.1, h.2.below ht⟩) (fun h => ⟨h.1, h.2.below ht⟩), fun _ => trivial⟩ (by kernel_rfl) (by kernel_rfl) ⟨h2.below (below_one' _), hbd.trans ((below_one' _).mono hbd.size)⟩ ?_
      repeat (first | (refine SeqH.Rl.skip (by rfl) ?_; (try simp only [Act.put, List.setIfInBounds_toArray, List.set_cons_zero, List.set_cons_succ])) | (refine SeqH.Rl.det ?_ (by rfl) (by rfl) (fun w hS => ?_) ?_; rotate_left; ((try dsimp only at hS); go_simp; (try rw [if_pos (by omega)]); with_reducible rfl); (try simp only [Act.put, List.setIfInBounds_toArray, List.set_cons_zero, List.set_cons_succ])))
      refine SeqH.Rl.hav (by rfl) (by rfl) rfl (by simp) (fun w3 hT3 hS3 KK Q' hK => ?_) (fun v3 w3 hT3 hS3 hG3 _ => ?_)
      · go_simp
        go_at_call 15
        refine (HNA.out q (by first | exact HNQ.out | exact HR.out | exact HPP.out) w3 hS3.2).mono ?_
        rintro en w4 ⟨a4, l4, m4, rfl, _, hu4, hb4⟩
        obtain rfl : l4 = (wsn L q).length := hu4.1.symm
        exact hK.out _ _ hb4 ⟨hS3.1.below hb4, hS3.2.trans (hb4.mono hS3.2.size)⟩ (.inl ⟨rfl, a4, m4, rfl, hu4.below hb4⟩) (fun _ _ _ => trivial)
      rcases hG3 with ⟨_, a3, m3, rfl, hu3⟩ | ⟨hh, _⟩
      rotate_left
      · exact absurd hh (by decide)
      try simp only [Act.put, List.setIfInBounds_toArray, List.set_cons_zero, List.set_cons_succ]
      repeat (first | (refine SeqH.Rl.skip (by rfl) ?_; (try simp only [Act.put, List.setIfInBounds_toArray, List.set_cons_zero, List.set_cons_succ])) | (refine SeqH.Rl.det ?_ (by rfl) (by rfl) (fun w hS => ?_) ?_; rotate_left; ((try dsimp only at hS); go_simp; (try rw [if_pos (by omega)]); with_reducible rfl); (try simp only [Act.put, List.setIfInBounds_toArray, List.set_cons_zero, List.set_cons_succ])))
      refine SeqH.Rl.hav (by rfl) (by rfl) rfl (by simp) (fun w4 hT4 hS4 KK Q' hK => ?_) (fun v4 w4 hT4 hS4 hG4 _ => ?_)
      · go_simp
        go_at_call 15
        refine (HNB.out q (by first | exact HNQ.out | exact HR.out | exact HPP.out) w4 hS4.2).mono ?_
        rintro en w5 ⟨a5, l5, m5, rfl, _, hu5, hb5⟩
        obtain rfl : l5 = (wsn M q).length := hu5.1.symm
        exact hK.out _ _ hb5 ⟨hS4.1.below hb5, hS4.2.trans (hb5.mono hS4.2.size)⟩ (.inr ⟨rfl, a5, m5, rfl, hu5.below hb5⟩) (fun _ _ _ => trivial)
      rcases hG4 with ⟨hh, _⟩ | ⟨_, a4, m4, rfl, hu4⟩
      · exact absurd hh (by decide)
      replace hu3 := hu3.below hT4
      have hT := hT3.trans (hT4.mono hT3.size)
      clear hT3 hS3
      try simp only [Act.put, List.setIfInBounds_toArray, List.set_cons_zero, List.set_cons_succ]
      repeat (first | (refine SeqH.Rl.skip (by rfl) ?_; (try simp only [Act.put, List.setIfInBounds_toArray, List.set_cons_zero, List.set_cons_succ])) | (refine SeqH.Rl.det ?_ (by rfl) (by rfl) (fun w hS => ?_) ?_; rotate_left; ((try dsimp only at hS); go_simp; (try rw [if_pos (by omega)]); with_reducible rfl); (try simp only [Act.put, List.setIfInBounds_toArray, List.set_cons_zero, List.set_cons_succ])))
      refine SeqH.Rl.make (by rfl) (by rfl) (by rfl) (fun KK Q' hK => ?_)
      go_simp
      go_at_call 14
      refine (rsame5_gen _ _ _ _ _ _ (wsn L q) (wsn M q) _ hu3 hu4 (by have := HQ8.out.1; omega) (by have := HQ8.out.2; omega)).mono ?_
      rintro en w5 ⟨rfl, hb5⟩
      replace hT := hT.trans (hb5.mono hT.size)
      replace hS4 := And.intro (hS4.1.below hb5) (hS4.2.trans (hb5.mono hS4.2.size))
      rw [HQE.out]
      refine hK.out _ _ hT hS4 ?_
      clear hK KK hb5 hu3 hu4 hT4
      try simp only [Act.put, List.setIfInBounds_toArray, List.set_cons_zero, List.set_cons_succ]
      repeat (first | (refine SeqH.Rl.skip (by rfl) ?_; (try simp only [Act.put, List.setIfInBounds_toArray, List.set_cons_zero, List.set_cons_succ])) | (refine SeqH.Rl.det ?_ (by rfl) (by rfl) (fun w hS => ?_) ?_; rotate_left; ((try dsimp only at hS); go_simp; (try rw [if_pos (by omega)]); with_reducible rfl); (try simp only [Act.put, List.setIfInBounds_toArray, List.set_cons_zero, List.set_cons_succ])))
      obtain ⟨h2, hbd⟩ := hS4
      clear hT L1
      refine SeqH.Rl.nil ?_
      go_wp2
      go_roundw
      case rel => exact ⟨i + 1, by go_num, by have := HI.out; omega, by have := HI.out; omega, h2, hbd⟩
      case measure => have := HI.out; simp [intOf]; omega
  rw [hs] at hPP
  have hps := psk_lt hs
  have HPP := Lib.hid (And.intro p0 hps)
  have HP8 := Lib.hid (And.intro (HLA.out p p0 hps) (HLB.out p p0 hps))
  rw [mvv_yes ⟨hp, hs⟩ ⟨hp2, hs⟩] at hMV
  cases ok
  case false =>
    obtain ⟨rfl, heq⟩ := hg.2 rfl
    have he := heq p p0 hps
    have HE : Hid (decide (wsn L p = wsn M p) = true) := Lib.hid (decide_eq_true he)
    rw [HE.out] at hMV
    clear hg hs hp hp2 hps heq he
    obtain ⟨x0, x1⟩ := h2.1.c2
    go_wp2_with fail
    refine (hRA _ hbd).mono ?_
    rintro en w6 ⟨rfl, hb6⟩
    rw [HPA.out]
    replace h2 := h2.below hb6
    replace hbd := hbd.trans (hb6.mono hbd.size)
    clear hb6 x0 x1 hRA
    obtain ⟨y0, y1⟩ := h2.2.c2
    go_wp2_with fail
    refine (hRB _ hbd).mono ?_
    rintro en w7 ⟨rfl, hb7⟩
    rw [HPB.out]
    replace h2 := h2.below hb7
    replace hbd := hbd.trans (hb7.mono hbd.size)
    clear hb7 y0 y1 hRB
    go_wp2_with fail
    refine (hPP _).mono ?_
    rintro en w5 ⟨rfl, hw5⟩
    subst hw5
    go_wp2
    have L1 : ∀ w', (S2p w.heap.size (w.heap.size + 1) (prc e A n m) (prc e2 B k c) w' ∧ Below w.heap.size w w') → (w'.cell? ⟨w.heap.size, 0, none⟩ = some (.int .u64 e) ∧ w'.cell? ⟨w.heap.size, 1, none⟩ = some (.slice A n m)) ∧ (w'.cell? ⟨w.heap.size + 1, 0, none⟩ = some (.int .u64 e2) ∧ w'.cell? ⟨w.heap.size + 1, 1, none⟩ = some (.slice B k c)) := fun w' h => ⟨h.1.1.c2, h.1.2.c2⟩
    refine SeqH.wp_region_hav (fun w' => S2p w.heap.size (w.heap.size + 1) (prc e A n m) (prc e2 B k c) w' ∧ Below w.heap.size w w') (fun w1 w2 => Below w1.heap.size w1 w2) (fun o => o.dst == some 53 || o.dst == some 56) (fun o v w' => (o.dst = some 53 ∧ Wg v (wsn L p) w') ∨ (o.dst = some 56 ∧ Wg v (wsn M p) w')) (fun _ _ => True) ⟨fun w => Below.refl _ _, fun h1 h2 => h1.trans (h2.mono h1.size), fun h ht => h.imp (fun h => ⟨h.1, h.2.below ht⟩) (fun h => ⟨h.1, h.2.below ht⟩), fun _ => trivial⟩ (by kernel_rfl) (by kernel_rfl) ⟨h2.below (below_one' _), hbd.trans ((below_one' _).mono hbd.size)⟩ ?_
    repeat (first | (refine SeqH.Rl.skip (by rfl) ?_; (try simp only [Act.put, List.setIfInBounds_toArray, List.set_cons_zero, List.set_cons_succ])) | (refine SeqH.Rl.det ?_ (by rfl) (by rfl) (fun w hS => ?_) ?_; rotate_left; ((try dsimp only at hS); go_simp; (try rw [if_pos (by omega)]); with_reducible rfl); (try simp only [Act.put, List.setIfInBounds_toArray, List.set_cons_zero, List.set_cons_succ])))
    refine SeqH.Rl.hav (by rfl) (by rfl) rfl (by simp) (fun w3 hT3 hS3 KK Q' hK => ?_) (fun v3 w3 hT3 hS3 hG3 _ => ?_)
    · go_simp
      go_at_call 15
      refine (HNA.out p (by first | exact HNQ.out | exact HR.out | exact HPP.out) w3 hS3.2).mono ?_
      rintro en w4 ⟨a4, l4, m4, rfl, _, hu4, hb4⟩
      obtain rfl : l4 = (wsn L p).length := hu4.1.symm
      exact hK.out _ _ hb4 ⟨hS3.1.below hb4, hS3.2.trans (hb4.mono hS3.2.size)⟩ (.inl ⟨rfl, a4, m4, rfl, hu4.below hb4⟩) (fun _ _ _ => trivial)
    rcases hG3 with ⟨_, a3, m3, rfl, hu3⟩ | ⟨hh, _⟩
    rotate_left
    · exact absurd hh (by decide)
    try simp only [Act.put, List.setIfInBounds_toArray, List.set_cons_zero, List.set_cons_succ]
    repeat (first | (refine SeqH.Rl.skip (by rfl) ?_; (try simp only [Act.put, List.setIfInBounds_toArray, List.set_cons_zero, List.set_cons_succ])) | (refine SeqH.Rl.det ?_ (by rfl) (by rfl) (fun w hS => ?_) ?_; rotate_left; ((try dsimp only at hS); go_simp; (try rw [if_pos (by omega)]); with_reducible rfl); (try simp only [Act.put, List.setIfInBounds_toArray, List.set_cons_zero, List.set_cons_succ])))
    refine SeqH.Rl.hav (by rfl) (by rfl) rfl (by simp) (fun w4 hT4 hS4 KK Q' hK => ?_) (fun v4 w4 hT4 hS4 hG4 _ => ?_)
    · go_simp
      go_at_call 15
      refine (HNB.out p (by first | exact HNQ.out | exact HR.out | exact HPP.out) w4 hS4.2).mono ?_
      rintro en w5 ⟨a5, l5, m5, rfl, _, hu5, hb5⟩
      obtain rfl : l5 = (wsn M p).length := hu5.1.symm
      exact hK.out _ _ hb5 ⟨hS4.1.below hb5, hS4.2.trans (hb5.mono hS4.2.size)⟩ (.inr ⟨rfl, a5, m5, rfl, hu5.below hb5⟩) (fun _ _ _ => trivial)
    rcases hG4 with ⟨hh, _⟩ | ⟨_, a4, m4, rfl, hu4⟩
    · exact absurd hh (by decide)
    replace hu3 := hu3.below hT4
    have hT := hT3.trans (hT4.mono hT3.size)
    clear hT3 hS3
    try simp only [Act.put, List.setIfInBounds_toArray, List.set_cons_zero, List.set_cons_succ]
    repeat (first | (refine SeqH.Rl.skip (by rfl) ?_; (try simp only [Act.put, List.setIfInBounds_toArray, List.set_cons_zero, List.set_cons_succ])) | (refine SeqH.Rl.det ?_ (by rfl) (by rfl) (fun w hS => ?_) ?_; rotate_left; ((try dsimp only at hS); go_simp; (try rw [if_pos (by omega)]); with_reducible rfl); (try simp only [Act.put, List.setIfInBounds_toArray, List.set_cons_zero, List.set_cons_succ])))
    refine SeqH.Rl.make (by rfl) (by rfl) (by rfl) (fun KK Q' hK => ?_)
    go_simp
    go_at_call 14
    refine (rsame5_gen _ _ _ _ _ _ (wsn L p) (wsn M p) _ hu3 hu4 (by have := HP8.out.1; omega) (by have := HP8.out.2; omega)).mono ?_
    rintro en w5 ⟨rfl, hb5⟩
    replace hT := hT.trans (hb5.mono hT.size)
    replace hS4 := And.intro (hS4.1.below hb5) (hS4.2.trans (hb5.mono hS4.2.size))
    rw [HE.out]
    refine hK.out _ _ hT hS4 ?_
    clear hK KK hb5 hu3 hu4 hT4
    try simp only [Act.put, List.setIfInBounds_toArray, List.set_cons_zero, List.set_cons_succ]
    repeat (first | (refine SeqH.Rl.skip (by rfl) ?_; (try simp only [Act.put, List.setIfInBounds_toArray, List.set_cons_zero, List.set_cons_succ])) | (refine SeqH.Rl.det ?_ (by rfl) (by rfl) (fun w hS => ?_) ?_; rotate_left; ((try dsimp only at hS); go_simp; (try rw [if_pos (by omega)]); with_reducible rfl); (try simp only [Act.put, List.setIfInBounds_toArray, List.set_cons_zero, List.set_cons_succ])))
    obtain ⟨h2, hbd⟩ := hS4
    clear hT L1
    refine SeqH.Rl.nil ?_
    obtain ⟨x0, x1⟩ := h2.1.c2
    obtain ⟨y0, y1⟩ := h2.2.c2
    go_wp2_with fail
    refine (hMV _ hbd).mono ?_
    rintro en w8 ⟨rfl, hb8⟩
    replace h2 := h2.below hb8
    replace hbd := hbd.trans (hb8.mono hbd.size)
    clear hb8 x0 x1 y0 y1 hMV
    go_wp2_with fail
    refine (live21_any _).mono ?_
    rintro e wl ⟨rfl, hbl⟩
    replace hbd := hbd.trans (hbl.mono hbd.size)
    go_wp2
    go_ret
    exact ⟨rfl, hbd⟩
  obtain ⟨r0, r1, r2, r3⟩ := hg.1 rfl
  have HR := Lib.hid (And.intro r0 r1)
  have HNE : Hid (decide (wsn L r = wsn M r) = false) := Lib.hid (decide_eq_false r2)
  have HBEF := Lib.hid r3
  have HR8 := Lib.hid (And.intro (HLA.out r r0 r1) (HLB.out r r0 r1))
  by_cases he : wsn L p = wsn M p
  case pos =>
    have HE : Hid (decide (wsn L p = wsn M p) = true) := Lib.hid (decide_eq_true he)
    rw [HE.out] at hMV
    clear hg hs hp hp2 hps he r0 r1 r2 r3
    obtain ⟨x0, x1⟩ := h2.1.c2
    go_wp2_with fail
    refine (hRA _ hbd).mono ?_
    rintro en w6 ⟨rfl, hb6⟩
    rw [HPA.out]
    replace h2 := h2.below hb6
    replace hbd := hbd.trans (hb6.mono hbd.size)
    clear hb6 x0 x1 hRA
    obtain ⟨y0, y1⟩ := h2.2.c2
    go_wp2_with fail
    refine (hRB _ hbd).mono ?_
    rintro en w7 ⟨rfl, hb7⟩
    rw [HPB.out]
    replace h2 := h2.below hb7
    replace hbd := hbd.trans (hb7.mono hbd.size)
    clear hb7 y0 y1 hRB
    go_wp2_with fail
    refine (hPP _).mono ?_
    rintro en w5 ⟨rfl, hw5⟩
    subst hw5
    go_wp2
    have L1 : ∀ w', (S2p w.heap.size (w.heap.size + 1) (prc e A n m) (prc e2 B k c) w' ∧ Below w.heap.size w w') → (w'.cell? ⟨w.heap.size, 0, none⟩ = some (.int .u64 e) ∧ w'.cell? ⟨w.heap.size, 1, none⟩ = some (.slice A n m)) ∧ (w'.cell? ⟨w.heap.size + 1, 0, none⟩ = some (.int .u64 e2) ∧ w'.cell? ⟨w.heap.size + 1, 1, none⟩ = some (.slice B k c)) := fun w' h => ⟨h.1.1.c2, h.1.2.c2⟩
    refine SeqH.wp_region_hav (fun w' => S2p w.heap.size (w.heap.size + 1) (prc e A n m) (prc e2 B k c) w' ∧ Below w.heap.size w w') (fun w1 w2 => Below w1.heap.size w1 w2) (fun o => o.dst == some 53 || o.dst == some 56) (fun o v w' => (o.dst = some 53 ∧ Wg v (wsn L p) w') ∨ (o.dst = some 56 ∧ Wg v (wsn M p) w')) (fun _ _ => True) ⟨fun w => Below.refl _ _, fun h1 h2 => h1.trans (h2.mono h1.size), fun h ht => h.imp (fun h => ⟨h.1, h.2.below ht⟩) (fun h => ⟨h.1, h.2.below ht⟩), fun _ => trivial⟩ (by kernel_rfl) (by kernel_rfl) ⟨h2.below (below_one' _), hbd.trans ((below_one' _).mono hbd.size)⟩ ?_
    repeat (first | (refine SeqH.Rl.skip (by rfl) ?_; (try simp only [Act.put, List.setIfInBounds_toArray, List.set_cons_zero, List.set_cons_succ])) | (refine SeqH.Rl.det ?_ (by rfl) (by rfl) (fun w hS => ?_) ?_; rotate_left; ((try dsimp only at hS); go_simp; (try rw [if_pos (by omega)]); with_reducible rfl); (try simp only [Act.put, List.setIfInBounds_toArray, List.set_cons_zero, List.set_cons_succ])))
    refine SeqH.Rl.hav (by rfl) (by rfl) rfl (by simp) (fun w3 hT3 hS3 KK Q' hK => ?_) (fun v3 w3 hT3 hS3 hG3 _ => ?_)
    · go_simp
      go_at_call 15
      refine (HNA.out p (by first | exact HNQ.out | exact HR.out | exact HPP.out) w3 hS3.2).mono ?_
      rintro en w4 ⟨a4, l4, m4, rfl, _, hu4, hb4⟩
      obtain rfl : l4 = (wsn L p).length := hu4.1.symm
      exact hK.out _ _ hb4 ⟨hS3.1.below hb4, hS3.2.trans (hb4.mono hS3.2.size)⟩ (.inl ⟨rfl, a4, m4, rfl, hu4.below hb4⟩) (fun _ _ _ => trivial)
    rcases hG3 with ⟨_, a3, m3, rfl, hu3⟩ | ⟨hh, _⟩
    rotate_left
    · exact absurd hh (by decide)
    try simp only [Act.put, List.setIfInBounds_toArray, List.set_cons_zero, List.set_cons_succ]
    repeat (first | (refine SeqH.Rl.skip (by rfl) ?_; (try simp only [Act.put, List.setIfInBounds_toArray, List.set_cons_zero, List.set_cons_succ])) | (refine SeqH.Rl.det ?_ (by rfl) (by rfl) (fun w hS => ?_) ?_; rotate_left; ((try dsimp only at hS); go_simp; (try rw [if_pos (by omega)]); with_reducible rfl); (try simp only [Act.put, List.setIfInBounds_toArray, List.set_cons_zero, List.set_cons_succ])))
    refine SeqH.Rl.hav (by rfl) (by rfl) rfl (by simp) (fun w4 hT4 hS4 KK Q' hK => ?_) (fun v4 w4 hT4 hS4 hG4 _ => ?_)
    · go_simp
      go_at_call 15
      refine (HNB.out p (by first | exact HNQ.out | exact HR.out | exact HPP.out) w4 hS4.2).mono ?_
      rintro en w5 ⟨a5, l5, m5, rfl, _, hu5, hb5⟩
      obtain rfl : l5 = (wsn M p).length := hu5.1.symm
      exact hK.out _ _ hb5 ⟨hS4.1.below hb5, hS4.2.trans (hb5.mono hS4.2.size)⟩ (.inr ⟨rfl, a5, m5, rfl, hu5.below hb5⟩) (fun _ _ _ => trivial)
    rcases hG4 with ⟨hh, _⟩ | ⟨_, a4, m4, rfl, hu4⟩
    · exact absurd hh (by decide)
    replace hu3 := hu3.below hT4
    have hT := hT3.trans (hT4.mono hT3.size)
    clear hT3 hS3
    try simp only [Act.put, List.setIfInBounds_toArray, List.set_cons_zero, List.set_cons_succ]
    repeat (first | (refine SeqH.Rl.skip (by rfl) ?_; (try simp only [Act.put, List.setIfInBounds_toArray, List.set_cons_zero, List.set_cons_succ])) | (refine SeqH.Rl.det ?_ (by rfl) (by rfl) (fun w hS => ?_) ?_; rotate_left; ((try dsimp only at hS); go_simp; (try rw [if_pos (by omega)]); with_reducible rfl); (try simp only [Act.put, List.setIfInBounds_toArray, List.set_cons_zero, List.set_cons_succ])))
    refine SeqH.Rl.make (by rfl) (by rfl) (by rfl) (fun KK Q' hK => ?_)
    go_simp
    go_at_call 14
    refine (rsame5_gen _ _ _ _ _ _ (wsn L p) (wsn M p) _ hu3 hu4 (by have := HP8.out.1; omega) (by have := HP8.out.2; omega)).mono ?_
    rintro en w5 ⟨rfl, hb5⟩
    replace hT := hT.trans (hb5.mono hT.size)
    replace hS4 := And.intro (hS4.1.below hb5) (hS4.2.trans (hb5.mono hS4.2.size))
    rw [HE.out]
    refine hK.out _ _ hT hS4 ?_
    clear hK KK hb5 hu3 hu4 hT4
    try simp only [Act.put, List.setIfInBounds_toArray, List.set_cons_zero, List.set_cons_succ]
    repeat (first | (refine SeqH.Rl.skip (by rfl) ?_; (try simp only [Act.put, List.setIfInBounds_toArray, List.set_cons_zero, List.set_cons_succ])) | (refine SeqH.Rl.det ?_ (by rfl) (by rfl) (fun w hS => ?_) ?_; rotate_left; ((try dsimp only at hS); go_simp; (try rw [if_pos (by omega)]); with_reducible rfl); (try simp only [Act.put, List.setIfInBounds_toArray, List.set_cons_zero, List.set_cons_succ])))
    obtain ⟨h2, hbd⟩ := hS4
    clear hT L1
    refine SeqH.Rl.nil ?_
    obtain ⟨x0, x1⟩ := h2.1.c2
    obtain ⟨y0, y1⟩ := h2.2.c2
    go_wp2_with fail
    refine (hMV _ hbd).mono ?_
    rintro en w8 ⟨rfl, hb8⟩
    replace h2 := h2.below hb8
    replace hbd := hbd.trans (hb8.mono hbd.size)
    clear hb8 x0 x1 y0 y1 hMV
    go_wp2
    go_loopw [10] (fun pv wr => ∃ i : Int, pv = .int .u64 i ∧ 1 ≤ i ∧ i ≤ 200 ∧ S2p w.heap.size (w.heap.size + 1) (prc e A n m) (prc e2 B k c) wr ∧ Below w.heap.size w wr) (fun pv _ => (200 - intOf pv).toNat)
    case atStart => exact ⟨1, rfl, Int.le_refl _, by omega, h2, hbd⟩
    case round =>
      clear h2 hbd
      obtain ⟨i, rfl, i0, i1, h2, hbd⟩ := hrel
      by_cases hi : i < 200
      case neg =>
        have d8 : decide (i < 200) = false := decide_eq_false hi
        clear i0 i1 hi
        go_wp2
        have L1 : ∀ w', (S2p w.heap.size (w.heap.size + 1) (prc e A n m) (prc e2 B k c) w' ∧ Below w.heap.size w w') → (w'.cell? ⟨w.heap.size, 0, none⟩ = some (.int .u64 e) ∧ w'.cell? ⟨w.heap.size, 1, none⟩ = some (.slice A n m)) ∧ (w'.cell? ⟨w.heap.size + 1, 0, none⟩ = some (.int .u64 e2) ∧ w'.cell? ⟨w.heap.size + 1, 1, none⟩ = some (.slice B k c)) := fun w' h => ⟨h.1.1.c2, h.1.2.c2⟩
        refine SeqH.wp_region_hav (fun w' => S2p w.heap.size (w.heap.size + 1) (prc e A n m) (prc e2 B k c) w' ∧ Below w.heap.size w w') (fun w1 w2 => Below w1.heap.size w1 w2) (fun o => o.dst == some 107 || o.dst == some 110) (fun o v w' => (o.dst = some 107 ∧ Wg v (wsn L r) w') ∨ (o.dst = some 110 ∧ Wg v (wsn M r) w')) (fun _ _ => True) ⟨fun w => Below.refl _ _, fun h1 h2 => h1.trans (h2.mono h1.size), fun h ht => h.imp (fun h => ⟨h.1, h.2.below ht⟩) (fun h => ⟨h.1, h.2.below ht⟩), fun _ => trivial⟩ (by kernel_rfl) (by kernel_rfl) ⟨h2.below (below_one' _), hbd.trans ((below_one' _).mono hbd.size)⟩ ?_
        repeat (first | (refine SeqH.Rl.skip (by rfl) ?_; (try simp only [Act.put, List.setIfInBounds_toArray, List.set_cons_zero, List.set_cons_succ])) | (refine SeqH.Rl.det ?_ (by rfl) (by rfl) (fun w hS => ?_) ?_; rotate_left; ((try dsimp only at hS); go_simp; (try rw [if_pos (by omega)]); with_reducible rfl); (try simp only [Act.put, List.setIfInBounds_toArray, List.set_cons_zero, List.set_cons_succ])))
        refine SeqH.Rl.hav (by rfl) (by rfl) rfl (by simp) (fun w3 hT3 hS3 KK Q' hK => ?_) (fun v3 w3 hT3 hS3 hG3 _ => ?_)
        · go_simp
          go_at_call 15
          refine (HNA.out r (by first | exact HNQ.out | exact HR.out | exact HPP.out) w3 hS3.2).mono ?_
          rintro en w4 ⟨a4, l4, m4, rfl, _, hu4, hb4⟩
          obtain rfl : l4 = (wsn L r).length := hu4.1.symm
          exact hK.out _ _ hb4 ⟨hS3.1.below hb4, hS3.2.trans (hb4.mono hS3.2.size)⟩ (.inl ⟨rfl, a4, m4, rfl, hu4.below hb4⟩) (fun _ _ _ => trivial)
        rcases hG3 with ⟨_, a3, m3, rfl, hu3⟩ | ⟨hh, _⟩
        rotate_left
        · exact absurd hh (by decide)
        try simp only [Act.put, List.setIfInBounds_toArray, List.set_cons_zero, List.set_cons_succ]
        repeat (first | (refine SeqH.Rl.skip (by rfl) ?_; (try simp only [Act.put, List.setIfInBounds_toArray, List.set_cons_zero, List.set_cons_succ])) | (refine SeqH.Rl.det ?_ (by rfl) (by rfl) (fun w hS => ?_) ?_; rotate_left; ((try dsimp only at hS); go_simp; (try rw [if_pos (by omega)]); with_reducible rfl); (try simp only [Act.put, List.setIfInBounds_toArray, List.set_cons_zero, List.set_cons_succ])))
        refine SeqH.Rl.hav (by rfl) (by rfl) rfl (by simp) (fun w4 hT4 hS4 KK Q' hK => ?_) (fun v4 w4 hT4 hS4 hG4 _ => ?_)
        · go_simp
          go_at_call 15
          refine (HNB.out r (by first | exact HNQ.out | exact HR.out | exact HPP.out) w4 hS4.2).mono ?_
          rintro en w5 ⟨a5, l5, m5, rfl, _, hu5, hb5⟩
          obtain rfl : l5 = (wsn M r).length := hu5.1.symm
          exact hK.out _ _ hb5 ⟨hS4.1.below hb5, hS4.2.trans (hb5.mono hS4.2.size)⟩ (.inr ⟨rfl, a5, m5, rfl, hu5.below hb5⟩) (fun _ _ _ => trivial)
        rcases hG4 with ⟨hh, _⟩ | ⟨_, a4, m4, rfl, hu4⟩
        · exact absurd hh (by decide)
        replace hu3 := hu3.below hT4
        have hT := hT3.trans (hT4.mono hT3.size)
        clear hT3 hS3
        try simp only [Act.put, List.setIfInBounds_toArray, List.set_cons_zero, List.set_cons_succ]
        repeat (first | (refine SeqH.Rl.skip (by rfl) ?_; (try simp only [Act.put, List.setIfInBounds_toArray, List.set_cons_zero, List.set_cons_succ])) | (refine SeqH.Rl.det ?_ (by rfl) (by rfl) (fun w hS => ?_) ?_; rotate_left; ((try dsimp only at hS); go_simp; (try rw [if_pos (by omega)]); with_reducible rfl); (try simp only [Act.put, List.setIfInBounds_toArray, List.set_cons_zero, List.set_cons_succ])))
        refine SeqH.Rl.make (by rfl) (by rfl) (by rfl) (fun KK Q' hK => ?_)
        go_simp
        go_at_call 14
        refine (rsame5_gen _ _ _ _ _ _ (wsn L r) (wsn M r) _ hu3 hu4 (by have := HR8.out.1; omega) (by have := HR8.out.2; omega)).mono ?_
        rintro en w5 ⟨rfl, hb5⟩
        replace hT := hT.trans (hb5.mono hT.size)
        replace hS4 := And.intro (hS4.1.below hb5) (hS4.2.trans (hb5.mono hS4.2.size))
        rw [HNE.out]
        refine hK.out _ _ hT hS4 ?_
        clear hK KK hb5 hu3 hu4 hT4
        try simp only [Act.put, List.setIfInBounds_toArray, List.set_cons_zero, List.set_cons_succ]
        repeat (first | (refine SeqH.Rl.skip (by rfl) ?_; (try simp only [Act.put, List.setIfInBounds_toArray, List.set_cons_zero, List.set_cons_succ])) | (refine SeqH.Rl.det ?_ (by rfl) (by rfl) (fun w hS => ?_) ?_; rotate_left; ((try dsimp only at hS); go_simp; (try rw [if_pos (by omega)]); with_reducible rfl); (try simp only [Act.put, List.setIfInBounds_toArray, List.set_cons_zero, List.set_cons_succ])))
        refine SeqH.Rl.make (by rfl) (by rfl) (by rfl) (fun KK Q' hK => ?_)
        go_simp
        go_at_call 22
        refine (hAA _ hS4.2).mono ?_
        rintro en w8 ⟨rfl, hb8⟩
        replace hT := hT.trans (hb8.mono hT.size)
        replace hS4 := And.intro (hS4.1.below hb8) (hS4.2.trans (hb8.mono hS4.2.size))
        refine hK.out _ _ hT hS4 ?_
        clear hK KK hb8
        try simp only [Act.put, List.setIfInBounds_toArray, List.set_cons_zero, List.set_cons_succ]
        repeat (first | (refine SeqH.Rl.skip (by rfl) ?_; (try simp only [Act.put, List.setIfInBounds_toArray, List.set_cons_zero, List.set_cons_succ])) | (refine SeqH.Rl.det ?_ (by rfl) (by rfl) (fun w hS => ?_) ?_; rotate_left; ((try dsimp only at hS); go_simp; (try rw [if_pos (by omega)]); with_reducible rfl); (try simp only [Act.put, List.setIfInBounds_toArray, List.set_cons_zero, List.set_cons_succ])))
        refine SeqH.Rl.make (by rfl) (by rfl) (by rfl) (fun KK Q' hK => ?_)
        go_simp
        go_at_call 8
        refine (live21_any _).mono ?_
        rintro en w9 ⟨rfl, hb9⟩
        replace hT := hT.trans (hb9.mono hT.size)
        replace hS4 := And.intro (hS4.1.below hb9) (hS4.2.trans (hb9.mono hS4.2.size))
        refine hK.out _ _ hT hS4 ?_
        clear hK KK hb9
        try simp only [Act.put, List.setIfInBounds_toArray, List.set_cons_zero, List.set_cons_succ]
        repeat (first | (refine SeqH.Rl.skip (by rfl) ?_; (try simp only [Act.put, List.setIfInBounds_toArray, List.set_cons_zero, List.set_cons_succ])) | (refine SeqH.Rl.det ?_ (by rfl) (by rfl) (fun w hS => ?_) ?_; rotate_left; ((try dsimp only at hS); go_simp; (try rw [if_pos (by omega)]); with_reducible rfl); (try simp only [Act.put, List.setIfInBounds_toArray, List.set_cons_zero, List.set_cons_succ])))
        obtain ⟨h2, hbd⟩ := hS4
        clear hT L1
        refine SeqH.Rl.nil ?_
        go_wp2
        go_ret
        exact ⟨rfl, hbd⟩
      by_cases hir : i ≤ r
      case neg =>
        have d7 : decide (i < 200) = true := decide_eq_true hi
        have d8 : decide (i ≤ r) = false := decide_eq_false hir
        clear i0 i1 hi hir
        go_wp2
        have L1 : ∀ w', (S2p w.heap.size (w.heap.size + 1) (prc e A n m) (prc e2 B k c) w' ∧ Below w.heap.size w w') → (w'.cell? ⟨w.heap.size, 0, none⟩ = some (.int .u64 e) ∧ w'.cell? ⟨w.heap.size, 1, none⟩ = some (.slice A n m)) ∧ (w'.cell? ⟨w.heap.size + 1, 0, none⟩ = some (.int .u64 e2) ∧ w'.cell? ⟨w.heap.size + 1, 1, none⟩ = some (.slice B k c)) := fun w' h => ⟨h.1.1.c2, h.1.2.c2⟩
        refine SeqH.wp_region_hav (fun w' => S2p w.heap.size (w.heap.size + 1) (prc e A n m) (prc e2 B k c) w' ∧ Below w.heap.size w w') (fun w1 w2 => Below w1.heap.size w1 w2) (fun o => o.dst == some 107 || o.dst == some 110) (fun o v w' => (o.dst = some 107 ∧ Wg v (wsn L r) w') ∨ (o.dst = some 110 ∧ Wg v (wsn M r) w')) (fun _ _ => True) ⟨fun w => Below.refl _ _, fun h1 h2 => h1.trans (h2.mono h1.size), fun h ht => h.imp (fun h => ⟨h.1, h.2.below ht⟩) (fun h => ⟨h.1, h.2.below ht⟩), fun _ => trivial⟩ (by kernel_rfl) (by kernel_rfl) ⟨h2.below (below_one' _), hbd.trans ((below_one' _).mono hbd.size)⟩ ?_
        repeat (first | (refine SeqH.Rl.skip (by rfl) ?_; (try simp only [Act.put, List.setIfInBounds_toArray, List.set_cons_zero, List.set_cons_succ])) | (refine SeqH.Rl.det ?_ (by rfl) (by rfl) (fun w hS => ?_) ?_; rotate_left; ((try dsimp only at hS); go_simp; (try rw [if_pos (by omega)]); with_reducible rfl); (try simp only [Act.put, List.setIfInBounds_toArray, List.set_cons_zero, List.set_cons_succ])))
        refine SeqH.Rl.hav (by rfl) (by rfl) rfl (by simp) (fun w3 hT3 hS3 KK Q' hK => ?_) (fun v3 w3 hT3 hS3 hG3 _ => ?_)
        · go_simp
          go_at_call 15
          refine (HNA.out r (by first | exact HNQ.out | exact HR.out | exact HPP.out) w3 hS3.2).mono ?_
          rintro en w4 ⟨a4, l4, m4, rfl, _, hu4, hb4⟩
          obtain rfl : l4 = (wsn L r).length := hu4.1.symm
          exact hK.out _ _ hb4 ⟨hS3.1.below hb4, hS3.2.trans (hb4.mono hS3.2.size)⟩ (.inl ⟨rfl, a4, m4, rfl, hu4.below hb4⟩) (fun _ _ _ => trivial)
        rcases hG3 with ⟨_, a3, m3, rfl, hu3⟩ | ⟨hh, _⟩
        rotate_left
        · exact absurd hh (by decide)
        try simp only [Act.put, List.setIfInBounds_toArray, List.set_cons_zero, List.set_cons_succ]
        repeat (first | (refine SeqH.Rl.skip (by rfl) ?_; (try simp only [Act.put, List.setIfInBounds_toArray, List.set_cons_zero, List.set_cons_succ])) | (refine SeqH.Rl.det ?_ (by rfl) (by rfl) (fun w hS => ?_) ?_; rotate_left; ((try dsimp only at hS); go_simp; (try rw [if_pos (by omega)]); with_reducible rfl); (try simp only [Act.put, List.setIfInBounds_toArray, List.set_cons_zero, List.set_cons_succ])))
        refine SeqH.Rl.hav (by rfl) (by rfl) rfl (by simp) (fun w4 hT4 hS4 KK Q' hK => ?_) (fun v4 w4 hT4 hS4 hG4 _ => ?_)
        · go_simp
          go_at_call 15
          refine (HNB.out r (by first | exact HNQ.out | exact HR.out | exact HPP.out) w4 hS4.2).mono ?_
          rintro en w5 ⟨a5, l5, m5, rfl, _, hu5, hb5⟩
          obtain rfl : l5 = (wsn M r).length := hu5.1.symm
          exact hK.out _ _ hb5 ⟨hS4.1.below hb5, hS4.2.trans (hb5.mono hS4.2.size)⟩ (.inr ⟨rfl, a5, m5, rfl, hu5.below hb5⟩) (fun _ _ _ => trivial)
        rcases hG4 with ⟨hh, _⟩ | ⟨_, a4, m4, rfl, hu4⟩
        · exact absurd hh (by decide)
        replace hu3 := hu3.below hT4
        have hT := hT3.trans (hT4.mono hT3.size)
        clear hT3 hS3
        try simp only [Act.put, List.setIfInBounds_toArray, List.set_cons_zero, List.set_cons_succ]
        repeat (first | (refine SeqH.Rl.skip (by rfl) ?_; (try simp only [Act.put, List.setIfInBounds_toArray, List.set_cons_zero, List.set_cons_succ])) | (refine SeqH.Rl.det ?_ (by rfl) (by rfl) (fun w hS => ?_) ?_; rotate_left; ((try dsimp only at hS); go_simp; (try rw [if_pos (by omega)]); with_reducible rfl); (try simp only [Act.put, List.setIfInBounds_toArray, List.set_cons_zero, List.set_cons_succ])))
        refine SeqH.Rl.make (by rfl) (by rfl) (by rfl) (fun KK Q' hK => ?_)
        go_simp
        go_at_call 14
        refine (rsame5_gen _ _ _ _ _ _ (wsn L r) (wsn M r) _ hu3 hu4 (by have := HR8.out.1; omega) (by have := HR8.out.2; omega)).mono ?_
        rintro en w5 ⟨rfl, hb5⟩
        replace hT := hT.trans (hb5.mono hT.size)
        replace hS4 := And.intro (hS4.1.below hb5) (hS4.2.trans (hb5.mono hS4.2.size))
        rw [HNE.out]
        refine hK.out _ _ hT hS4 ?_
        clear hK KK hb5 hu3 hu4 hT4
        try simp only [Act.put, List.setIfInBounds_toArray, List.set_cons_zero, List.set_cons_succ]
        repeat (first | (refine SeqH.Rl.skip (by rfl) ?_; (try simp only [Act.put, List.setIfInBounds_toArray, List.set_cons_zero, List.set_cons_succ])) | (refine SeqH.Rl.det ?_ (by rfl) (by rfl) (fun w hS => ?_) ?_; rotate_left; ((try dsimp only at hS); go_simp; (try rw [if_pos (by omega)]); with_reducible rfl); (try simp only [Act.put, List.setIfInBounds_toArray, List.set_cons_zero, List.set_cons_succ])))
        refine SeqH.Rl.make (by rfl) (by rfl) (by rfl) (fun KK Q' hK => ?_)
        go_simp
        go_at_call 22
        refine (hAA _ hS4.2).mono ?_
        rintro en w8 ⟨rfl, hb8⟩
        replace hT := hT.trans (hb8.mono hT.size)
        replace hS4 := And.intro (hS4.1.below hb8) (hS4.2.trans (hb8.mono hS4.2.size))
        refine hK.out _ _ hT hS4 ?_
        clear hK KK hb8
        try simp only [Act.put, List.setIfInBounds_toArray, List.set_cons_zero, List.set_cons_succ]
        repeat (first | (refine SeqH.Rl.skip (by rfl) ?_; (try simp only [Act.put, List.setIfInBounds_toArray, List.set_cons_zero, List.set_cons_succ])) | (refine SeqH.Rl.det ?_ (by rfl) (by rfl) (fun w hS => ?_) ?_; rotate_left; ((try dsimp only at hS); go_simp; (try rw [if_pos (by omega)]); with_reducible rfl); (try simp only [Act.put, List.setIfInBounds_toArray, List.set_cons_zero, List.set_cons_succ])))
        refine SeqH.Rl.make (by rfl) (by rfl) (by rfl) (fun KK Q' hK => ?_)
        go_simp
        go_at_call 8
        refine (live21_any _).mono ?_
        rintro en w9 ⟨rfl, hb9⟩
        replace hT := hT.trans (hb9.mono hT.size)
        replace hS4 := And.intro (hS4.1.below hb9) (hS4.2.trans (hb9.mono hS4.2.size))
        refine hK.out _ _ hT hS4 ?_
        clear hK KK hb9
        try simp only [Act.put, List.setIfInBounds_toArray, List.set_cons_zero, List.set_cons_succ]
        repeat (first | (refine SeqH.Rl.skip (by rfl) ?_; (try simp only [Act.put, List.setIfInBounds_toArray, List.set_cons_zero, List.set_cons_succ])) | (refine SeqH.Rl.det ?_ (by rfl) (by rfl) (fun w hS => ?_) ?_; rotate_left; ((try dsimp only at hS); go_simp; (try rw [if_pos (by omega)]); with_reducible rfl); (try simp only [Act.put, List.setIfInBounds_toArray, List.set_cons_zero, List.set_cons_succ])))
        obtain ⟨h2, hbd⟩ := hS4
        clear hT L1
        refine SeqH.Rl.nil ?_
        go_wp2
        go_ret
        exact ⟨rfl, hbd⟩
      have d7 : decide (i < 200) = true := decide_eq_true hi
      have d8 : decide (i ≤ r) = true := decide_eq_true hir
      have HI := Lib.hid (And.intro i0 hi)
      obtain ⟨q, hq⟩ : ∃ q, q = r - i := ⟨_, rfl⟩
      have hq0 : 0 ≤ q ∧ q < r := by omega
      have w9' : IntKind.u64.wrap (r - i) = q := by rw [← hq]; have := HR.out; exact IntWalk.u64_in _ (by omega)
      have HQE : Hid (decide (wsn L q = wsn M q) = true) := Lib.hid (decide_eq_true (HBEF.out q hq0.1 hq0.2))
      have HQ8 := Lib.hid (And.intro (HLA.out q hq0.1 (by have := HR.out; omega)) (HLB.out q hq0.1 (by have := HR.out; omega)))
      have HNQ := Lib.hid (And.intro hq0.1 (show q < 4611686018427387904 by have := HR.out; omega))
      have w8' : IntKind.u64.wrap (i + 1) = i + 1 := IntWalk.u64_in _ (by omega)
      clear hq hq0 i0 hi hir
      go_wp2
      have L1 : ∀ w', (S2p w.heap.size (w.heap.size + 1) (prc e A n m) (prc e2 B k c) w' ∧ Below w.heap.size w w') → (w'.cell? ⟨w.heap.size, 0, none⟩ = some (.int .u64 e) ∧ w'.cell? ⟨w.heap.size, 1, none⟩ = some (.slice A n m)) ∧ (w'.cell? ⟨w.heap.size + 1, 0, none⟩ = some (.int .u64 e2) ∧ w'.cell? ⟨w.heap.size + 1, 1, none⟩ = some (.slice B k c)) := fun w' h => ⟨h.1.1.c2, h.1.2.c2⟩
      refine SeqH.wp_region_hav (fun w' => S2p w.heap.size (w.heap.size + 1) (prc e A n m) (prc e2 B k c) w' ∧ Below w.heap.size w w') (fun w1 w2 => Below w1.heap.size w1 w2) (fun o => o.dst == some 97 || o.dst == some 102) (fun o v w' => (o.dst = some 97 ∧ Wg v (wsn L q) w') ∨ (o.dst = some 102 ∧ Wg v (wsn M q) w')) (fun _ _ => True) ⟨fun w => Below.refl _ _, fun h1 h2 => h1.trans (h2.mono h1.size), fun h ht => h.imp (fun h => ⟨h.1, h.2.below ht⟩) (fun h => ⟨h.1, h.2.below ht⟩), fun _ => trivial⟩ (by kernel_rfl) (by kernel_rfl) ⟨h2.below (below_one' _), hbd.trans ((below_one' _).mono hbd.size)⟩ ?_
      repeat (first | (refine SeqH.Rl.skip (by rfl) ?_; (try simp only [Act.put, List.setIfInBounds_toArray, List.set_cons_zero, List.set_cons_succ])) | (refine SeqH.Rl.det ?_ (by rfl) (by rfl) (fun w hS => ?_) ?_; rotate_left; ((try dsimp only at hS); go_simp; (try rw [if_pos (by omega)]); with_reducible rfl); (try simp only [Act.put, List.setIfInBounds_toArray, List.set_cons_zero, List.set_cons_succ])))
      refine SeqH.Rl.hav (by rfl) (by rfl) rfl (by simp) (fun w3 hT3 hS3 KK Q' hK => ?_) (fun v3 w3 hT3 hS3 hG3 _ => ?_)
      · go_simp
        go_at_call 15
        refine (HNA.out q (by first | exact HNQ.out | exact HR.out | exact HPP.out) w3 hS3.2).mono ?_
        rintro en w4 ⟨a4, l4, m4, rfl, _, hu4, hb4⟩
        obtain rfl : l4 = (wsn L q).length := hu4.1.symm
        exact hK.out _ _ hb4 ⟨hS3.1.below hb4, hS3.2.trans (hb4.mono hS3.2.size)⟩ (.inl ⟨rfl, a4, m4, rfl, hu4.below hb4⟩) (fun _ _ _ => trivial)
      rcases hG3 with ⟨_, a3, m3, rfl, hu3⟩ | ⟨hh, _⟩
      rotate_left
      · exact absurd hh (by decide)
      try simp only [Act.put, List.setIfInBounds_toArray, List.set_cons_zero, List.set_cons_succ]
      repeat (first | (refine SeqH.Rl.skip (by rfl) ?_; (try simp only [Act.put, List.setIfInBounds_toArray, List.set_cons_zero, List.set_cons_succ])) | (refine SeqH.Rl.det ?_ (by rfl) (by rfl) (fun w hS => ?_) ?_; rotate_left; ((try dsimp only at hS); go_simp; (try rw [if_pos (by omega)]); with_reducible rfl); (try simp only [Act.put, List.setIfInBounds_toArray, List.set_cons_zero, List.set_cons_succ])))
      refine SeqH.Rl.hav (by rfl) (by rfl) rfl (by simp) (fun w4 hT4 hS4 KK Q' hK => ?_) (fun v4 w4 hT4 hS4 hG4 _ => ?_)
      · go_simp
        go_at_call 15
        refine (HNB.out q (by first | exact HNQ.out | exact HR.out | exact HPP.out) w4 hS4.2).mono ?_
        rintro en w5 ⟨a5, l5, m5, rfl, _, hu5, hb5⟩
        obtain rfl : l5 = (wsn M q).length := hu5.1.symm
        exact hK.out _ _ hb5 ⟨hS4.1.below hb5, hS4.2.trans (hb5.mono hS4.2.size)⟩ (.inr ⟨rfl, a5, m5, rfl, hu5.below hb5⟩) (fun _ _ _ => trivial)
      rcases hG4 with ⟨hh, _⟩ | ⟨_, a4, m4, rfl, hu4⟩
      · exact absurd hh (by decide)
      replace hu3 := hu3.below hT4
      have hT := hT3.trans (hT4.mono hT3.size)
      clear hT3 hS3
      try simp only [Act.put, List.setIfInBounds_toArray, List.set_cons_zero, List.set_cons_succ]
      repeat (first | (refine SeqH.Rl.skip (by rfl) ?_; (try simp only [Act.put, List.setIfInBounds_toArray, List.set_cons_zero, List.set_cons_succ])) | (refine SeqH.Rl.det ?_ (by rfl) (by rfl) (fun w hS => ?_) ?_; rotate_left; ((try dsimp only at hS); go_simp; (try rw [if_pos (by omega)]); with_reducible rfl); (try simp only [Act.put, List.setIfInBounds_toArray, List.set_cons_zero, List.set_cons_succ])))
      refine SeqH.Rl.make (by rfl) (by rfl) (by rfl) (fun KK Q' hK => ?_)
      go_simp
      go_at_call 14
      refine (rsame5_gen _ _ _ _ _ _ (wsn L q) (wsn M q) _ hu3 hu4 (by have := HQ8.out.1; omega) (by have := HQ8.out.2; omega)).mono ?_
      rintro en w5 ⟨rfl, hb5⟩
      replace hT := hT.trans (hb5.mono hT.size)
      replace hS4 := And.intro (hS4.1.below hb5) (hS4.2.trans (hb5.mono hS4.2.size))
      rw [HQE.out]
      refine hK.out _ _ hT hS4 ?_
      clear hK KK hb5 hu3 hu4 hT4
      try simp only [Act.put, List.setIfInBounds_toArray, List.set_cons_zero, List.set_cons_succ]
      repeat (first | (refine SeqH.Rl.skip (by rfl) ?_; (try simp only [Act.put, List.setIfInBounds_toArray, List.set_cons_zero, List.set_cons_succ])) | (refine SeqH.Rl.det ?_ (by rfl) (by rfl) (fun w hS => ?_) ?_; rotate_left; ((try dsimp only at hS); go_simp; (try rw [if_pos (by omega)]); with_reducible rfl); (try simp only [Act.put, List.setIfInBounds_toArray, List.set_cons_zero, List.set_cons_succ])))
      obtain ⟨h2, hbd⟩ := hS4
      clear hT L1
      refine SeqH.Rl.nil ?_
      go_wp2
      go_roundw
      case rel => exact ⟨i + 1, by go_num, by have := HI.out; omega, by have := HI.out; omega, h2, hbd⟩
      case measure => have := HI.out; simp [intOf]; omega
  have HE : Hid (decide (wsn L p = wsn M p) = false) := Lib.hid (decide_eq_false he)
  have d6 : decide (p < r) = false := decide_eq_false (fun h => he (r3 p p0 h))
  rw [HE.out] at hMV
  clear hg hs hp hp2 hps he r0 r1 r2 r3
  obtain ⟨x0, x1⟩ := h2.1.c2
  go_wp2_with fail
  refine (hRA _ hbd).mono ?_
  rintro en w6 ⟨rfl, hb6⟩
  rw [HPA.out]
  replace h2 := h2.below hb6
  replace hbd := hbd.trans (hb6.mono hbd.size)
  clear hb6 x0 x1 hRA
  obtain ⟨y0, y1⟩ := h2.2.c2
  go_wp2_with fail
  refine (hRB _ hbd).mono ?_
  rintro en w7 ⟨rfl, hb7⟩
  rw [HPB.out]
  replace h2 := h2.below hb7
  replace hbd := hbd.trans (hb7.mono hbd.size)
  clear hb7 y0 y1 hRB
  go_wp2_with fail
  refine (hPP _).mono ?_
  rintro en w5 ⟨rfl, hw5⟩
  subst hw5
  go_wp2
  have L1 : ∀ w', (S2p w.heap.size (w.heap.size + 1) (prc e A n m) (prc e2 B k c) w' ∧ Below w.heap.size w w') → (w'.cell? ⟨w.heap.size, 0, none⟩ = some (.int .u64 e) ∧ w'.cell? ⟨w.heap.size, 1, none⟩ = some (.slice A n m)) ∧ (w'.cell? ⟨w.heap.size + 1, 0, none⟩ = some (.int .u64 e2) ∧ w'.cell? ⟨w.heap.size + 1, 1, none⟩ = some (.slice B k c)) := fun w' h => ⟨h.1.1.c2, h.1.2.c2⟩
  refine SeqH.wp_region_hav (fun w' => S2p w.heap.size (w.heap.size + 1) (prc e A n m) (prc e2 B k c) w' ∧ Below w.heap.size w w') (fun w1 w2 => Below w1.heap.size w1 w2) (fun o => o.dst == some 53 || o.dst == some 56) (fun o v w' => (o.dst = some 53 ∧ Wg v (wsn L p) w') ∨ (o.dst = some 56 ∧ Wg v (wsn M p) w')) (fun _ _ => True) ⟨fun w => Below.refl _ _, fun h1 h2 => h1.trans (h2.mono h1.size), fun h ht => h.imp (fun h => ⟨h.1, h.2.below ht⟩) (fun h => ⟨h.1, h.2.below ht⟩), fun _ => trivial⟩ (by kernel_rfl) (by kernel_rfl) ⟨h2.below (below_one' _), hbd.trans ((below_one' _).mono hbd.size)⟩ ?_
  repeat (first | (refine SeqH.Rl.skip (by rfl) ?_; (try simp only [Act.put, List.setIfInBounds_toArray, List.set_cons_zero, List.set_cons_succ])) | (refine SeqH.Rl.det ?_ (by rfl) (by rfl) (fun w hS => ?_) ?_; rotate_left; ((try dsimp only at hS); go_simp; (try rw [if_pos (by omega)]); with_reducible rfl); (try simp only [Act.put, List.setIfInBounds_toArray, List.set_cons_zero, List.set_cons_succ])))
  refine SeqH.Rl.hav (by rfl) (by rfl) rfl (by simp) (fun w3 hT3 hS3 KK Q' hK => ?_) (fun v3 w3 hT3 hS3 hG3 _ => ?_)
  · go_simp
    go_at_call 15
    refine (HNA.out p (by first | exact HNQ.out | exact HR.out | exact HPP.out) w3 hS3.2).mono ?_
    rintro en w4 ⟨a4, l4, m4, rfl, _, hu4, hb4⟩
    obtain rfl : l4 = (wsn L p).length := hu4.1.symm
    exact hK.out _ _ hb4 ⟨hS3.1.below hb4, hS3.2.trans (hb4.mono hS3.2.size)⟩ (.inl ⟨rfl, a4, m4, rfl, hu4.below hb4⟩) (fun _ _ _ => trivial)
  rcases hG3 with ⟨_, a3, m3, rfl, hu3⟩ | ⟨hh, _⟩
  rotate_left
  · exact absurd hh (by decide)
  try simp only [Act.put, List.setIfInBounds_toArray, List.set_cons_zero, List.set_cons_succ]
  repeat (first | (refine SeqH.Rl.skip (by rfl) ?_; (try simp only [Act.put, List.setIfInBounds_toArray, List.set_cons_zero, List.set_cons_succ])) | (refine SeqH.Rl.det ?_ (by rfl) (by rfl) (fun w hS => ?_) ?_; rotate_left; ((try dsimp only at hS); go_simp; (try rw [if_pos (by omega)]); with_reducible rfl); (try simp only [Act.put, List.setIfInBounds_toArray, List.set_cons_zero, List.set_cons_succ])))
  refine SeqH.Rl.hav (by rfl) (by rfl) rfl (by simp) (fun w4 hT4 hS4 KK Q' hK => ?_) (fun v4 w4 hT4 hS4 hG4 _ => ?_)
  · go_simp
    go_at_call 15
    refine (HNB.out p (by first | exact HNQ.out | exact HR.out | exact HPP.out) w4 hS4.2).mono ?_
    rintro en w5 ⟨a5, l5, m5, rfl, _, hu5, hb5⟩
    obtain rfl : l5 = (wsn M p).length := hu5.1.symm
    exact hK.out _ _ hb5 ⟨hS4.1.below hb5, hS4.2.trans (hb5.mono hS4.2.size)⟩ (.inr ⟨rfl, a5, m5, rfl, hu5.below hb5⟩) (fun _ _ _ => trivial)
  rcases hG4 with ⟨hh, _⟩ | ⟨_, a4, m4, rfl, hu4⟩
  · exact absurd hh (by decide)
  replace hu3 := hu3.below hT4
  have hT := hT3.trans (hT4.mono hT3.size)
  clear hT3 hS3
  try simp only [Act.put, List.setIfInBounds_toArray, List.set_cons_zero, List.set_cons_succ]
  repeat (first | (refine SeqH.Rl.skip (by rfl) ?_; (try simp only [Act.put, List.setIfInBounds_toArray, List.set_cons_zero, List.set_cons_succ])) | (refine SeqH.Rl.det ?_ (by rfl) (by rfl) (fun w hS => ?_) ?_; rotate_left; ((try dsimp only at hS); go_simp; (try rw [if_pos (by omega)]); with_reducible rfl); (try simp only [Act.put, List.setIfInBounds_toArray, List.set_cons_zero, List.set_cons_succ])))
  refine SeqH.Rl.make (by rfl) (by rfl) (by rfl) (fun KK Q' hK => ?_)
  go_simp
  go_at_call 14
  refine (rsame5_gen _ _ _ _ _ _ (wsn L p) (wsn M p) _ hu3 hu4 (by have := HP8.out.1; omega) (by have := HP8.out.2; omega)).mono ?_
  rintro en w5 ⟨rfl, hb5⟩
  replace hT := hT.trans (hb5.mono hT.size)
  replace hS4 := And.intro (hS4.1.below hb5) (hS4.2.trans (hb5.mono hS4.2.size))
  rw [HE.out]
  refine hK.out _ _ hT hS4 ?_
  clear hK KK hb5 hu3 hu4 hT4
  try simp only [Act.put, List.setIfInBounds_toArray, List.set_cons_zero, List.set_cons_succ]
  repeat (first | (refine SeqH.Rl.skip (by rfl) ?_; (try simp only [Act.put, List.setIfInBounds_toArray, List.set_cons_zero, List.set_cons_succ])) | (refine SeqH.Rl.det ?_ (by rfl) (by rfl) (fun w hS => ?_) ?_; rotate_left; ((try dsimp only at hS); go_simp; (try rw [if_pos (by omega)]); with_reducible rfl); (try simp only [Act.put, List.setIfInBounds_toArray, List.set_cons_zero, List.set_cons_succ])))
  obtain ⟨h2, hbd⟩ := hS4
  clear hT L1
  refine SeqH.Rl.nil ?_
  obtain ⟨x0, x1⟩ := h2.1.c2
  obtain ⟨y0, y1⟩ := h2.2.c2
  go_wp2_with fail
  refine (hMV _ hbd).mono ?_
  rintro en w8 ⟨rfl, hb8⟩
  replace h2 := h2.below hb8
  replace hbd := hbd.trans (hb8.mono hbd.size)
  clear hb8 x0 x1 y0 y1 hMV
  go_wp2
  go_loopw [10] (fun pv wr => ∃ i : Int, pv = .int .u64 i ∧ 1 ≤ i ∧ i ≤ 200 ∧ S2p w.heap.size (w.heap.size + 1) (prc e A n m) (prc e2 B k c) wr ∧ Below w.heap.size w wr) (fun pv _ => (200 - intOf pv).toNat)
  case atStart => exact ⟨1, rfl, Int.le_refl _, by omega, h2, hbd⟩
  case round =>
    clear h2 hbd
    obtain ⟨i, rfl, i0, i1, h2, hbd⟩ := hrel
    by_cases hi : i < 200
    case neg =>
      have d8 : decide (i < 200) = false := decide_eq_false hi
      clear i0 i1 hi
      go_wp2
      have L1 : ∀ w', (S2p w.heap.size (w.heap.size + 1) (prc e A n m) (prc e2 B k c) w' ∧ Below w.heap.size w w') → (w'.cell? ⟨w.heap.size, 0, none⟩ = some (.int .u64 e) ∧ w'.cell? ⟨w.heap.size, 1, none⟩ = some (.slice A n m)) ∧ (w'.cell? ⟨w.heap.size + 1, 0, none⟩ = some (.int .u64 e2) ∧ w'.cell? ⟨w.heap.size + 1, 1, none⟩ = some (.slice B k c)) := fun w' h => ⟨h.1.1.c2, h.1.2.c2⟩
      refine SeqH.wp_region_hav (fun w' => S2p w.heap.size (w.heap.size + 1) (prc e A n m) (prc e2 B k c) w' ∧ Below w.heap.size w w') (fun w1 w2 => Below w1.heap.size w1 w2) (fun o => o.dst == some 107 || o.dst == some 110) (fun o v w' => (o.dst = some 107 ∧ Wg v (wsn L r) w') ∨ (o.dst = some 110 ∧ Wg v (wsn M r) w')) (fun _ _ => True) ⟨fun w => Below.refl _ _, fun h1 h2 => h1.trans (h2.mono h1.size), fun h ht => h.imp (fun h => ⟨h.1, h.2.below ht⟩) (fun h => ⟨h.1, h.2.below ht⟩), fun _ => trivial⟩ (by kernel_rfl) (by kernel_rfl) ⟨h2.below (below_one' _), hbd.trans ((below_one' _).mono hbd.size)⟩ ?_
      repeat (first | (refine SeqH.Rl.skip (by rfl) ?_; (try simp only [Act.put, List.setIfInBounds_toArray, List.set_cons_zero, List.set_cons_succ])) | (refine SeqH.Rl.det ?_ (by rfl) (by rfl) (fun w hS => ?_) ?_; rotate_left; ((try dsimp only at hS); go_simp; (try rw [if_pos (by omega)]); with_reducible rfl); (try simp only [Act.put, List.setIfInBounds_toArray, List.set_cons_zero, List.set_cons_succ])))
      refine SeqH.Rl.hav (by rfl) (by rfl) rfl (by simp) (fun w3 hT3 hS3 KK Q' hK => ?_) (fun v3 w3 hT3 hS3 hG3 _ => ?_)
      · go_simp
        go_at_call 15
        refine (HNA.out r (by first | exact HNQ.out | exact HR.out | exact HPP.out) w3 hS3.2).mono ?_
        rintro en w4 ⟨a4, l4, m4, rfl, _, hu4, hb4⟩
        obtain rfl : l4 = (wsn L r).length := hu4.1.symm
        exact hK.out _ _ hb4 ⟨hS3.1.below hb4, hS3.2.trans (hb4.mono hS3.2.size)⟩ (.inl ⟨rfl, a4, m4, rfl, hu4.below hb4⟩) (fun _ _ _ => trivial)
      rcases hG3 with ⟨_, a3, m3, rfl, hu3⟩ | ⟨hh, _⟩
      rotate_left
      · exact absurd hh (by decide)
      try simp only [Act.put, List.setIfInBounds_toArray, List.set_cons_zero, List.set_cons_succ]
      repeat (first | (refine SeqH.Rl.skip (by rfl) ?_; (try simp only [Act.put, List.setIfInBounds_toArray, List.set_cons_zero, List.set_cons_succ])) | (refine SeqH.Rl.det ?_ (by rfl) (by rfl) (fun w hS => ?_) ?_; rotate_left; ((try dsimp only at hS); go_simp; (try rw [if_pos (by omega)]); with_reducible rfl); (try simp only [Act.put, List.setIfInBounds_toArray, List.set_cons_zero, List.set_cons_succ])))
      refine SeqH.Rl.hav (by rfl) (by rfl) rfl (by simp) (fun w4 hT4 hS4 KK Q' hK => ?_) (fun v4 w4 hT4 hS4 hG4 _ => ?_)
      · go_simp
        go_at_call 15
        refine (HNB.out r (by first | exact HNQ.out | exact HR.out | exact HPP.out) w4 hS4.2).mono ?_
        rintro en w5 ⟨a5, l5, m5, rfl, _, hu5, hb5⟩
        obtain rfl : l5 = (wsn M r).length := hu5.1.symm
        exact hK.out _ _ hb5 ⟨hS4.1.below hb5, hS4.2.trans (hb5.mono hS4.2.size)⟩ (.inr ⟨rfl, a5, m5, rfl, hu5.below hb5⟩) (fun _ _ _ => trivial)
      rcases hG4 with ⟨hh, _⟩ | ⟨_, a4, m4, rfl, hu4⟩
      · exact absurd hh (by decide)
      replace hu3 := hu3.below hT4
      have hT := hT3.trans (hT4.mono hT3.size)
      clear hT3 hS3
      try simp only [Act.put, List.setIfInBounds_toArray, List.set_cons_zero, List.set_cons_succ]
      repeat (first | (refine SeqH.Rl.skip (by rfl) ?_; (try simp only [Act.put, List.setIfInBounds_toArray, List.set_cons_zero, List.set_cons_succ])) | (refine SeqH.Rl.det ?_ (by rfl) (by rfl) (fun w hS => ?_) ?_; rotate_left; ((try dsimp only at hS); go_simp; (try rw [if_pos (by omega)]); with_reducible rfl); (try simp only [Act.put, List.setIfInBounds_toArray, List.set_cons_zero, List.set_cons_succ])))
      refine SeqH.Rl.make (by rfl) (by rfl) (by rfl) (fun KK Q' hK => ?_)
      go_simp
      go_at_call 14
      refine (rsame5_gen _ _ _ _ _ _ (wsn L r) (wsn M r) _ hu3 hu4 (by have := HR8.out.1; omega) (by have := HR8.out.2; omega)).mono ?_
      rintro en w5 ⟨rfl, hb5⟩
      replace hT := hT.trans (hb5.mono hT.size)
      replace hS4 := And.intro (hS4.1.below hb5) (hS4.2.trans (hb5.mono hS4.2.size))
      rw [HNE.out]
      refine hK.out _ _ hT hS4 ?_
      clear hK KK hb5 hu3 hu4 hT4
      try simp only [Act.put, List.setIfInBounds_toArray, List.set_cons_zero, List.set_cons_succ]
      repeat (first | (refine SeqH.Rl.skip (by rfl) ?_; (try simp only [Act.put, List.setIfInBounds_toArray, List.set_cons_zero, List.set_cons_succ])) | (refine SeqH.Rl.det ?_ (by rfl) (by rfl) (fun w hS => ?_) ?_; rotate_left; ((try dsimp only at hS); go_simp; (try rw [if_pos (by omega)]); with_reducible rfl); (try simp only [Act.put, List.setIfInBounds_toArray, List.set_cons_zero, List.set_cons_succ])))
      refine SeqH.Rl.make (by rfl) (by rfl) (by rfl) (fun KK Q' hK => ?_)
      go_simp
      go_at_call 22
      refine (hAA _ hS4.2).mono ?_
      rintro en w8 ⟨rfl, hb8⟩
      replace hT := hT.trans (hb8.mono hT.size)
      replace hS4 := And.intro (hS4.1.below hb8) (hS4.2.trans (hb8.mono hS4.2.size))
      refine hK.out _ _ hT hS4 ?_
      clear hK KK hb8
      try simp only [Act.put, List.setIfInBounds_toArray, List.set_cons_zero, List.set_cons_succ]
      repeat (first | (refine SeqH.Rl.skip (by rfl) ?_; (try simp only [Act.put, List.setIfInBounds_toArray, List.set_cons_zero, List.set_cons_succ])) | (refine SeqH.Rl.det ?_ (by rfl) (by rfl) (fun w hS => ?_) ?_; rotate_left; ((try dsimp only at hS); go_simp; (try rw [if_pos (by omega)]); with_reducible rfl); (try simp only [Act.put, List.setIfInBounds_toArray, List.set_cons_zero, List.set_cons_succ])))
      refine SeqH.Rl.make (by rfl) (by rfl) (by rfl) (fun KK Q' hK => ?_)
      go_simp
      go_at_call 8
      refine (live21_any _).mono ?_
      rintro en w9 ⟨rfl, hb9⟩
      replace hT := hT.trans (hb9.mono hT.size)
      replace hS4 := And.intro (hS4.1.below hb9) (hS4.2.trans (hb9.mono hS4.2.size))
      refine hK.out _ _ hT hS4 ?_
      clear hK KK hb9
      try simp only [Act.put, List.setIfInBounds_toArray, List.set_cons_zero, List.set_cons_succ]
      repeat (first | (refine SeqH.Rl.skip (by rfl) ?_; (try simp only [Act.put, List.setIfInBounds_toArray, List.set_cons_zero, List.set_cons_succ])) | (refine SeqH.Rl.det ?_ (by rfl) (by rfl) (fun w hS => ?_) ?_; rotate_left; ((try dsimp only at hS); go_simp; (try rw [if_pos (by omega)]); with_reducible rfl); (try simp only [Act.put, List.setIfInBounds_toArray, List.set_cons_zero, List.set_cons_succ])))
      obtain ⟨h2, hbd⟩ := hS4
      clear hT L1
      refine SeqH.Rl.nil ?_
      go_wp2
      go_ret
      exact ⟨rfl, hbd⟩
    by_cases hir : i ≤ r
    case neg =>
      have d7 : decide (i < 200) = true := decide_eq_true hi
      have d8 : decide (i ≤ r) = false := decide_eq_false hir
      clear i0 i1 hi hir
      go_wp2
      have L1 : ∀ w', (S2p w.heap.size (w.heap.size + 1) (prc e A n m) (prc e2 B k c) w' ∧ Below w.heap.size w w') → (w'.cell? ⟨w.heap.size, 0, none⟩ = some (.int .u64 e) ∧ w'.cell? ⟨w.heap.size, 1, none⟩ = some (.slice A n m)) ∧ (w'.cell? ⟨w.heap.size + 1, 0, none⟩ = some (.int .u64 e2) ∧ w'.cell? ⟨w.heap.size + 1, 1, none⟩ = some (.slice B k c)) := fun w' h => ⟨h.1.1.c2, h.1.2.c2⟩
      refine SeqH.wp_region_hav (fun w' => S2p w.heap.size (w.heap.size + 1) (prc e A n m) (prc e2 B k c) w' ∧ Below w.heap.size w w') (fun w1 w2 => Below w1.heap.size w1 w2) (fun o => o.dst == some 107 || o.dst == some 110) (fun o v w' => (o.dst = some 107 ∧ Wg v (wsn L r) w') ∨ (o.dst = some 110 ∧ Wg v (wsn M r) w')) (fun _ _ => True) ⟨fun w => Below.refl _ _, fun h1 h2 => h1.trans (h2.mono h1.size), fun h ht => h.imp (fun h => ⟨h.1, h.2.below ht⟩) (fun h => ⟨h.1, h.2.below ht⟩), fun _ => trivial⟩ (by kernel_rfl) (by kernel_rfl) ⟨h2.below (below_one' _), hbd.trans ((below_one' _).mono hbd.size)⟩ ?_
      repeat (first | (refine SeqH.Rl.skip (by rfl) ?_; (try simp only [Act.put, List.setIfInBounds_toArray, List.set_cons_zero, List.set_cons_succ])) | (refine SeqH.Rl.det ?_ (by rfl) (by rfl) (fun w hS => ?_) ?_; rotate_left; ((try dsimp only at hS); go_simp; (try rw [if_pos (by omega)]); with_reducible rfl); (try simp only [Act.put, List.setIfInBounds_toArray, List.set_cons_zero, List.set_cons_succ])))
      refine SeqH.Rl.hav (by rfl) (by rfl) rfl (by simp) (fun w3 hT3 hS3 KK Q' hK => ?_) (fun v3 w3 hT3 hS3 hG3 _ => ?_)
      · go_simp
        go_at_call 15
        refine (HNA.out r (by first | exact HNQ.out | exact HR.out | exact HPP.out) w3 hS3.2).mono ?_
        rintro en w4 ⟨a4, l4, m4, rfl, _, hu4, hb4⟩
        obtain rfl : l4 = (wsn L r).length := hu4.1.symm
        exact hK.out _ _ hb4 ⟨hS3.1.below hb4, hS3.2.trans (hb4.mono hS3.2.size)⟩ (.inl ⟨rfl, a4, m4, rfl, hu4.below hb4⟩) (fun _ _ _ => trivial)
      rcases hG3 with ⟨_, a3, m3, rfl, hu3⟩ | ⟨hh, _⟩
      rotate_left
      · exact absurd hh (by decide)
      try simp only [Act.put, List.setIfInBounds_toArray, List.set_cons_zero, List.set_cons_succ]
      repeat (first | (refine SeqH.Rl.skip (by rfl) ?_; (try simp only [Act.put, List.setIfInBounds_toArray, List.set_cons_zero, List.set_cons_succ])) | (refine SeqH.Rl.det ?_ (by rfl) (by rfl) (fun w hS => ?_) ?_; rotate_left; ((try dsimp only at hS); go_simp; (try rw [if_pos (by omega)]); with_reducible rfl); (try simp only [Act.put, List.setIfInBounds_toArray, List.set_cons_zero, List.set_cons_succ])))
      refine SeqH.Rl.hav (by rfl) (by rfl) rfl (by simp) (fun w4 hT4 hS4 KK Q' hK => ?_) (fun v4 w4 hT4 hS4 hG4 _ => ?_)
      · go_simp
        go_at_call 15
        refine (HNB.out r (by first | exact HNQ.out | exact HR.out | exact HPP.out) w4 hS4.2).mono ?_
        rintro en w5 ⟨a5, l5, m5, rfl, _, hu5, hb5⟩
        obtain rfl : l5 = (wsn M r).length := hu5.1.symm
        exact hK.out _ _ hb5 ⟨hS4.1.below hb5, hS4.2.trans (hb5.mono hS4.2.size)⟩ (.inr ⟨rfl, a5, m5, rfl, hu5.below hb5⟩) (fun _ _ _ => trivial)
      rcases hG4 with ⟨hh, _⟩ | ⟨_, a4, m4, rfl, hu4⟩
      · exact absurd hh (by decide)
      replace hu3 := hu3.below hT4
      have hT := hT3.trans (hT4.mono hT3.size)
      clear hT3 hS3
      try simp only [Act.put, List.setIfInBounds_toArray, List.set_cons_zero, List.set_cons_succ]
      repeat (first | (refine SeqH.Rl.skip (by rfl) ?_; (try simp only [Act.put, List.setIfInBounds_toArray, List.set_cons_zero, List.set_cons_succ])) | (refine SeqH.Rl.det ?_ (by rfl) (by rfl) (fun w hS => ?_) ?_; rotate_left; ((try dsimp only at hS); go_simp; (try rw [if_pos (by omega)]); with_reducible rfl); (try simp only [Act.put, List.setIfInBounds_toArray, List.set_cons_zero, List.set_cons_succ])))
      refine SeqH.Rl.make (by rfl) (by rfl) (by rfl) (fun KK Q' hK => ?_)
      go_simp
      go_at_call 14
      refine (rsame5_gen _ _ _ _ _ _ (wsn L r) (wsn M r) _ hu3 hu4 (by have := HR8.out.1; omega) (by have := HR8.out.2; omega)).mono ?_
      rintro en w5 ⟨rfl, hb5⟩
      replace hT := hT.trans (hb5.mono hT.size)
      replace hS4 := And.intro (hS4.1.below hb5) (hS4.2.trans (hb5.mono hS4.2.size))
      rw [HNE.out]
      refine hK.out _ _ hT hS4 ?_
      clear hK KK hb5 hu3 hu4 hT4
      try simp only [Act.put, List.setIfInBounds_toArray, List.set_cons_zero, List.set_cons_succ]
      repeat (first | (refine SeqH.Rl.skip (by rfl) ?_; (try simp only [Act.put, List.setIfInBounds_toArray, List.set_cons_zero, List.set_cons_succ])) | (refine SeqH.Rl.det ?_ (by rfl) (by rfl) (fun w hS => ?_) ?_; rotate_left; ((try dsimp only at hS); go_simp; (try rw [if_pos (by omega)]); with_reducible rfl); (try simp only [Act.put, List.setIfInBounds_toArray, List.set_cons_zero, List.set_cons_succ])))
      refine SeqH.Rl.make (by rfl) (by rfl) (by rfl) (fun KK Q' hK => ?_)
      go_simp
      go_at_call 22
      refine (hAA _ hS4.2).mono ?_
      rintro en w8 ⟨rfl, hb8⟩
      replace hT := hT.trans (hb8.mono hT.size)
      replace hS4 := And.intro (hS4.1.below hb8) (hS4.2.trans (hb8.mono hS4.2.size))
      refine hK.out _ _ hT hS4 ?_
      clear hK KK hb8
      try simp only [Act.put, List.setIfInBounds_toArray, List.set_cons_zero, List.set_cons_succ]
      repeat (first | (refine SeqH.Rl.skip (by rfl) ?_; (try simp only [Act.put, List.setIfInBounds_toArray, List.set_cons_zero, List.set_cons_succ])) | (refine SeqH.Rl.det ?_ (by rfl) (by rfl) (fun w hS => ?_) ?_; rotate_left; ((try dsimp only at hS); go_simp; (try rw [if_pos (by omega)]); with_reducible rfl); (try simp only [Act.put, List.setIfInBounds_toArray, List.set_cons_zero, List.set_cons_succ])))
      refine SeqH.Rl.make (by rfl) (by rfl) (by rfl) (fun KK Q' hK => ?_)
      go_simp
      go_at_call 8
      refine (live21_any _).mono ?_
      rintro en w9 ⟨rfl, hb9⟩
      replace hT := hT.trans (hb9.mono hT.size)
      replace hS4 := And.intro (hS4.1.below hb9) (hS4.2.trans (hb9.mono hS4.2.size))
      refine hK.out _ _ hT hS4 ?_
      clear hK KK hb9
      try simp only [Act.put, List.setIfInBounds_toArray, List.set_cons_zero, List.set_cons_succ]
      repeat (first | (refine SeqH.Rl.skip (by rfl) ?_; (try simp only [Act.put, List.setIfInBounds_toArray, List.set_cons_zero, List.set_cons_succ])) | (refine SeqH.Rl.det ?_ (by rfl) (by rfl) (fun w hS => ?_) ?_; rotate_left; ((try dsimp only at hS); go_simp; (try rw [if_pos (by omega)]); with_reducible rfl); (try simp only [Act.put, List.setIfInBounds_toArray, List.set_cons_zero, List.set_cons_succ])))
      obtain ⟨h2, hbd⟩ := hS4
      clear hT L1
      refine SeqH.Rl.nil ?_
      go_wp2
      go_ret
      exact ⟨rfl, hbd⟩
    have d7 : decide (i < 200) = true := decide_eq_true hi
    have d8 : decide (i ≤ r) = true := decide_eq_true hir
    have HI := Lib.hid (And.intro i0 hi)
    obtain ⟨q, hq⟩ : ∃ q, q = r - i := ⟨_, rfl⟩
    have hq0 : 0 ≤ q ∧ q < r := by omega
    have w9' : IntKind.u64.wrap (r - i) = q := by rw [← hq]; have := HR.out; exact IntWalk.u64_in _ (by omega)
    have HQE : Hid (decide (wsn L q = wsn M q) = true) := Lib.hid (decide_eq_true (HBEF.out q hq0.1 hq0.2))
    have HQ8 := Lib.hid (And.intro (HLA.out q hq0.1 (by have := HR.out; omega)) (HLB.out q hq0.1 (by have := HR.out; omega)))
    have HNQ := Lib.hid (And.intro hq0.1 (show q < 4611686018427387904 by have := HR.out; omega))
    have w8' : IntKind.u64.wrap (i + 1) = i + 1 := IntWalk.u64_in _ (by omega)
    clear hq hq0 i0 hi hir
    go_wp2
    have L1 : ∀ w', (S2p w.heap.size (w.heap.size + 1) (prc e A n m) (prc e2 B k c) w' ∧ Below w.heap.size w w') → (w'.cell? ⟨w.heap.size, 0, none⟩ = some (.int .u64 e) ∧ w'.cell? ⟨w.heap.size, 1, none⟩ = some (.slice A n m)) ∧ (w'.cell? ⟨w.heap.size + 1, 0, none⟩ = some (.int .u64 e2) ∧ w'.cell? ⟨w.heap.size + 1, 1, none⟩ = some (.slice B k c)) := fun w' h => ⟨h.1.1.c2, h.1.2.c2⟩
    refine SeqH.wp_region_hav (fun w' => S2p w.heap.size (w.heap.size + 1) (prc e A n m) (prc e2 B k c) w' ∧ Below w.heap.size w w') (fun w1 w2 => Below w1.heap.size w1 w2) (fun o => o.dst == some 97 || o.dst == some 102) (fun o v w' => (o.dst = some 97 ∧ Wg v (wsn L q) w') ∨ (o.dst = some 102 ∧ Wg v (wsn M q) w')) (fun _ _ => True) ⟨fun w => Below.refl _ _, fun h1 h2 => h1.trans (h2.mono h1.size), fun h ht => h.imp (fun h => ⟨h.1, h.2.below ht⟩) (fun h => ⟨h.1, h.2.below ht⟩), fun _ => trivial⟩ (by kernel_rfl) (by kernel_rfl) ⟨h2.below (below_one' _), hbd.trans ((below_one' _).mono hbd.size)⟩ ?_
    repeat (first | (refine SeqH.Rl.skip (by rfl) ?_; (try simp only [Act.put, List.setIfInBounds_toArray, List.set_cons_zero, List.set_cons_succ])) | (refine SeqH.Rl.det ?_ (by rfl) (by rfl) (fun w hS => ?_) ?_; rotate_left; ((try dsimp only at hS); go_simp; (try rw [if_pos (by omega)]); with_reducible rfl); (try simp only [Act.put, List.setIfInBounds_toArray, List.set_cons_zero, List.set_cons_succ])))
    refine SeqH.Rl.hav (by rfl) (by rfl) rfl (by simp) (fun w3 hT3 hS3 KK Q' hK => ?_) (fun v3 w3 hT3 hS3 hG3 _ => ?_)
    · go_simp
      go_at_call 15
      refine (HNA.out q (by first | exact HNQ.out | exact HR.out | exact HPP.out) w3 hS3.2).mono ?_
      rintro en w4 ⟨a4, l4, m4, rfl, _, hu4, hb4⟩
      obtain rfl : l4 = (wsn L q).length := hu4.1.symm
      exact hK.out _ _ hb4 ⟨hS3.1.below hb4, hS3.2.trans (hb4.mono hS3.2.size)⟩ (.inl ⟨rfl, a4, m4, rfl, hu4.below hb4⟩) (fun _ _ _ => trivial)
    rcases hG3 with ⟨_, a3, m3, rfl, hu3⟩ | ⟨hh, _⟩
    rotate_left
    · exact absurd hh (by decide)
    try simp only [Act.put, List.setIfInBounds_toArray, List.set_cons_zero, List.set_cons_succ]
    repeat (first | (refine SeqH.Rl.skip (by rfl) ?_; (try simp only [Act.put, List.setIfInBounds_toArray, List.set_cons_zero, List.set_cons_succ])) | (refine SeqH.Rl.det ?_ (by rfl) (by rfl) (fun w hS => ?_) ?_; rotate_left; ((try dsimp only at hS); go_simp; (try rw [if_pos (by omega)]); with_reducible rfl); (try simp only [Act.put, List.setIfInBounds_toArray, List.set_cons_zero, List.set_cons_succ])))
    refine SeqH.Rl.hav (by rfl) (by rfl) rfl (by simp) (fun w4 hT4 hS4 KK Q' hK => ?_) (fun v4 w4 hT4 hS4 hG4 _ => ?_)
    · go_simp
      go_at_call 15
      refine (HNB.out q (by first | exact HNQ.out | exact HR.out | exact HPP.out) w4 hS4.2).mono ?_
      rintro en w5 ⟨a5, l5, m5, rfl, _, hu5, hb5⟩
      obtain rfl : l5 = (wsn M q).length := hu5.1.symm
      exact hK.out _ _ hb5 ⟨hS4.1.below hb5, hS4.2.trans (hb5.mono hS4.2.size)⟩ (.inr ⟨rfl, a5, m5, rfl, hu5.below hb5⟩) (fun _ _ _ => trivial)
    rcases hG4 with ⟨hh, _⟩ | ⟨_, a4, m4, rfl, hu4⟩
    · exact absurd hh (by decide)
    replace hu3 := hu3.below hT4
    have hT := hT3.trans (hT4.mono hT3.size)
    clear hT3 hS3
    try simp only [Act.put, List.setIfInBounds_toArray, List.set_cons_zero, List.set_cons_succ]
    repeat (first | (refine SeqH.Rl.skip (by rfl) ?_; (try simp only [Act.put, List.setIfInBounds_toArray, List.set_cons_zero, List.set_cons_succ])) | (refine SeqH.Rl.det ?_ (by rfl) (by rfl) (fun w hS => ?_) ?_; rotate_left; ((try dsimp only at hS); go_simp; (try rw [if_pos (by omega)]); with_reducible rfl); (try simp only [Act.put, List.setIfInBounds_toArray, List.set_cons_zero, List.set_cons_succ])))
    refine SeqH.Rl.make (by rfl) (by rfl) (by rfl) (fun KK Q' hK => ?_)
    go_simp
    go_at_call 14
    refine (rsame5_gen _ _ _ _ _ _ (wsn L q) (wsn M q) _ hu3 hu4 (by have := HQ8.out.1; omega) (by have := HQ8.out.2; omega)).mono ?_
    rintro en w5 ⟨rfl, hb5⟩
    replace hT := hT.trans (hb5.mono hT.size)
    replace hS4 := And.intro (hS4.1.below hb5) (hS4.2.trans (hb5.mono hS4.2.size))
    rw [HQE.out]
    refine hK.out _ _ hT hS4 ?_
    clear hK KK hb5 hu3 hu4 hT4
    try simp only [Act.put, List.setIfInBounds_toArray, List.set_cons_zero, List.set_cons_succ]
    repeat (first | (refine SeqH.Rl.skip (by rfl) ?_; (try simp only [Act.put, List.setIfInBounds_toArray, List.set_cons_zero, List.set_cons_succ])) | (refine SeqH.Rl.det ?_ (by rfl) (by rfl) (fun w hS => ?_) ?_; rotate_left; ((try dsimp only at hS); go_simp; (try rw [if_pos (by omega)]); with_reducible rfl); (try simp only [Act.put, List.setIfInBounds_toArray, List.set_cons_zero, List.set_cons_succ])))
    obtain ⟨h2, hbd⟩ := hS4
    clear hT L1
    refine SeqH.Rl.nil ?_
    go_wp2
    go_roundw
    case rel => exact ⟨i + 1, by go_num, by have := HI.out; omega, by have := HI.out; omega, h2, hbd⟩
    case measure => have := HI.out; simp [intOf]; omega

set_option maxRecDepth 100000 in
theorem lifted (os : Os) (started : os.Started) (H : Type) (enc : TypeId × Value → H) :
    ReturnsInHanded {} Try.checked os 6 .any (Rows.locateMovesSpec.pre6 enc Try.prog Try.f6 Rows.locateMovesRow.domain false) (Rows.locateMovesSpec.post enc Try.prog Try.f6 false true false false) := by
  refine returnsInHanded_of_change (C := Try.checked) own started (by kernel_rfl) Try.func6
    (ChangeSpec.witness6 (enc := enc) (C := Try.checked) false ⟨#[], #[.agg #[.int .u64 0, .slice none 0 0], .agg #[.int .u64 0, .slice none 0 0], .int .u64 0], []⟩ 8 (by kernel_rfl) (by kernel_rfl) (by kernel_rfl) (by kernel_rfl)) ?_
  intro W base args ds gs before hval0 hW hcnd _
  have hval : ∀ (j : Nat) t v, Try.f6.params[j]? = some t → args[j]? = some v → Value.okWide Try.prog W .any base t v := hval0
  have hW' := hW
  obtain ⟨p, q, hA0, hV, rfl, hfz, hnd⟩ := hW
  have hA : DataW.TrodAll enc Try.prog W 0 (fun _ => true) true Try.f6.params.toList args.toList ds p := hA0
  rw [Try.params6] at hA hval
  obtain ⟨v0, vs0, d0, ds0, p0, q0, hargs, rfl, rfl, h0, r0⟩ := trodAll_cons hA
  obtain ⟨v1, vs1, d1, ds1, p1, q1, rfl, rfl, rfl, h1, r1⟩ := trodAll_cons r0
  obtain ⟨v2, vs2, d2, ds2, p2, q2, rfl, rfl, rfl, h2, r2⟩ := trodAll_cons r1
  obtain ⟨rfl, rfl, rfl⟩ := trodAll_nil r2
  obtain rfl : args = #[v0, v1, v2] := by cases args; simp_all
  obtain ⟨rfl, rfl⟩ := trodVars_none hV
  have lt0 : ∀ x ∈ p0, x.block < W.heap.size := by obtain ⟨m, hm⟩ := h0; exact DataW.trod_lt m _ _ _ hm
  have lt1 : ∀ x ∈ p1, x.block < W.heap.size := by obtain ⟨m, hm⟩ := h1; exact DataW.trod_lt m _ _ _ hm
  have lt2 : ∀ x ∈ p2, x.block < W.heap.size := by obtain ⟨m, hm⟩ := h2; exact DataW.trod_lt m _ _ _ hm
  clear hA0 hval0
  refine (walk enc W base v0 d0 p0 (hval 0 25 v0 rfl rfl) h0 v1 d1 p1 (hval 1 25 v1 rfl rfl) h1 v2 d2 p2 (hval 2 22 v2 rfl rfl) h2).mono fun e W' ⟨he, bel⟩ => ?_
  subst he
  exact ⟨_, rfl, _, _, _, [], _, [], hW', trodAll_mk1 (shut_bool Try.underlying4 _), (trodAll_cons_mk (Below.trod laidOut (by kernel_rfl) (of_decide_eq_true (by kernel_rfl)) h0 bel lt0) (trodAll_cons_mk (Below.trod laidOut (by kernel_rfl) (of_decide_eq_true (by kernel_rfl)) h1 bel lt1) (trodAll_cons_mk (Below.trod laidOut (by kernel_rfl) (of_decide_eq_true (by kernel_rfl)) h2 bel lt2) trodAll_mk0))), rfl, bel.frame _, fun h => by cases h⟩

theorem over : Rows.locateMovesRow.holds Try.pinned (OpenSpec.ofChange Rows.locateMovesSpec) :=
  OpenClaim.holds_of_wide 6 Try.f6 rfl rfl rfl rfl rfl rfl rfl ⟨rfl, rfl, rfl, rfl, rfl⟩ rfl rfl rfl rfl rfl (by kernel_rfl) Try.func6 (by kernel_rfl)
    (of_decide_eq_true (by kernel_rfl)) (by unfold Func.isWrapper; first | (rw [if_pos (by decide +kernel)]; kernel_rfl) | (rw [if_neg (by decide +kernel)]; exact ⟨rfl, rfl⟩))
    (fun os started H enc _ => lifted os started H enc)

/-- THE STATEMENT. -/
theorem proved : Rows.LocateMovesSaid := over
#print axioms proved
end Go.Proofs.Ytmcabaebdloakaa.locateMoves
