/- As the seat's text, without what nothing here names. -/
import Derived.Test.YtoemmppoejaapaaBtcAf
import Derived.Test.YtoemmppoejaapaaK39f
namespace Go.Proofs.Ytoemmppoejaapaa.Cur
open Go.RowKit Mem
set_option linter.unusedVariables false
set_option maxRecDepth 100000
def pin (b : Int) (n : Nat) (pos : Int) : Bool := decide (b ≤ pos ∧ pos < IntKind.u64.wrap (b + n))
theorem u64_over {x : Int} (h : 18446744073709551616 ≤ x) (h2 : x < 36893488147419103232) : IntKind.u64.wrap x = x - 18446744073709551616 := by
  show x % 18446744073709551616 = _
  omega
theorem pin_at {b pos : Int} {n : Nat} (h : pin b n pos = true) (b0 : 0 ≤ b) (b9 : b < 18446744073709551616) (hn : n ≤ 1000000) : ∃ k : Nat, k < n ∧ pos = b + k := by
  obtain ⟨h1, h2⟩ := of_decide_eq_true h
  refine ⟨(pos - b).toNat, ?_, by omega⟩
  by_cases hl : b + n ≤ 18446744073709551615
  · rw [IntWalk.u64_in _ (by omega)] at h2; omega
  · rw [u64_over (by omega) (by omega)] at h2; omega
def PAtPost (b : Int) (n : Nat) (pos : Int) (L : List En) (w : World) (e : Ending) (w' : World) : Prop :=
  Below w.heap.size w w' ∧ ((pin b n pos = false ∧ e = .returned (.tuple #[enagg none 0 0 none 0 0, .bool false])) ∨
    (pin b n pos = true ∧ ∃ (k : Nat) (K : List Lk) (D : List Int) (A : Option Addr) (l m : Nat) (B : Option Addr) (r r' : Nat), k < n ∧ pos = b + k ∧ L.getD k en0 = (K, D) ∧ e = .returned (.tuple #[enagg A l m B r r', .bool true]) ∧ CpIn w' w.heap.size w'.heap.size A l m B r r' K D))
theorem set2k {w : World} {b : Nat} {v0 v1 : Value} {t : Nat} (h : Blk w b #[v0, v1] t) (u0 u1 : Value) : Blk ((w.setCell ⟨b, 0, none⟩ u0).setCell ⟨b, 1, none⟩ u1) b #[u0, u1] t ∧ Kp b w ((w.setCell ⟨b, 0, none⟩ u0).setCell ⟨b, 1, none⟩ u1) :=
  ⟨(h.set 0 u0).set 1 u1, (Kp.setCell _ _ _ _).trans (Kp.setCell _ _ _ _)⟩
set_option maxHeartbeats 2000000 in
theorem peekat_any (P : Nat → Prop) (e b : Int) (A : Option Addr) (n m : Nat) (L : List En) (pos : Int) (w : World) (hz : Ens w P A n L) (hn : n ≤ 1000000) (hs : esm L) (b0 : 0 ≤ b) (b9 : b < 18446744073709551616) (p0 : 0 ≤ pos) (p9 : pos < 18446744073709551616) :
    Calls Try.prog 7 #[btagg e b A n m, .int .u64 pos] w (PAtPost b n pos L w) := by
  have hX := (Blk.new w (btenc e b A n m) 25).alloc (.cells (enc' none 0 0 none 0 0) 31)
  have hY := Blk.new (w.alloc (.cells (btenc e b A n m) 25)) (enc' none 0 0 none 0 0) 31
  rw [World.size_alloc] at hY
  have hb := below_two w (.cells (btenc e b A n m) 25) (.cells (enc' none 0 0 none 0 0) 31)
  have hE := bend_any e b A n m ((w.alloc (.cells (btenc e b A n m) 25)).alloc (.cells (enc' none 0 0 none 0 0) 31)) hn
  unfold BPost at hE
  have HZ := Lib.hid (hz.below hb)
  have HSM := Lib.hid hs
  have HX := Lib.hid hX
  obtain ⟨V, hV⟩ : ∃ V, V = IntKind.u64.wrap (b + n) := ⟨_, rfl⟩
  rw [← hV] at hE
  have hsz : ((w.alloc (.cells (btenc e b A n m) 25)).alloc (.cells (enc' none 0 0 none 0 0) 31)).heap.size = w.heap.size + 2 := by simp
  clear hz hs
  obtain ⟨x0, x1, x2⟩ := hX.c3
  by_cases h1 : pos < b
  · have HP : Hid (pin b n pos = false) := Lib.hid (decide_eq_false (fun h => by omega))
    have HBD := Lib.hid hb
    clear hE hb hV
    have HYY := Lib.hid hY
    obtain ⟨y0, y1⟩ := hY.c2
    obtain ⟨k0, k1⟩ := hY.f2
    go_enter Try.func7, Try.ntmps7
    go_wp2
    obtain ⟨d0, d1⟩ := HYY.out.c2
    exact bodyPost_ret (v := .tuple #[enagg none 0 0 none 0 0, .bool false]) (by simp [results, Try.results7, go_sem, d0, d1]) rfl ⟨HBD.out, .inl ⟨HP.out, rfl⟩⟩
  · clear hX
    go_enter Try.func7, Try.ntmps7
    go_wp2_with fail
    refine hE.mono ?_
    rintro en w1 ⟨rfl, hb1⟩
    have HBD := Lib.hid (hb.trans (hb1.mono hb.size))
    have hY1 := hY.below hb1
    have hX1 := HX.out.below hb1
    have hz1 := HZ.out.below hb1
    have hs1 := hb1.size
    rw [hsz] at hs1
    clear x0 x1 x2 hE hY HX HZ
    obtain ⟨x0, x1, x2⟩ := hX1.c3
    by_cases h2 : V ≤ pos
    · have HP : Hid (pin b n pos = false) := Lib.hid (decide_eq_false (fun h => by omega))
      clear hb hV hX1 hz1 hb1
      obtain ⟨y0, y1⟩ := hY1.c2
      obtain ⟨k0, k1⟩ := hY1.f2
      have HYY := Lib.hid hY1
      go_wp2
      obtain ⟨hY9, hk9⟩ := set2k HYY.out (.slice none 0 0) (.slice none 0 0)
      obtain ⟨d0, d1⟩ := hY9.c2
      have hfin := Kp.below HBD.out (Nat.le_refl _) hk9 (by omega)
      exact bodyPost_ret (v := .tuple #[enagg none 0 0 none 0 0, .bool false]) (by simp [results, Try.results7, go_sem, d0, d1]) rfl ⟨hfin, .inl ⟨HP.out, rfl⟩⟩
    · have hp : pin b n pos = true := decide_eq_true ⟨by omega, by omega⟩
      obtain ⟨k, hk, hpos⟩ := pin_at hp b0 b9 hn
      have HP := Lib.hid hp
      obtain ⟨g, o, rfl, _, hg, hc⟩ := hz1.cells (by omega)
      obtain ⟨K, D, a1, l1, m1, bb, r1, k1, he, hlm, hnl, hks, hrk, hnb, hbs, hbb, hsq, hcell⟩ := hc k hk
      obtain ⟨c0, c1⟩ := hcell w1 (Below.refl _ _)
      have e5 : (pos - b).toNat = k := by omega
      have ek : pos - b < n := by omega
      have ek0 : 0 ≤ pos - b := by omega
      have ek1 : 0 ≤ b := b0
      have e2 : IntKind.u64.wrap (pos - b) = pos - b := IntWalk.u64_in _ (by omega)
      rw [← e5] at c0 c1
      have hsm := HSM.out k
      rw [he] at hsm
      obtain ⟨s1, s2, s3⟩ := hsm
      have hC := encopy_any P a1 l1 m1 K bb r1 k1 D w1 hks hnl (by have := hks.1; have s4 : K.length ≤ 50 := s1; omega) (fun s hs => by have := s2 s hs; omega) hbs hnb (by have := hbs.1; have s4 : D.length ≤ 500 := s3; omega)
      unfold EcPost at hC
      have HKE := Lib.hid (And.intro hpos he)
      clear hc hcell hks hsq hbs hbb hz1 hX1 s1 s2 s3 hb hV hp he hlm hnl hrk hnb hpos e5
      go_wp2_with fail
      refine hC.mono ?_
      rintro en w2 ⟨A2, m2, B2, k2, rfl, hb2, hcp⟩
      have hY2 := hY1.below hb2
      have hs2 := hb2.size
      have HBD2 := Lib.hid (HBD.out.trans (hb2.mono HBD.out.size))
      obtain ⟨y0, y1⟩ := hY2.c2
      obtain ⟨f0, f1⟩ := hY2.f2
      have HCP := Lib.hid hcp
      clear x0 x1 x2 c0 c1 hC hcp hb2 hb1 hY1
      go_wp2
      obtain ⟨hY9, hk9⟩ := set2k hY2 (.slice A2 l1 m2) (.slice B2 r1 k2)
      obtain ⟨d0, d1⟩ := hY9.c2
      have hcp9 := HCP.out.keep (w' := _) fun q h1 h2 h3 => hk9.block q h3 (by omega)
      have hfin := Kp.below HBD2.out (Nat.le_refl _) hk9 (by omega)
      exact bodyPost_ret (v := .tuple #[enagg A2 l1 m2 B2 r1 k2, .bool true]) (by simp [results, Try.results7, go_sem, d0, d1]) rfl ⟨hfin, .inr ⟨HP.out, k, K, D, A2, l1, m2, B2, r1, k2, hk, HKE.out.1, HKE.out.2, rfl, hcp9.wide (by omega) hk9.size⟩⟩
end Go.Proofs.Ytoemmppoejaapaa.Cur
