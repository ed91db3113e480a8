/- As the seat's text, without what nothing here names. -/
import Derived.Test.YtoemmppoejaapaaPekAf
namespace Go.Proofs.Ytoemmppoejaapaa.Cur
open Go.RowKit Mem
set_option linter.unusedVariables false
set_option maxRecDepth 100000
def vend (b : Int) (n : Nat) : Nat := if b + n < 18446744073709551616 then n else 0
abbrev Hdr := Nat → Option Addr × Nat × Nat
def VisR (w : World) (S : Nat → Prop) (A : Option Addr) (n : Nat) (hd : Hdr) : Prop :=
  0 < n → ∃ g o, A = some ⟨g, o, none⟩ ∧ ¬ S g ∧ g < w.heap.size ∧ ∀ k, k < n → w.cell? ⟨g, o + k * 2, none⟩ = some (.slice (hd k).1 (hd k).2.1 (hd k).2.2) ∧ (0 < (hd k).2.1 → ∃ g' o', (hd k).1 = some ⟨g', o', none⟩) ∧ (hd k).2.1 ≤ 1000000
theorem ks_cell {S : Nat → Prop} {w w' : World} {g i : Nat} (h : Ks S w w') (hg : g < w.heap.size) (hS : ¬ S g) : w'.cell? ⟨g, i, none⟩ = w.cell? ⟨g, i, none⟩ := World.cell?_of_block (w := w) (h.block g hg hS)
theorem ks_blk {S : Nat → Prop} {w w' : World} {g t : Nat} {cs : Array Value} (h : Ks S w w') (hX : Blk w g cs t) (hS : ¬ S g) : Blk w' g cs t := (h.block g hX.lt hS).trans hX
def VisStep (F : FuncId) (caps : Array Value) (b : Int) (n : Nat) (hd : Hdr) (S : Nat → Prop) (I : Nat → Nat → World → Prop) (w : World) : Prop :=
  b + n < 18446744073709551616 → ∀ k i g o wr, k < n → i < (hd k).2.1 → (hd k).1 = some ⟨g, o, none⟩ → Ks S w wr → I k i wr →
    Calls Try.prog F (#[.int .u64 (b + k), .pointer (some ⟨g, o + i * 2, none⟩)] ++ caps) wr fun e w' => e = .returned (.tuple #[]) ∧ I k (i + 1) w' ∧ Ks S wr w'
set_option maxHeartbeats 4000000 in
theorem visit_of (c1 c2 : Addr) (S : Nat → Prop) (I : Nat → Nat → World → Prop) (e b : Int) (A : Option Addr) (n m : Nat) (hd : Hdr) (w : World) (hn : n ≤ 1000000) (b0 : 0 ≤ b) (b9 : b < 18446744073709551616)
    (hI : ∀ k i w1 w2, I k i w1 → Below w1.heap.size w1 w2 → I k i w2) (hS : ¬ S w.heap.size) (hv : VisR w S A n hd)
    (hstep : VisStep 25 #[.pointer (some c1), .pointer (some c2)] b n hd S I w) (hnext : ∀ k wr, k < n → I k (hd k).2.1 wr → I (k + 1) 0 wr) (h0 : I 0 0 w) :
    Calls Try.prog 24 #[btagg e b A n m, .func (.func 25) #[] #[.pointer (some c1), .pointer (some c2)]] w fun en w' => en = .returned (.tuple #[]) ∧ I (vend b n) 0 w' ∧ Ks S w w' := by
  have hX := Blk.new w (btenc e b A n m) 25
  have hb := below_one w (.cells (btenc e b A n m) 25)
  have hI1 := hI 0 0 _ _ h0 hb
  have hks : Ks S w (w.alloc (.cells (btenc e b A n m) 25)) := Ks.of_below hb
  have hv1 : VisR (w.alloc (.cells (btenc e b A n m) 25)) S A n hd := fun h => by
    obtain ⟨g, o, e1, e2, e3, e4⟩ := hv h
    exact ⟨g, o, e1, e2, Nat.lt_of_lt_of_le e3 hb.size, fun k hk => ⟨(hb.cell e3).trans (e4 k hk).1, (e4 k hk).2⟩⟩
  have hbs : ¬ S w.heap.size := hS
  have HI := Lib.hid hI
  have HV := Lib.hid hv1
  have HST : Hid (VisStep 25 #[.pointer (some c1), .pointer (some c2)] b n hd S I w) := Lib.hid hstep
  have HNX := Lib.hid hnext
  have HBS := Lib.hid hbs
  have hE := fun w' => bend_any e b A n m w' hn
  unfold BPost at hE
  have HE := Lib.hid hE
  obtain ⟨x0, x1, x2⟩ := hX.c3
  have H0 := Lib.hid hI1
  have HK := Lib.hid hks
  have HX := Lib.hid hX
  clear hv hv1 hI hstep hnext hbs hE hI1 hks h0 hb hX hS
  go_enter Try.func24, Try.ntmps24
  go_wp2
  clear x0 x1 x2
  generalize hw1 : w.alloc (.cells (btenc e b A n m) 25) = w1 at *
  generalize hbb : w.heap.size = bb at *
  go_loopw [4] (fun v wr => ∃ k : Nat, (k ≤ n ∧ (b + n < 18446744073709551616 ∨ k = 0)) ∧ v = .int .u64 (b + k) ∧ I k 0 wr ∧ Ks S w1 wr) (fun v _ => (b + n + 1 - intOf v).toNat)
  case atStart => exact ⟨0, ⟨Nat.zero_le _, .inr rfl⟩, by simp, H0.out, Ks.refl _ _⟩
  case round =>
    obtain ⟨k, hk, rfl, hi, hks⟩ := hrel
    have hXr := ks_blk hks HX.out HBS.out
    obtain ⟨x0, x1, x2⟩ := hXr.c3
    obtain ⟨p, hp⟩ : ∃ p, p = b + (k : Int) := ⟨_, rfl⟩
    have HXR := Lib.hid hXr
    have HKS := Lib.hid hks
    have HII := Lib.hid hi
    rw [← hp]
    obtain ⟨E, hE⟩ : ∃ E, E = IntKind.u64.wrap (b + n) := ⟨_, rfl⟩
    have hc := HE.out wr
    rw [← hE] at hc
    by_cases hlt : p < E
    · have hE2 : E = b + n ∧ b + n < 18446744073709551616 := by
        by_cases h9 : b + n < 18446744073709551616
        · exact ⟨by rw [hE, IntWalk.u64_in _ (by omega)], h9⟩
        · rw [u64_over (by omega) (by omega)] at hE
          exfalso
          omega
      have hkn : k < n := by omega
      obtain ⟨g, o, rfl, hSg, hg, hcell⟩ := HV.out (by omega)
      obtain ⟨hcl, had, hl9⟩ := hcell k hkn
      have HAD := Lib.hid had
      have e5 : (p - b).toNat = k := by omega
      have ek : p - b < n := by omega
      have ek0 : 0 ≤ p - b := by omega
      have ek1 : 0 ≤ b := b0
      have e2 : IntKind.u64.wrap (p - b) = p - b := IntWalk.u64_in _ (by omega)
      have HCL : Hid (∀ w', Ks S w1 w' → w'.cell? ⟨g, o + k * 2, none⟩ = some (.slice (hd k).1 (hd k).2.1 (hd k).2.2)) := Lib.hid (fun w' h => (ks_cell h hg hSg).trans hcl)
      have HL : Hid (∀ i, i < (hd k).2.1 → ∀ wr g' o', (hd k).1 = some ⟨g', o', none⟩ → Ks S w wr → I k i wr → Calls Try.prog 25 (#[.int .u64 (b + k), .pointer (some ⟨g', o' + i * 2, none⟩)] ++ #[.pointer (some c1), .pointer (some c2)]) wr fun e w' => e = .returned (.tuple #[]) ∧ I k (i + 1) w' ∧ Ks S wr w') := Lib.hid (fun i hi wr g' o' h1 h2 h3 => HST.out hE2.2 k i g' o' wr hkn hi h1 h2 h3)
      have HNK : Hid (∀ wr, I k (hd k).2.1 wr → I (k + 1) 0 wr) := Lib.hid (fun wr h => HNX.out k wr hkn h)
      have HP := Lib.hid hp
      have HE2 := Lib.hid hE2
      have hp9 : p + 1 < 18446744073709551616 := by omega
      have ep : IntKind.u64.wrap (p + 1) = p + 1 := IntWalk.u64_in _ (by omega)
      have HKN := Lib.hid hkn
      rw [← hp] at HL
      generalize hd k = hk3 at *
      obtain ⟨a, l, mm⟩ := hk3
      dsimp only at *
      clear hXr hks hi hcell hcl had hE hE2 hk hkn hg hSg hp
      go_wp2_with fail
      refine hc.mono ?_
      rintro en w2 ⟨rfl, hb2⟩
      have hks2 := HKS.out.trans (Ks.of_below (S := S) hb2)
      have hX2 := HXR.out.below hb2
      have hI2 := HI.out k 0 _ _ HII.out hb2
      have hc4 := HCL.out w2 hks2
      clear x0 x1 x2
      obtain ⟨x0, x1, x2⟩ := hX2.c3
      have HKS2 := Lib.hid hks2
      have HI2 := Lib.hid hI2
      clear hc hX2 hI2 hks2 hb2
      go_wp2
      clear x0 x1 x2 hc4
      go_loopw [26] (fun v wr => ∃ i : Nat, i ≤ l ∧ v = .int .i64 i ∧ I k i wr ∧ Ks S w1 wr) (fun v _ => l - (intOf v).toNat)
      case atStart => exact ⟨0, Nat.zero_le _, rfl, HI2.out, HKS2.out⟩
      case round =>
        obtain ⟨i, hi, rfl, hI3, hk3⟩ := hrel
        by_cases hil : i < l
        · obtain ⟨g', o', rfl⟩ := HAD.out (by omega)
          have hc5 := HL.out i hil wr g' o' rfl (HK.out.trans hk3) hI3
          have HK3 := Lib.hid hk3
          have hil2 : (i : Int) < l := by omega
          simp only [List.append_toArray, List.cons_append, List.nil_append] at hc5
          clear hI3 hk3 hi
          go_wp2_with fail
          refine hc5.mono ?_
          rintro en w4 ⟨rfl, hI4, hk4⟩
          have HK4 := Lib.hid (HK3.out.trans hk4)
          have HI4 := Lib.hid hI4
          clear hI4 hk4 hc5
          go_wp2
          go_roundw
          case rel => exact ⟨i + 1, by omega, by rw [Int.natCast_add]; rfl, HI4.out, HK4.out⟩
          case measure => simp [intOf]; omega
        · have hI5 : I k l wr := by rw [show l = i by omega]; exact hI3
          have HI5 := Lib.hid (HNK.out wr hI5)
          have HK5 := Lib.hid hk3
          have hil2 : ¬ (i : Int) < l := by omega
          clear hI3 hk3 hI5
          go_wp2
          go_roundw
          case rel => exact ⟨k + 1, ⟨HKN.out, .inl HE2.out.2⟩, by rw [HP.out, Int.natCast_add]; simp [Int.add_assoc], HI5.out, HK5.out⟩
          case measure => have := HE2.out; have := HKN.out; have := HP.out; simp [intOf]; omega
    · have hfin : vend b n = k := by
        unfold vend
        by_cases h9 : b + n < 18446744073709551616
        · rw [if_pos h9]
          rw [IntWalk.u64_in _ (by omega)] at hE
          omega
        · rw [if_neg h9]; omega
      have HF := Lib.hid hfin
      clear hXr hks hi hE hk hfin hp
      go_wp2_with fail
      refine hc.mono ?_
      rintro en w2 ⟨rfl, hb2⟩
      go_wp2
      go_end0
      refine ⟨rfl, ?_, HK.out.trans (HKS.out.trans (Ks.of_below hb2))⟩
      rw [HF.out]
      exact HI.out _ _ _ _ HII.out hb2
set_option maxHeartbeats 4000000 in
theorem visit_streams (c1 : Addr) (S : Nat → Prop) (I : Nat → Nat → World → Prop) (e b : Int) (A : Option Addr) (n m : Nat) (hd : Hdr) (w : World) (hn : n ≤ 1000000) (b0 : 0 ≤ b) (b9 : b < 18446744073709551616)
    (hI : ∀ k i w1 w2, I k i w1 → Below w1.heap.size w1 w2 → I k i w2) (hS : ¬ S w.heap.size) (hv : VisR w S A n hd)
    (hstep : VisStep 27 #[.pointer (some c1)] b n hd S I w) (hnext : ∀ k wr, k < n → I k (hd k).2.1 wr → I (k + 1) 0 wr) (h0 : I 0 0 w) :
    Calls Try.prog 24 #[btagg e b A n m, .func (.func 27) #[] #[.pointer (some c1)]] w fun en w' => en = .returned (.tuple #[]) ∧ I (vend b n) 0 w' ∧ Ks S w w' := by
  have hX := Blk.new w (btenc e b A n m) 25
  have hb := below_one w (.cells (btenc e b A n m) 25)
  have hI1 := hI 0 0 _ _ h0 hb
  have hks : Ks S w (w.alloc (.cells (btenc e b A n m) 25)) := Ks.of_below hb
  have hv1 : VisR (w.alloc (.cells (btenc e b A n m) 25)) S A n hd := fun h => by
    obtain ⟨g, o, e1, e2, e3, e4⟩ := hv h
    exact ⟨g, o, e1, e2, Nat.lt_of_lt_of_le e3 hb.size, fun k hk => ⟨(hb.cell e3).trans (e4 k hk).1, (e4 k hk).2⟩⟩
  have hbs : ¬ S w.heap.size := hS
  have HI := Lib.hid hI
  have HV := Lib.hid hv1
  have HST : Hid (VisStep 27 #[.pointer (some c1)] b n hd S I w) := Lib.hid hstep
  have HNX := Lib.hid hnext
  have HBS := Lib.hid hbs
  have hE := fun w' => bend_any e b A n m w' hn
  unfold BPost at hE
  have HE := Lib.hid hE
  obtain ⟨x0, x1, x2⟩ := hX.c3
  have H0 := Lib.hid hI1
  have HK := Lib.hid hks
  have HX := Lib.hid hX
  clear hv hv1 hI hstep hnext hbs hE hI1 hks h0 hb hX hS
  go_enter Try.func24, Try.ntmps24
  go_wp2
  clear x0 x1 x2
  generalize hw1 : w.alloc (.cells (btenc e b A n m) 25) = w1 at *
  generalize hbb : w.heap.size = bb at *
  go_loopw [4] (fun v wr => ∃ k : Nat, (k ≤ n ∧ (b + n < 18446744073709551616 ∨ k = 0)) ∧ v = .int .u64 (b + k) ∧ I k 0 wr ∧ Ks S w1 wr) (fun v _ => (b + n + 1 - intOf v).toNat)
  case atStart => exact ⟨0, ⟨Nat.zero_le _, .inr rfl⟩, by simp, H0.out, Ks.refl _ _⟩
  case round =>
    obtain ⟨k, hk, rfl, hi, hks⟩ := hrel
    have hXr := ks_blk hks HX.out HBS.out
    obtain ⟨x0, x1, x2⟩ := hXr.c3
    obtain ⟨p, hp⟩ : ∃ p, p = b + (k : Int) := ⟨_, rfl⟩
    have HXR := Lib.hid hXr
    have HKS := Lib.hid hks
    have HII := Lib.hid hi
    rw [← hp]
    obtain ⟨E, hE⟩ : ∃ E, E = IntKind.u64.wrap (b + n) := ⟨_, rfl⟩
    have hc := HE.out wr
    rw [← hE] at hc
    by_cases hlt : p < E
    · have hE2 : E = b + n ∧ b + n < 18446744073709551616 := by
        by_cases h9 : b + n < 18446744073709551616
        · exact ⟨by rw [hE, IntWalk.u64_in _ (by omega)], h9⟩
        · rw [u64_over (by omega) (by omega)] at hE
          exfalso
          omega
      have hkn : k < n := by omega
      obtain ⟨g, o, rfl, hSg, hg, hcell⟩ := HV.out (by omega)
      obtain ⟨hcl, had, hl9⟩ := hcell k hkn
      have HAD := Lib.hid had
      have e5 : (p - b).toNat = k := by omega
      have ek : p - b < n := by omega
      have ek0 : 0 ≤ p - b := by omega
      have ek1 : 0 ≤ b := b0
      have e2 : IntKind.u64.wrap (p - b) = p - b := IntWalk.u64_in _ (by omega)
      have HCL : Hid (∀ w', Ks S w1 w' → w'.cell? ⟨g, o + k * 2, none⟩ = some (.slice (hd k).1 (hd k).2.1 (hd k).2.2)) := Lib.hid (fun w' h => (ks_cell h hg hSg).trans hcl)
      have HL : Hid (∀ i, i < (hd k).2.1 → ∀ wr g' o', (hd k).1 = some ⟨g', o', none⟩ → Ks S w wr → I k i wr → Calls Try.prog 27 (#[.int .u64 (b + k), .pointer (some ⟨g', o' + i * 2, none⟩)] ++ #[.pointer (some c1)]) wr fun e w' => e = .returned (.tuple #[]) ∧ I k (i + 1) w' ∧ Ks S wr w') := Lib.hid (fun i hi wr g' o' h1 h2 h3 => HST.out hE2.2 k i g' o' wr hkn hi h1 h2 h3)
      have HNK : Hid (∀ wr, I k (hd k).2.1 wr → I (k + 1) 0 wr) := Lib.hid (fun wr h => HNX.out k wr hkn h)
      have HP := Lib.hid hp
      have HE2 := Lib.hid hE2
      have hp9 : p + 1 < 18446744073709551616 := by omega
      have ep : IntKind.u64.wrap (p + 1) = p + 1 := IntWalk.u64_in _ (by omega)
      have HKN := Lib.hid hkn
      rw [← hp] at HL
      generalize hd k = hk3 at *
      obtain ⟨a, l, mm⟩ := hk3
      dsimp only at *
      clear hXr hks hi hcell hcl had hE hE2 hk hkn hg hSg hp
      go_wp2_with fail
      refine hc.mono ?_
      rintro en w2 ⟨rfl, hb2⟩
      have hks2 := HKS.out.trans (Ks.of_below (S := S) hb2)
      have hX2 := HXR.out.below hb2
      have hI2 := HI.out k 0 _ _ HII.out hb2
      have hc4 := HCL.out w2 hks2
      clear x0 x1 x2
      obtain ⟨x0, x1, x2⟩ := hX2.c3
      have HKS2 := Lib.hid hks2
      have HI2 := Lib.hid hI2
      clear hc hX2 hI2 hks2 hb2
      go_wp2
      clear x0 x1 x2 hc4
      go_loopw [26] (fun v wr => ∃ i : Nat, i ≤ l ∧ v = .int .i64 i ∧ I k i wr ∧ Ks S w1 wr) (fun v _ => l - (intOf v).toNat)
      case atStart => exact ⟨0, Nat.zero_le _, rfl, HI2.out, HKS2.out⟩
      case round =>
        obtain ⟨i, hi, rfl, hI3, hk3⟩ := hrel
        by_cases hil : i < l
        · obtain ⟨g', o', rfl⟩ := HAD.out (by omega)
          have hc5 := HL.out i hil wr g' o' rfl (HK.out.trans hk3) hI3
          have HK3 := Lib.hid hk3
          have hil2 : (i : Int) < l := by omega
          simp only [List.append_toArray, List.cons_append, List.nil_append] at hc5
          clear hI3 hk3 hi
          go_wp2_with fail
          refine hc5.mono ?_
          rintro en w4 ⟨rfl, hI4, hk4⟩
          have HK4 := Lib.hid (HK3.out.trans hk4)
          have HI4 := Lib.hid hI4
          clear hI4 hk4 hc5
          go_wp2
          go_roundw
          case rel => exact ⟨i + 1, by omega, by rw [Int.natCast_add]; rfl, HI4.out, HK4.out⟩
          case measure => simp [intOf]; omega
        · have hI5 : I k l wr := by rw [show l = i by omega]; exact hI3
          have HI5 := Lib.hid (HNK.out wr hI5)
          have HK5 := Lib.hid hk3
          have hil2 : ¬ (i : Int) < l := by omega
          clear hI3 hk3 hI5
          go_wp2
          go_roundw
          case rel => exact ⟨k + 1, ⟨HKN.out, .inl HE2.out.2⟩, by rw [HP.out, Int.natCast_add]; simp [Int.add_assoc], HI5.out, HK5.out⟩
          case measure => have := HE2.out; have := HKN.out; have := HP.out; simp [intOf]; omega
    · have hfin : vend b n = k := by
        unfold vend
        by_cases h9 : b + n < 18446744073709551616
        · rw [if_pos h9]
          rw [IntWalk.u64_in _ (by omega)] at hE
          omega
        · rw [if_neg h9]; omega
      have HF := Lib.hid hfin
      clear hXr hks hi hE hk hfin hp
      go_wp2_with fail
      refine hc.mono ?_
      rintro en w2 ⟨rfl, hb2⟩
      go_wp2
      go_end0
      refine ⟨rfl, ?_, HK.out.trans (HKS.out.trans (Ks.of_below hb2))⟩
      rw [HF.out]
      exact HI.out _ _ _ _ HII.out hb2
set_option maxHeartbeats 4000000 in
theorem visit_thread (c1 : Addr) (S : Nat → Prop) (I : Nat → Nat → World → Prop) (e b : Int) (A : Option Addr) (n m : Nat) (hd : Hdr) (w : World) (hn : n ≤ 1000000) (b0 : 0 ≤ b) (b9 : b < 18446744073709551616)
    (hI : ∀ k i w1 w2, I k i w1 → Below w1.heap.size w1 w2 → I k i w2) (hS : ¬ S w.heap.size) (hv : VisR w S A n hd)
    (hstep : VisStep 33 #[.pointer (some c1)] b n hd S I w) (hnext : ∀ k wr, k < n → I k (hd k).2.1 wr → I (k + 1) 0 wr) (h0 : I 0 0 w) :
    Calls Try.prog 24 #[btagg e b A n m, .func (.func 33) #[] #[.pointer (some c1)]] w fun en w' => en = .returned (.tuple #[]) ∧ I (vend b n) 0 w' ∧ Ks S w w' := by
  have hX := Blk.new w (btenc e b A n m) 25
  have hb := below_one w (.cells (btenc e b A n m) 25)
  have hI1 := hI 0 0 _ _ h0 hb
  have hks : Ks S w (w.alloc (.cells (btenc e b A n m) 25)) := Ks.of_below hb
  have hv1 : VisR (w.alloc (.cells (btenc e b A n m) 25)) S A n hd := fun h => by
    obtain ⟨g, o, e1, e2, e3, e4⟩ := hv h
    exact ⟨g, o, e1, e2, Nat.lt_of_lt_of_le e3 hb.size, fun k hk => ⟨(hb.cell e3).trans (e4 k hk).1, (e4 k hk).2⟩⟩
  have hbs : ¬ S w.heap.size := hS
  have HI := Lib.hid hI
  have HV := Lib.hid hv1
  have HST : Hid (VisStep 33 #[.pointer (some c1)] b n hd S I w) := Lib.hid hstep
  have HNX := Lib.hid hnext
  have HBS := Lib.hid hbs
  have hE := fun w' => bend_any e b A n m w' hn
  unfold BPost at hE
  have HE := Lib.hid hE
  obtain ⟨x0, x1, x2⟩ := hX.c3
  have H0 := Lib.hid hI1
  have HK := Lib.hid hks
  have HX := Lib.hid hX
  clear hv hv1 hI hstep hnext hbs hE hI1 hks h0 hb hX hS
  go_enter Try.func24, Try.ntmps24
  go_wp2
  clear x0 x1 x2
  generalize hw1 : w.alloc (.cells (btenc e b A n m) 25) = w1 at *
  generalize hbb : w.heap.size = bb at *
  go_loopw [4] (fun v wr => ∃ k : Nat, (k ≤ n ∧ (b + n < 18446744073709551616 ∨ k = 0)) ∧ v = .int .u64 (b + k) ∧ I k 0 wr ∧ Ks S w1 wr) (fun v _ => (b + n + 1 - intOf v).toNat)
  case atStart => exact ⟨0, ⟨Nat.zero_le _, .inr rfl⟩, by simp, H0.out, Ks.refl _ _⟩
  case round =>
    obtain ⟨k, hk, rfl, hi, hks⟩ := hrel
    have hXr := ks_blk hks HX.out HBS.out
    obtain ⟨x0, x1, x2⟩ := hXr.c3
    obtain ⟨p, hp⟩ : ∃ p, p = b + (k : Int) := ⟨_, rfl⟩
    have HXR := Lib.hid hXr
    have HKS := Lib.hid hks
    have HII := Lib.hid hi
    rw [← hp]
    obtain ⟨E, hE⟩ : ∃ E, E = IntKind.u64.wrap (b + n) := ⟨_, rfl⟩
    have hc := HE.out wr
    rw [← hE] at hc
    by_cases hlt : p < E
    · have hE2 : E = b + n ∧ b + n < 18446744073709551616 := by
        by_cases h9 : b + n < 18446744073709551616
        · exact ⟨by rw [hE, IntWalk.u64_in _ (by omega)], h9⟩
        · rw [u64_over (by omega) (by omega)] at hE
          exfalso
          omega
      have hkn : k < n := by omega
      obtain ⟨g, o, rfl, hSg, hg, hcell⟩ := HV.out (by omega)
      obtain ⟨hcl, had, hl9⟩ := hcell k hkn
      have HAD := Lib.hid had
      have e5 : (p - b).toNat = k := by omega
      have ek : p - b < n := by omega
      have ek0 : 0 ≤ p - b := by omega
      have ek1 : 0 ≤ b := b0
      have e2 : IntKind.u64.wrap (p - b) = p - b := IntWalk.u64_in _ (by omega)
      have HCL : Hid (∀ w', Ks S w1 w' → w'.cell? ⟨g, o + k * 2, none⟩ = some (.slice (hd k).1 (hd k).2.1 (hd k).2.2)) := Lib.hid (fun w' h => (ks_cell h hg hSg).trans hcl)
      have HL : Hid (∀ i, i < (hd k).2.1 → ∀ wr g' o', (hd k).1 = some ⟨g', o', none⟩ → Ks S w wr → I k i wr → Calls Try.prog 33 (#[.int .u64 (b + k), .pointer (some ⟨g', o' + i * 2, none⟩)] ++ #[.pointer (some c1)]) wr fun e w' => e = .returned (.tuple #[]) ∧ I k (i + 1) w' ∧ Ks S wr w') := Lib.hid (fun i hi wr g' o' h1 h2 h3 => HST.out hE2.2 k i g' o' wr hkn hi h1 h2 h3)
      have HNK : Hid (∀ wr, I k (hd k).2.1 wr → I (k + 1) 0 wr) := Lib.hid (fun wr h => HNX.out k wr hkn h)
      have HP := Lib.hid hp
      have HE2 := Lib.hid hE2
      have hp9 : p + 1 < 18446744073709551616 := by omega
      have ep : IntKind.u64.wrap (p + 1) = p + 1 := IntWalk.u64_in _ (by omega)
      have HKN := Lib.hid hkn
      rw [← hp] at HL
      generalize hd k = hk3 at *
      obtain ⟨a, l, mm⟩ := hk3
      dsimp only at *
      clear hXr hks hi hcell hcl had hE hE2 hk hkn hg hSg hp
      go_wp2_with fail
      refine hc.mono ?_
      rintro en w2 ⟨rfl, hb2⟩
      have hks2 := HKS.out.trans (Ks.of_below (S := S) hb2)
      have hX2 := HXR.out.below hb2
      have hI2 := HI.out k 0 _ _ HII.out hb2
      have hc4 := HCL.out w2 hks2
      clear x0 x1 x2
      obtain ⟨x0, x1, x2⟩ := hX2.c3
      have HKS2 := Lib.hid hks2
      have HI2 := Lib.hid hI2
      clear hc hX2 hI2 hks2 hb2
      go_wp2
      clear x0 x1 x2 hc4
      go_loopw [26] (fun v wr => ∃ i : Nat, i ≤ l ∧ v = .int .i64 i ∧ I k i wr ∧ Ks S w1 wr) (fun v _ => l - (intOf v).toNat)
      case atStart => exact ⟨0, Nat.zero_le _, rfl, HI2.out, HKS2.out⟩
      case round =>
        obtain ⟨i, hi, rfl, hI3, hk3⟩ := hrel
        by_cases hil : i < l
        · obtain ⟨g', o', rfl⟩ := HAD.out (by omega)
          have hc5 := HL.out i hil wr g' o' rfl (HK.out.trans hk3) hI3
          have HK3 := Lib.hid hk3
          have hil2 : (i : Int) < l := by omega
          simp only [List.append_toArray, List.cons_append, List.nil_append] at hc5
          clear hI3 hk3 hi
          go_wp2_with fail
          refine hc5.mono ?_
          rintro en w4 ⟨rfl, hI4, hk4⟩
          have HK4 := Lib.hid (HK3.out.trans hk4)
          have HI4 := Lib.hid hI4
          clear hI4 hk4 hc5
          go_wp2
          go_roundw
          case rel => exact ⟨i + 1, by omega, by rw [Int.natCast_add]; rfl, HI4.out, HK4.out⟩
          case measure => simp [intOf]; omega
        · have hI5 : I k l wr := by rw [show l = i by omega]; exact hI3
          have HI5 := Lib.hid (HNK.out wr hI5)
          have HK5 := Lib.hid hk3
          have hil2 : ¬ (i : Int) < l := by omega
          clear hI3 hk3 hI5
          go_wp2
          go_roundw
          case rel => exact ⟨k + 1, ⟨HKN.out, .inl HE2.out.2⟩, by rw [HP.out, Int.natCast_add]; simp [Int.add_assoc], HI5.out, HK5.out⟩
          case measure => have := HE2.out; have := HKN.out; have := HP.out; simp [intOf]; omega
    · have hfin : vend b n = k := by
        unfold vend
        by_cases h9 : b + n < 18446744073709551616
        · rw [if_pos h9]
          rw [IntWalk.u64_in _ (by omega)] at hE
          omega
        · rw [if_neg h9]; omega
      have HF := Lib.hid hfin
      clear hXr hks hi hE hk hfin hp
      go_wp2_with fail
      refine hc.mono ?_
      rintro en w2 ⟨rfl, hb2⟩
      go_wp2
      go_end0
      refine ⟨rfl, ?_, HK.out.trans (HKS.out.trans (Ks.of_below hb2))⟩
      rw [HF.out]
      exact HI.out _ _ _ _ HII.out hb2
end Go.Proofs.Ytoemmppoejaapaa.Cur
