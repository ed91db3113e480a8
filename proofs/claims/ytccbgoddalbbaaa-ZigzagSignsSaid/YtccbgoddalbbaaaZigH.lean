/- The document's reader of a rising list. -/
import Derived.Test.YtccbgoddalbbaaaZigG
import Derived.Deep.Cut
namespace Go.Proofs.Ytccbgoddalbbaaa.Cur
open Go.RowKit Mem
set_option linter.unusedVariables false

abbrev cvs (s : Value) (p c q : Int) : Array Value := #[s, .int .i64 p, .int .i64 c, .int .i64 q]
theorem below_set {w w' : World} {B b : Nat} (h : Below B w w') (hb : B ≤ b) (o : Nat) (v : Value) : Below B w (w'.setCell ⟨b, o, none⟩ v) := Below.setCell h hb v
/-- The state of the loop. -/
def RL (a : Option Addr) (n m : Nat) (z : List Int) (p q : Int) (N : Nat) (w : World) (v i : Value) (wr : World) : Prop :=
  ∃ (k : Nat) (pk : Int) (acc : List Int), (k : Int) ≤ pk - p ∧ i = .int .i64 k ∧ OwnU wr (w.heap.size + 2) v acc ∧ acc.length = k ∧ Blk wr w.heap.size (cvs (.slice a n m) pk 0 q) 38 ∧ Blk wr (w.heap.size + 1) (cvs (.slice none 0 0) 0 0 0) 38 ∧ Below w.heap.size w wr ∧ 0 ≤ pk ∧ pk ≤ n ∧
    Hid (k ≤ N ∧ rgo z N p [] = rgo z (N - k) pk acc ∧ ∀ x ∈ acc, 0 ≤ x ∧ x < 18446744073709551616)

/-- Behind the copy of what was read. -/
theorem copied {w wr : World} {v : Value} {acc : List Int} {s : Value} {p c q : Int} (p' c' q' : Int) {a' : Array Value}
    (hC : Blk wr w.heap.size (cvs s p c q) 38) (hR : Blk wr (w.heap.size + 1) a' 38) (ho : OwnU wr (w.heap.size + 2) v acc) (hb : Below w.heap.size w wr) :
    ∃ w1, (((((wr.setCell ⟨w.heap.size, 0, none⟩ s).setCell ⟨w.heap.size, 1, none⟩ (.int .i64 p')).setCell ⟨w.heap.size, 2, none⟩ (.int .i64 c')).setCell ⟨w.heap.size, 3, none⟩ (.int .i64 q'))).alloc (.cells #[s, .int .i64 p', .int .i64 c', .int .i64 q'] 38) = w1 ∧
    Blk w1 w.heap.size (cvs s p' c' q') 38 ∧ Blk w1 (w.heap.size + 1) a' 38 ∧ OwnU w1 (w.heap.size + 2) v acc ∧ Below w.heap.size w w1 := by
  obtain ⟨h1, h2⟩ := set4 hC s (.int .i64 p') (.int .i64 c') (.int .i64 q')
  have h3 := Kp.below hb (Nat.le_refl _) h2 (Nat.le_refl _)
  exact ⟨_, rfl, h1.alloc _, (blk_kp hR h2 (by omega)).alloc _, own_below (own_kp ho h2 (fun e => by have := own_ge ho _ e; omega)) (below_one _ _), h3.alloc h3.size _⟩
theorem set4_below {w wr : World} {B g : Nat} (h : Below B w wr) (hg : B ≤ g) (u0 u1 u2 u3 : Value) : Below B w ((((wr.setCell ⟨g, 0, none⟩ u0).setCell ⟨g, 1, none⟩ u1).setCell ⟨g, 2, none⟩ u2).setCell ⟨g, 3, none⟩ u3) :=
  (((h.setCell hg _).setCell hg _).setCell hg _).setCell hg _
theorem set4_own {wr : World} {B g : Nat} {v : Value} {acc : List Int} (h : OwnU wr B v acc) (hg : g < B) (u0 u1 u2 u3 : Value) : OwnU ((((wr.setCell ⟨g, 0, none⟩ u0).setCell ⟨g, 1, none⟩ u1).setCell ⟨g, 2, none⟩ u2).setCell ⟨g, 3, none⟩ u3) B v acc := by
  have one : ∀ {w : World} (o : Nat) (u : Value), OwnU w B v acc → OwnU (w.setCell ⟨g, o, none⟩ u) B v acc := fun o u h =>
    own_block h fun k hk => Below.heap_setCell _ _ _ k (fun e => by have := own_ge h k hk; have e : k = g := e; omega)
  exact one _ _ (one _ _ (one _ _ (one _ _ h)))
theorem OwnU.base {w : World} {B B' : Nat} {v : Value} {acc : List Int} (h : OwnU w B v acc) (hB : B' ≤ B) : OwnU w B' v acc := own_base h fun g hg => Nat.le_trans hB (own_ge h g hg)


set_option maxRecDepth 100000 in
set_option maxHeartbeats 2000000 in
theorem rrread_good (a : Option Addr) (n m : Nat) (z : List Int) (p q nn : Int) (w : World) (hz : Bs w a n z) (h0 : 0 ≤ p) (h1 : p ≤ n) (hm : n ≤ m) (hn : n ≤ 100000) (hby : ∀ x ∈ z, 0 ≤ x ∧ x < 256) :
    Calls Try.prog 27 #[cv (.slice a n m) p 0 q, .int .i64 nn] w (RRRgPost (.slice a n m) n z p 0 q nn.toNat w) := by
  have HBY := Lib.hid hby
  clear hby
  go_enter Try.func27, Try.ntmps27
  go_wp2
  go_loopw [6, 7] (fun v i wr => RL a n m z p q nn.toNat w v i wr) (fun _ i _ => 1000000 - (intOf i).toNat)
  case atStart =>
    obtain ⟨hC, hR, hbd⟩ := two_new (Below.refl ((w.alloc (.cells (cvs (.slice a n m) p 0 q) 38)).alloc (.cells (cvs (.slice none 0 0) 0 0 0) 38)).heap.size ((w.alloc (.cells (cvs (.slice a n m) p 0 q) 38)).alloc (.cells (cvs (.slice none 0 0) 0 0 0) 38)))
    exact ⟨0, p, [], by omega, rfl, OwnU.nil _ _, rfl, hC, hR, hbd, h0, h1, Lib.hid ⟨by omega, rfl, by simp⟩⟩
  case round =>
    obtain ⟨k, pk, acc, hkp, rfl, ho, hacc, hC, hR, hbd, pk0, pk1, H⟩ := hrel
    obtain ⟨c0, c1, c2, c3⟩ := hC.c4
    obtain ⟨f0, f1, f2, f3⟩ := hC.f4
    by_cases hlt : (k : Int) < nn
    · have hN : nn.toNat - k = (nn.toNat - (k + 1)) + 1 := by omega
      go_wp2_with fail
      refine (rread_any _ _ _ _ _ _ _ _ (hz.below hbd) pk0 pk1 hm (by omega) HBY.out).mono ?_
      rintro e w1 ⟨x, p', c', q', rfl, hb1, hs⟩
      have hw := rd_ways hs hz.1 pk0 pk1 HBY.out
      have hC1 := hC.below hb1
      have hR1 := hR.below hb1
      have ho1 : OwnU _ _ _ acc := own_below ho hb1
      have hbd1 := hbd.trans (hb1.mono hbd.size)
      have hn1 : w.heap.size < w1.heap.size := hC1.lt
      clear hC hR ho hbd hb1 c0 c1 c2 c3 f0 f1 f2 f3 hs
      obtain ⟨c0, c1, c2, c3⟩ := hC1.c4
      obtain ⟨f0, f1, f2, f3⟩ := hC1.f4
      go_upto_region 8 with (fail)
      obtain ⟨wd, hwd, hC, hR, ho, hbd⟩ := copied p' c' q' hC1 hR1 ho1 hbd1
      rw [hwd]
      clear hwd hC1 hR1 ho1 hbd1 c0 c1 c2 c3 f0 f1 f2 f3
      obtain ⟨c0, c1, c2, c3⟩ := hC.c4
      obtain ⟨r0, r1, r2, r3⟩ := hR.c4
      obtain ⟨s0, s1, s2, s3⟩ := hR.f4
      rcases hw with ⟨g0, gx, gp, rfl, hq2, p1, p2, x0, x1⟩ | ⟨g0, rfl, gc, gq, p1, p2⟩
      · have HG := Lib.hid (And.intro g0 (And.intro gx gp))
        clear g0 gx gp
        rw [hq2] at hC c3
        clear hq2
        by_cases h00 : k = 0
        · subst h00
          obtain rfl : acc = [] := List.eq_nil_of_length_eq_zero hacc
          have HRE : Hid (1 ≤ nn.toNat ∧ rgo z nn.toNat p [] = rgo z (nn.toNat - 1) p' ([] ++ [x]) ∧ ∀ t ∈ ([] ++ [x] : List Int), 0 ≤ t ∧ t < 18446744073709551616) :=
            Lib.hid ⟨by omega, by rw [H.out.2.1, hN, rgo_first HG.out.1, ← HG.out.2.1, ← HG.out.2.2]; rfl, by intro y hy; simp at hy; subst hy; exact ⟨x0, x1⟩⟩
          rw [show ((0 : Nat) : Int) = 0 from rfl]
          have hB9 : w.heap.size + 2 ≤ (wd.alloc (.cells #[.int .u64 (x)] 22)).heap.size := by have := hR.lt; simp; omega
          have hbA := below_one wd (.cells #[.int .u64 (x)] 22)
          have hoA := own_below ho hbA
          have hrwA := rw_new wd (uv [x]) 22
          have hCA := hC.below hbA
          have hRA := hR.below hbA
          have hbdA := hbd.trans (hbA.mono hbd.size)
          have hgeA := own_ge hoA
          have HLEN := Lib.hid hacc
          clear hacc
          go_wp2_with (at_builtin; go_must (refine list_append_rw kindU rfl (.tmp 54) (.tmp 56) rfl (w.heap.size + 2) _ _ _ rfl hoA _ 1 _ (uv [x]) rfl rfl hrwA (by simp) (uv_one _) (by have := HLEN.out; omega) (by omega) hB9 ?_; intro v' w10 ho' hg' hgr; have hC10 := hCA.ks (Ks.of_grown (S := fun k => w.heap.size + 2 ≤ k) hg' hgeA) (by omega); have hR10 := hRA.ks (Ks.of_grown (S := fun k => w.heap.size + 2 ≤ k) hg' hgeA) (by omega); have hbd10 := hbdA.grown hg' (by omega) (fun k hk => by have := hgeA k hk; omega); clear hrwA hoA hCA hRA hbdA hgeA hbA))
          go_roundw
          case rel => exact ⟨1, p', _, by omega, rfl, by unfold OwnU; rw [List.length_append, uv, List.map_append]; exact ho', by rw [List.length_append]; rfl, hC10, hR10, hbd10, by omega, by omega, HRE⟩
          case measure => (simp [intOf] <;> omega)
        · obtain ⟨A1, cc1, rfl⟩ := ho.slice
          obtain ⟨_, _, _, hus⟩ := OwnU.us ho
          obtain ⟨g, o, rfl, hc⟩ := hus.at_ (k := k - 1) (by omega)
          have hm := getD_mem (z := acc) (k := k - 1) (by omega)
          have hyb := H.out.2.2 _ hm
          obtain ⟨j, rfl⟩ : ∃ j, k = j + 1 := ⟨k - 1, by omega⟩
          rw [Nat.add_sub_cancel] at hc hyb
          have HL : Hid (acc.getD (acc.length - 1) 0 = acc.getD j 0) := Lib.hid (by rw [hacc, Nat.add_sub_cancel])
          obtain ⟨y, hy⟩ : ∃ y, y = acc.getD j 0 := ⟨_, rfl⟩
          rw [← hy] at hc hyb
          have HY := Lib.hid hy
          clear hy hm hus
          obtain ⟨y0, y1⟩ := hyb
          have e1 : ((j + 1 : Nat) : Int) = (j : Int) + 1 := by omega
          rw [e1] at hlt hkp ⊢
          clear e1 h00
          have ea : acc ≠ [] := fun e => by rw [e] at hacc; simp at hacc
          have HEA := Lib.hid ea
          clear ea
          have hlen : acc.length = j + 1 := hacc
          rw [hlen] at ho ⊢
          have e2 : (j : Int) + 1 < 9223372036854775807 := by omega
          have e3 : (0 : Int) ≤ j := by omega
          by_cases hov : 18446744073709551615 - y ≤ x
          · have HST := Lib.hid (show rgo z nn.toNat p [] = ([], 0, 13, pk) by rw [H.out.2.1, hN, rgo_over HG.out.1 HEA.out (by rw [HL.out, ← HY.out, ← HG.out.2.1]; exact hov)])
            clear hN hlen hacc
            have hgt : 18446744073709551615 - y < x ∨ x = 18446744073709551615 - y := by omega
            rcases hgt with hgt | hgt
            · go_wp2_with fail
              refine (rfail_any _ _ _ _ _ _ _ _ _).mono ?_
              rintro e w3 ⟨cf, qf, rfl, hb3, hf⟩
              rcases hf with ⟨_, rfl, hqf⟩ | ⟨hf, _⟩
              · rw [hqf]
                have HB3 := Lib.hid hb3
                have hC3 := hC.below hb3
                have hR3 := hR.below hb3
                have hbd3 := hbd.trans (hb3.mono hbd.size)
                clear hqf hb3 hC hR hbd c0 c1 c2 c3 r0 r1 r2 r3 s0 s1 s2 s3
                obtain ⟨r0, r1, r2, r3⟩ := hR3.c4
                obtain ⟨s0, s1, s2, s3⟩ := hR3.f4
                go_wp2
                refine bodyPost_ret (v := .tuple #[cv (.slice a n m) p' 13 (fq 13 pk), .slice none 0 0]) (by simp [results, Try.results27, go_sem, r0, r1, r2, r3]) rfl ⟨_, [], _, _, _, rfl, OwnU.nil _ _, ?_, rg_fault HST.out (by omega) (by omega) (by omega), by simp⟩
                exact set4_below hbd3 (by omega) _ _ _ _
              · exact absurd rfl hf
            · have hg1 : ¬ 18446744073709551615 - y < x := by omega
              have hg2 : (x == 18446744073709551615 - y) = true := by simpa using hgt
              clear hgt
              go_wp2_with fail
              refine (rfail_any _ _ _ _ _ _ _ _ _).mono ?_
              rintro e w3 ⟨cf, qf, rfl, hb3, hf⟩
              rcases hf with ⟨_, rfl, hqf⟩ | ⟨hf, _⟩
              · rw [hqf]
                have HB3 := Lib.hid hb3
                have hC3 := hC.below hb3
                have hR3 := hR.below hb3
                have hbd3 := hbd.trans (hb3.mono hbd.size)
                clear hqf hb3 hC hR hbd c0 c1 c2 c3 r0 r1 r2 r3 s0 s1 s2 s3
                obtain ⟨r0, r1, r2, r3⟩ := hR3.c4
                obtain ⟨s0, s1, s2, s3⟩ := hR3.f4
                go_wp2
                refine bodyPost_ret (v := .tuple #[cv (.slice a n m) p' 13 (fq 13 pk), .slice none 0 0]) (by simp [results, Try.results27, go_sem, r0, r1, r2, r3]) rfl ⟨_, [], _, _, _, rfl, OwnU.nil _ _, ?_, rg_fault HST.out (by omega) (by omega) (by omega), by simp⟩
                exact set4_below hbd3 (by omega) _ _ _ _
              · exact absurd rfl hf
          · have hacc := hlen
            have hov2 : y + x + 1 < 18446744073709551616 := by omega
            have hyx : 0 ≤ y + x + 1 := by omega
            have HRE : Hid (j + 1 + 1 ≤ nn.toNat ∧ rgo z nn.toNat p [] = rgo z (nn.toNat - (j + 1 + 1)) p' (acc ++ [y + x + 1]) ∧ ∀ t ∈ acc ++ [y + x + 1], 0 ≤ t ∧ t < 18446744073709551616) :=
              Lib.hid ⟨by omega, by rw [H.out.2.1, hN, rgo_next HG.out.1 HEA.out (by rw [HL.out, ← HY.out, ← HG.out.2.1]; omega), HL.out, ← HY.out, ← HG.out.2.1, ← HG.out.2.2], by
                intro t ht
                rcases List.mem_append.1 ht with ht | ht
                · exact H.out.2.2 t ht
                · simp at ht; subst ht; exact ⟨hyx, hov2⟩⟩
            have h1 : ¬ 18446744073709551615 - y < x := by omega
            have h2 : (x == 18446744073709551615 - y) = false := by simp; omega
            clear hN hov
            have hB9 : w.heap.size + 2 ≤ (wd.alloc (.cells #[.int .u64 (y + x + 1)] 22)).heap.size := by have := hR.lt; simp; omega
            have hbA := below_one wd (.cells #[.int .u64 (y + x + 1)] 22)
            have hoA := own_below ho hbA
            have hrwA := rw_new wd (uv [y + x + 1]) 22
            have hCA := hC.below hbA
            have hRA := hR.below hbA
            have hbdA := hbd.trans (hbA.mono hbd.size)
            have hgeA := own_ge hoA
            have HLEN := Lib.hid hacc
            clear hacc
            go_wp2_with (at_builtin; go_must (refine list_append_rw kindU rfl (.tmp 54) (.tmp 56) rfl (w.heap.size + 2) _ _ _ rfl hoA _ 1 _ (uv [y + x + 1]) rfl rfl hrwA (by simp) (uv_one _) (by have := HLEN.out; omega) (by omega) hB9 ?_; intro v' w10 ho' hg' hgr; have hC10 := hCA.ks (Ks.of_grown (S := fun k => w.heap.size + 2 ≤ k) hg' hgeA) (by omega); have hR10 := hRA.ks (Ks.of_grown (S := fun k => w.heap.size + 2 ≤ k) hg' hgeA) (by omega); have hbd10 := hbdA.grown hg' (by omega) (fun k hk => by have := hgeA k hk; omega); clear hrwA hoA hCA hRA hbdA hgeA hbA))
            go_roundw
            case rel =>
              have hacc := HLEN.out
              exact ⟨j + 1 + 1, p', _, by omega, by go_num, by unfold OwnU; rw [List.length_append, uv, List.map_append]; exact ho', by rw [List.length_append, hacc]; rfl, hC10, hR10, hbd10, by omega, by omega, HRE⟩
            case measure => (simp [intOf] <;> omega)
      · have hcb : (c' == 0) = false := by rw [gc]; simpa using g0
        have hcb' : (c' != 0) = true := by rw [gc]; simpa using g0
        have HST := Lib.hid (show rgo z nn.toNat p [] = ([], 0, c', q') by rw [H.out.2.1, hN, rgo_bad g0, gc, gq])
        have HCN : Hid (c' ≠ 0) := Lib.hid (by rw [gc]; exact g0)
        clear gc gq g0 hN
        go_wp2
        refine bodyPost_ret (v := .tuple #[cv (.slice a n m) p' c' q', .slice none 0 0]) (by simp [results, Try.results27, go_sem, r0, r1, r2, r3]) rfl ⟨_, [], _, _, _, rfl, OwnU.nil _ _, ?_, rg_fault HST.out HCN.out p1 p2, by simp⟩
        exact set4_below hbd (by omega) _ _ _ _
    · have hN : nn.toNat - k = 0 := by omega
      have e := H.out.2.1
      rw [hN] at e
      have HE := Lib.hid e
      obtain ⟨r0, r1, r2, r3⟩ := hR.c4
      obtain ⟨g0, g1, g2, g3⟩ := hR.f4
      clear e
      go_wp2
      refine bodyPost_ret (v := .tuple #[cv (.slice a n m) pk 0 q, _]) (by simp [results, Try.results27, go_sem, r0, r1, r2, r3]; rfl) rfl ⟨_, acc, _, _, _, rfl, ?_, ?_, rg_done HE.out pk0 pk1, H.out.2.2⟩
      · exact (set4_own ho (by omega) _ _ _ _).base (by omega)
      · exact set4_below hbd (by omega) _ _ _ _

set_option maxRecDepth 100000 in
set_option maxHeartbeats 1000000 in
theorem rrread_bad (a : Option Addr) (n m : Nat) (z : List Int) (p c q nn : Int) (w : World) (hz : Bs w a n z) (h0 : 0 ≤ p) (h1 : p ≤ n) (hm : n ≤ m) (hn : n ≤ 100000) (hby : ∀ x ∈ z, 0 ≤ x ∧ x < 256) (hc : c ≠ 0) :
    Calls Try.prog 27 #[cv (.slice a n m) p c q, .int .i64 nn] w (RRRgPost (.slice a n m) n z p c q nn.toNat w) := by
  have hcb : (c == 0) = false := by simpa using hc
  have hcb' : (c != 0) = true := by simpa using hc
  have HBY := Lib.hid hby
  have HST := Lib.hid (show RgSt n z p c q nn.toNat [] p c q from ⟨h0, h1, .inl ⟨hc, rfl, rfl, rfl⟩⟩)
  have HC := Lib.hid hc
  clear hby hc
  go_enter Try.func27, Try.ntmps27
  go_wp2
  go_loopw [6, 7] (fun v i wr => v = .slice none 0 0 ∧ i = .int .i64 0 ∧ Blk wr w.heap.size (cvs (.slice a n m) p c q) 38 ∧ Blk wr (w.heap.size + 1) (cvs (.slice none 0 0) 0 0 0) 38 ∧ Below w.heap.size w wr) (fun _ i _ => 0)
  case atStart =>
    obtain ⟨hC, hR, hbd⟩ := two_new (Below.refl ((w.alloc (.cells (cvs (.slice a n m) p c q) 38)).alloc (.cells (cvs (.slice none 0 0) 0 0 0) 38)).heap.size ((w.alloc (.cells (cvs (.slice a n m) p c q) 38)).alloc (.cells (cvs (.slice none 0 0) 0 0 0) 38)))
    exact ⟨rfl, rfl, hC, hR, hbd⟩
  case round =>
    obtain ⟨rfl, rfl, hC, hR, hbd⟩ := hrel
    obtain ⟨c0, c1, c2, c3⟩ := hC.c4
    obtain ⟨f0, f1, f2, f3⟩ := hC.f4
    by_cases hlt : 0 < nn
    · go_wp2_with fail
      refine (rread_any _ _ _ _ _ _ _ _ (hz.below hbd) h0 h1 hm (by omega) HBY.out).mono ?_
      rintro e w1 ⟨x, p', c', q', rfl, hb1, hs⟩
      rcases hs with ⟨_, rfl, hp, hc2, hq2⟩ | ⟨hs, _⟩
      · rw [hp, hc2, hq2]
        have hC1 := hC.below hb1
        have hR1 := hR.below hb1
        have ho1 : OwnU w1 (w.heap.size + 2) (.slice none 0 0) [] := OwnU.nil _ _
        have hbd1 := hbd.trans (hb1.mono hbd.size)
        have hn1 : w.heap.size < w1.heap.size := hC1.lt
        clear hC hR hbd hb1 c0 c1 c2 c3 f0 f1 f2 f3 hp hc2 hq2
        obtain ⟨c0, c1, c2, c3⟩ := hC1.c4
        obtain ⟨f0, f1, f2, f3⟩ := hC1.f4
        go_upto_region 8 with (fail)
        obtain ⟨wd, hwd, hC, hR, ho, hbd⟩ := copied p c q hC1 hR1 ho1 hbd1
        rw [hwd]
        clear hwd hC1 hR1 ho1 hbd1 c0 c1 c2 c3 f0 f1 f2 f3
        obtain ⟨c0, c1, c2, c3⟩ := hC.c4
        obtain ⟨r0, r1, r2, r3⟩ := hR.c4
        obtain ⟨s0, s1, s2, s3⟩ := hR.f4
        go_wp2
        refine bodyPost_ret (v := .tuple #[cv (.slice a n m) p c q, .slice none 0 0]) (by simp [results, Try.results27, go_sem, r0, r1, r2, r3]) rfl ⟨_, [], _, _, _, rfl, OwnU.nil _ _, ?_, HST.out, by simp⟩
        exact set4_below hbd (by omega) _ _ _ _
      · exact absurd hs HC.out
    · obtain ⟨r0, r1, r2, r3⟩ := hR.c4
      obtain ⟨g0, g1, g2, g3⟩ := hR.f4
      go_wp2
      refine bodyPost_ret (v := .tuple #[cv (.slice a n m) p c q, .slice none 0 0]) (by simp [results, Try.results27, go_sem, r0, r1, r2, r3]) rfl ⟨_, [], _, _, _, rfl, OwnU.nil _ _, ?_, HST.out, by simp⟩
      exact set4_below hbd (by omega) _ _ _ _
theorem rrread_any (a : Option Addr) (n m : Nat) (z : List Int) (p c q nn : Int) (w : World) (hz : Bs w a n z) (h0 : 0 ≤ p) (h1 : p ≤ n) (hm : n ≤ m) (hn : n ≤ 100000) (hby : ∀ x ∈ z, 0 ≤ x ∧ x < 256) :
    Calls Try.prog 27 #[cv (.slice a n m) p c q, .int .i64 nn] w (RRRgPost (.slice a n m) n z p c q nn.toNat w) := by
  by_cases hc : c = 0
  · subst hc; exact rrread_good a n m z p q nn w hz h0 h1 hm hn hby
  · exact rrread_bad a n m z p c q nn w hz h0 h1 hm hn hby hc
end Go.Proofs.Ytccbgoddalbbaaa.Cur
