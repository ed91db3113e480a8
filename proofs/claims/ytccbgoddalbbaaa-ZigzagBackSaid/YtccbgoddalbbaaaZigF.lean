/- ReadRising: the next numbers of a rising list, or nothing with a fault. -/
import Derived.Test.YtccbgoddalbbaaaZigE
namespace Go.Proofs.Ytccbgoddalbbaaa.Cur
open Go.RowKit Mem
set_option linter.unusedVariables false

theorem rw_new (w : World) (xs : List Value) (t : Nat) : Rw (w.alloc (.cells xs.toArray t)) (some ⟨w.heap.size, 0, none⟩) xs := fun _ =>
  ⟨_, _, rfl, fun i v hi => by
    rw [Nat.zero_add]
    exact (Blk.new w xs.toArray t).cell i (by simpa using hi)⟩
theorem own_ge {w : World} {B e size n : Nat} {v : Value} {xs : List Value} (h : w.ownsRow B e size v n xs) : ∀ g, v.ownBlock = some g → B ≤ g := fun g hg => (World.ownsRow.lt h g hg).1
theorem Kp.grown {b : Nat} {w w1 w2 : World} {r : Option Nat} (h : Kp b w w1) (k : w1.grownBy w2 r) (hr : ∀ g, r = some g → w.heap.size ≤ g) : Kp b w w2 :=
  ⟨k.os.trans h.os, k.tape.trans h.tape, k.output.trans h.output, Nat.le_trans h.size k.size, fun i hi hb => (k.block i (Nat.lt_of_lt_of_le hi h.size) (fun e => by have := hr i e.symm; omega)).trans (h.block i hi hb)⟩
theorem rd_grown {w w' : World} {b : Nat} {s : Value} {p c q : Int} {r : Option Nat} (h : IsRd w b s p c q) (k : w.grownBy w' r) (hr : r ≠ some b) : IsRd w' b s p c q := (k.block b h.lt (fun e => hr e.symm)).trans h
theorem OwnU.ne_rd {w : World} {B b : Nat} {v s : Value} {z : List Int} {p c q : Int} (h : OwnU w B v z) (hr : IsRd w b s p c q) : v.ownBlock ≠ some b := own_ne_blk h hr (by decide)

theorem rg_fault {n : Nat} {z : List Int} {p q : Int} {N : Nat} {p' c' q' : Int} (e : rgo z N p [] = ([], 0, c', q')) (hc : c' ≠ 0) (h0 : 0 ≤ p') (h1 : p' ≤ n) : RgSt n z p 0 q N [] p' c' q' :=
  ⟨h0, h1, .inr (.inr ⟨rfl, by rw [e]; exact hc, rfl, by rw [e], by rw [e]⟩)⟩
theorem rg_done {n : Nat} {z : List Int} {p q : Int} {N : Nat} {l : List Int} {p' : Int} (e : rgo z N p [] = (l, p', 0, 0)) (h0 : 0 ≤ p') (h1 : p' ≤ n) : RgSt n z p 0 q N l p' 0 q :=
  ⟨h0, h1, .inr (.inl ⟨rfl, by rw [e], by rw [e], by rw [e], rfl, rfl⟩)⟩
def RRgPost (b : Nat) (s : Value) (n : Nat) (z : List Int) (p c q : Int) (N : Nat) (w : World) (e : Ending) (w' : World) : Prop :=
  ∃ v l p' c' q', e = .returned v ∧ OwnU w' w.heap.size v l ∧ Kp b w w' ∧ IsRd w' b s p' c' q' ∧ RgSt n z p c q N l p' c' q' ∧ ∀ x ∈ l, 0 ≤ x ∧ x < 18446744073709551616


set_option maxRecDepth 100000 in
set_option maxHeartbeats 2000000 in
theorem rrising_good (b : Nat) (a : Option Addr) (n m : Nat) (z : List Int) (p q : Int) (nn : Int) (w : World) (h : IsRd w b (.slice a n m) p 0 q) (hz : Bs w a n z) (h0 : 0 ≤ p) (h1 : p ≤ n) (hn : n ≤ 100000) (hby : ∀ x ∈ z, 0 ≤ x ∧ x < 256) :
    Calls Try.prog 26 #[.pointer (some ⟨b, 0, none⟩), .int .i64 nn] w (RRgPost b (.slice a n m) n z p 0 q nn.toNat w) := by
  have HBY := Lib.hid hby
  clear hby
  go_enter Try.func26, Try.ntmps26
  go_wp2
  go_loopw [5, 10] (fun v i wr => ∃ (k : Nat) (pk : Int) (acc : List Int), (k : Int) ≤ pk - p ∧ i = .int .i64 k ∧ OwnU wr w.heap.size v acc ∧ acc.length = k ∧ IsRd wr b (.slice a n m) pk 0 q ∧ Kp b w wr ∧ 0 ≤ pk ∧ pk ≤ n ∧ Hid (k ≤ nn.toNat ∧ rgo z nn.toNat p [] = rgo z (nn.toNat - k) pk acc ∧ ∀ x ∈ acc, 0 ≤ x ∧ x < 18446744073709551616)) (fun _ i _ => 1000000 - (intOf i).toNat)
  case atStart => exact ⟨0, p, [], by omega, rfl, OwnU.nil _ _, rfl, h, Kp.refl _ _, h0, h1, Lib.hid ⟨by omega, rfl, by simp⟩⟩
  case round =>
    obtain ⟨k, pk, acc, hkp, rfl, ho, hacc, hr, hk, pk0, pk1, H⟩ := hrel
    by_cases hlt : (k : Int) < nn
    · have hz1 := hz.kp h (by simp) hk
      have hN : nn.toNat - k = (nn.toNat - (k + 1)) + 1 := by omega
      go_wp2_with fail
      refine (at_any _ _ _ _ _ _ hr).mono ?_
      rintro e w1 ⟨rfl, rfl⟩
      go_wp2_with fail
      refine (vread_any _ _ _ _ _ _ _ _ _ hr hz1 pk0 pk1 (by omega) HBY.out).mono ?_
      rintro e w2 ⟨x, p', c', q', rfl, hk1, hr2, hs⟩
      have hk2 := hk.trans hk1
      have ho2 : OwnU w2 w.heap.size _ acc := own_kp ho hk1 (OwnU.ne_rd ho hr)
      have hw := rd_ways hs hz.1 pk0 pk1 HBY.out
      clear hs hk1 hz1 hk hr ho
      rcases hw with ⟨g0, gx, gp, rfl, rfl, p1, p2, x0, x1⟩ | ⟨g0, rfl, gc, gq, p1, p2⟩
      · have HG := Lib.hid (And.intro g0 (And.intro gx gp))
        clear g0 gx gp
        by_cases h00 : k = 0
        · subst h00
          obtain rfl : acc = [] := List.eq_nil_of_length_eq_zero hacc
          rw [show ((0 : Nat) : Int) = 0 from rfl]
          go_wp2_with fail
          refine (good_any _ _ _ _ _ _ hr2).mono ?_
          rintro e w9 ⟨rfl, hb9⟩
          have ho9 := own_below ho2 hb9
          have hr9 := hr2.below hb9
          have hk9 := hk2.trans (Kp.of_below hb9)
          have hbA := below_one w9 (.cells #[.int .u64 (x)] 22)
          have hoA := own_below ho9 hbA
          have hB9 : w.heap.size ≤ (w9.alloc (.cells #[.int .u64 (x)] 22)).heap.size := by have := hk9.size; simp; omega
          have hrA := hr9.below hbA
          have hkA := hk9.trans (Kp.of_below hbA)
          have hrwA := rw_new w9 (uv [x]) 22
          have hneA := OwnU.ne_rd hoA hrA
          have hgeA := own_ge hoA
          have HLEN := Lib.hid hacc
          clear ho9 hr9 hk9 hr2 hk2 ho2 hb9 hbA
          clear hacc
          rw [show ((0 : Int) == 0) = true from rfl]
          go_wp2_with (at_builtin; go_must (refine list_append_rw kindU rfl (.tmp 31) (.tmp 33) rfl w.heap.size _ _ _ rfl hoA _ 1 _ (uv [x]) rfl rfl hrwA (by simp) (uv_one _) (by have := HLEN.out; omega) (by omega) hB9 ?_; intro v' w10 ho' hg' hgr; have hk10 := Kp.grown hkA hg' hgeA; have hr10 := rd_grown hrA hg' hneA; clear hrwA hoA hrA hkA hneA hgeA))
          go_roundw
          case rel =>
            have hacc := HLEN.out
            exact ⟨1, _, _, by omega, by go_num, by unfold OwnU; rw [List.length_append, uv, List.map_append]; exact ho', by rw [List.length_append, hacc]; rfl, hr10, hk10, by omega, by omega, Lib.hid ⟨by omega, by rw [H.out.2.1, hN, rgo_first HG.out.1, ← HG.out.2.1, ← HG.out.2.2]; rfl, by intro y hy; simp at hy; subst hy; exact ⟨x0, x1⟩⟩⟩
          case measure => (simp [intOf] <;> omega)
        · obtain ⟨A1, c1, rfl⟩ := ho2.slice
          obtain ⟨_, _, _, hus⟩ := OwnU.us ho2
          obtain ⟨g, o, rfl, hc⟩ := hus.at_ (k := k - 1) (by omega)
          have hm := getD_mem (z := acc) (k := k - 1) (by omega)
          have hyb := H.out.2.2 _ hm
          obtain ⟨j, rfl⟩ : ∃ j, k = j + 1 := ⟨k - 1, by omega⟩
          rw [Nat.add_sub_cancel] at hc hyb
          have HL : Hid (acc.getD (acc.length - 1) 0 = acc.getD j 0) := Lib.hid (by rw [hacc, Nat.add_sub_cancel])
          obtain ⟨y, hy⟩ : ∃ y, y = acc.getD j 0 := ⟨_, rfl⟩
          rw [← hy] at hc hyb
          have HY := Lib.hid hy
          clear hy hm hus
          obtain ⟨y0, y1⟩ := hyb
          have e1 : ((j + 1 : Nat) : Int) = (j : Int) + 1 := by omega
          rw [e1] at hlt hkp ⊢
          clear e1 h00
          have ea : acc ≠ [] := fun e => by rw [e] at hacc; simp at hacc
          have HEA := Lib.hid ea
          clear ea
          have hlen : acc.length = j + 1 := hacc
          rw [hlen] at ho2 ⊢
          have e2 : (j : Int) + 1 < 9223372036854775807 := by omega
          have e3 : (0 : Int) ≤ j := by omega
          go_wp2_with fail
          refine (above_any _ _ _ _ _ _ _ _ _ hr2 y0 y1 x0 x1).mono ?_
          rintro e w3 ⟨v', c'', q'', rfl, hk3, hr3, hab⟩
          have hk4 := hk2.trans hk3
          have ho4 : OwnU w3 w.heap.size _ acc := own_kp (v := .slice (some ⟨g, o, none⟩) (j + 1) c1) (by unfold OwnU at ho2; exact ho2) hk3 (by have := OwnU.ne_rd (v := .slice (some ⟨g, o, none⟩) (j + 1) c1) ho2 hr2; exact this)
          clear hk2 hk3 ho2 hr2 hc
          have hr2 := hr3
          have hk2 := hk4
          have ho2 := ho4
          clear hr3 hk4 ho4
          rcases hab with ⟨hov, rfl, hf⟩ | ⟨hov, rfl, hc2, hq2⟩
          · rcases hf with ⟨_, hc2, hq2⟩ | ⟨hf, _⟩
            · have hcb : (c'' == 0) = false := by rw [hc2]; decide
              have HST := Lib.hid (show RgSt n z p 0 q' nn.toNat [] p' c'' q'' from rg_fault (by rw [H.out.2.1, hN, rgo_over HG.out.1 HEA.out (by rw [HL.out, ← HY.out, ← HG.out.2.1]; exact hov), hc2, hq2]; rfl) (by omega) (by omega) (by omega))
              clear hc2 hq2
              go_wp2_with fail
              refine (good_any _ _ _ _ _ _ hr2).mono ?_
              rintro e w9 ⟨rfl, hb9⟩
              rw [hcb]
              go_wp2
              go_ret
              exact ⟨_, [], _, _, _, rfl, OwnU.nil _ _, hk2.trans (Kp.of_below hb9), hr2.below hb9, HST.out, by simp⟩
            · exact absurd rfl hf
          · subst hc2
            subst hq2
            have hacc := hlen
            have hov2 : y + x + 1 < 18446744073709551616 := by omega
            have hyx : 0 ≤ y + x + 1 := by omega
            have HN := Lib.hid hN
            clear hN hov
            have HRE : Hid (j + 1 + 1 ≤ nn.toNat ∧ rgo z nn.toNat p [] = rgo z (nn.toNat - (j + 1 + 1)) p' (acc ++ [y + x + 1]) ∧ ∀ t ∈ acc ++ [y + x + 1], 0 ≤ t ∧ t < 18446744073709551616) :=
              Lib.hid ⟨by omega, by rw [H.out.2.1, HN.out, rgo_next HG.out.1 HEA.out (by rw [HL.out, ← HY.out, ← HG.out.2.1]; omega), HL.out, ← HY.out, ← HG.out.2.1, ← HG.out.2.2], by
                intro t ht
                rcases List.mem_append.1 ht with ht | ht
                · exact H.out.2.2 t ht
                · simp at ht; subst ht; exact ⟨hyx, hov2⟩⟩
            go_wp2_with fail
            refine (good_any _ _ _ _ _ _ hr2).mono ?_
            rintro e w9 ⟨rfl, hb9⟩
            have ho9 := own_below ho2 hb9
            have hr9 := hr2.below hb9
            have hk9 := hk2.trans (Kp.of_below hb9)
            have hbA := below_one w9 (.cells #[.int .u64 (y + x + 1)] 22)
            have hoA := own_below ho9 hbA
            have hB9 : w.heap.size ≤ (w9.alloc (.cells #[.int .u64 (y + x + 1)] 22)).heap.size := by have := hk9.size; simp; omega
            have hrA := hr9.below hbA
            have hkA := hk9.trans (Kp.of_below hbA)
            have hrwA := rw_new w9 (uv [y + x + 1]) 22
            have hneA := OwnU.ne_rd hoA hrA
            have hgeA := own_ge hoA
            have HLEN := Lib.hid hacc
            clear ho9 hr9 hk9 hr2 hk2 ho2 hb9 hbA
            clear hacc
            rw [show ((0 : Int) == 0) = true from rfl]
            go_wp2_with (at_builtin; go_must (refine list_append_rw kindU rfl (.tmp 31) (.tmp 33) rfl w.heap.size _ _ _ rfl hoA _ 1 _ (uv [y + x + 1]) rfl rfl hrwA (by simp) (uv_one _) (by have := HLEN.out; omega) (by omega) hB9 ?_; intro v' w10 ho' hg' hgr; have hk10 := Kp.grown hkA hg' hgeA; have hr10 := rd_grown hrA hg' hneA; clear hrwA hoA hrA hkA hneA hgeA))
            go_roundw
            case rel =>
              have hacc := HLEN.out
              exact ⟨j + 1 + 1, _, _, by omega, by go_num, by unfold OwnU; rw [List.length_append, uv, List.map_append]; exact ho', by rw [List.length_append, hacc]; rfl, hr10, hk10, by omega, by omega, HRE⟩
            case measure => (simp [intOf] <;> omega)
      · have hcb : (c' == 0) = false := by rw [gc]; simpa using g0
        have HST := Lib.hid (show RgSt n z p 0 q nn.toNat [] p' c' q' from rg_fault (by rw [H.out.2.1, hN, rgo_bad g0, gc, gq]) (by rw [gc]; exact g0) p1 p2)
        have hcne : c' ≠ 0 := by rw [gc]; exact g0
        have HCN := Lib.hid hcne
        clear hcne gc gq g0 hN
        by_cases h00 : k = 0
        · subst h00
          rw [show ((0 : Nat) : Int) = 0 from rfl]
          go_wp2_with fail
          refine (good_any _ _ _ _ _ _ hr2).mono ?_
          rintro e w9 ⟨rfl, hb9⟩
          rw [hcb]
          go_wp2
          go_ret
          exact ⟨_, [], _, _, _, rfl, OwnU.nil _ _, hk2.trans (Kp.of_below hb9), hr2.below hb9, HST.out, by simp⟩
        · obtain ⟨A1, c1, rfl⟩ := ho2.slice
          obtain ⟨_, _, _, hus⟩ := OwnU.us ho2
          obtain ⟨g, o, rfl, hc⟩ := hus.at_ (k := k - 1) (by omega)
          have hm := getD_mem (z := acc) (k := k - 1) (by omega)
          have hyb := H.out.2.2 _ hm
          obtain ⟨j, rfl⟩ : ∃ j, k = j + 1 := ⟨k - 1, by omega⟩
          rw [Nat.add_sub_cancel] at hc hyb
          generalize acc.getD j 0 = y at *
          clear hm hus
          obtain ⟨y0, y1⟩ := hyb
          have e1 : ((j + 1 : Nat) : Int) = (j : Int) + 1 := by omega
          rw [e1] at hlt hkp ⊢
          clear e1 h00
          have hlen : acc.length = j + 1 := hacc
          rw [hlen] at ho2 ⊢
          have e2 : (j : Int) + 1 < 9223372036854775807 := by omega
          have e3 : (0 : Int) ≤ j := by omega
          go_wp2_with fail
          refine (above_any _ _ _ _ _ _ _ _ _ hr2 y0 y1 (by omega) (by omega)).mono ?_
          rintro e w3 ⟨v', c'', q'', rfl, hk3, hr3, hab⟩
          have hk4 := hk2.trans hk3
          have hcq : c'' = c' ∧ q'' = q' := by
            rcases hab with ⟨_, _, hf⟩ | ⟨_, _, hc2, hq2⟩
            · rcases hf with ⟨hf, _⟩ | ⟨_, hc2, hq2⟩
              · exact absurd hf HCN.out
              · exact ⟨hc2, hq2⟩
            · exact ⟨hc2, hq2⟩
          obtain ⟨rfl, rfl⟩ := hcq
          clear hk2 hk3 hr2 hab
          have hr2 := hr3
          have hk2 := hk4
          clear hr3 hk4
          go_wp2_with fail
          refine (good_any _ _ _ _ _ _ hr2).mono ?_
          rintro e w9 ⟨rfl, hb9⟩
          rw [hcb]
          go_wp2
          go_ret
          exact ⟨_, [], _, _, _, rfl, OwnU.nil _ _, hk2.trans (Kp.of_below hb9), hr2.below hb9, HST.out, by simp⟩
    · go_wp2
      go_ret
      have hN : nn.toNat - k = 0 := by omega
      have e := H.out.2.1
      rw [hN] at e
      exact ⟨_, acc, _, _, _, rfl, ho, hk, hr, rg_done e pk0 pk1, H.out.2.2⟩

set_option maxRecDepth 100000 in
set_option maxHeartbeats 1000000 in
theorem rrising_bad (b : Nat) (a : Option Addr) (n m : Nat) (z : List Int) (p c q : Int) (nn : Int) (w : World) (h : IsRd w b (.slice a n m) p c q) (hz : Bs w a n z) (h0 : 0 ≤ p) (h1 : p ≤ n) (hn : n ≤ 100000) (hby : ∀ x ∈ z, 0 ≤ x ∧ x < 256) (hc : c ≠ 0) :
    Calls Try.prog 26 #[.pointer (some ⟨b, 0, none⟩), .int .i64 nn] w (RRgPost b (.slice a n m) n z p c q nn.toNat w) := by
  have hcb : (c == 0) = false := by simpa using hc
  have HBY := Lib.hid hby
  have HST := Lib.hid (show RgSt n z p c q nn.toNat [] p c q from ⟨h0, h1, .inl ⟨hc, rfl, rfl, rfl⟩⟩)
  have HC := Lib.hid hc
  clear hby hc
  go_enter Try.func26, Try.ntmps26
  go_wp2
  go_loopw [5, 10] (fun v i wr => i = .int .i64 0 ∧ v = .slice none 0 0 ∧ wr = w) (fun _ _ _ => 0)
  case atStart => exact ⟨rfl, rfl, rfl⟩
  case round =>
    obtain ⟨rfl, rfl, rfl⟩ := hrel
    by_cases hlt : 0 < nn
    · go_wp2_with fail
      refine (at_any _ _ _ _ _ _ h).mono ?_
      rintro e w1 ⟨rfl, rfl⟩
      go_wp2_with fail
      refine (vread_any _ _ _ _ _ _ _ _ _ h hz h0 h1 (by omega) HBY.out).mono ?_
      rintro e w2 ⟨x, p', c', q', rfl, hk2, hr2, hs⟩
      rcases hs with ⟨_, rfl, hp, hc2, hq2⟩ | ⟨hs, _⟩
      · rw [hp, hc2, hq2] at hr2
        clear hp hc2 hq2
        go_wp2_with fail
        refine (good_any _ _ _ _ _ _ hr2).mono ?_
        rintro e w9 ⟨rfl, hb9⟩
        rw [hcb]
        go_wp2
        go_ret
        exact ⟨_, [], _, _, _, rfl, OwnU.nil _ _, hk2.trans (Kp.of_below hb9), hr2.below hb9, HST.out, by simp⟩
      · exact absurd hs HC.out
    · go_wp2
      go_ret
      exact ⟨_, [], _, _, _, rfl, OwnU.nil _ _, Kp.refl _ _, h, HST.out, by simp⟩
theorem rrising_any (b : Nat) (a : Option Addr) (n m : Nat) (z : List Int) (p c q : Int) (nn : Int) (w : World) (h : IsRd w b (.slice a n m) p c q) (hz : Bs w a n z) (h0 : 0 ≤ p) (h1 : p ≤ n) (hn : n ≤ 100000) (hby : ∀ x ∈ z, 0 ≤ x ∧ x < 256) :
    Calls Try.prog 26 #[.pointer (some ⟨b, 0, none⟩), .int .i64 nn] w (RRgPost b (.slice a n m) n z p c q nn.toNat w) := by
  by_cases hc : c = 0
  · subst hc; exact rrising_good b a n m z p q nn w h hz h0 h1 hn hby
  · exact rrising_bad b a n m z p c q nn w h hz h0 h1 hn hby hc
end Go.Proofs.Ytccbgoddalbbaaa.Cur
