/- Blobs and lists read: what is read, as a value; Read, ReadList. -/
import Derived.Test.YtkedmhopajpkhaaBlobA
import Derived.Test.YtkedmhopajpkhaaZigF
import Derived.Deep.LoopGhost
namespace Go.Proofs.Ytkedmhopajpkhaa.Cur
open Go.RowKit Mem
set_option linter.unusedVariables false

/-- A blob of at most mo bytes. -/
def bl (z : List Int) (mo p : Int) : Rs (List Int) := (vm z mo p).bind [] fun x p1 => tk z x p1
/-- So many numbers. -/
def lgo (z : List Int) : Nat → Int → List Int → Rs (List Int)
  | 0, p, acc => (acc, p, 0, 0)
  | k + 1, p, acc => (vg z p).bind [] fun x p1 => lgo z k p1 (acc ++ [x])
/-- A list of at most mo numbers. -/
def rl (z : List Int) (mo p : Int) : Rs (List Int) := (vm z mo p).bind [] fun x p1 => lgo z x.toNat p1 []
/-- The number whose bytes these are, the lowest first. -/
def lev : List Int → Int
  | [] => 0
  | b :: l => b + 256 * lev l
def fx (z : List Int) (k p : Int) : Rs Int := (tk z k p).map lev

theorem own_of_row {w : World} {g B : Nat} {z : List Int} (h : Blk w g (z.map (Value.int .u8)).toArray 5) (hB : B ≤ g) (hm : z.length ≤ 1000000) : Own w B (.slice (some ⟨g, 0, none⟩) z.length z.length) z :=
  ⟨by simp, .inr ⟨g, z.length, _, rfl, hB, h, Nat.le_refl _, by simp only [maxLen]; omega, by simp, by rw [Nat.mul_one]; exact List.take_of_length_le (by simp)⟩⟩

/-- What Take hands back, as a row of the call's own. -/
def BRPost (b : Nat) (s : Value) (n : Nat) (g : Rs (List Int)) (p c q : Int) (w : World) (e : Ending) (w' : World) : Prop :=
  ∃ v l p' c' q', e = .returned v ∧ Own w' w.heap.size v l ∧ Kp b w w' ∧ IsRd w' b s p' c' q' ∧ St [] n g p c q l p' c' q'
theorem take_st (b : Nat) (a : Option Addr) (n m : Nat) (z : List Int) (p c q x : Int) (w : World) (h : IsRd w b (.slice a n m) p c q) (hz : Bs w a n z) (h0 : 0 ≤ p) (h1 : p ≤ n) (hm : n ≤ m) (hn : n ≤ 1000000) :
    Calls Try.prog 39 #[.pointer (some ⟨b, 0, none⟩), .int .i64 x] w (BRPost b (.slice a n m) n (tk z x p) p c q w) := by
  refine (take_any b a n m z p c q x w h hz h0 h1 hm hn).mono ?_
  rintro e w' ⟨ok, p', c', q', hk, hr, hs, h⟩
  have hst := hs.st hz.1 h0 h1
  rcases h with ⟨rfl, g, rfl, hg, hblk⟩ | ⟨rfl, rfl⟩
  · have hx : 0 ≤ x ∧ x ≤ n - p := by
      rcases hs with ⟨_, h, _⟩ | ⟨_, _, h, _⟩ | ⟨_, _, h, _⟩ | ⟨_, a2, a3, _⟩
      · cases h
      · cases h
      · cases h
      · exact ⟨a2, a3⟩
    have hl : (piece z p.toNat (p + x).toNat).length = x.toNat := by rw [length_piece hz.1 (by omega)]; omega
    have ho := own_of_row hblk hg (by rw [hl]; omega)
    rw [hl] at ho
    exact ⟨_, _, _, _, _, rfl, ho, hk, hr, hst⟩
  · exact ⟨_, _, _, _, _, rfl, Own.nil _ _, hk, hr, hst⟩

set_option maxHeartbeats 400000 in
theorem bread_any (b : Nat) (a : Option Addr) (n m : Nat) (z : List Int) (p c q mo : Int) (w : World) (h : IsRd w b (.slice a n m) p c q) (hz : Bs w a n z) (h0 : 0 ≤ p) (h1 : p ≤ n) (hm : n ≤ m) (hn : n ≤ 1000000) (hby : ∀ x ∈ z, 0 ≤ x ∧ x < 256) (hmo : mo ≤ 9223372036854775807) :
    Calls Try.prog 21 #[.pointer (some ⟨b, 0, none⟩), .int .i64 mo] w (BRPost b (.slice a n m) n (bl z mo p) p c q w) := by
  go_enter Try.func21, Try.ntmps21
  go_wp2_with fail
  refine (vint_any _ _ _ _ _ _ _ _ _ _ h hz h0 h1 hn hby hmo).mono ?_
  rintro e w1 ⟨x, p1, c1, q1, rfl, hk1, hr1, hs1⟩
  have hst := hs1.st hz.1 h0 h1 hby
  have hz1 := hz.kp h (by simp) hk1
  obtain ⟨p10, p11⟩ := hst.place
  have HS := Lib.hid hst
  clear hs1 hst
  go_wp2_with fail
  refine (take_st _ _ _ _ _ _ _ _ _ _ hr1 hz1 p10 p11 hm hn).mono ?_
  rintro e w2 ⟨v, l, p2, c2, q2, rfl, ho, hk2, hr2, hs2⟩
  have HS2 := Lib.hid (HS.out.bind (f := fun x p1 => tk z x p1) hs2)
  have ho2 : Own w2 w.heap.size v l := Own.base ho fun g hg => Nat.le_trans hk1.size (ho.ge g hg)
  clear hs2 ho
  go_wp2
  go_ret
  exact ⟨v, l, p2, c2, q2, rfl, ho2, hk1.trans hk2, hr2, HS2.out⟩

def lenV : Value → Nat
  | .slice _ n _ => n
  | _ => 0
/-- Numbers that a call read. -/
def BLPost (b : Nat) (s : Value) (n : Nat) (g : Rs (List Int)) (p c q : Int) (w : World) (e : Ending) (w' : World) : Prop :=
  ∃ v l p' c' q', e = .returned v ∧ OwnU w' w.heap.size v l ∧ Kp b w w' ∧ IsRd w' b s p' c' q' ∧ St [] n g p c q l p' c' q' ∧ ∀ x ∈ l, 0 ≤ x ∧ x < 18446744073709551616

theorem vg_shape {z : List Int} {p : Int} (h : (vg z p).2.2.1 = 0) : vg z p = ((vg z p).1, (vg z p).2.1, 0, 0) := by
  have e : (vg z p).2.2.2 = 0 := by
    exact if_pos h
  exact Prod.ext rfl (Prod.ext rfl (Prod.ext h e))
theorem vm_shape {z : List Int} {mo p : Int} (h : (vm z mo p).2.2.1 = 0) : vm z mo p = ((vm z mo p).1, (vm z mo p).2.1, 0, 0) := by
  obtain ⟨h1, _, h3⟩ := vm_ok h
  rw [h3]
  exact vg_shape h1
/-- The state of the loop: so far without a fault, or with one. -/
def LS (b : Nat) (a : Option Addr) (n m : Nat) (z : List Int) (mo p c q : Int) (NN : Nat) (w : World) (gk : Nat) (v : Value) (wr : World) : Prop :=
  ∃ (pk ck qk : Int) (acc : List Int), OwnU wr w.heap.size v acc ∧ IsRd wr b (.slice a n m) pk ck qk ∧ Kp b w wr ∧ 0 ≤ pk ∧ pk ≤ n ∧
    ((gk = (n - pk).toNat + 1 ∧ (acc.length : Int) + (n - pk) ≤ n + 1 ∧ ck = 0 ∧ qk = q ∧ c = 0 ∧ Hid (acc.length ≤ NN ∧ rl z mo p = lgo z (NN - acc.length) pk acc ∧ ∀ x ∈ acc, 0 ≤ x ∧ x < 18446744073709551616)) ∨
     (ck ≠ 0 ∧ Hid (St [] n (rl z mo p) p c q [] pk ck qk)))
set_option maxRecDepth 100000 in
set_option maxHeartbeats 2000000 in
theorem breadlist_any (b : Nat) (a : Option Addr) (n m : Nat) (z : List Int) (p c q mo : Int) (w : World) (h : IsRd w b (.slice a n m) p c q) (hz : Bs w a n z) (h0 : 0 ≤ p) (h1 : p ≤ n) (hn : n ≤ 100000) (hby : ∀ x ∈ z, 0 ≤ x ∧ x < 256) (hmo : mo ≤ 9223372036854775807) :
    Calls Try.prog 23 #[.pointer (some ⟨b, 0, none⟩), .int .i64 mo] w (BLPost b (.slice a n m) n (rl z mo p) p c q w) := by
  have HBY := Lib.hid hby
  clear hby
  go_enter Try.func23, Try.ntmps23
  go_wp2
  go_step3
  go_wp2_with fail
  refine (vint_any _ _ _ _ _ _ _ _ _ _ h hz h0 h1 (by omega) HBY.out hmo).mono ?_
  rintro e w1 ⟨N, p1, c1, q1, rfl, hk1, hr1, hs1⟩
  have hst := hs1.st hz.1 h0 h1 HBY.out
  obtain ⟨p10, p11⟩ := hst.place
  obtain ⟨n0, _⟩ := vm_bd hst HBY.out
  have HS := Lib.hid hst
  clear hs1 hst
  obtain ⟨NN, rfl⟩ := Int.eq_ofNat_of_zero_le n0
  go_wp2
  go_step3
  go_wp2
  go_loopg [6] ((n - p1).toNat + 1) (fun gk v wr => LS b a n m z mo p c q NN w gk v wr)
  case atStart =>
    by_cases hc1 : c1 = 0
    · have hg := HS.out
      rw [hc1] at hg
      obtain ⟨hc, g0, gv, gp, gq⟩ := hg.good
      subst hc1
      subst hc
      rw [gq] at hr1
      refine ⟨p1, 0, q, [], OwnU.nil _ _, hr1, hk1, p10, p11, .inl ⟨rfl, by simp; omega, rfl, rfl, rfl, Lib.hid ⟨by simp, ?_, by simp⟩⟩⟩
      have := vm_shape g0
      unfold rl
      rw [Rs.bind_of (v := (NN : Int)) (p' := p1) (by rw [gv, gp]; exact this), Int.toNat_natCast]
      rfl
    · have hb := St.bind (f := fun x p1 => lgo z x.toNat p1 []) HS.out (St.stay (d := []) p10 p11 hc1)
      exact ⟨p1, c1, q1, [], OwnU.nil _ _, hr1, hk1, p10, p11, .inr ⟨hc1, Lib.hid hb⟩⟩
  case round =>
    obtain ⟨pk, ck, qk, acc, ho, hr, hk, k0, k1, hst⟩ := hrel
    rcases hst with ⟨hg, hal, hck, hqk, hc, H⟩ | ⟨hck, H⟩
    · subst hck
      subst hqk
      subst hc
      go_wp2_with fail
      refine (good_any _ _ _ _ _ _ hr).mono ?_
      rintro e w2 ⟨rfl, hb2⟩
      rw [show ((0 : Int) == 0) = true from rfl]
      have hr2 := hr.below hb2
      have ho2 : OwnU w2 w.heap.size _ acc := own_below ho hb2
      have hk2 := hk.trans (Kp.of_below hb2)
      clear hr ho hk hb2
      obtain ⟨A1, cc1, rfl⟩ := ho2.slice
      by_cases hkN : acc.length = NN
      · have hb : ((acc.length : Int) == (NN : Int)) = true := by rw [hkN]; simp
        have hz0 : NN - acc.length = 0 := by omega
        have e := H.out.2.1
        rw [hz0] at e
        have HE := Lib.hid (show rl z mo p = (acc, pk, 0, 0) from e)
        clear e hz0 hkN
        go_wp2
        rw [Exit.noGoto_ret]
        go_ret
        exact ⟨_, acc, _, _, _, rfl, ho2, hk2, hr2, St.done HE.out k0 k1, H.out.2.2⟩
      · have hb : ((acc.length : Int) == (NN : Int)) = false := by simp; omega
        have hN : NN - acc.length = (NN - (acc.length + 1)) + 1 := by have := H.out.1; omega
        have hz2 := hz.kp h (by simp) hk2
        have HLT : Hid (acc.length + 1 ≤ NN) := Lib.hid (by have := H.out.1; omega)
        clear hkN
        go_wp2_with fail
        refine (vread_any _ _ _ _ _ _ _ _ _ hr2 hz2 k0 k1 (by omega) HBY.out).mono ?_
        rintro e w3 ⟨x, p', c', q', rfl, hk3, hr3, hs3⟩
        have hst3 := hs3.st hz.1 k0 k1 HBY.out
        have hx := rd_lt hs3 hz.1 k0 k1 HBY.out
        have hmv : c' = 0 → pk + 1 ≤ p' := fun hc => by
          rcases rd_ways hs3 hz.1 k0 k1 HBY.out with ⟨_, _, _, _, _, h, _⟩ | ⟨h, _, hc2, _⟩
          · exact h
          · rw [hc] at hc2; exact absurd hc2.symm h
        obtain ⟨p0', p1'⟩ := hst3.place
        have HST := Lib.hid hst3
        have HN := Lib.hid hN
        have HMV := Lib.hid hmv
        have hk4 := hk2.trans hk3
        have ho3 : OwnU w3 w.heap.size _ acc := own_kp ho2 hk3 (OwnU.ne_rd ho2 hr2)
        clear hs3 hst3 hN hk2 hk3 ho2 hr2 hz2 hmv
        have hbA := below_one w3 (.cells #[.int .u64 x] 48)
        have hoA := own_below ho3 hbA
        have hB9 : w.heap.size ≤ (w3.alloc (.cells #[.int .u64 x] 48)).heap.size := by have := hk4.size; simp; omega
        have hrA := hr3.below hbA
        have hkA := hk4.trans (Kp.of_below hbA)
        have hrwA := rw_new w3 (uv [x]) 48
        have hneA := OwnU.ne_rd hoA hrA
        have hgeA := own_ge hoA
        have HLEN : Hid (acc.length + 1 ≤ 1000000) := Lib.hid (by omega)
        clear ho3 hr3 hk4 hbA
        go_wp2_with (at_builtin; go_must (refine list_append_rw kindU rfl (.tmp 19) (.tmp 22) rfl w.heap.size _ _ _ rfl hoA _ 1 _ (uv [x]) rfl rfl hrwA (by simp) (uv_one _) HLEN.out (by omega) hB9 ?_; intro v' w10 ho' hg' hgr; have hk10 := Kp.grown hkA hg' hgeA; have hr10 := rd_grown hrA hg' hneA; clear hrwA hoA hrA hkA hneA hgeA))
        by_cases hc : c' = 0
        · have h1 := HST.out
          have h2 := HMV.out hc
          subst hc
          obtain ⟨_, g0, gv, gp, gq⟩ := h1.good
          subst gq
          go_roundg ((n - p').toNat + 1)
          case measure => omega
          case rel =>
            refine ⟨p', 0, _, acc ++ [x], ?_, hr10, hk10, p0', p1', .inl ⟨rfl, by rw [List.length_append]; simp; omega, rfl, rfl, rfl, Lib.hid ⟨by rw [List.length_append]; exact HLT.out, ?_, ?_⟩⟩⟩
            · unfold OwnU; rw [List.length_append, uv, List.map_append]; exact ho'
            · rw [H.out.2.1, HN.out, lgo, Rs.bind_of (v := x) (p' := p') (by rw [gv, gp]; exact vg_shape g0), List.length_append]; rfl
            · intro t ht
              rcases List.mem_append.1 ht with ht | ht
              · exact H.out.2.2 t ht
              · simp at ht; subst ht; exact hx
        · go_roundg 0
          case measure => omega
          case rel =>
            refine ⟨p', c', q', acc ++ [x], ?_, hr10, hk10, p0', p1', .inr ⟨hc, Lib.hid ?_⟩⟩
            · unfold OwnU; rw [List.length_append, uv, List.map_append]; exact ho'
            · have hb := St.bind (f := fun x p1 => lgo z (NN - (acc.length + 1)) p1 (acc ++ [x])) HST.out (St.stay (d := []) p0' p1' hc)
              rw [H.out.2.1, HN.out, lgo]
              exact hb
    · have hcb : (ck == 0) = false := by simpa using hck
      clear hck
      go_wp2_with fail
      refine (good_any _ _ _ _ _ _ hr).mono ?_
      rintro e w2 ⟨rfl, hb2⟩
      rw [hcb]
      go_wp2
      rw [Exit.noGoto_ret]
      go_ret
      exact ⟨_, [], _, _, _, rfl, OwnU.nil _ _, hk.trans (Kp.of_below hb2), hr.below hb2, H.out, by simp⟩
end Go.Proofs.Ytkedmhopajpkhaa.Cur
