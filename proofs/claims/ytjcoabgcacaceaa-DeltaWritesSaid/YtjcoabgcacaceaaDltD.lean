/- Falling lists read by the program: a number below another one; Read. -/
import Derived.Test.YtjcoabgcacaceaaDltC
namespace Go.Proofs.Ytjcoabgcacaceaa.Cur
open Go.RowKit Mem
set_option linter.unusedVariables false

/-- The reader's side and the document's side of 'a number, then a test of it'. -/
theorem St.tst {α : Type} {d : α} {n : Nat} {g : Rs Int} {p c q v p1 c1 q1 : Int} {bad : Int → Prop} [DecidablePred bad] {C P : Int} {r : Int → α} (h : St 0 n g p c q v p1 c1 q1) (hC : C ≠ 0) {u : α} {c2 q2 : Int}
    (k : (bad v ∧ u = d ∧ FailSt c1 q1 C P c2 q2) ∨ (¬ bad v ∧ u = (if c1 = 0 then r v else d) ∧ c2 = c1 ∧ q2 = q1)) :
    St d n (g.bind d fun x p1 => if bad x then (d, 0, C, P) else (r x, p1, 0, 0)) p c q u p1 c2 q2 := by
  have hp := h.place
  refine h.bind ?_
  rcases k with ⟨hb, rfl, hf⟩ | ⟨hb, rfl, rfl, rfl⟩
  · rcases hf with ⟨rfl, rfl, rfl⟩ | ⟨hc, rfl, rfl⟩
    · unfold fq
      rw [if_neg hC]
      exact St.fault (x := u) (y := 0) (by rw [if_pos hb]) hC hp.1 hp.2
    · exact St.stay hp.1 hp.2 hc
  · by_cases hc : c2 = 0
    · subst hc
      rw [if_pos rfl]
      exact St.done (by rw [if_neg hb]) hp.1 hp.2
    · rw [if_neg hc]
      exact St.stay hp.1 hp.2 hc
theorem FailSt.nz {c q C P c2 q2 : Int} (h : FailSt c q C P c2 q2) (hC : C ≠ 0) : c2 ≠ 0 := by
  rcases h with ⟨_, rfl, _⟩ | ⟨h, rfl, _⟩
  · exact hC
  · exact h

/-- A number below b, by its step. -/
def db (z : List Int) (b p : Int) : Rs Int := (vg z p).bind 0 fun x p1 => if b ≤ x then (0, 0, 13, p) else (b - x - 1, p1, 0, 0)
theorem dgo_succ (z : List Int) (k : Nat) (p b : Int) (acc : List Int) : dgo z (k + 1) p b acc = (db z b p).bind [] fun y p1 => dgo z k p1 y (acc ++ [y]) := by
  rw [dgo]
  unfold db Rs.bind
  by_cases h : (vg z p).2.2.1 ≠ 0
  · rw [if_pos h, if_pos h, if_pos (by exact h)]
  · rw [if_neg h, if_neg h]
    dsimp only
    by_cases hx : b ≤ (vg z p).1
    · simp [hx]
    · simp [hx]
def DbPost (b : Nat) (s : Value) (n : Nat) (z : List Int) (be p c q : Int) (w : World) (e : Ending) (w' : World) : Prop :=
  ∃ v u p' c' q', e = .returned (.int .u64 v) ∧ Kp b w w' ∧ IsRd w' b s p' c' q' ∧ St 0 n (db z be p) p c q u p' c' q' ∧ 0 ≤ v ∧ v < 18446744073709551616 ∧ (c' = 0 → v = u ∧ p + 1 ≤ p')
set_option maxHeartbeats 1000000 in
theorem readbelow_any (b : Nat) (a : Option Addr) (n m : Nat) (z : List Int) (be p c q : Int) (w : World) (h : IsRd w b (.slice a n m) p c q) (hz : Bs w a n z) (h0 : 0 ≤ p) (h1 : p ≤ n) (hn : n ≤ 1000000) (hby : ∀ x ∈ z, 0 ≤ x ∧ x < 256) (be0 : 0 ≤ be) (be1 : be < 18446744073709551616) :
    Calls Try.prog 31 #[.pointer (some ⟨b, 0, none⟩), .int .u64 be] w (DbPost b (.slice a n m) n z be p c q w) := by
  go_enter Try.func31, Try.ntmps31
  go_wp2_with fail
  refine (at_any _ _ _ _ _ _ h).mono ?_
  rintro e w' ⟨rfl, rfl⟩
  go_wp2_with fail
  refine (vread_any _ _ _ _ _ _ _ _ _ h hz h0 h1 hn hby).mono ?_
  rintro e w1 ⟨x, p', c', q', rfl, hk, hr, hs⟩
  have hst := hs.st hz.1 h0 h1 hby
  have hx := rd_lt hs hz.1 h0 h1 hby
  have hmv : c' = 0 → p + 1 ≤ p' := fun hc => by
    by_cases h00 : c = 0
    · subst h00
      rcases rd_ways hs hz.1 h0 h1 hby with ⟨_, _, _, _, _, h, _⟩ | ⟨h, _, hc2, _⟩
      · exact h
      · rw [hc] at hc2; exact absurd hc2.symm h
    · exact absurd (hst.bad h00).2.1 (by rw [hc]; exact fun e => h00 e.symm)
  have HS := Lib.hid hst
  have HM := Lib.hid hmv
  clear hs hst hmv h hz hby
  by_cases hle : be ≤ x
  · have d1 : decide (be ≤ x) = true := by simpa using hle
    go_wp2_with fail
    refine (fail_any _ _ _ _ _ _ _ _ hr).mono ?_
    rintro e w2 ⟨c2, q2, rfl, hk2, hr2, hf⟩
    have HF := Lib.hid hf
    clear hf
    go_wp2
    go_ret
    exact ⟨0, 0, p', c2, q2, rfl, hk.trans hk2, hr2, HS.out.tst (bad := fun x => be ≤ x) (r := fun x => be - x - 1) (by decide) (.inl ⟨hle, rfl, HF.out⟩), by decide, by decide, fun hc => absurd hc (HF.out.nz (by decide))⟩
  · have d1 : decide (be ≤ x) = false := by simpa using hle
    have e1 : IntKind.u64.wrap (be - x) = be - x := by rw [wrapu]; omega
    have e2 : IntKind.u64.wrap (be - x - 1) = be - x - 1 := by rw [wrapu]; omega
    have HLE := Lib.hid hle
    clear hle
    go_wp2
    go_ret
    exact ⟨be - x - 1, if c' = 0 then be - x - 1 else 0, p', c', q', rfl, hk, hr, HS.out.tst (bad := fun x => be ≤ x) (r := fun x => be - x - 1) (by decide) (.inr ⟨by have := HLE.out; omega, rfl, rfl, rfl⟩), by have := HLE.out; omega, by have := HLE.out; omega, fun hc => ⟨(if_pos hc).symm, HM.out hc⟩⟩

set_option maxRecDepth 100000 in
set_option maxHeartbeats 2000000 in
theorem dread_any (b : Nat) (a : Option Addr) (n m : Nat) (z : List Int) (p c q be mo : Int) (w : World) (h : IsRd w b (.slice a n m) p c q) (hz : Bs w a n z) (h0 : 0 ≤ p) (h1 : p ≤ n) (hn : n ≤ 100000) (hby : ∀ x ∈ z, 0 ≤ x ∧ x < 256) (hmo : mo ≤ 9223372036854775807) (be0 : 0 ≤ be) (be1 : be < 18446744073709551616) :
    Calls Try.prog 19 #[.pointer (some ⟨b, 0, none⟩), .int .u64 be, .int .i64 mo] w (BLPost b (.slice a n m) n (dl z mo be p) p c q w) := by
  have HBY := Lib.hid hby
  have HBE := Lib.hid (And.intro be0 be1)
  clear hby be0 be1
  go_enter Try.func19, Try.ntmps19
  go_wp2_with fail
  refine (vint_any _ _ _ _ _ _ _ _ _ _ h hz h0 h1 (by omega) HBY.out hmo).mono ?_
  rintro e w1 ⟨N, p1, c1, q1, rfl, hk1, hr1, hs1⟩
  have hst := hs1.st hz.1 h0 h1 HBY.out
  obtain ⟨p10, p11⟩ := hst.place
  obtain ⟨n0, _⟩ := vm_bd hst HBY.out
  by_cases hc1 : c1 = 0
  case neg =>
    have hN := hst.nil hc1
    have hb := St.bind (f := fun x p1 => dgo z x.toNat p1 be []) hst (St.stay (d := []) p10 p11 hc1)
    have HB := Lib.hid hb
    subst hN
    clear hs1 hst hb
    go_wp2
    go_loopw [7, 11] (fun v i wr => v = .slice none 0 0 ∧ i = .int .i64 0 ∧ wr = w1) (fun _ i _ => 0)
    case atStart => exact ⟨rfl, rfl, rfl⟩
    case round =>
      obtain ⟨rfl, rfl, rfl⟩ := hrel
      go_wp2
      go_ret
      exact ⟨_, [], _, _, _, rfl, OwnU.nil _ _, hk1, hr1, HB.out, by simp⟩
  case pos =>
    subst hc1
    obtain ⟨hc, g0, gv, gp, gq⟩ := hst.good
    subst hc
    rw [gq] at hr1
    obtain ⟨NN, rfl⟩ := Int.eq_ofNat_of_zero_le n0
    have HDL : Hid (dl z mo be p = dgo z NN p1 be []) := Lib.hid (by
      have := vm_shape g0
      unfold dl
      rw [Rs.bind_of (v := (NN : Int)) (p' := p1) (by rw [gv, gp]; exact this), Int.toNat_natCast])
    clear hs1 hst g0 gv gp gq
    go_wp2
    go_loopw [1, 7, 11] (fun bv v i wr => ∃ (k : Nat) (pk bk : Int) (acc : List Int), k ≤ NN ∧ (k : Int) ≤ pk ∧ i = .int .i64 k ∧ bv = .int .u64 bk ∧ OwnU wr w.heap.size v acc ∧ acc.length = k ∧ IsRd wr b (.slice a n m) pk 0 q ∧ Kp b w wr ∧ 0 ≤ pk ∧ pk ≤ n ∧ Hid (0 ≤ bk ∧ bk < 18446744073709551616 ∧ dl z mo be p = dgo z (NN - k) pk bk acc ∧ ∀ x ∈ acc, 0 ≤ x ∧ x < 18446744073709551616)) (fun _ _ i _ => NN - (intOf i).toNat)
    case atStart => exact ⟨0, p1, be, [], by omega, by omega, rfl, rfl, OwnU.nil _ _, rfl, hr1, hk1, p10, p11, Lib.hid ⟨HBE.out.1, HBE.out.2, HDL.out, by simp⟩⟩
    case round =>
      clear hr1 hk1
      obtain ⟨k, pk, bk, acc, hkN, hkp, rfl, rfl, ho, rfl, hr, hk, k0, k1, H⟩ := hrel
      obtain ⟨A1, cc1, rfl⟩ := ho.slice
      by_cases hlt : acc.length < NN
      · have hz1 := hz.kp h (by simp) hk
        go_wp2_with fail
        refine (readbelow_any b a n m z bk pk 0 q _ hr hz1 k0 k1 (by omega) HBY.out H.out.1 H.out.2.1).mono ?_
        rintro e w2 ⟨v, u, p', c', q', rfl, hk2, hr2, hs2, v0, v1, hv⟩
        obtain ⟨p0', p1'⟩ := hs2.place
        have ho2 : OwnU w2 w.heap.size _ acc := own_kp ho hk2 (OwnU.ne_rd ho hr)
        have hk3 := hk.trans hk2
        have HS := Lib.hid hs2
        have HV := Lib.hid hv
        have HN := Lib.hid (show NN - acc.length = (NN - (acc.length + 1)) + 1 by omega)
        clear ho hr hk hk2 hz1 hs2 hv
        go_wp2_with fail
        refine (good_any _ _ _ _ _ _ hr2).mono ?_
        rintro e w3 ⟨rfl, hb3⟩
        have hr3 := hr2.below hb3
        have ho3 : OwnU w3 w.heap.size _ acc := own_below ho2 hb3
        have hk4 := hk3.trans (Kp.of_below hb3)
        clear hr2 ho2 hk3 hb3
        by_cases hc : c' = 0
        · obtain ⟨hvu, hpp⟩ := HV.out hc
          subst hvu
          subst hc
          have h1 := HS.out
          obtain ⟨_, g0, gv, gp, gq⟩ := h1.good
          rw [gq] at hr3
          have HG : Hid (dgo z (NN - acc.length) pk bk acc = dgo z (NN - (acc.length + 1)) p' v (acc ++ [v])) := Lib.hid (by
            rw [HN.out, dgo_succ]
            have e4 : (db z bk pk).2.2.2 = 0 := by
              have g1 := g0
              unfold db at g1 ⊢
              obtain ⟨a0, e5⟩ := Rs.bind_ok g1
              rw [e5] at g1 ⊢
              split
              · rename_i hx; rw [if_pos hx] at g1; exact absurd g1 (by show ¬ (13 : Int) = 0; decide)
              · rfl
            rw [Rs.bind_of (v := v) (p' := p') (by rw [gv, gp]; exact Prod.ext rfl (Prod.ext rfl (Prod.ext g0 e4)))])
          clear h1 g0 gv gp gq
          rw [show ((0 : Int) == 0) = true from rfl]
          have hbA := below_one w3 (.cells #[.int .u64 v] 22)
          have hoA := own_below ho3 hbA
          have hB9 : w.heap.size ≤ (w3.alloc (.cells #[.int .u64 v] 22)).heap.size := by have := hk4.size; simp; omega
          have hrA := hr3.below hbA
          have hkA := hk4.trans (Kp.of_below hbA)
          have hrwA := rw_new w3 (uv [v]) 22
          have hneA := OwnU.ne_rd hoA hrA
          have hgeA := own_ge hoA
          have HLEN : Hid (acc.length + 1 ≤ 1000000) := Lib.hid (by omega)
          clear ho3 hr3 hk4 hbA
          go_wp2_with (at_builtin; go_must (refine list_append_rw kindU rfl (.tmp 19) (.tmp 21) rfl w.heap.size _ _ _ rfl hoA _ 1 _ (uv [v]) rfl rfl hrwA (by simp) (uv_one _) HLEN.out (by omega) hB9 ?_; intro v' w10 ho' hg' hgr; have hk10 := Kp.grown hkA hg' hgeA; have hr10 := rd_grown hrA hg' hneA; clear hrwA hoA hrA hkA hneA hgeA))
          go_roundw
          case rel =>
            refine ⟨acc.length + 1, p', v, acc ++ [v], hlt, by omega, by go_num, rfl, ?_, by rw [List.length_append]; rfl, hr10, hk10, p0', p1', Lib.hid ⟨v0, v1, ?_, ?_⟩⟩
            · unfold OwnU; rw [List.length_append, uv, List.map_append]; exact ho'
            · rw [H.out.2.2.1, HG.out]
            · intro t ht
              rcases List.mem_append.1 ht with ht | ht
              · exact H.out.2.2.2 t ht
              · simp at ht; subst ht; exact ⟨v0, v1⟩
          case measure => simp [intOf]; omega
        · have hcb : (c' == 0) = false := by simpa using hc
          rw [hcb]
          have HE : Hid (St [] n (dl z mo be p) p 0 q [] p' c' q') := Lib.hid (by
            have hb := St.bind (f := fun y p1 => dgo z (NN - (acc.length + 1)) p1 y (acc ++ [y])) HS.out (St.stay (d := []) p0' p1' hc)
            rw [H.out.2.2.1, HN.out, dgo_succ]
            obtain ⟨_, _, hb⟩ := hb
            refine ⟨p0', p1', ?_⟩
            exact hb)
          clear hc
          go_wp2
          go_ret
          exact ⟨_, [], _, _, _, rfl, OwnU.nil _ _, hk4, hr3, HE.out, by simp⟩
      · have hkk : acc.length = NN := by omega
        have HE : Hid (dl z mo be p = (acc, pk, 0, 0)) := Lib.hid (by rw [H.out.2.2.1, hkk, Nat.sub_self]; rfl)
        clear hkk
        go_wp2
        go_ret
        exact ⟨_, acc, _, _, _, rfl, ho, hk, hr, St.done HE.out k0 k1, H.out.2.2.2⟩
end Go.Proofs.Ytjcoabgcacaceaa.Cur
