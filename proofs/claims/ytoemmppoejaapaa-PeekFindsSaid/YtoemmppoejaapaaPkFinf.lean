/- As the seat's text, without what nothing here names. -/
import Derived.Test.YtoemmppoejaapaaRows
import Derived.Test.YtoemmppoejaapaaPfdCf
import Derived.Test.YtoemmppoejaapaaPekAf
import Derived.Test.YtoemmppoejaapaaPekVf
import Derived.Test.YtoemmppoejaapaaK23f
import Derived.BigQuiet
import Derived.ProofKit
import Derived.OpenShut
import Derived.ShutString
import Derived.ChangeOld
namespace Go.Proofs.Ytoemmppoejaapaa.peekFinds
open Go.ChangeShapes Go.WideShapes Go.ChangeAt Go.RowKit
open Go.ChangeMaps (open_string shut_string)
set_option linter.unusedVariables false
theorem own : ownKnob Try.prog.godebug = none := by kernel_rfl
theorem laidOut : laidOutB Try.prog = true := by kernel_rfl
open Cur Mem
set_option maxRecDepth 100000
def HkW (w w' : World) : Prop := Below w.heap.size w w'
theorem rises_of {z : List Int} (h : z.Pairwise (· < ·)) : risesB z = true := (risesB_iff z).2 fun i hi => by
  rw [List.getD_eq_getElem?_getD, List.getD_eq_getElem?_getD, List.getElem?_eq_getElem (by omega), List.getElem?_eq_getElem hi]
  exact List.pairwise_iff_getElem.1 h i (i + 1) (by omega) hi (by omega)
theorem st_nil {L : List En} {R : List Int} (h : StList L 0 R) : R = [] := List.eq_nil_iff_forall_not_mem.2 fun x hx => by
  obtain ⟨j, hj, _⟩ := (h.2.1 x).1 hx
  omega
theorem rof_pos {b x : Int} {L : List En} {n : Nat} {R : List Int} (h : StList L n R) (hx : x ∈ R) : 1 ≤ (rofz b x L n).length := by
  obtain ⟨j, hj, y, hy, e⟩ := (h.2.1 x).1 hx
  exact List.length_pos_of_mem (rofz_mem.2 ⟨j, hj, ⟨y, hy, e⟩, rfl⟩)
theorem has_of {b s : Int} {L : List En} {n : Nat} {R : List Int} (h : StList L n R) : R.contains s = decide (0 < (rofz b s L n).length) := by
  by_cases hx : s ∈ R
  · rw [decide_eq_true (show 0 < (rofz b s L n).length from rof_pos h hx)]
    simpa using hx
  · rw [decide_eq_false (fun h0 => ?_)]
    · simpa using hx
    · obtain ⟨x, hx2⟩ := List.exists_mem_of_length_pos h0
      obtain ⟨j, hj, ⟨y, hy, e⟩, _⟩ := rofz_mem.1 hx2
      exact hx ((h.2.1 s).2 ⟨j, hj, y, hy, e⟩)
theorem rofz_len (b s : Int) (L : List En) (n : Nat) : (rofz b s L n).length ≤ n := by
  unfold rofz
  rw [List.length_map]
  have := List.length_filter_le (fun j => decide (0 ≤ fnl (L.getD j en0).1 s)) (List.range n)
  rwa [List.length_range] at this
set_option maxHeartbeats 16000000 in
theorem walk {H : Type} (enc : TypeId × Value → H) (w : World) (base : Nat) (v0 : Value) (d0 : DataW H) (p0 : List MemPlace) (g0 : Value.okWide Try.prog w .any base 25 v0) (h0 : DataW.Trod enc Try.prog w 0 (fun _ => true) true 25 v0 d0 p0) (v1 : Value) (d1 : DataW H) (p1 : List MemPlace) (g1 : Value.okWide Try.prog w .any base 22 v1) (h1 : DataW.Trod enc Try.prog w 0 (fun _ => true) true 22 v1 d1 p1) (v2 : Value) (d2 : DataW H) (p2 : List MemPlace) (g2 : Value.okWide Try.prog w .any base 22 v2) (h2 : DataW.Trod enc Try.prog w 0 (fun _ => true) true 22 v2 d2 p2) :
    Calls Try.prog 3 #[v0, v1, v2] w fun e w' => e = .returned (.bool true) ∧ Below w.heap.size w w' := by
  obtain ⟨ep, bs, A, n, m, L, rfl, ⟨e0, e9⟩, ⟨b0, b9⟩, hnm, hnil, hz⟩ := open_batch g0 h0
  obtain ⟨p, rfl, p0, p9⟩ := open_u64 g1 h1
  obtain ⟨t, rfl, t0, t9⟩ := open_u64 g2 h2
  clear g0 h0 g1 h1 g2 h2
  have hX := Blk.new w (btenc ep bs A n m) 25
  have hb := below_one w (.cells (btenc ep bs A n m) 25)
  have HZ := Lib.hid hz
  obtain ⟨x0, x1, x2⟩ := hX.c3
  have hl := long25_any _ ep bs A n m L _ (hz.below hb)
  have HB := Lib.hid hb
  have HX := Lib.hid hX
  clear hz hX hb
  go_enter Try.func3, Try.ntmps3
  go_wp2_with fail
  generalize w.alloc (.cells (btenc ep bs A n m) 25) = w0 at *
  refine hl.mono ?_
  rintro e w1 ⟨lb, rfl, hbd, hlong⟩
  have HBD := Lib.hid (HB.out.trans (hbd.mono HB.out.size))
  have HX1 := Lib.hid (HX.out.below hbd)
  clear hl hbd x0 x1 x2 HX HB
  cases lb
  case true =>
    clear hlong HX1
    go_wp2_with fail
    refine (live26_any _).mono ?_
    rintro e wl ⟨rfl, hbl⟩
    have hfin := HBD.out.trans (Below.mono hbl HBD.out.size)
    go_wp2
    go_ret
    exact ⟨rfl, hfin⟩
  obtain ⟨hn30, hsm, _⟩ := hlong rfl
  have HSM := Lib.hid hsm
  clear hlong hsm
  have HLN := Lib.hid HZ.out.1
  have hat := peekat_any _ ep bs A n m L p w1 (HZ.out.below HBD.out) (by omega) HSM.out b0 b9 p0 (by omega)
  unfold PAtPost at hat
  obtain ⟨x0, x1, x2⟩ := HX1.out.c3
  go_wp2_with fail
  refine hat.mono ?_
  rintro e w2 ⟨hb2, hcase⟩
  obtain ⟨A3, l3, m3, B3, r3, r3', K3, D3, rfl, hk3, hl50, hbl3, hd3, hd256, HC3⟩ : ∃ A3 l3 m3 B3 r3 r3' K3 D3, e = .returned (.tuple #[enagg A3 l3 m3 B3 r3 r3', .bool (pin bs n p)]) ∧ Lks w2 (fun _ => True) A3 l3 K3 ∧ l3 ≤ 1000000 ∧ blen 1000000 K3 ∧ Bs w2 B3 r3 D3 ∧ (∀ x ∈ D3, 0 ≤ x ∧ x < 256) ∧
      Hid ((pin bs n p = false ∧ K3 = [] ∧ D3 = []) ∨ (pin bs n p = true ∧ ∃ k : Nat, k < n ∧ p = bs + k ∧ L.getD k en0 = (K3, D3))) := by
    rcases hcase with ⟨hp, rfl⟩ | ⟨hp, k, K3, D3, A3, l3, m3, B3, r3, r3', hk, e1, e2, rfl, hin⟩
    · exact ⟨none, 0, 0, none, 0, 0, [], [], by rw [hp], ⟨rfl, Sq.nil _ _ _ _⟩, by omega, (show blen 1000000 [] from fun s hs => nomatch hs), ⟨rfl, fun h => by simp at h⟩, (fun x hx => by cases hx), Lib.hid (.inl ⟨hp, rfl, rfl⟩)⟩
    · have hs := HSM.out k
      rw [e2] at hs
      have hm : L.getD k en0 ∈ L := by
        rw [List.getD_eq_getElem?_getD, List.getElem?_eq_getElem (by rw [HLN.out]; exact hk)]
        exact List.getElem_mem _
      have hby := (HZ.out.bds _ hm).2
      rw [e2] at hby
      refine ⟨A3, l3, m3, B3, r3, r3', K3, D3, by rw [hp], hin.1.mono (fun _ _ _ => trivial), ?_, fun s h9 => by have := hs.2.1 s h9; omega, hin.2.2.1, hby, Lib.hid (.inr ⟨hp, k, hk, e1, e2⟩)⟩
      have h1 := hin.1.1
      have h2 := hs.1
      dsimp only at h2
      omega
  clear hat hcase x0 x1 x2
  have hA := below_one w2 (.cells (enc' A3 l3 m3 B3 r3 r3') 31)
  have hbA := hb2.trans (hA.mono hb2.size)
  have HE3 := Lib.hid (Blk.new w2 (enc' A3 l3 m3 B3 r3 r3') 31)
  have HBD3 := Lib.hid (HBD.out.trans (hbA.mono HBD.out.size))
  have HX3 := Lib.hid (HX1.out.below hbA)
  have HK3 := Lib.hid (hk3.below hA)
  have HD3 := Lib.hid (hd3.below hA)
  have HBL3 := Lib.hid (And.intro hbl3 hd256)
  clear hb2 hA hbA hk3 hd3 hbl3 hd256 HBD HX1
  go_upto_region 4 with (fail)
  generalize w2.alloc (.cells (enc' A3 l3 m3 B3 r3 r3') 31) = w3 at *
  generalize w2.heap.size = eb at *
  obtain ⟨PI, hPI⟩ : ∃ PI, PI = pin bs n p := ⟨_, rfl⟩
  rw [← hPI] at HC3 ⊢
  have HPI := Lib.hid hPI
  clear hPI
  have HOF := Lib.hid (fun w' (h : HkW w3 w') => peekof_any ep bs A n m L t w' ((HZ.out.below (HBD3.out.trans (Below.mono h HBD3.out.size))).mono (fun x hx _ => by have h1 := (HBD3.out.trans (Below.mono h HBD3.out.size)).size; have h2 : x < w.heap.size := hx; show x < w'.heap.size; omega)) hn30 HSM.out b0 b9)
  have HSTR := Lib.hid (fun w' (h : HkW w3 w') => peekstreams_any ep bs A n m L w' ((HZ.out.below (HBD3.out.trans (Below.mono h HBD3.out.size))).mono (fun x hx _ => by have h1 := (HBD3.out.trans (Below.mono h HBD3.out.size)).size; have h2 : x < w.heap.size := hx; show x < w'.heap.size; omega)) hn30 HSM.out b0 b9)
  have L1 : ∀ w', HkW w3 w' → (w'.cell? ⟨w.heap.size, 0, none⟩ = some (.int .u64 ep) ∧ w'.cell? ⟨w.heap.size, 1, none⟩ = some (.int .u64 bs)) ∧ w'.cell? ⟨w.heap.size, 2, none⟩ = some (.slice A n m) := fun w' h => ⟨⟨(HX3.out.below h).c3.1, (HX3.out.below h).c3.2.1⟩, (HX3.out.below h).c3.2.2⟩
  have hS : HkW w3 w3.drew := below_one' _
  refine Seq.wp_region_seq (HkW w3) (by kernel_rfl) (by kernel_rfl) hS ?_
  generalize w3.drew = wd at *
  repeat (first | (refine Seq.Seq.skip (by rfl) ?_; (try simp only [Act.put, List.setIfInBounds_toArray, List.set_cons_zero, List.set_cons_succ])) | (refine Seq.Seq.det ?_ (by rfl) (fun w hS => ?_) ?_; rotate_left; ((try dsimp only at hS); go_simp; (try rw [if_pos (by omega)]); with_reducible rfl); (try simp only [Act.put, List.setIfInBounds_toArray, List.set_cons_zero, List.set_cons_succ])))
  refine Seq.Seq.make (by rfl) (by rfl) (fun K Q' hK => ?_)
  go_simp
  go_at_call 8
  refine (HOF.out _ hS).mono ?_
  rintro e v1 ⟨a1, l1, m1, rfl, hu1, hbx⟩
  refine hK.out _ _ ((show HkW _ _ from Below.trans hS (hbx.mono (Below.size hS)))) ?_
  clear hK K
  try simp only [Act.put, List.setIfInBounds_toArray, List.set_cons_zero, List.set_cons_succ]
  have hS1 : HkW w3 v1 := Below.trans hS (hbx.mono (Below.size hS))
  repeat (first | (refine Seq.Seq.skip (by rfl) ?_; (try simp only [Act.put, List.setIfInBounds_toArray, List.set_cons_zero, List.set_cons_succ])) | (refine Seq.Seq.det ?_ (by rfl) (fun w hS => ?_) ?_; rotate_left; ((try dsimp only at hS); go_simp; (try rw [if_pos (by omega)]); with_reducible rfl); (try simp only [Act.put, List.setIfInBounds_toArray, List.set_cons_zero, List.set_cons_succ])))
  refine Seq.Seq.make (by rfl) (by rfl) (fun K Q' hK => ?_)
  go_simp
  go_at_call 9
  refine (HSTR.out _ hS1).mono ?_
  rintro e v2 ⟨a2, l2, m2, R, rfl, hu2, hst, hby⟩
  refine hK.out _ _ ((show HkW _ _ from Below.trans hS1 (hby.mono (Below.size hS1)))) ?_
  clear hK K
  try simp only [Act.put, List.setIfInBounds_toArray, List.set_cons_zero, List.set_cons_succ]
  have hS2 : HkW w3 v2 := Below.trans hS1 (hby.mono (Below.size hS1))
  repeat (first | (refine Seq.Seq.skip (by rfl) ?_; (try simp only [Act.put, List.setIfInBounds_toArray, List.set_cons_zero, List.set_cons_succ])) | (refine Seq.Seq.det ?_ (by rfl) (fun w hS => ?_) ?_; rotate_left; ((try dsimp only at hS); go_simp; (try rw [if_pos (by omega)]); with_reducible rfl); (try simp only [Act.put, List.setIfInBounds_toArray, List.set_cons_zero, List.set_cons_succ])))
  refine Seq.Seq.nil ?_
  have HU := Lib.hid (hu1.below hby)
  have HRU := Lib.hid hu2
  have HST := Lib.hid hst
  have HBD4 := Lib.hid (HBD3.out.trans (Below.mono hS2 HBD3.out.size))
  have HX4 := Lib.hid (HX3.out.below hS2)
  have HE4 := Lib.hid (HE3.out.below hS2)
  have HK4 := Lib.hid (HK3.out.below hS2)
  have HD4 := Lib.hid (HD3.out.below hS2)
  clear L1 hS hS1 hS2 hbx hby hu1 hu2 hst HOF HSTR HX3 HE3 HK3 HD3 HBD3
  obtain ⟨x0, x1, x2⟩ := HX4.out.c3
  obtain ⟨y0, y1⟩ := HE4.out.c2
  have e5 : IntKind.u64.wrap (n : Int) = n := IntWalk.u64_in _ (by omega)
  have h16 := rensame_any _ (fun _ => True) A3 none B3 none l3 0 m3 0 r3 0 r3' 0 K3 [] D3 [] v2 HK4.out ⟨rfl, Sq.nil _ _ _ _⟩ hl50 (by omega) HBL3.out.1 (show blen 1000000 [] from fun s hs => nomatch hs) HD4.out ⟨rfl, fun h => by simp at h⟩ HBL3.out.2 (fun x hx => by cases hx)
  unfold BPost at h16
  by_cases hbn : bs + n < 18446744073709551616
  case neg =>
    have e6 : IntKind.u64.wrap (bs + n) = bs + n - 18446744073709551616 := u64_over (by omega) (by omega)
    have hv0 : vend bs n = 0 := if_neg hbn
    have hpf : PI = false := by rw [HPI.out]; exact decide_eq_false (fun h => by rw [e6] at h; omega)
    have hR := HST.out
    rw [hv0] at hR
    have hR0 := st_nil hR
    have hl2 : l2 = 0 := by rw [← HRU.out.1, hR0]; rfl
    have hl1 : l1 = 0 := by rw [← HU.out.1, hv0]; rfl
    have hlt : bs + n - 18446744073709551616 < bs := by omega
    obtain ⟨_, rfl, rfl⟩ : PI = false ∧ K3 = [] ∧ D3 = [] := by
      rcases HC3.out with h | h
      · exact h
      · rw [hpf] at h; cases h.1
    rw [decide_eq_true rfl] at h16
    subst hpf hl2 hl1
    have HBD5 := HBD4
    clear hv0 hR hR0 HST HU HRU HC3 HPI HX4 HE4
    go_wp2_with fail
    refine h16.mono ?_
    rintro e w6 ⟨rfl, hb6⟩
    have HBD := Lib.hid (HBD4.out.trans (hb6.mono HBD4.out.size))
    clear h16 hb6 x0 x1 x2 y0 y1 HBD4 HBD5
    go_wp2_with fail
    refine (live26_any _).mono ?_
    rintro e wl ⟨rfl, hbl⟩
    have hfin := HBD.out.trans (Below.mono hbl HBD.out.size)
    go_wp2
    go_ret
    exact ⟨rfl, hfin⟩
  have e6 : IntKind.u64.wrap (bs + n) = bs + n := IntWalk.u64_in _ (by omega)
  have hvn : vend bs n = n := if_pos hbn
  rw [hvn] at HU HST
  have hge : ¬ (bs + n < bs) := by omega
  have HLZ : Hid ((rofz bs t L n).length ≤ 1000000) := Lib.hid (by have := rofz_len bs t L n; omega)
  have HRB : Hid (∀ x ∈ R, 0 ≤ x ∧ x < 18446744073709551616) := Lib.hid (fun x hx => by
    obtain ⟨j, hj, y, hy, e⟩ := (HST.out.2.1 x).1 hx
    have hm : L.getD j en0 ∈ L := by
      rw [List.getD_eq_getElem?_getD, List.getElem?_eq_getElem (by rw [HLN.out]; exact hj)]
      exact List.getElem_mem _
    have := ((HZ.out.bds _ hm).1 y hy).1
    rw [← e]; exact this)
  rcases HC3.out with ⟨hpf, rfl, rfl⟩ | ⟨hpt, k, hk, hpk, hLk⟩
  · have hthere : ¬ (bs ≤ p ∧ p < bs + n) := fun h => by
      rw [HPI.out] at hpf
      unfold pin at hpf
      rw [e6] at hpf
      exact absurd h (of_decide_eq_false hpf)
    rw [decide_eq_true rfl] at h16
    subst hpf
    have HS16 := Lib.hid (fun w' (h : HkW v2 w') => rensame_any _ (fun _ => True) A3 none B3 none l3 0 m3 0 r3 0 r3' 0 [] [] [] [] w' (HK4.out.below h) ⟨rfl, Sq.nil _ _ _ _⟩ hl50 (by omega) HBL3.out.1 (show blen 1000000 [] from fun s hs => nomatch hs) (HD4.out.below h) ⟨rfl, fun h => by simp at h⟩ HBL3.out.2 (fun x hx => by cases hx))
    rw [decide_eq_true rfl] at HS16
    have L1 : ∀ w', HkW v2 w' → ((w'.cell? ⟨w.heap.size, 1, none⟩ = some (.int .u64 bs)) ∧ w'.cell? ⟨w.heap.size, 2, none⟩ = some (.slice A n m)) ∧ (w'.cell? ⟨eb, 0, none⟩ = some (.slice A3 l3 m3) ∧ w'.cell? ⟨eb, 1, none⟩ = some (.slice B3 r3 r3')) := fun w' h => ⟨⟨(HX4.out.below h).c3.2.1, (HX4.out.below h).c3.2.2⟩, (HE4.out.below h).c2⟩
    obtain ⟨th, hth⟩ : ∃ th, th = false := ⟨false, rfl⟩
    clear HC3 HPI h16 hvn
    by_cases hbp : bs ≤ p
    · have hpn : ¬ (p < bs + n) := fun h => hthere ⟨hbp, h⟩
      clear hthere
      go_wp2
      have hS : HkW v2 v2.drew := below_one' _
      refine Seq.wp_region_seq (HkW v2) (by kernel_rfl) (by kernel_rfl) hS ?_
      generalize v2.drew = wd at *
      clear x0 x1 x2 y0 y1
      repeat (first | (refine Seq.Seq.skip (by rfl) ?_; (try simp only [Act.put, List.setIfInBounds_toArray, List.set_cons_zero, List.set_cons_succ])) | (refine Seq.Seq.det ?_ (by rfl) (fun w hS => ?_) ?_; rotate_left; ((try dsimp only at hS); go_simp; (try rw [if_pos (by omega)]); with_reducible rfl); (try simp only [Act.put, List.setIfInBounds_toArray, List.set_cons_zero, List.set_cons_succ])))
      refine Seq.Seq.make (by rfl) (by rfl) (fun K Q' hK => ?_)
      go_simp
      go_at_call 10
      refine (HS16.out _ hS).mono ?_
      rintro e w7 ⟨rfl, hbx⟩
      have hS1 : HkW v2 w7 := Below.trans hS (hbx.mono (Below.size hS))
      refine hK.out _ _ (hS1) ?_
      clear hK K
      try simp only [Act.put, List.setIfInBounds_toArray, List.set_cons_zero, List.set_cons_succ]
      repeat (first | (refine Seq.Seq.skip (by rfl) ?_; (try simp only [Act.put, List.setIfInBounds_toArray, List.set_cons_zero, List.set_cons_succ])) | (refine Seq.Seq.det ?_ (by rfl) (fun w hS => ?_) ?_; rotate_left; ((try dsimp only at hS); go_simp; (try rw [if_pos (by omega)]); with_reducible rfl); (try simp only [Act.put, List.setIfInBounds_toArray, List.set_cons_zero, List.set_cons_succ])))
      refine Seq.Seq.nil ?_
      have HK7 : Hid (Below v2.heap.size v2 w7) := Lib.hid hS1
      have HBD7 := Lib.hid (HBD4.out.trans (HK7.out.mono HBD4.out.size))
      have HX7 := Lib.hid (HX4.out.below HK7.out)
      clear L1 hS hS1 hbx HS16 HE4 HK4 HD4 HBD4 HX4
      have hro := rof_any _ ep bs (A) n m L t w7 (HZ.out.below HBD7.out) hn30 HSM.out b0 hbn
      obtain ⟨x0, x1, x2⟩ := HX7.out.c3
      have HU1 := Lib.hid (HU.out.below HK7.out)
      have HR1 := Lib.hid (HRU.out.below HK7.out)
      go_wp2_with fail
      refine hro.mono ?_
      rintro e w8 ⟨a8, l8, m8, rfl, hu8, hb8⟩
      have HB8 := Lib.hid (HBD7.out.trans (hb8.mono HBD7.out.size))
      have HX8 := Lib.hid (HX7.out.below hb8)
      have HU8 := Lib.hid (HU1.out.below hb8)
      have HR8 := Lib.hid (HR1.out.below hb8)
      have hsm := rsame5_gen a1 a8 l1 l8 m1 m8 _ _ w8 HU8.out hu8 (by have := HU8.out.1; have := HLZ.out; omega) (by have := hu8.1; have := HLZ.out; omega)
      unfold BPost at hsm
      rw [decide_eq_true rfl] at hsm
      clear hro hu8 hb8 x0 x1 x2 HBD7 HX7 HU1 HR1
      go_wp2_with fail
      refine hsm.mono ?_
      rintro e w9 ⟨rfl, hb9⟩
      have HB9 := Lib.hid (HB8.out.trans (hb9.mono HB8.out.size))
      have HX9 := Lib.hid (HX8.out.below hb9)
      have HU9 := Lib.hid (HU8.out.below hb9)
      have HR9 := Lib.hid (HR8.out.below hb9)
      have hri := rrises_any a2 l2 m2 R w9 HR9.out (by have := HR9.out.1; have := HST.out.2.2; omega) HRB.out
      unfold BPost at hri
      rw [rises_of HST.out.1] at hri
      clear hsm hb9 HB8 HX8 HU8 HR8
      go_wp2_with fail
      refine hri.mono ?_
      rintro e w10 ⟨rfl, hb10⟩
      have HB10 := Lib.hid (HB9.out.trans (hb10.mono HB9.out.size))
      have HX10 := Lib.hid (HX9.out.below hb10)
      have HU10 := Lib.hid (HU9.out.below hb10)
      have HR10 := Lib.hid (HR9.out.below hb10)
      have hha := rhas_any a2 l2 m2 R t w10 HR10.out (by have := HR10.out.1; have := HST.out.2.2; omega)
      unfold BPost at hha
      rw [has_of (b := bs) HST.out, HU10.out.1] at hha
      obtain ⟨pb, hpb⟩ : ∃ pb, decide (0 < l1) = pb := ⟨_, rfl⟩
      have hpb2 : decide ((0 : Int) < (l1 : Int)) = pb := by rw [← hpb]; simp
      have hbb : (pb != pb) = false := by simp
      rw [hpb] at hha
      clear hri hb10 HB9 HX9 HU9 HR9
      go_wp2_with fail
      refine hha.mono ?_
      rintro e w11 ⟨rfl, hb11⟩
      have HB11 := Lib.hid (HB10.out.trans (hb11.mono HB10.out.size))
      have HX11 := Lib.hid (HX10.out.below hb11)
      have HR11 := Lib.hid (HR10.out.below hb11)
      clear hha hb11 HB10 HX10 HU10 HR10 HU
      have HBW0 := HB11
      have HL2 := Lib.hid HR11.out.1
      have HRW := HR11
      have hl2b : l2 ≤ 5000 := by have := HST.out.2.2; have := HR11.out.1; omega
      go_wp2
      go_loopw [13] (fun v wr => ∃ i : Nat, i ≤ l2 ∧ v = .int .i64 i ∧ Hid (Below w11.heap.size w11 wr)) (fun v _ => l2 - (intOf v).toNat)
      case atStart => exact ⟨0, by omega, rfl, Lib.hid (Below.refl _ _)⟩
      case round =>
        obtain ⟨i, hi, rfl, HR⟩ := hrel
        have hlr : i ≤ R.length := by rw [HL2.out]; exact hi
        by_cases hil : i < l2
        · have hiR : i < R.length := by rw [HL2.out]; exact hil
          obtain ⟨g5, o5, rfl, hc⟩ := HRW.out.2 (by rw [List.length_map]; omega)
          have hx := hc i (.int .u64 R[i]) (by rw [List.getElem?_map, List.getElem?_eq_getElem hiR]; rfl)
          have HPOS := Lib.hid (rof_pos (b := bs) HST.out (List.getElem_mem hiR))
          obtain ⟨x, hxe⟩ : ∃ x, x = R[i] := ⟨_, rfl⟩
          rw [← hxe] at hx HPOS
          have HXC := Lib.hid hx
          have ei : (i : Int) < l2 := by omega
          have e4 : IntKind.i64.wrap ((i : Int) + 1) = ((i + 1 : Nat) : Int) := IntWalk.i64_in _ (by omega)
          have HRO := Lib.hid (fun w' (h : HkW wr w') => rof_any _ ep bs (A) n m L x w' (HZ.out.below ((HBW0.out.trans (HR.out.mono HBW0.out.size)).trans (Below.mono h (HBW0.out.trans (HR.out.mono HBW0.out.size)).size))) hn30 HSM.out b0 hbn)
          have L1 : ∀ w', HkW wr w' → ((w'.cell? ⟨w.heap.size, 0, none⟩ = some (.int .u64 ep) ∧ w'.cell? ⟨w.heap.size, 1, none⟩ = some (.int .u64 bs)) ∧ w'.cell? ⟨w.heap.size, 2, none⟩ = some (.slice (A) n m)) ∧ w'.cell? ⟨g5, o5 + i, none⟩ = some (.int .u64 x) := fun w' h => by
            have h1 : Below w11.heap.size w11 w' := HR.out.trans (Below.mono h HR.out.size)
            have h2 := (HX11.out.below h1).c3
            exact ⟨⟨⟨h2.1, h2.2.1⟩, h2.2.2⟩, (h1.cell (lt_of_cell HXC.out)).trans HXC.out⟩
          clear hc hx hxe hlr hiR
          go_wp2
          have hS : HkW wr wr.drew := below_one' _
          refine Seq.wp_region_seq (HkW wr) (by kernel_rfl) (by kernel_rfl) hS ?_
          generalize wr.drew = wd at *
          repeat (first | (refine Seq.Seq.skip (by rfl) ?_; (try simp only [Act.put, List.setIfInBounds_toArray, List.set_cons_zero, List.set_cons_succ])) | (refine Seq.Seq.det ?_ (by rfl) (fun w hS => ?_) ?_; rotate_left; ((try dsimp only at hS); go_simp; (try rw [if_pos (by omega)]); with_reducible rfl); (try simp only [Act.put, List.setIfInBounds_toArray, List.set_cons_zero, List.set_cons_succ])))
          refine Seq.Seq.make (by rfl) (by rfl) (fun K Q' hK => ?_)
          go_simp
          go_at_call 12
          refine (HRO.out _ hS).mono ?_
          rintro e v1 ⟨a9, l9, m9, rfl, hu9, hbx⟩
          have hS1 : HkW wr v1 := Below.trans hS (hbx.mono (Below.size hS))
          have hl9 : 1 ≤ l9 := by rw [← hu9.1]; exact HPOS.out
          have hl9' : ((l9 : Int) == 0) = false := by simp; omega
          clear hu9
          refine hK.out _ _ (hS1) ?_
          clear hK K
          try simp only [Act.put, List.setIfInBounds_toArray, List.set_cons_zero, List.set_cons_succ]
          repeat (first | (refine Seq.Seq.skip (by rfl) ?_; (try simp only [Act.put, List.setIfInBounds_toArray, List.set_cons_zero, List.set_cons_succ])) | (refine Seq.Seq.det ?_ (by rfl) (fun w hS => ?_) ?_; rotate_left; ((try dsimp only at hS); go_simp; (try rw [if_pos (by omega)]); with_reducible rfl); (try simp only [Act.put, List.setIfInBounds_toArray, List.set_cons_zero, List.set_cons_succ])))
          refine Seq.Seq.nil ?_
          have HBN := Lib.hid (HR.out.trans (Below.mono hS1 HR.out.size))
          clear L1 hS hS1 hbx HRO
          go_wp2
          go_roundw
          case rel => exact ⟨i + 1, by omega, by go_num, HBN⟩
          case measure => simp [intOf]; omega
        · have ei : ¬ (i : Int) < l2 := by omega
          have HBD := Lib.hid (HBW0.out.trans (HR.out.mono HBW0.out.size))
          clear hlr
          go_wp2_with fail
          refine (live26_any _).mono ?_
          rintro e wl ⟨rfl, hbl⟩
          have hfin := HBD.out.trans (Below.mono hbl HBD.out.size)
          go_wp2
          go_ret
          exact ⟨rfl, hfin⟩
    · clear hthere
      go_wp2
      have hS : HkW v2 v2.drew := below_one' _
      refine Seq.wp_region_seq (HkW v2) (by kernel_rfl) (by kernel_rfl) hS ?_
      generalize v2.drew = wd at *
      clear x0 x1 x2 y0 y1
      repeat (first | (refine Seq.Seq.skip (by rfl) ?_; (try simp only [Act.put, List.setIfInBounds_toArray, List.set_cons_zero, List.set_cons_succ])) | (refine Seq.Seq.det ?_ (by rfl) (fun w hS => ?_) ?_; rotate_left; ((try dsimp only at hS); go_simp; (try rw [if_pos (by omega)]); with_reducible rfl); (try simp only [Act.put, List.setIfInBounds_toArray, List.set_cons_zero, List.set_cons_succ])))
      refine Seq.Seq.make (by rfl) (by rfl) (fun K Q' hK => ?_)
      go_simp
      go_at_call 10
      refine (HS16.out _ hS).mono ?_
      rintro e w7 ⟨rfl, hbx⟩
      have hS1 : HkW v2 w7 := Below.trans hS (hbx.mono (Below.size hS))
      refine hK.out _ _ (hS1) ?_
      clear hK K
      try simp only [Act.put, List.setIfInBounds_toArray, List.set_cons_zero, List.set_cons_succ]
      repeat (first | (refine Seq.Seq.skip (by rfl) ?_; (try simp only [Act.put, List.setIfInBounds_toArray, List.set_cons_zero, List.set_cons_succ])) | (refine Seq.Seq.det ?_ (by rfl) (fun w hS => ?_) ?_; rotate_left; ((try dsimp only at hS); go_simp; (try rw [if_pos (by omega)]); with_reducible rfl); (try simp only [Act.put, List.setIfInBounds_toArray, List.set_cons_zero, List.set_cons_succ])))
      refine Seq.Seq.nil ?_
      have HK7 : Hid (Below v2.heap.size v2 w7) := Lib.hid hS1
      have HBD7 := Lib.hid (HBD4.out.trans (HK7.out.mono HBD4.out.size))
      have HX7 := Lib.hid (HX4.out.below HK7.out)
      clear L1 hS hS1 hbx HS16 HE4 HK4 HD4 HBD4 HX4
      have hro := rof_any _ ep bs (A) n m L t w7 (HZ.out.below HBD7.out) hn30 HSM.out b0 hbn
      obtain ⟨x0, x1, x2⟩ := HX7.out.c3
      have HU1 := Lib.hid (HU.out.below HK7.out)
      have HR1 := Lib.hid (HRU.out.below HK7.out)
      go_wp2_with fail
      refine hro.mono ?_
      rintro e w8 ⟨a8, l8, m8, rfl, hu8, hb8⟩
      have HB8 := Lib.hid (HBD7.out.trans (hb8.mono HBD7.out.size))
      have HX8 := Lib.hid (HX7.out.below hb8)
      have HU8 := Lib.hid (HU1.out.below hb8)
      have HR8 := Lib.hid (HR1.out.below hb8)
      have hsm := rsame5_gen a1 a8 l1 l8 m1 m8 _ _ w8 HU8.out hu8 (by have := HU8.out.1; have := HLZ.out; omega) (by have := hu8.1; have := HLZ.out; omega)
      unfold BPost at hsm
      rw [decide_eq_true rfl] at hsm
      clear hro hu8 hb8 x0 x1 x2 HBD7 HX7 HU1 HR1
      go_wp2_with fail
      refine hsm.mono ?_
      rintro e w9 ⟨rfl, hb9⟩
      have HB9 := Lib.hid (HB8.out.trans (hb9.mono HB8.out.size))
      have HX9 := Lib.hid (HX8.out.below hb9)
      have HU9 := Lib.hid (HU8.out.below hb9)
      have HR9 := Lib.hid (HR8.out.below hb9)
      have hri := rrises_any a2 l2 m2 R w9 HR9.out (by have := HR9.out.1; have := HST.out.2.2; omega) HRB.out
      unfold BPost at hri
      rw [rises_of HST.out.1] at hri
      clear hsm hb9 HB8 HX8 HU8 HR8
      go_wp2_with fail
      refine hri.mono ?_
      rintro e w10 ⟨rfl, hb10⟩
      have HB10 := Lib.hid (HB9.out.trans (hb10.mono HB9.out.size))
      have HX10 := Lib.hid (HX9.out.below hb10)
      have HU10 := Lib.hid (HU9.out.below hb10)
      have HR10 := Lib.hid (HR9.out.below hb10)
      have hha := rhas_any a2 l2 m2 R t w10 HR10.out (by have := HR10.out.1; have := HST.out.2.2; omega)
      unfold BPost at hha
      rw [has_of (b := bs) HST.out, HU10.out.1] at hha
      obtain ⟨pb, hpb⟩ : ∃ pb, decide (0 < l1) = pb := ⟨_, rfl⟩
      have hpb2 : decide ((0 : Int) < (l1 : Int)) = pb := by rw [← hpb]; simp
      have hbb : (pb != pb) = false := by simp
      rw [hpb] at hha
      clear hri hb10 HB9 HX9 HU9 HR9
      go_wp2_with fail
      refine hha.mono ?_
      rintro e w11 ⟨rfl, hb11⟩
      have HB11 := Lib.hid (HB10.out.trans (hb11.mono HB10.out.size))
      have HX11 := Lib.hid (HX10.out.below hb11)
      have HR11 := Lib.hid (HR10.out.below hb11)
      clear hha hb11 HB10 HX10 HU10 HR10 HU
      have HBW0 := HB11
      have HL2 := Lib.hid HR11.out.1
      have HRW := HR11
      have hl2b : l2 ≤ 5000 := by have := HST.out.2.2; have := HR11.out.1; omega
      go_wp2
      go_loopw [13] (fun v wr => ∃ i : Nat, i ≤ l2 ∧ v = .int .i64 i ∧ Hid (Below w11.heap.size w11 wr)) (fun v _ => l2 - (intOf v).toNat)
      case atStart => exact ⟨0, by omega, rfl, Lib.hid (Below.refl _ _)⟩
      case round =>
        obtain ⟨i, hi, rfl, HR⟩ := hrel
        have hlr : i ≤ R.length := by rw [HL2.out]; exact hi
        by_cases hil : i < l2
        · have hiR : i < R.length := by rw [HL2.out]; exact hil
          obtain ⟨g5, o5, rfl, hc⟩ := HRW.out.2 (by rw [List.length_map]; omega)
          have hx := hc i (.int .u64 R[i]) (by rw [List.getElem?_map, List.getElem?_eq_getElem hiR]; rfl)
          have HPOS := Lib.hid (rof_pos (b := bs) HST.out (List.getElem_mem hiR))
          obtain ⟨x, hxe⟩ : ∃ x, x = R[i] := ⟨_, rfl⟩
          rw [← hxe] at hx HPOS
          have HXC := Lib.hid hx
          have ei : (i : Int) < l2 := by omega
          have e4 : IntKind.i64.wrap ((i : Int) + 1) = ((i + 1 : Nat) : Int) := IntWalk.i64_in _ (by omega)
          have HRO := Lib.hid (fun w' (h : HkW wr w') => rof_any _ ep bs (A) n m L x w' (HZ.out.below ((HBW0.out.trans (HR.out.mono HBW0.out.size)).trans (Below.mono h (HBW0.out.trans (HR.out.mono HBW0.out.size)).size))) hn30 HSM.out b0 hbn)
          have L1 : ∀ w', HkW wr w' → ((w'.cell? ⟨w.heap.size, 0, none⟩ = some (.int .u64 ep) ∧ w'.cell? ⟨w.heap.size, 1, none⟩ = some (.int .u64 bs)) ∧ w'.cell? ⟨w.heap.size, 2, none⟩ = some (.slice (A) n m)) ∧ w'.cell? ⟨g5, o5 + i, none⟩ = some (.int .u64 x) := fun w' h => by
            have h1 : Below w11.heap.size w11 w' := HR.out.trans (Below.mono h HR.out.size)
            have h2 := (HX11.out.below h1).c3
            exact ⟨⟨⟨h2.1, h2.2.1⟩, h2.2.2⟩, (h1.cell (lt_of_cell HXC.out)).trans HXC.out⟩
          clear hc hx hxe hlr hiR
          go_wp2
          have hS : HkW wr wr.drew := below_one' _
          refine Seq.wp_region_seq (HkW wr) (by kernel_rfl) (by kernel_rfl) hS ?_
          generalize wr.drew = wd at *
          repeat (first | (refine Seq.Seq.skip (by rfl) ?_; (try simp only [Act.put, List.setIfInBounds_toArray, List.set_cons_zero, List.set_cons_succ])) | (refine Seq.Seq.det ?_ (by rfl) (fun w hS => ?_) ?_; rotate_left; ((try dsimp only at hS); go_simp; (try rw [if_pos (by omega)]); with_reducible rfl); (try simp only [Act.put, List.setIfInBounds_toArray, List.set_cons_zero, List.set_cons_succ])))
          refine Seq.Seq.make (by rfl) (by rfl) (fun K Q' hK => ?_)
          go_simp
          go_at_call 12
          refine (HRO.out _ hS).mono ?_
          rintro e v1 ⟨a9, l9, m9, rfl, hu9, hbx⟩
          have hS1 : HkW wr v1 := Below.trans hS (hbx.mono (Below.size hS))
          have hl9 : 1 ≤ l9 := by rw [← hu9.1]; exact HPOS.out
          have hl9' : ((l9 : Int) == 0) = false := by simp; omega
          clear hu9
          refine hK.out _ _ (hS1) ?_
          clear hK K
          try simp only [Act.put, List.setIfInBounds_toArray, List.set_cons_zero, List.set_cons_succ]
          repeat (first | (refine Seq.Seq.skip (by rfl) ?_; (try simp only [Act.put, List.setIfInBounds_toArray, List.set_cons_zero, List.set_cons_succ])) | (refine Seq.Seq.det ?_ (by rfl) (fun w hS => ?_) ?_; rotate_left; ((try dsimp only at hS); go_simp; (try rw [if_pos (by omega)]); with_reducible rfl); (try simp only [Act.put, List.setIfInBounds_toArray, List.set_cons_zero, List.set_cons_succ])))
          refine Seq.Seq.nil ?_
          have HBN := Lib.hid (HR.out.trans (Below.mono hS1 HR.out.size))
          clear L1 hS hS1 hbx HRO
          go_wp2
          go_roundw
          case rel => exact ⟨i + 1, by omega, by go_num, HBN⟩
          case measure => simp [intOf]; omega
        · have ei : ¬ (i : Int) < l2 := by omega
          have HBD := Lib.hid (HBW0.out.trans (HR.out.mono HBW0.out.size))
          clear hlr
          go_wp2_with fail
          refine (live26_any _).mono ?_
          rintro e wl ⟨rfl, hbl⟩
          have hfin := HBD.out.trans (Below.mono hbl HBD.out.size)
          go_wp2
          go_ret
          exact ⟨rfl, hfin⟩
  · subst hpt
    have hp1 : bs ≤ p := by omega
    have hp2 : p < bs + n := by omega
    have e7 : IntKind.u64.wrap (p - bs) = k := by rw [IntWalk.u64_in _ (by omega)]; omega
    obtain ⟨g, o, rfl, _, _, hc⟩ := HZ.out.cells (by omega)
    obtain ⟨Kq, Dq, aq, lq, mq, bq, rq, kq, he, _, _, hksq, _, _, hbsq, hbbq, _, hcellq⟩ := hc k hk
    rw [hLk] at he
    injection he with hq1 hq2
    subst hq1 hq2
    have hsq := HSM.out k
    rw [hLk] at hsq
    dsimp only at hsq
    have hlq : lq ≤ 1000000 := by have := hksq.1; omega
    have HS16 := Lib.hid (fun w' (h : HkW v2 w') => rensame_any _ _ A3 aq B3 bq l3 lq m3 mq r3 rq r3' kq K3 K3 D3 D3 w' (HK4.out.below h) (hksq.below (HBD4.out.trans (Below.mono h HBD4.out.size))) hl50 hlq HBL3.out.1 HBL3.out.1 (HD4.out.below h) (hbsq.below (HBD4.out.trans (Below.mono h HBD4.out.size))) HBL3.out.2 HBL3.out.2)
    rw [decide_eq_true rfl] at HS16
    have HCQ := Lib.hid hcellq
    have L1 : ∀ w', HkW v2 w' → ((w'.cell? ⟨w.heap.size, 1, none⟩ = some (.int .u64 bs)) ∧ w'.cell? ⟨w.heap.size, 2, none⟩ = some (.slice (some ⟨g, o, none⟩) n m)) ∧ (w'.cell? ⟨eb, 0, none⟩ = some (.slice A3 l3 m3) ∧ w'.cell? ⟨eb, 1, none⟩ = some (.slice B3 r3 r3')) ∧ (w'.cell? ⟨g, o + k * 2, none⟩ = some (.slice aq lq mq) ∧ w'.cell? ⟨g, o + k * 2 + 1, none⟩ = some (.slice bq rq kq)) := fun w' h => ⟨⟨(HX4.out.below h).c3.2.1, (HX4.out.below h).c3.2.2⟩, (HE4.out.below h).c2, HCQ.out w' (HBD4.out.trans (Below.mono h HBD4.out.size))⟩
    clear HC3 HPI h16 hvn hc hksq hbsq hbbq hcellq hsq hLk hpk
    go_wp2
    have hS : HkW v2 v2.drew := below_one' _
    refine Seq.wp_region_seq (HkW v2) (by kernel_rfl) (by kernel_rfl) hS ?_
    generalize v2.drew = wd at *
    clear x0 x1 x2 y0 y1
    repeat (first | (refine Seq.Seq.skip (by rfl) ?_; (try simp only [Act.put, List.setIfInBounds_toArray, List.set_cons_zero, List.set_cons_succ])) | (refine Seq.Seq.det ?_ (by rfl) (fun w hS => ?_) ?_; rotate_left; ((try dsimp only at hS); go_simp; (try rw [if_pos (by omega)]); with_reducible rfl); (try simp only [Act.put, List.setIfInBounds_toArray, List.set_cons_zero, List.set_cons_succ])))
    refine Seq.Seq.make (by rfl) (by rfl) (fun K Q' hK => ?_)
    go_simp
    go_at_call 10
    refine (HS16.out _ hS).mono ?_
    rintro e w7 ⟨rfl, hbx⟩
    have hS1 : HkW v2 w7 := Below.trans hS (hbx.mono (Below.size hS))
    refine hK.out _ _ (hS1) ?_
    clear hK K
    try simp only [Act.put, List.setIfInBounds_toArray, List.set_cons_zero, List.set_cons_succ]
    repeat (first | (refine Seq.Seq.skip (by rfl) ?_; (try simp only [Act.put, List.setIfInBounds_toArray, List.set_cons_zero, List.set_cons_succ])) | (refine Seq.Seq.det ?_ (by rfl) (fun w hS => ?_) ?_; rotate_left; ((try dsimp only at hS); go_simp; (try rw [if_pos (by omega)]); with_reducible rfl); (try simp only [Act.put, List.setIfInBounds_toArray, List.set_cons_zero, List.set_cons_succ])))
    refine Seq.Seq.nil ?_
    have HK7 : Hid (Below v2.heap.size v2 w7) := Lib.hid hS1
    have HBD7 := Lib.hid (HBD4.out.trans (HK7.out.mono HBD4.out.size))
    have HX7 := Lib.hid (HX4.out.below HK7.out)
    clear L1 hS hS1 hbx HS16 HE4 HK4 HD4 HBD4 HX4
    have hro := rof_any _ ep bs (some ⟨g, o, none⟩) n m L t w7 (HZ.out.below HBD7.out) hn30 HSM.out b0 hbn
    obtain ⟨x0, x1, x2⟩ := HX7.out.c3
    have HU1 := Lib.hid (HU.out.below HK7.out)
    have HR1 := Lib.hid (HRU.out.below HK7.out)
    go_wp2_with fail
    refine hro.mono ?_
    rintro e w8 ⟨a8, l8, m8, rfl, hu8, hb8⟩
    have HB8 := Lib.hid (HBD7.out.trans (hb8.mono HBD7.out.size))
    have HX8 := Lib.hid (HX7.out.below hb8)
    have HU8 := Lib.hid (HU1.out.below hb8)
    have HR8 := Lib.hid (HR1.out.below hb8)
    have hsm := rsame5_gen a1 a8 l1 l8 m1 m8 _ _ w8 HU8.out hu8 (by have := HU8.out.1; have := HLZ.out; omega) (by have := hu8.1; have := HLZ.out; omega)
    unfold BPost at hsm
    rw [decide_eq_true rfl] at hsm
    clear hro hu8 hb8 x0 x1 x2 HBD7 HX7 HU1 HR1
    go_wp2_with fail
    refine hsm.mono ?_
    rintro e w9 ⟨rfl, hb9⟩
    have HB9 := Lib.hid (HB8.out.trans (hb9.mono HB8.out.size))
    have HX9 := Lib.hid (HX8.out.below hb9)
    have HU9 := Lib.hid (HU8.out.below hb9)
    have HR9 := Lib.hid (HR8.out.below hb9)
    have hri := rrises_any a2 l2 m2 R w9 HR9.out (by have := HR9.out.1; have := HST.out.2.2; omega) HRB.out
    unfold BPost at hri
    rw [rises_of HST.out.1] at hri
    clear hsm hb9 HB8 HX8 HU8 HR8
    go_wp2_with fail
    refine hri.mono ?_
    rintro e w10 ⟨rfl, hb10⟩
    have HB10 := Lib.hid (HB9.out.trans (hb10.mono HB9.out.size))
    have HX10 := Lib.hid (HX9.out.below hb10)
    have HU10 := Lib.hid (HU9.out.below hb10)
    have HR10 := Lib.hid (HR9.out.below hb10)
    have hha := rhas_any a2 l2 m2 R t w10 HR10.out (by have := HR10.out.1; have := HST.out.2.2; omega)
    unfold BPost at hha
    rw [has_of (b := bs) HST.out, HU10.out.1] at hha
    obtain ⟨pb, hpb⟩ : ∃ pb, decide (0 < l1) = pb := ⟨_, rfl⟩
    have hpb2 : decide ((0 : Int) < (l1 : Int)) = pb := by rw [← hpb]; simp
    have hbb : (pb != pb) = false := by simp
    rw [hpb] at hha
    clear hri hb10 HB9 HX9 HU9 HR9
    go_wp2_with fail
    refine hha.mono ?_
    rintro e w11 ⟨rfl, hb11⟩
    have HB11 := Lib.hid (HB10.out.trans (hb11.mono HB10.out.size))
    have HX11 := Lib.hid (HX10.out.below hb11)
    have HR11 := Lib.hid (HR10.out.below hb11)
    clear hha hb11 HB10 HX10 HU10 HR10 HU
    have HBW0 := HB11
    have HL2 := Lib.hid HR11.out.1
    have HRW := HR11
    have hl2b : l2 ≤ 5000 := by have := HST.out.2.2; have := HR11.out.1; omega
    go_wp2
    go_loopw [13] (fun v wr => ∃ i : Nat, i ≤ l2 ∧ v = .int .i64 i ∧ Hid (Below w11.heap.size w11 wr)) (fun v _ => l2 - (intOf v).toNat)
    case atStart => exact ⟨0, by omega, rfl, Lib.hid (Below.refl _ _)⟩
    case round =>
      obtain ⟨i, hi, rfl, HR⟩ := hrel
      have hlr : i ≤ R.length := by rw [HL2.out]; exact hi
      by_cases hil : i < l2
      · have hiR : i < R.length := by rw [HL2.out]; exact hil
        obtain ⟨g5, o5, rfl, hc⟩ := HRW.out.2 (by rw [List.length_map]; omega)
        have hx := hc i (.int .u64 R[i]) (by rw [List.getElem?_map, List.getElem?_eq_getElem hiR]; rfl)
        have HPOS := Lib.hid (rof_pos (b := bs) HST.out (List.getElem_mem hiR))
        obtain ⟨x, hxe⟩ : ∃ x, x = R[i] := ⟨_, rfl⟩
        rw [← hxe] at hx HPOS
        have HXC := Lib.hid hx
        have ei : (i : Int) < l2 := by omega
        have e4 : IntKind.i64.wrap ((i : Int) + 1) = ((i + 1 : Nat) : Int) := IntWalk.i64_in _ (by omega)
        have HRO := Lib.hid (fun w' (h : HkW wr w') => rof_any _ ep bs (some ⟨g, o, none⟩) n m L x w' (HZ.out.below ((HBW0.out.trans (HR.out.mono HBW0.out.size)).trans (Below.mono h (HBW0.out.trans (HR.out.mono HBW0.out.size)).size))) hn30 HSM.out b0 hbn)
        have L1 : ∀ w', HkW wr w' → ((w'.cell? ⟨w.heap.size, 0, none⟩ = some (.int .u64 ep) ∧ w'.cell? ⟨w.heap.size, 1, none⟩ = some (.int .u64 bs)) ∧ w'.cell? ⟨w.heap.size, 2, none⟩ = some (.slice (some ⟨g, o, none⟩) n m)) ∧ w'.cell? ⟨g5, o5 + i, none⟩ = some (.int .u64 x) := fun w' h => by
          have h1 : Below w11.heap.size w11 w' := HR.out.trans (Below.mono h HR.out.size)
          have h2 := (HX11.out.below h1).c3
          exact ⟨⟨⟨h2.1, h2.2.1⟩, h2.2.2⟩, (h1.cell (lt_of_cell HXC.out)).trans HXC.out⟩
        clear hc hx hxe hlr hiR
        go_wp2
        have hS : HkW wr wr.drew := below_one' _
        refine Seq.wp_region_seq (HkW wr) (by kernel_rfl) (by kernel_rfl) hS ?_
        generalize wr.drew = wd at *
        repeat (first | (refine Seq.Seq.skip (by rfl) ?_; (try simp only [Act.put, List.setIfInBounds_toArray, List.set_cons_zero, List.set_cons_succ])) | (refine Seq.Seq.det ?_ (by rfl) (fun w hS => ?_) ?_; rotate_left; ((try dsimp only at hS); go_simp; (try rw [if_pos (by omega)]); with_reducible rfl); (try simp only [Act.put, List.setIfInBounds_toArray, List.set_cons_zero, List.set_cons_succ])))
        refine Seq.Seq.make (by rfl) (by rfl) (fun K Q' hK => ?_)
        go_simp
        go_at_call 12
        refine (HRO.out _ hS).mono ?_
        rintro e v1 ⟨a9, l9, m9, rfl, hu9, hbx⟩
        have hS1 : HkW wr v1 := Below.trans hS (hbx.mono (Below.size hS))
        have hl9 : 1 ≤ l9 := by rw [← hu9.1]; exact HPOS.out
        have hl9' : ((l9 : Int) == 0) = false := by simp; omega
        clear hu9
        refine hK.out _ _ (hS1) ?_
        clear hK K
        try simp only [Act.put, List.setIfInBounds_toArray, List.set_cons_zero, List.set_cons_succ]
        repeat (first | (refine Seq.Seq.skip (by rfl) ?_; (try simp only [Act.put, List.setIfInBounds_toArray, List.set_cons_zero, List.set_cons_succ])) | (refine Seq.Seq.det ?_ (by rfl) (fun w hS => ?_) ?_; rotate_left; ((try dsimp only at hS); go_simp; (try rw [if_pos (by omega)]); with_reducible rfl); (try simp only [Act.put, List.setIfInBounds_toArray, List.set_cons_zero, List.set_cons_succ])))
        refine Seq.Seq.nil ?_
        have HBN := Lib.hid (HR.out.trans (Below.mono hS1 HR.out.size))
        clear L1 hS hS1 hbx HRO
        go_wp2
        go_roundw
        case rel => exact ⟨i + 1, by omega, by go_num, HBN⟩
        case measure => simp [intOf]; omega
      · have ei : ¬ (i : Int) < l2 := by omega
        have HBD := Lib.hid (HBW0.out.trans (HR.out.mono HBW0.out.size))
        clear hlr
        go_wp2_with fail
        refine (live26_any _).mono ?_
        rintro e wl ⟨rfl, hbl⟩
        have hfin := HBD.out.trans (Below.mono hbl HBD.out.size)
        go_wp2
        go_ret
        exact ⟨rfl, hfin⟩
set_option maxRecDepth 100000 in
theorem lifted (os : Os) (started : os.Started) (H : Type) (enc : TypeId × Value → H) :
    ReturnsInHanded {} Try.checked os 3 .any (Rows.peekFindsSpec.pre6 enc Try.prog Try.f3 Rows.peekFindsRow.domain false) (Rows.peekFindsSpec.post enc Try.prog Try.f3 false true false false) := by
  refine returnsInHanded_of_change (C := Try.checked) own started (by kernel_rfl) Try.func3
    (ChangeSpec.witness6 (enc := enc) (C := Try.checked) false ⟨#[], #[.agg #[.int .u64 0, .int .u64 0, .slice none 0 0], .int .u64 0, .int .u64 0], []⟩ 8 (by kernel_rfl) (by kernel_rfl) (by kernel_rfl) (by kernel_rfl)) ?_
  intro W base args ds gs before hval0 hW hcnd _
  have hval : ∀ (j : Nat) t v, Try.f3.params[j]? = some t → args[j]? = some v → Value.okWide Try.prog W .any base t v := hval0
  have hW' := hW
  obtain ⟨p, q, hA0, hV, rfl, hfz, hnd⟩ := hW
  have hA : DataW.TrodAll enc Try.prog W 0 (fun _ => true) true Try.f3.params.toList args.toList ds p := hA0
  rw [Try.params3] at hA hval
  obtain ⟨v0, vs0, d0, ds0, p0, q0, hargs, rfl, rfl, h0, r0⟩ := trodAll_cons hA
  obtain ⟨v1, vs1, d1, ds1, p1, q1, rfl, rfl, rfl, h1, r1⟩ := trodAll_cons r0
  obtain ⟨v2, vs2, d2, ds2, p2, q2, rfl, rfl, rfl, h2, r2⟩ := trodAll_cons r1
  obtain ⟨rfl, rfl, rfl⟩ := trodAll_nil r2
  obtain rfl : args = #[v0, v1, v2] := by cases args; simp_all
  obtain ⟨rfl, rfl⟩ := trodVars_none hV
  have lt0 : ∀ x ∈ p0, x.block < W.heap.size := by obtain ⟨m, hm⟩ := h0; exact DataW.trod_lt m _ _ _ hm
  have lt1 : ∀ x ∈ p1, x.block < W.heap.size := by obtain ⟨m, hm⟩ := h1; exact DataW.trod_lt m _ _ _ hm
  have lt2 : ∀ x ∈ p2, x.block < W.heap.size := by obtain ⟨m, hm⟩ := h2; exact DataW.trod_lt m _ _ _ hm
  clear hA0 hval0
  refine (walk enc W base v0 d0 p0 (hval 0 25 v0 rfl rfl) h0 v1 d1 p1 (hval 1 22 v1 rfl rfl) h1 v2 d2 p2 (hval 2 22 v2 rfl rfl) h2).mono fun e W' ⟨he, bel⟩ => ?_
  subst he
  exact ⟨_, rfl, _, _, _, [], _, [], hW', trodAll_mk1 (shut_bool Try.underlying4 _), (trodAll_cons_mk (Below.trod laidOut (by kernel_rfl) (of_decide_eq_true (by kernel_rfl)) h0 bel lt0) (trodAll_cons_mk (Below.trod laidOut (by kernel_rfl) (of_decide_eq_true (by kernel_rfl)) h1 bel lt1) (trodAll_cons_mk (Below.trod laidOut (by kernel_rfl) (of_decide_eq_true (by kernel_rfl)) h2 bel lt2) trodAll_mk0))), rfl, bel.frame _, fun h => by cases h⟩
theorem over : Rows.peekFindsRow.holds Try.pinned (OpenSpec.ofChange Rows.peekFindsSpec) :=
  OpenClaim.holds_of_wide 3 Try.f3 rfl rfl rfl rfl rfl rfl rfl ⟨rfl, rfl, rfl, rfl, rfl⟩ rfl rfl rfl rfl rfl (by kernel_rfl) Try.func3 (by kernel_rfl)
    (of_decide_eq_true (by kernel_rfl)) (by unfold Func.isWrapper; first | (rw [if_pos (by decide +kernel)]; kernel_rfl) | (rw [if_neg (by decide +kernel)]; exact ⟨rfl, rfl⟩))
    (fun os started H enc _ => lifted os started H enc)
theorem proved : Rows.PeekFindsSaid := over
#print axioms proved
end Go.Proofs.Ytoemmppoejaapaa.peekFinds
