/- As the seat's text, without what nothing here names. -/
import Derived.Test.YtoemmppoejaapaaPekKf
import Derived.Test.YtoemmppoejaapaaBtcBf
namespace Go.Proofs.Ytoemmppoejaapaa.Cur
open Go.RowKit Mem
set_option linter.unusedVariables false
set_option maxRecDepth 100000
def thok (e b : Int) (L : List En) (Lt : List Lk) : Prop := lrise Lt Lt.length ∧ btk (e, b, thEn b L (fl Lt)) = true
def ThPost (e b : Int) (L : List En) (Lt : List Lk) (w : World) (en : Ending) (w' : World) : Prop :=
  Below w.heap.size w w' ∧ ((¬ thok e b L Lt ∧ en = .returned (.tuple #[btagg 0 0 none 0 0, .slice none 0 0, .int .i64 3])) ∨
    (thok e b L Lt ∧ ∃ g A2 m2 ss, en = .returned (.tuple #[btagg e b (some ⟨g, 0, none⟩) L.length L.length, .slice A2 (lkOf (TE b (lksOf L) (fl Lt) L.length) ss).length m2, .int .i64 0]) ∧
      Ens w' (fun x => w.heap.size ≤ x) (some ⟨g, 0, none⟩) L.length (thEn b L (fl Lt)) ∧ (lkOf (TE b (lksOf L) (fl Lt) L.length) ss).length ≤ m2 ∧ (A2 = none → m2 = 0) ∧
      Lks w' (fun x => w.heap.size ≤ x) A2 (lkOf (TE b (lksOf L) (fl Lt) L.length) ss).length (lkOf (TE b (lksOf L) (fl Lt) L.length) ss) ∧
      ss.Pairwise (· < ·) ∧ (∀ x ∈ ss, 0 ≤ x ∧ x < 18446744073709551616) ∧ ∀ s, s ∈ ss ↔ TE b (lksOf L) (fl Lt) L.length s ≠ none))
theorem fl_len {Lt : List Lk} (h : blen 50 Lt) (s : Int) : ((fl Lt s).getD []).length ≤ 50 := by
  unfold fl
  rcases hf : Lt.find? (fun x => x.1 == s) with _ | x
  · rw [hf]; show (0 : Nat) ≤ 50; omega
  · rw [hf]; exact h x (List.mem_of_find?_eq_some hf)
theorem TT_len {p : Int} {l : List Lk} {T : TL} (h : ∀ s, ((T s).getD []).length ≤ 50) : ∀ (i : Nat) (s : Int), ((TT p l T i s).getD []).length ≤ 50
  | 0, s => h s
  | i + 1, s => by
    show ((if s = (l.getD i lk0).1 then some (p :: ((TT p l T i (l.getD i lk0).1).getD []).take 3) else TT p l T i s).getD []).length ≤ 50
    split
    · simp; omega
    · exact TT_len h i s
theorem TE_len {b : Int} {Ls : List (List Lk)} {T : TL} (h : ∀ s, ((T s).getD []).length ≤ 50) : ∀ (k : Nat) (s : Int), ((TE b Ls T k s).getD []).length ≤ 50
  | 0, s => h s
  | k + 1, s => TT_len (TE_len h k) _ s
theorem thEn_esm {b : Int} {L : List En} {T : TL} (h : ∀ s, ((T s).getD []).length ≤ 50) (hs : esm L) : esm (thEn b L T) := fun k => by
  by_cases hk : k < L.length
  · rw [thEn_at b L T hk]
    obtain ⟨q1, q2, q3⟩ := hs k
    refine ⟨by rw [thL_len]; exact q1, fun s hm => ?_, q3⟩
    unfold thL at hm
    obtain ⟨i, _, rfl⟩ := List.mem_map.1 hm
    exact TT_len (TE_len h k) i _
  · rw [List.getD_eq_getElem?_getD, List.getElem?_eq_none (by rw [thEn_len]; omega)]
    show ([] : List Lk).length ≤ 50 ∧ blen 50 [] ∧ ([] : List Int).length ≤ 500
    exact ⟨Nat.zero_le _, (show blen 50 [] from fun s hm => nomatch hm), Nat.zero_le _⟩
theorem btk_fit {e b : Int} {L : List En} (h : btk (e, b, L) = true) : b + L.length ≤ 4611686018427387904 := by
  unfold btk at h
  simp only [Bool.and_eq_true] at h
  have := of_decide_eq_true h.1.1.2
  omega
def S8 (ob eb mb y : Nat) (e b : Int) (g n : Nat) (w w' : World) : Prop :=
  Blk w' ob (btenc e b (some ⟨g, 0, none⟩) n n) 25 ∧ Blk w' eb #[.map (some mb)] 61 ∧ (∃ u0 u1 u2, Blk w' y #[u0, u1, u2] 25) ∧ Ks (fun x => x = y) w w'
theorem S8.below {ob eb mb y : Nat} {e b : Int} {g n : Nat} {w w' w'' : World} (h : S8 ob eb mb y e b g n w w') (hb : Below w'.heap.size w' w'') : S8 ob eb mb y e b g n w w'' := by
  obtain ⟨h1, h2, ⟨u0, u1, u2, h3⟩, h4⟩ := h
  exact ⟨h1.below hb, h2.below hb, ⟨u0, u1, u2, h3.below hb⟩, h4.trans (Ks.of_below hb)⟩
set_option maxHeartbeats 8000000 in
theorem thread_any (P Pt : Nat → Prop) (e b : Int) (A : Option Addr) (n m : Nat) (L : List En) (At : Option Addr) (nt mt : Nat) (Lt : List Lk) (w : World) (hz : Ens w P A n L) (hn : n ≤ 30) (hs : esm L) (b0 : 0 ≤ b) (b9 : b < 18446744073709551616)
    (ht : Lks w Pt At nt Lt) (hnt : nt ≤ 50) (hnl : At = none → mt = 0) (hbt : blen 50 Lt) :
    Calls Try.prog 16 #[btagg e b A n m, .slice At nt mt] w (ThPost e b L Lt w) := by
  have hX := (Blk.new w (btenc e b A n m) 25).alloc (.cells (btenc 0 0 none 0 0) 25)
  have hY := Blk.new (w.alloc (.cells (btenc e b A n m) 25)) (btenc 0 0 none 0 0) 25
  rw [World.size_alloc] at hY
  have hb := below_two w (.cells (btenc e b A n m) 25) (.cells (btenc 0 0 none 0 0) 25)
  have hsz : ((w.alloc (.cells (btenc e b A n m) 25)).alloc (.cells (btenc 0 0 none 0 0) 25)).heap.size = w.heap.size + 2 := by simp
  have hbs := bystream_any Pt At nt mt Lt _ (ht.below hb) hnl (by omega) (fun s hs => by have := hbt s hs; omega)
  unfold BsPost at hbs
  rw [hsz] at hbs
  have HZ := Lib.hid (hz.below hb)
  have HSM := Lib.hid hs
  have HLN := Lib.hid hz.1
  have HNT := Lib.hid ht.1
  have HBT := Lib.hid hbt
  have HBD := Lib.hid hb
  have HX := Lib.hid hX
  have HY := Lib.hid hY
  have HDB : Hid (∀ x ∈ L, ∀ y ∈ x.2, 0 ≤ y ∧ y < 256) := Lib.hid (fun x hx => (hz.bds x hx).2)
  have HLB : Hid (∀ x ∈ L, lbd x.1) := Lib.hid (fun x hx => (hz.bds x hx).1)
  clear hz hs ht hnl hbt hb hX hY
  unfold ThPost
  go_enter Try.func16, Try.ntmps16
  go_wp2_with fail
  generalize (w.alloc (.cells (btenc e b A n m) 25)).alloc (.cells (btenc 0 0 none 0 0) 25) = w0 at *
  refine hbs.mono ?_
  rintro en w1 ⟨hb1, ⟨hno, rfl⟩ | ⟨hri, mb, D, f, rfl, hmb, hM, hf, hT⟩⟩
  · clear hbs
    rw [← hsz] at hb1
    have HNO : Hid (¬ thok e b L Lt) := Lib.hid (fun h => hno h.1)
    have hbd := HBD.out.trans (hb1.mono HBD.out.size)
    have hA := below_one w1 (.cells #[.map none] 61)
    have hY1 := (HY.out.below hb1).below hA
    have hbd1 := hbd.trans (hA.mono hbd.size)
    clear hno hb1 hbd
    go_upto_region 2 with (fail)
    generalize w1.alloc (.cells #[.map none] 61) = w2 at *
    clear hA
    obtain ⟨y0, y1, y2⟩ := hY1.c3
    obtain ⟨k0, k1, k2⟩ := blk_f3 hY1
    have HYY := Lib.hid hY1
    have HBB := Lib.hid hbd1
    go_wp2
    obtain ⟨hY9, hk9⟩ := set3 HYY.out (.int .u64 0) (.int .u64 0) (.slice none 0 0)
    obtain ⟨d0, d1, d2⟩ := hY9.c3
    have hfin := Kp.below HBB.out (Nat.le_refl _) hk9 (by omega)
    exact bodyPost_ret (v := .tuple #[btagg 0 0 none 0 0, .slice none 0 0, .int .i64 3]) (by simp [results, Try.results16, go_sem, d0, d1, d2]) rfl ⟨hfin, .inl ⟨HNO.out, rfl⟩⟩
  · clear hbs
    rw [← hsz] at hb1
    have hbd := HBD.out.trans (hb1.mono HBD.out.size)
    have hA := below_one w1 (.cells #[.map (some mb)] 61)
    have hEb := Blk.new w1 #[.map (some mb)] 61
    have hY1 := (HY.out.below hb1).below hA
    have hX1 := (HX.out.below hb1).below hA
    have hbd1 := hbd.trans (hA.mono hbd.size)
    have hz1 := (HZ.out.below hb1).below hA
    have hM1 := hM.below hA
    have hT1 := hT.below hA
    have hsz1 : (w1.alloc (.cells #[.map (some mb)] 61)).heap.size = w1.heap.size + 1 := by simp
    have hmb1 : mb < w1.heap.size := World.ownsMap.lt hM
    have hs1 := hb1.size
    rw [hsz] at hs1
    clear hb1 hbd hM hT
    go_upto_region 2 with (fail)
    generalize w1.alloc (.cells #[.map (some mb)] 61) = w2 at *
    have hcp := bcopy_any P e b A n m L w2 hz1 (by omega) (fun k => by obtain ⟨q1, q2, q3⟩ := HSM.out k; exact ⟨by omega, fun s hs => by have := q2 s hs; omega, by omega⟩)
    unfold CbtPost at hcp
    obtain ⟨x0, x1, x2⟩ := hX1.c3
    have HY1 := Lib.hid hY1
    have HB1 := Lib.hid hbd1
    have HEB := Lib.hid hEb
    have HMF := Lib.hid (And.intro hM1 (And.intro hf hT1))
    have HRI := Lib.hid hri
    clear hA hY1 hX1 hbd1 hz1 hM1 hT1 hEb hf hri
    go_wp2_with fail
    refine hcp.mono ?_
    rintro en w3 ⟨g, cur, lo, hi, rfl, hb3, hcb⟩
    clear hcp x0 x1 x2
    have hA3 := below_one w3 (.cells (btenc e b (some ⟨g, 0, none⟩) n n) 25)
    have hOb := Blk.new w3 (btenc e b (some ⟨g, 0, none⟩) n n) 25
    have hcb4 := hcb.below hA3
    have hb4 := hb3.trans (hA3.mono hb3.size)
    have hg3 := hcb.1.lt
    have hsz4 : (w3.alloc (.cells (btenc e b (some ⟨g, 0, none⟩) n n) 25)).heap.size = w3.heap.size + 1 := by simp
    have hs3 := hb3.size
    clear hb3 hcb hA3
    go_upto_region 5 with (fail)
    generalize w3.alloc (.cells (btenc e b (some ⟨g, 0, none⟩) n n) 25) = w4 at *
    generalize hob : w3.heap.size = ob at *
    generalize heb : w1.heap.size = eb at *
    have hob2 : w.heap.size + 2 ≤ w2.heap.size := by omega
    have hM4 := MapV.below HMF.out.1 hb4
    have hT4 : TlE w4 (fun x => w.heap.size + 2 ≤ x ∧ x ≠ mb ∧ x < w2.heap.size) f (fl Lt) := (HMF.out.2.2.mono fun x hx hl => ⟨hx.1, hx.2, hl⟩).below hb4
    have hE4 := HEB.out.below hb4
    have hY4 := HY1.out.below hb4
    have hB4 := HB1.out.trans (hb4.mono HB1.out.size)
    by_cases hbn : b + n < 18446744073709551616
    · have h0 := thI_start (B0 := w.heap.size + 2) (b := b) hcb4 HLN.out hE4 hM4 HMF.out.2.1 hT4 (by omega)
      have hll : ∀ k, ((lksOf L).getD k []).length ≤ 100 := fun k => by rw [lksOf_at]; have := (HSM.out k).1; omega
      have hlt : (lksOf L).length = n := by unfold lksOf; rw [List.length_map]; exact HLN.out
      have hhd : ∀ k, k < n → (hdOf cur k).2.1 = ((lksOf L).getD k []).length ∧ (0 < (hdOf cur k).2.1 → (hdOf cur k).1 = some ⟨gkOf cur k, 0, none⟩) := fun k hk => by
        obtain ⟨a, l, mm, b', r, j', q1, q2, q3, q4, q5, q6, q7, q8⟩ := cpb_at hcb4 hk
        rw [q1, lksOf_at]
        exact ⟨q7, fun h => (q8 h).1⟩
      have hdis : ∀ j k, j < n → k < n → j ≠ k → 0 < ((lksOf L).getD j []).length → 0 < ((lksOf L).getD k []).length → gkOf cur j ≠ gkOf cur k := fun j k hj hk hjk h1 h2 => by
        obtain ⟨a, l, mm, b', r, j', q1, q2, q3, q4, q5, q6, q7, q8⟩ := cpb_at hcb4 hj
        obtain ⟨a2, l2, mm2, b2, r2, j2, s1, s2, s3, s4, s5, s6, s7, s8⟩ := cpb_at hcb4 hk
        rw [lksOf_at] at h1 h2
        exact cpb_apart hcb4 hj hk hjk (q8 (by omega)).2 (s8 (by omega)).2
      have hst : ∀ l ∈ lksOf L, ∀ x ∈ l, 0 ≤ x.1 ∧ x.1 < 18446744073709551616 := fun l hl x hx => by
        obtain ⟨y, hy, rfl⟩ := List.mem_map.1 hl
        exact (HLB.out y hy x hx).1
      have hstep := thread_step (B0 := w.heap.size + 2) (eb := eb) (mb := mb) (N0 := Lt.length) (T0 := fl Lt) w4 hlt hll (by omega) (by have := HNT.out; omega) b0 hhd hdis hst (by omega)
      have hgS : ¬ thS mb n (gkOf cur) (lksOf L) g := ksS_far hcb4 HLN.out (by have := hcb4.2.2.1; omega) fun j hj h1 => by
        obtain ⟨a, l, mm, b', r, j', q1, q2, q3, q4, q5, q6, q7, q8⟩ := cpb_at hcb4 hj
        have := q8 (by omega)
        omega
      have hlkb : ∀ j, j < n → 0 < (L.getD j en0).1.length → ∃ c, Blk w4 (gkOf cur j) c 51 := fun j hj h1 => by
        obtain ⟨c, e1, _⟩ := h0.2.2.1 j hj (by rw [lksOf_at]; exact h1)
        exact ⟨c, e1⟩
      have hobS : ¬ thS mb n (gkOf cur) (lksOf L) ob := ksS_far hcb4 HLN.out (by omega) fun j hj h1 => by
        obtain ⟨c, e1⟩ := hlkb j hj h1
        exact blk_ne26 hOb e1 (by decide)
      have hebS : ¬ thS mb n (gkOf cur) (lksOf L) eb := ksS_far hcb4 HLN.out (by omega) fun j hj h1 => by
        obtain ⟨c, e1⟩ := hlkb j hj h1
        exact blk_ne26 hE4 e1 (by decide)
      have hyS : ¬ thS mb n (gkOf cur) (lksOf L) (w.heap.size + 1) := ksS_far hcb4 HLN.out (by omega) fun j hj h1 => by
        obtain ⟨c, e1⟩ := hlkb j hj h1
        exact blk_ne26 hY4 e1 (by decide)
      have hSge : ∀ x, thS mb n (gkOf cur) (lksOf L) x → w.heap.size ≤ x := fun x hx => by
        rcases hx with rfl | ⟨j, hj, h1, rfl⟩
        · omega
        · obtain ⟨a, l, mm, b', r, j', q1, q2, q3, q4, q5, q6, q7, q8⟩ := cpb_at hcb4 hj
          rw [lksOf_at] at h1
          have := q8 (by omega)
          have := hcb4.2.2.1
          omega
      have hv := visit_thread ⟨eb, 0, none⟩ (thS mb n (gkOf cur) (lksOf L)) (ThI (w.heap.size + 2) eb mb n Lt.length b (gkOf cur) (lksOf L) (fl Lt)) e b (some ⟨g, 0, none⟩) n n (hdOf cur) w4 (by omega) b0 b9
        ThI.below (fun h => by have := h0.2.2.2 _ h; omega) (cpb_vis hcb4 HLN.out (fun k => by have := (HSM.out k).1; omega) _ hgS) hstep (fun k wr hk hI => ThI.next hll k wr (by rw [← (hhd k hk).1]; exact hI)) h0
      have hvn : vend b n = n := if_pos hbn
      rw [hvn] at hv
      obtain ⟨z0, z1, z2⟩ := hOb.c3
      have HCB := Lib.hid hcb4
      have HOB := Lib.hid (And.intro hOb hobS)
      have HE4 := Lib.hid (And.intro hE4 hebS)
      have HY4 := Lib.hid (And.intro hY4 hyS)
      have HSG := Lib.hid hSge
      have HB4 := Lib.hid hB4
      clear h0 hll hlt hhd hdis hst hstep hgS hlkb hobS hebS hyS hSge hvn hcb4 hOb hE4 hY4 hB4 hM4 hT4 hb4
      go_wp2_with fail
      refine hv.mono ?_
      rintro en w6 ⟨rfl, hI6, hk6⟩
      have hens := thI_end (B0 := w.heap.size + 2) HCB.out HLN.out HDB.out (by omega) (by omega) hk6 hI6
      have hr := bright_any _ e b (some ⟨g, 0, none⟩) n n (thEn b L (fl Lt)) w6 hens (by omega) (thEn_esm (fl_len HBT.out) HSM.out) b0 b9
      unfold BPost at hr
      have hO6 := ks_blk hk6 HOB.out.1 HOB.out.2
      have HE6 := Lib.hid (ks_blk hk6 HE4.out.1 HE4.out.2)
      have HY6 := Lib.hid (ks_blk hk6 HY4.out.1 HY4.out.2)
      have HB6 := Lib.hid (Ks.below HB4.out (Nat.le_refl _) hk6 HSG.out)
      have HO6 := Lib.hid hO6
      have HI6 := Lib.hid hI6
      have HEN := Lib.hid hens
      clear z0 z1 z2 hv hk6 hI6 hens
      obtain ⟨z0, z1, z2⟩ := hO6.c3
      clear hO6
      go_wp2_with fail
      refine hr.mono ?_
      rintro en w7 ⟨rfl, hb7⟩
      have hY7 := HY6.out.below hb7
      have hB7 := HB6.out.trans (hb7.mono HB6.out.size)
      have hO7 := HO6.out.below hb7
      have hE7 := HE6.out.below hb7
      have HI7 := Lib.hid (ThI.below _ _ _ _ HI6.out hb7)
      have HEN7 := Lib.hid (HEN.out.below hb7)
      clear hr z0 z1 z2 hb7
      cases hbt : btk (e, b, thEn b L (fl Lt))
      case false =>
        have HNO : Hid (¬ thok e b L Lt) := Lib.hid (fun h => by rw [h.2] at hbt; cases hbt)
        clear hbt hO7 hE7
        obtain ⟨y0, y1, y2⟩ := hY7.c3
        obtain ⟨k0, k1, k2⟩ := blk_f3 hY7
        have HYY := Lib.hid hY7
        have HBB := Lib.hid hB7
        go_wp2
        obtain ⟨hY9, hk9⟩ := set3 HYY.out (.int .u64 0) (.int .u64 0) (.slice none 0 0)
        obtain ⟨d0, d1, d2⟩ := hY9.c3
        have hfin := Kp.below HBB.out (Nat.le_refl _) hk9 (by omega)
        exact bodyPost_ret (v := .tuple #[btagg 0 0 none 0 0, .slice none 0 0, .int .i64 3]) (by simp [results, Try.results16, go_sem, d0, d1, d2]) rfl ⟨hfin, .inl ⟨HNO.out, rfl⟩⟩
      case true =>
        have HOK : Hid (thok e b L Lt) := Lib.hid ⟨HRI.out, hbt⟩
        clear hbt
        obtain ⟨nn, D9, f9, hnn, hM9, hf9, hT9⟩ := HI7.out.2.1
        have hsz9 : Maps.size D9 ≤ 5000 := by have := World.ownsMap.size_le hM9; have := HNT.out; omega
        have hTE : TT (b + n) ((lksOf L).getD n []) (TE b (lksOf L) (fl Lt) n) 0 = TE b (lksOf L) (fl Lt) n := rfl
        rw [hTE] at hT9
        have hmY : mb ≠ w.heap.size + 1 := by omega
        have hLm : mb < w7.heap.size := World.ownsMap.lt hM9
        have hob7 := hO7.lt
        have S8h : S8 ob eb mb (w.heap.size + 1) e b g n w7 w7.drew := ⟨hO7.drew, hE7.drew, ⟨_, _, _, hY7.drew⟩, Ks.of_below (below_one' _)⟩
        have LL : ∀ w', S8 ob eb mb (w.heap.size + 1) e b g n w7 w' → ((w'.cell? ⟨ob, 0, none⟩ = some (.int .u64 e) ∧ w'.cell? ⟨ob, 1, none⟩ = some (.int .u64 b)) ∧ w'.cell? ⟨ob, 2, none⟩ = some (.slice (some ⟨g, 0, none⟩) n n)) ∧ w'.cell? ⟨eb, 0, none⟩ = some (.map (some mb)) :=
          fun w' h => ⟨⟨⟨h.1.c3.1, h.1.c3.2.1⟩, h.1.c3.2.2⟩, h.2.1.c1⟩
        have HIN : Hid (∀ w', S8 ob eb mb (w.heap.size + 1) e b g n w7 w' → Calls Try.prog 36 #[.map (some mb)] w' (InPost (w.heap.size + 2) (TE b (lksOf L) (fl Lt) n) w')) := Lib.hid (fun w' h => by
          refine inorder_any (w.heap.size + 2) mb nn D9 f9 _ w' (hM9.block (h.2.2.2.block mb hLm hmY)) hf9 ((hT9.mono fun x hx _ => (hx.1 : w.heap.size + 2 ≤ x)).keep fun x hx hl => h.2.2.2.block x hl (by omega)) hsz9 ?_
          have := h.2.2.2.size
          omega)
        have HB7 := Lib.hid hB7
        have H7Y := Lib.hid (And.intro hmY (And.intro hLm hob7))
        clear hnn hM9 hf9 hT9 hsz9 hTE hmY hLm hob7 hO7 hE7 hY7 hB7
        go_wp2
        refine Seq.wp_region_seq (S8 ob eb mb (w.heap.size + 1) e b g n w7) (by kernel_rfl) (by kernel_rfl) S8h ?_
        generalize w7.drew = wd at *
        have hS := S8h
        clear S8h
        repeat (first | (refine Seq.Seq.skip (by rfl) ?_; (try simp only [Act.put, List.setIfInBounds_toArray, List.set_cons_zero, List.set_cons_succ])) | (refine Seq.Seq.det ?_ (by rfl) (fun w hS => ?_) ?_; rotate_left; ((try dsimp only at hS); go_simp; (try rw [if_pos (by omega)]); with_reducible rfl); (try simp only [Act.put, List.setIfInBounds_toArray, List.set_cons_zero, List.set_cons_succ])))
        refine Seq.Seq.make (by rfl) (by rfl) (fun K Q' hK => ?_)
        go_simp
        go_at_call 36
        have hIN := HIN.out _ hS
        unfold InPost at hIN
        refine hIN.mono ?_
        rintro en v1 ⟨A2, m2, ss, rfl, g1, g2, g3, g4, g5, g6, hbv⟩
        replace hS := S8.below hS hbv
        have HFI := Lib.hid (And.intro g1 (And.intro g2 (And.intro g3 (And.intro g4 (And.intro g5 g6)))))
        clear hIN g1 g2 g3 g4 g5 g6 hbv
        refine hK.out _ _ (hS) ?_
        clear hK K
        try simp only [Act.put, List.setIfInBounds_toArray, List.set_cons_zero, List.set_cons_succ]
        repeat (first | (refine Seq.Seq.skip (by rfl) ?_; (try simp only [Act.put, List.setIfInBounds_toArray, List.set_cons_zero, List.set_cons_succ])) | (refine Seq.Seq.det ?_ (by rfl) (fun w hS => ?_) ?_; rotate_left; ((try dsimp only at hS); go_simp; (try rw [if_pos (by omega)]); with_reducible rfl); (try simp only [Act.put, List.setIfInBounds_toArray, List.set_cons_zero, List.set_cons_succ])))
        obtain ⟨u0, u1, u2, hYv⟩ := hS.2.2.1
        obtain ⟨p0, p1, p2⟩ := hYv.c3
        obtain ⟨r0, r1, r2⟩ := blk_f3 hYv
        obtain ⟨hY9, hk9⟩ := set3 hYv (.int .u64 e) (.int .u64 b) (.slice (some ⟨g, 0, none⟩) n n)
        refine Seq.Seq.make (by rfl) (by rfl) (fun K Q' hK => ?_)
        go_simp
        have hY2 := H7Y.out.2.2
        have hsv := hS.2.2.2.size
        have hS2 : S8 ob eb mb (w.heap.size + 1) e b g n w7 (((v1.setCell ⟨w.heap.size + 1, 0, none⟩ (.int .u64 e)).setCell ⟨w.heap.size + 1, 1, none⟩ (.int .u64 b)).setCell ⟨w.heap.size + 1, 2, none⟩ (.slice (some ⟨g, 0, none⟩) n n)) :=
          ⟨(hk9.block ob hS.1.lt (by omega)).trans hS.1, (hk9.block eb hS.2.1.lt (by omega)).trans hS.2.1, ⟨_, _, _, hY9⟩, hS.2.2.2.trans (Ks.of_kp hk9 rfl)⟩
        have HW9 := Lib.hid (And.intro hY9 (And.intro hk9 hS.2.2.2))
        clear hY9 hk9 hYv p0 p1 p2 r0 r1 r2
        refine hK.out _ _ (hS2) ?_
        clear hK K
        try simp only [Act.put, List.setIfInBounds_toArray, List.set_cons_zero, List.set_cons_succ]
        repeat (first | (refine Seq.Seq.skip (by rfl) ?_; (try simp only [Act.put, List.setIfInBounds_toArray, List.set_cons_zero, List.set_cons_succ])) | (refine Seq.Seq.det ?_ (by rfl) (fun w hS => ?_) ?_; rotate_left; ((try dsimp only at hS); go_simp; (try rw [if_pos (by omega)]); with_reducible rfl); (try simp only [Act.put, List.setIfInBounds_toArray, List.set_cons_zero, List.set_cons_succ])))
        refine Seq.Seq.nil ?_
        clear hS2 hS LL
        go_wp2
        obtain ⟨d0, d1, d2⟩ := HW9.out.1.c3
        have hk10 : Ks (fun x => x = w.heap.size + 1) w7 _ := HW9.out.2.2.trans (Ks.of_kp HW9.out.2.1 rfl)
        have hbf := Ks.below HB7.out (Nat.le_refl _) hk10 (fun x hx => by omega)
        have hE10 := HEN7.out.keep fun x hx hl => hk10.block x hl (by omega)
        have hL10 := HFI.out.2.2.1.keep fun x hx hl => HW9.out.2.1.block x hl (by omega)
        have hn9 := HLN.out
        subst hn9
        exact bodyPost_ret (v := .tuple #[btagg e b (some ⟨g, 0, none⟩) L.length L.length, .slice A2 (lkOf (TE b (lksOf L) (fl Lt) L.length) ss).length m2, .int .i64 0]) (by simp [results, Try.results16, go_sem, d0, d1, d2]) rfl
          ⟨hbf, .inr ⟨HOK.out, g, A2, m2, ss, rfl, hE10.mono fun x hx _ => by omega, HFI.out.1, HFI.out.2.1, hL10.mono fun x hx _ => by omega, HFI.out.2.2.2.1, HFI.out.2.2.2.2.1, HFI.out.2.2.2.2.2⟩⟩
    · have HNO : Hid (¬ thok e b L Lt) := Lib.hid (fun h => by
        have := btk_fit h.2
        rw [thEn_len, HLN.out] at this
        omega)
      have hv := visit_thread ⟨eb, 0, none⟩ (fun _ => False) (fun _ _ _ => True) e b (some ⟨g, 0, none⟩) n n (hdOf cur) w4 (by omega) b0 b9
        (fun _ _ _ _ _ _ => trivial) (fun h => h) (cpb_vis hcb4 HLN.out (fun k => by have := (HSM.out k).1; omega) _ (fun h => h)) (fun h => absurd h hbn) (fun _ _ _ _ => trivial) trivial
      have hens := hcb4.ens HLN.out HDB.out
      obtain ⟨z0, z1, z2⟩ := hOb.c3
      have HOB := Lib.hid hOb
      have HENS := Lib.hid hens
      have HY4 := Lib.hid hY4
      have HB4 := Lib.hid hB4
      clear hens hOb hY4 hB4 hM4 hT4 hb4 hE4
      go_wp2_with fail
      refine hv.mono ?_
      rintro en w6 ⟨rfl, _, hk6⟩
      have hb6 : Below w4.heap.size w4 w6 := ⟨hk6.os, hk6.tape, hk6.output, hk6.size, fun x hx => hk6.block x hx (fun h => h)⟩
      have hr := bright_any _ e b (some ⟨g, 0, none⟩) n n L w6 (HENS.out.below hb6) (by omega) HSM.out b0 b9
      unfold BPost at hr
      have hbf : btk (e, b, L) = false := by
        cases hh : btk (e, b, L)
        · rfl
        · have := btk_fit hh
          rw [HLN.out] at this
          omega
      rw [hbf] at hr
      have hO6 := HOB.out.below hb6
      have HY6 := Lib.hid (HY4.out.below hb6)
      have HB6 := Lib.hid (HB4.out.trans (hb6.mono HB4.out.size))
      clear z0 z1 z2 hv hk6 hb6 hbf
      obtain ⟨z0, z1, z2⟩ := hO6.c3
      clear hO6
      go_wp2_with fail
      refine hr.mono ?_
      rintro en w7 ⟨rfl, hb7⟩
      have hY7 := HY6.out.below hb7
      have hB7 := HB6.out.trans (hb7.mono HB6.out.size)
      clear hr z0 z1 z2 hb7
      obtain ⟨y0, y1, y2⟩ := hY7.c3
      obtain ⟨k0, k1, k2⟩ := blk_f3 hY7
      have HYY := Lib.hid hY7
      have HBB := Lib.hid hB7
      go_wp2
      obtain ⟨hY9, hk9⟩ := set3 HYY.out (.int .u64 0) (.int .u64 0) (.slice none 0 0)
      obtain ⟨d0, d1, d2⟩ := hY9.c3
      have hfin := Kp.below HBB.out (Nat.le_refl _) hk9 (by omega)
      exact bodyPost_ret (v := .tuple #[btagg 0 0 none 0 0, .slice none 0 0, .int .i64 3]) (by simp [results, Try.results16, go_sem, d0, d1, d2]) rfl ⟨hfin, .inl ⟨HNO.out, rfl⟩⟩
end Go.Proofs.Ytoemmppoejaapaa.Cur
