/- As the seat's text, without what nothing here names. -/
import Derived.Test.YtlealkfkddhnnaaGreatBtcCw
import Derived.Test.YtlealkfkddhnnaaGreatK18w
namespace Go.Proofs.YtlealkfkddhnnaaGreat.Cur
open Go.RowKit Mem
set_option linter.unusedVariables false
set_option maxRecDepth 100000
def btb (B : Bt) : List Int := bthz B ++ bkb (jn B.2.2)
theorem btis_flat (e b : Int) (L : List En) : (btis e b L).flatten = btb (e, b, L) := by
  unfold btis btb
  rw [List.flatten_append, bhis_end, bki_flat]
theorem bthz_len {e b : Int} {L : List En} (h : enall b L = true) (hn : L.length ≤ 16) : (bthz (e, b, L)).length ≤ 15710 := by
  rw [← bhis_end]
  have := bhis_len (e := e) h L.length (Nat.le_refl _)
  omega
def BbyPost (B : Bt) (w : World) (e : Ending) (w' : World) : Prop :=
  Below w.heap.size w w' ∧ ((btk B = true ∧ ∃ g, e = .returned (.tuple #[.slice (some ⟨g, 0, none⟩) (btb B).length (btb B).length, .int .i64 0]) ∧ w.heap.size ≤ g ∧ Bs w' (some ⟨g, 0, none⟩) (btb B).length (btb B)) ∨
    (btk B = false ∧ e = .returned (.tuple #[.slice none 0 0, .int .i64 3])))
theorem btb_len {e b : Int} {L : List En} (h : btk (e, b, L) = true) (hj : (jn L).length ≤ 10000) (hjb : ∀ x ∈ jn L, 0 ≤ x ∧ x < 256) : (btb (e, b, L)).length ≤ 30000 := by
  obtain ⟨_, _, k3, _, k5⟩ := btk_parts h
  have k6 : (L.length : Int) ≤ 16 := (fitn_bd k3).2.1
  have h1 : (bthz (e, b, L)).length ≤ 15710 := bthz_len (e := e) k5 (by omega)
  have h2 := bkb_len (jn L)
  have h3 : (btb (e, b, L)).length = (bthz (e, b, L)).length + (bkb (jn L)).length := List.length_append ..
  generalize (bthz (e, b, L)).length = x at *
  generalize (bkb (jn L)).length = y at *
  omega
theorem hhz_byte : ∀ (H : List Hd) (b mx : Int), 0 ≤ b → b + H.length < 18446744073709551616 → hhok b mx H → ∀ x ∈ hhz b H, 0 ≤ x ∧ x < 256
  | [], _, _, _, _, _ => by intro x hx; simp [hhz] at hx
  | h :: H, b, mx, b0, b1, hok => by
    obtain ⟨k1, k2, k3, k4, k5, k6⟩ := hok
    rw [List.length_cons] at b1
    intro x hx
    have hx2 : x ∈ (lkz b h.1 ++ vz h.2) ++ hhz (b + 1) H := hx
    rcases List.mem_append.1 hx2 with hx3 | hx3
    · rcases List.mem_append.1 hx3 with hx4 | hx4
      · exact lkz_byte (by omega) k1 k2 x hx4
      · exact vz_byte _ k3 k5 x hx4
    · exact hhz_byte H (b + 1) _ (by omega) (by omega) k6 x hx3
theorem btb_byte {e b : Int} {L : List En} (h : btk (e, b, L) = true) (hj : (jn L).length ≤ 10000) (hjb : ∀ x ∈ jn L, 0 ≤ x ∧ x < 256) (e0 : 0 ≤ e) (e9 : e < 18446744073709551616) (b0 : 0 ≤ b) (b9 : b < 18446744073709551616) (hlb : ∀ x ∈ L, lbd x.1) : ∀ x ∈ btb (e, b, L), 0 ≤ x ∧ x < 256 := by
  have hok := (btk_iff (B := (e, b, L)) hlb e0 e9 b0 b9).1 h
  obtain ⟨o1, o2, o3, o4, o5, o6, o7, o8⟩ := hok
  have hf := fitn_bd o7
  dsimp only at o8 hf
  intro x hx
  have hx1 : x ∈ (vz e ++ (vz b ++ (vz (L.length : Int) ++ hhz b (hds L)))) ++ bkb (jn L) := hx
  rcases List.mem_append.1 hx1 with hx2 | hx2
  · rcases List.mem_append.1 hx2 with hx3 | hx3
    · exact vz_byte _ e0 e9 x hx3
    · rcases List.mem_append.1 hx3 with hx4 | hx4
      · exact vz_byte _ b0 b9 x hx4
      · rcases List.mem_append.1 hx4 with hx5 | hx5
        · exact vz_byte _ (by omega) (by omega) x hx5
        · exact hhz_byte (hds L) b _ b0 (by rw [hds_length]; omega) o8 x hx5
  · exact bkb_byte (by omega) hjb x hx2
theorem jn_byte {w : World} {P : Nat → Prop} {A : Option Addr} {n : Nat} {L : List En} (hz : Ens w P A n L) : ∀ x ∈ jn L, 0 ≤ x ∧ x < 256 := by
  intro x hx
  unfold jn at hx
  obtain ⟨l, hl2, hx⟩ := List.mem_flatten.1 hx
  obtain ⟨en, hen, rfl⟩ := List.mem_map.1 hl2
  exact (hz.bds en hen).2 x hx
set_option maxHeartbeats 2000000 in
theorem bbytes_any (P : Nat → Prop) (e b : Int) (A : Option Addr) (n m : Nat) (L : List En) (w : World) (hz : Ens w P A n L) (hP : ∀ b', P b' → b' < w.heap.size) (hn : n ≤ 1000000) (hs : esm L) (e0 : 0 ≤ e) (e9 : e < 18446744073709551616) (b0 : 0 ≤ b) (b1 : b < 18446744073709551616) (hjl : (jn L).length ≤ 10000) :
    Calls Tryz.prog 9 #[btagg e b A n m] w (BbyPost (e, b, L) w) := by
  have hX := Blk.new w (btenc e b A n m) 25
  have hb := below_one w (.cells (btenc e b A n m) 25)
  have HX := Lib.hid hX
  obtain ⟨x0, x1, x2⟩ := hX.c3
  clear hX
  have hz1 := hz.below hb
  have HSM := Lib.hid hs
  have HJB := Lib.hid (jn_byte hz)
  clear hz hs
  go_enter Tryz.func9, Tryz.ntmps9
  go_wp2_with fail
  refine (wnew_any _ _ (by omega)).mono ?_
  rintro en w1 ⟨wb, rfl, hg1, hb1, hw1⟩
  rw [if_neg (by omega)] at hw1
  have hX := HX.out.below hb1
  replace hz1 := hz1.below hb1
  have hbd := hb.trans (hb1.mono hb.size)
  have hBX := hb1.size
  have hPB : ∀ b', P b' → b' < w1.heap.size → ¬ WS wb none b' := fun b' h1 _ => hw1.off_lt (by have := hP b' h1; simp; omega)
  clear x0 x1 x2 hb1 HX
  obtain ⟨x0, x1, x2⟩ := hX.c3
  cases hok : btk (e, b, L)
  · go_wp2_with fail
    refine (bput_no P e b A n m L hw1 hz1 hn HSM.out b0 b1 hok).mono ?_
    rintro en w2 ⟨rfl, hk, hw2⟩
    rw [if_pos rfl] at hw2
    have hbd2 := hw1.belowOf hbd (Nat.le_refl _) hk hb.size
    have HOK := Lib.hid hok
    clear x0 x1 x2 hok
    go_wp2_with fail
    refine (wbytes_bad hw2 (by decide)).mono ?_
    rintro en w3 ⟨rfl, rfl⟩
    go_wp2
    go_ret2
    exact ⟨hbd2, .inr ⟨HOK.out, rfl⟩⟩
  · have HOK := Lib.hid hok
    have HLE := Lib.hid (btb_len hok hjl HJB.out)
    have HPI : Hid (puts (btis e b L) [] 9223372036854775807 0 = (btb (e, b, L), 0)) := Lib.hid (by
      rw [puts_fits (by rw [btis_flat]; have := HLE.out; simp; omega), btis_flat, List.nil_append])
    go_wp2_with fail
    refine (bput_yes P e b A n m L hw1 hz1 HSM.out e0 e9 b0 b1 hok hPB (by simp) hBX hjl).mono ?_
    rintro en w2 ⟨r2, rfl, hk, _, hw2⟩
    rw [HPI.out] at hw2
    have hbd2 := hw1.belowOf hbd (Nat.le_refl _) hk hb.size
    clear x0 x1 x2 hok
    go_wp2_with fail
    refine (wbytes_good (z := btb (e, b, L)) hw2 (by have := HLE.out; omega)).mono ?_
    rintro en w3 ⟨g, rfl, hg, hb3, hblk⟩
    have hs3 := Bs.of_block hblk
    have hbd3 := hbd2.trans (hb3.mono hbd2.size)
    have hgw : w.heap.size ≤ g := Nat.le_trans hbd2.size hg
    go_wp2
    go_ret2
    exact ⟨hbd3, .inl ⟨HOK.out, g, rfl, hgw, hs3⟩⟩
def HkS (w w' : World) : Prop := Below w.heap.size w w'
set_option maxHeartbeats 4000000 in
theorem rheads25_any (P : Nat → Prop) (e b : Int) (A : Option Addr) (n m : Nat) (L : List En) (w : World) (hz : Ens w P A n L) (e0 : 0 ≤ e) (e9 : e < 18446744073709551616) (b0 : 0 ≤ b) (b1 : b < 18446744073709551616) (hok : btk (e, b, L) = true) :
    Calls Tryz.prog 50 #[btagg e b A n m] w (RowPost (bthz (e, b, L)) w) := by
  have hX := Blk.new w (btenc e b A n m) 25
  have hb := below_one w (.cells (btenc e b A n m) 25)
  have HX := Lib.hid hX
  obtain ⟨x0, x1, x2⟩ := hX.c3
  clear hX
  obtain ⟨k1, k2, k3, k4, k5⟩ := btk_parts hok
  dsimp only at k1 k2 k3 k4 k5
  rw [hz.1] at k3
  obtain ⟨f1, f2, f3⟩ := fitn_bd k3
  have hl := hz.1
  have HOK := Lib.hid (fun k (hk : k < L.length) => enall_at k5 k hk)
  have HLE := Lib.hid (fun k (hk : k ≤ L.length) => bhis_len (e := e) k5 k hk)
  have HEND : Hid (bthz (e, b, L) = (bhis e b L n).flatten) := Lib.hid (by rw [← hl, bhis_end])
  have H0 : Hid ((bhis e b L 0).flatten = (vz e ++ vz b) ++ vz n) := Lib.hid (by rw [bhis, hl]; simp)
  have HSU : Hid (∀ k, (bhis e b L (k + 1)).flatten = (bhis e b L k).flatten ++ (lkz (b + k) (L.getD k en0).1 ++ vz (L.getD k en0).2.length)) := Lib.hid (fun k => by rw [bhis, List.flatten_append, List.flatten_append, lkis_end]; simp)
  have HC := Lib.hid (fun h => (hz.below hb).cells h)
  have HL := Lib.hid hl
  have v1 := vsz_le e
  have v2 := vsz_le b
  have v3 := vsz_le (n : Int)
  have HV1 := Lib.hid (vz_length e)
  have HV2 := Lib.hid (vz_length b)
  have HV3 := Lib.hid (vz_length (n : Int))
  have e2 : IntKind.u64.wrap (n : Int) = n := IntWalk.u64_in _ (by omega)
  have hn0 : (0 : Int) ≤ n := by omega
  have hn1 : (n : Int) < 18446744073709551616 := by omega
  rw [HEND.out]
  generalize bhis e b L = sk at *
  have hsz0 : (w.alloc (.cells (btenc e b A n m) 25)).heap.size = w.heap.size + 1 := by simp
  clear hz hok k1 k2 k3 k4 k5 hl
  go_enter Tryz.func50, Tryz.ntmps50
  go_wp2
  clear x0 x1 x2
  generalize w.alloc (.cells (btenc e b A n m) 25) = w0 at *
  have hS : HkS w0 w0.drew := below_one' w0
  have L0 : ∀ w', HkS w0 w' → w'.cell? ⟨w.heap.size, 0, none⟩ = some (.int .u64 e) ∧ w'.cell? ⟨w.heap.size, 1, none⟩ = some (.int .u64 b) := fun w' h => ⟨(HX.out.below h).c3.1, (HX.out.below h).c3.2.1⟩
  refine Seq.wp_region_seq (HkS w0) (by kernel_rfl) (by kernel_rfl) hS ?_
  generalize w0.drew = wd at *
  repeat (first | (refine Seq.Seq.skip (by rfl) ?_; (try simp only [Act.put, List.setIfInBounds_toArray, List.set_cons_zero, List.set_cons_succ])) | (refine Seq.Seq.det ?_ (by rfl) (fun w hS => ?_) ?_; rotate_left; ((try dsimp only at hS); go_simp; (try rw [if_pos (by omega)]); with_reducible rfl); (try simp only [Act.put, List.setIfInBounds_toArray, List.set_cons_zero, List.set_cons_succ])))
  refine Seq.Seq.make (by rfl) (by rfl) (fun K Q' hK => ?_)
  go_simp
  go_at_call 80
  refine (rbytes_any 10 _ _ (vsz_le _) e0 e9).mono ?_
  rintro en u1 ⟨A1, m1, rfl, hc1, _, _, _, ho1⟩
  have ho1' : Own u1 w0.heap.size (.slice A1 (vz e).length m1) (vz e) := ho1.base (fun g hg => by have := ho1.ge g hg; have := Below.size hS; omega)
  have hS1 : HkS w0 u1 := Below.trans hS (hc1.mono (Below.size hS))
  clear hc1 ho1 hS
  refine hK.out _ _ (hS1) ?_
  clear hK K
  try simp only [Act.put, List.setIfInBounds_toArray, List.set_cons_zero, List.set_cons_succ]
  repeat (first | (refine Seq.Seq.skip (by rfl) ?_; (try simp only [Act.put, List.setIfInBounds_toArray, List.set_cons_zero, List.set_cons_succ])) | (refine Seq.Seq.det ?_ (by rfl) (fun w hS => ?_) ?_; rotate_left; ((try dsimp only at hS); go_simp; (try rw [if_pos (by omega)]); with_reducible rfl); (try simp only [Act.put, List.setIfInBounds_toArray, List.set_cons_zero, List.set_cons_succ])))
  refine Seq.Seq.make (by rfl) (by rfl) (fun K Q' hK => ?_)
  go_simp
  go_at_call 80
  refine (rbytes_any 10 _ _ (vsz_le _) b0 b1).mono ?_
  rintro en u2 ⟨A2, m2, rfl, hc2, hbs2, hnil2, _⟩
  have hS2 : HkS w0 u2 := Below.trans hS1 (hc2.mono (Below.size hS1))
  have ho2 := ho1'.below hc2
  have hB2 : w0.heap.size ≤ u2.heap.size := Below.size hS2
  clear hc2 ho1' hS1
  refine hK.out _ _ (hS2) ?_
  clear hK K
  try simp only [Act.put, List.setIfInBounds_toArray, List.set_cons_zero, List.set_cons_succ]
  repeat (first | (refine Seq.Seq.skip (by rfl) ?_; (try simp only [Act.put, List.setIfInBounds_toArray, List.set_cons_zero, List.set_cons_succ])) | (refine Seq.Seq.det ?_ (by rfl) (fun w hS => ?_) ?_; rotate_left; ((try dsimp only at hS); go_simp; (try rw [if_pos (by omega)]); with_reducible rfl); (try simp only [Act.put, List.setIfInBounds_toArray, List.set_cons_zero, List.set_cons_succ])))
  refine Seq.Seq.make (by rfl) (by rfl) (fun K Q' hK => ?_)
  refine oper_append_gr (.tmp 7) (.tmp 10) rfl w0.heap.size _ _ rfl ho2 _ _ _ _ rfl hbs2 hnil2 (by rw [HV1.out, HV2.out]; omega) hB2 ?_
  intro v' w9 ho9 hg9 hgr9
  have hS9 : HkS w0 w9 := Own.belowOf hS2 hB2 ho2 hg9
  obtain ⟨A9, c9, hv9⟩ := ho9.slice
  have HLY : Hid ((vz e ++ vz b).length ≤ 20) := Lib.hid (by rw [List.length_append, HV1.out, HV2.out]; omega)
  obtain ⟨Y, hY⟩ : ∃ Y, Y = vz e ++ vz b := ⟨_, rfl⟩
  rw [← hY] at ho9 hv9 HLY H0
  clear hY
  have HO9 := Lib.hid ho9
  subst hv9
  clear ho2 hg9 hgr9 hbs2 hS2 ho9 hB2
  refine hK.out _ _ (hS9) ?_
  clear hK K
  try simp only [Act.put, List.setIfInBounds_toArray, List.set_cons_zero, List.set_cons_succ]
  repeat (first | (refine Seq.Seq.skip (by rfl) ?_; (try simp only [Act.put, List.setIfInBounds_toArray, List.set_cons_zero, List.set_cons_succ])) | (refine Seq.Seq.det ?_ (by rfl) (fun w hS => ?_) ?_; rotate_left; ((try dsimp only at hS); go_simp; (try rw [if_pos (by omega)]); with_reducible rfl); (try simp only [Act.put, List.setIfInBounds_toArray, List.set_cons_zero, List.set_cons_succ])))
  refine Seq.Seq.nil ?_
  have hbd9 : Below w0.heap.size w0 w9 := hS9
  obtain ⟨x0, x1, x2⟩ := (HX.out.below hbd9).c3
  clear L0 hS9
  go_wp2_with fail
  refine (rbytes_any 10 _ _ (vsz_le _) hn0 hn1).mono ?_
  rintro en u3 ⟨A3, m3, rfl, hc3, hbs3, hnil3, _⟩
  have hbd3 := hbd9.trans (hc3.mono hbd9.size)
  have ho3 := HO9.out.below hc3
  have hB3 := hbd3.size
  clear hc3 HO9 hbd9 x0 x1 x2
  go_upto_region 3 with (at_builtin; go_must (refine list_append_gr rfl (.tmp 12) (.tmp 17) rfl w0.heap.size _ Y rfl ho3 _ _ _ _ rfl hbs3 hnil3 (by rw [HV3.out]; have := HLY.out; omega) hB3 ?_; intro v'' w10 ho10 hg10 hgr10; have hbd10 := Own.belowOf hbd3 hB3 ho3 hg10; rw [← H0.out] at ho10; have HO10 := Lib.hid ho10; clear ho10 hg10 hgr10 ho3 hbs3 hbd3 hB3))
  go_wp2
  go_loopw [3, 4] (fun v i wr => ∃ k : Nat, k ≤ n ∧ i = .int .i64 k ∧ Hid (Own wr w0.heap.size v (sk k).flatten) ∧ Below w0.heap.size w0 wr) (fun _ i _ => n - (intOf i).toNat)
  case atStart => exact ⟨0, by omega, rfl, HO10, hbd10⟩
  case round =>
    clear HO10 hbd10
    obtain ⟨k, hk, rfl, ho, hb0⟩ := hrel
    obtain ⟨x0, x1, x2⟩ := (HX.out.below hb0).c3
    by_cases hlt : k < n
    · obtain ⟨g, o, rfl, _, hg, hc⟩ := HC.out (by omega)
      obtain ⟨K, D, a1, l1, m1, b1', r1, j1, he, hlm, hnl, hks, hrk, hnb, hbs, hbb, hsq, hcell⟩ := hc k hlt
      have ek : (k : Int) < n := by omega
      have e3 : IntKind.i64.wrap ((k : Int) + 1) = ((k + 1 : Nat) : Int) := IntWalk.i64_in _ (by omega)
      have e4 : IntKind.u64.wrap (k : Int) = k := IntWalk.u64_in _ (by omega)
      have e5 : IntKind.u64.wrap (b + k) = b + k := IntWalk.u64_in _ (by omega)
      have hkL : k < L.length := by rw [HL.out]; exact hlt
      have hok := HOK.out k hkL
      have hsu := HSU.out k
      have hle := HLE.out k (by omega)
      rw [he] at hok hsu
      replace hok : enok (b + k) K D.length = true := hok
      replace hsu : (sk (k + 1)).flatten = (sk k).flatten ++ (lkz (b + k) K ++ vz (D.length : Int)) := hsu
      rw [hbs.1] at hok hsu
      have hlkk : lkok (b + k) K = true := by unfold enok at hok; simp only [Bool.and_eq_true] at hok; exact hok.2
      have hrl : r1 ≤ 1048576 := by unfold enok at hok; simp only [Bool.and_eq_true, decide_eq_true_eq] at hok; exact hok.1
      have hl2 := lkz_len hlkk
      have hv2 := vsz_le (r1 : Int)
      have hbA := hb0.trans ((below_one' wr).mono hb0.size)
      have hoA : Own wr.drew w0.heap.size _ (sk k).flatten := ho.out.below (below_one' wr)
      have hcon := rhead_any24 P (b + k) a1 l1 m1 K b1' r1 j1 wr.drew (hks.below hbA) (by omega) (by omega) hlkk hrl
      have hlx : (lkz (b + k) K ++ vz (r1 : Int)).length ≤ 990 := by rw [List.length_append, vz_length]; omega
      have hS : HkS w0 wr.drew := hbA
      have L1 : ∀ w', HkS w0 w' → w'.cell? ⟨w.heap.size, 1, none⟩ = some (.int .u64 b) ∧ w'.cell? ⟨w.heap.size, 2, none⟩ = some (.slice (some ⟨g, o, none⟩) n m) := fun w' h => ⟨(HX.out.below h).c3.2.1, (HX.out.below h).c3.2.2⟩
      have L2 : ∀ w', HkS w0 w' → w'.cell? ⟨g, o + k * 2, none⟩ = some (.slice a1 l1 m1) ∧ w'.cell? ⟨g, o + k * 2 + 1, none⟩ = some (.slice b1' r1 j1) := fun w' h => hcell w' h
      obtain ⟨X, hX'⟩ : ∃ X, X = lkz (b + k) K ++ vz (r1 : Int) := ⟨_, rfl⟩
      rw [← hX'] at hcon hlx hsu
      have HSN := Lib.hid hsu
      have HLX := Lib.hid hlx
      have HLS : Hid ((sk k).flatten.length ≤ 20000) := Lib.hid (by omega)
      clear hc hcell he hlm hnl hks hrk hnb hbs hbb hsq hok hsu hlkk hrl hl2 hv2 hX' hlx hle ho hb0 hbA
      go_wp2
      clear x0 x1 x2
      refine Seq.wp_region_seq (HkS w0) (by kernel_rfl) (by kernel_rfl) hS ?_
      repeat (first | (refine Seq.Seq.skip (by rfl) ?_; (try simp only [Act.put, List.setIfInBounds_toArray, List.set_cons_zero, List.set_cons_succ])) | (refine Seq.Seq.det ?_ (by rfl) (fun w hS => ?_) ?_; rotate_left; ((try dsimp only at hS); go_simp; (try rw [if_pos (by omega)]); with_reducible rfl); (try simp only [Act.put, List.setIfInBounds_toArray, List.set_cons_zero, List.set_cons_succ])))
      refine Seq.Seq.make (by rfl) (by rfl) (fun K Q' hK => ?_)
      go_simp
      go_at_call 81
      refine hcon.mono ?_
      rintro en u2 ⟨A2, m2, rfl, hc2, hbs2, hnil2, _⟩
      have hS2 : HkS w0 u2 := Below.trans hS (hc2.mono (Below.size hS))
      have ho2 := hoA.below hc2
      have hB2 : w0.heap.size ≤ u2.heap.size := Below.size hS2
      clear hc2 hoA hS hcon
      refine hK.out _ _ (hS2) ?_
      clear hK K
      try simp only [Act.put, List.setIfInBounds_toArray, List.set_cons_zero, List.set_cons_succ]
      repeat (first | (refine Seq.Seq.skip (by rfl) ?_; (try simp only [Act.put, List.setIfInBounds_toArray, List.set_cons_zero, List.set_cons_succ])) | (refine Seq.Seq.det ?_ (by rfl) (fun w hS => ?_) ?_; rotate_left; ((try dsimp only at hS); go_simp; (try rw [if_pos (by omega)]); with_reducible rfl); (try simp only [Act.put, List.setIfInBounds_toArray, List.set_cons_zero, List.set_cons_succ])))
      refine Seq.Seq.make (by rfl) (by rfl) (fun K Q' hK => ?_)
      refine oper_append_gr (.tmp 26) (.tmp 37) rfl w0.heap.size _ _ rfl ho2 _ _ _ _ rfl hbs2 hnil2 (by have := HLS.out; have := HLX.out; omega) hB2 ?_
      intro v' w9 ho9 hg9 hgr9
      have hS9 : HkS w0 w9 := Own.belowOf hS2 hB2 ho2 hg9
      rw [← HSN.out] at ho9
      obtain ⟨A9, c9, hv9⟩ := ho9.slice
      have HO9 := Lib.hid ho9
      clear ho2 hg9 hgr9 hbs2 hS2 ho9 hB2 hv9
      refine hK.out _ _ (hS9) ?_
      clear hK K
      try simp only [Act.put, List.setIfInBounds_toArray, List.set_cons_zero, List.set_cons_succ]
      repeat (first | (refine Seq.Seq.skip (by rfl) ?_; (try simp only [Act.put, List.setIfInBounds_toArray, List.set_cons_zero, List.set_cons_succ])) | (refine Seq.Seq.det ?_ (by rfl) (fun w hS => ?_) ?_; rotate_left; ((try dsimp only at hS); go_simp; (try rw [if_pos (by omega)]); with_reducible rfl); (try simp only [Act.put, List.setIfInBounds_toArray, List.set_cons_zero, List.set_cons_succ])))
      refine Seq.Seq.nil ?_
      have hbd9 : Below w0.heap.size w0 w9 := hS9
      clear L1 L2 hS9
      go_wp2
      go_roundw
      case rel => exact ⟨k + 1, by omega, by go_num, HO9, hbd9⟩
      case measure => simp [intOf]; omega
    · obtain rfl : k = n := by omega
      obtain ⟨A9, c9, rfl⟩ := ho.out.slice
      have HR := Lib.hid (Own.rowPost (B := 0) (ho.out.base (B' := w.heap.size) (fun g hg => by have := ho.out.ge g hg; omega)) (hb.trans (hb0.mono hb.size)))
      clear ho
      go_wp2
      go_ret
      exact HR.out
end Go.Proofs.YtlealkfkddhnnaaGreat.Cur
