/- Entries dealt: each its piece. -/
import Derived.Test.YtoeedhdckccajaaEntF
namespace Go.Proofs.Ytoeedhdckccajaa.Cur
open Go.RowKit Mem
set_option linter.unusedVariables false
set_option maxRecDepth 100000


def ClonePost24 (n : Nat) (z : List Int) (w : World) (e : Ending) (w' : World) : Prop := ∃ A' m', e = .returned (.slice A' n m') ∧ Own w' w.heap.size (.slice A' n m') z ∧ Below w.heap.size w w'
theorem clone24_any {w : World} {A : Option Addr} {n m : Nat} {z : List Int} (hz : Bs w A n z) (hn : n ≤ 100000) : Calls Try.prog 52 #[.slice A n m] w (ClonePost24 n z w) := by
  have hzl := hz.1
  rcases A with _ | ad
  · have h0 : z = [] := by
      rcases Nat.eq_zero_or_pos n with h0 | h0
      · exact List.eq_nil_of_length_eq_zero (by omega)
      · obtain ⟨_, _, e, _⟩ := hz.2 h0
        cases e
    subst h0
    obtain rfl : n = 0 := by simpa using hzl.symm
    refine (Try.bytes_Clone_nil 0 m w).mono ?_
    rintro e w' ⟨rfl, rfl⟩
    exact ⟨none, 0, rfl, World.ownsRow_nil _ _ _ _, Below.refl _ _⟩
  · refine (Try.bytes_Clone_at ad n m z w hzl (by omega) (fun i hi => ?_)).mono ?_
    · obtain ⟨k, o, e, hc⟩ := hz.2 (by omega)
      injection e with e
      subst e
      have := hc i _ (show z[i]? = some (z.getD i 0) by rw [List.getD_eq_getElem?_getD, List.getElem?_eq_getElem (by omega)]; rfl)
      unfold Addr.add
      split
      · rename_i h; subst h; exact this
      · exact this
    · rintro e w' ⟨v', rfl, ho, _, hb⟩
      obtain ⟨A', m', rfl, _, _⟩ := own_slice ho
      refine ⟨A', m', rfl, ?_, hb⟩
      unfold Own
      rw [hzl]
      exact ho
theorem make_ent (n : Nat) (hn : n ≤ 10000) : ∃ cur : Array Value, cur.size = n * 2 ∧ ∀ w', (Instr.makeSlice 54 (.int .i64 (n : Int)) (.int .i64 (n : Int))).run Try.prog w' = .ok (.slice (some ⟨w'.heap.size, 0, none⟩) n n) (w'.alloc (.cells cur 26)) := by
  have hinfo : (Try.prog.info? 26).map (fun i => (i.zero, i.size, i.bytes)) = some (some (.agg #[.slice none 0 0, .slice none 0 0]), 2, 48) := by kernel_rfl
  obtain ⟨i, h1, hzz⟩ := Option.map_eq_some_iff.1 hinfo
  simp only [Prod.mk.injEq] at hzz
  obtain ⟨h2, h3, h4⟩ := hzz
  refine ⟨madeCells #[.slice none 0 0, .slice none 0 0] (n * 2), by simp [size_madeCells], fun w' => ?_⟩
  · have hr := Go.run_make (P := Try.prog) w' 54 26 i _ Try.underlying54 h1 h2 .i64 .i64 n n (by omega) (Int.le_refl _) (by rw [h4]; omega) (by omega)
    simp only [Int.toNat_natCast, h3] at hr
    exact hr
theorem ens_of_cells {w : World} {P : Nat → Prop} {g n : Nat} {L : List En} (hl : L.length = n) (hg : P g) (h : ∀ i, i < n → ∃ a b, (w.cell? ⟨g, i * 2, none⟩ = some a ∧ w.cell? ⟨g, i * 2 + 1, none⟩ = some b) ∧ EnE.R w P [a, b] (L.getD i en0)) : Ens w P (some ⟨g, 0, none⟩) n L := by
  obtain ⟨cs, xs, l1, l2, hp⟩ := pick_n (p := fun i c x => x = L.getD i en0 ∧ ∃ u v, c = [u, v] ∧ (w.cell? ⟨g, i * 2, none⟩ = some u ∧ w.cell? ⟨g, i * 2 + 1, none⟩ = some v) ∧ EnE.R w P [u, v] (L.getD i en0)) n fun i hi => by
    obtain ⟨a, b, h1, h2⟩ := h i hi
    exact ⟨[a, b], _, rfl, a, b, rfl, h1, h2⟩
  have hxs : xs = L := by
    apply List.ext_getElem (by omega)
    intro i h1 h2
    have := (hp i (cs[i]'(by omega)) xs[i] (List.getElem?_eq_getElem _) (List.getElem?_eq_getElem _)).1
    rw [this, List.getD_eq_getElem?_getD, List.getElem?_eq_getElem h2]; rfl
  subst hxs
  refine ⟨hl, cs, Ch.of (by omega) fun i c x hc hx => ?_, fun hpos => ⟨g, 0, rfl, hg, fun i v hv => ?_⟩⟩
  · obtain ⟨e, a, b, rfl, _, hR⟩ := hp i c x hc hx
    rw [e]; exact hR
  · have hlen : ∀ c ∈ cs, c.length = 2 := fun c hcm => by
      obtain ⟨i, hi, e⟩ := List.mem_iff_getElem.1 hcm
      obtain ⟨_, a, b, e2, _⟩ := hp i c _ (by rw [List.getElem?_eq_getElem hi, e]) (List.getElem?_eq_getElem (by omega))
      rw [e2]; rfl
    obtain ⟨i', j, c, e, hj, hci, hcv⟩ := flat_at hlen i v hv
    have hi' := (List.getElem?_eq_some_iff.1 hci).1
    obtain ⟨_, a, b, rfl, ⟨h1, h2⟩, _⟩ := hp i' c _ hci (List.getElem?_eq_getElem (by omega))
    rw [Nat.zero_add, e]
    rcases j with _ | _ | j
    · simp at hcv; subst hcv; exact h1
    · simp at hcv; subst hcv; exact h2
    · omega
/-- The first k of n entries are in their places. -/
def CpE (w : World) (B g n k : Nat) (f : Nat → En) (cur : Array Value) : Prop :=
  Blk w g cur 26 ∧ n * 2 ≤ cur.size ∧ ∀ i, i < k → ∃ a b, (cur[i * 2]? = some a ∧ cur[i * 2 + 1]? = some b) ∧ EnE.R w (fun b => B ≤ b ∧ b ≠ g) [a, b] (f i)
theorem CpE.below {w w' : World} {B g n k : Nat} {f : Nat → En} {cur : Array Value} (h : CpE w B g n k f cur) (hb : Below w.heap.size w w') : CpE w' B g n k f cur := by
  obtain ⟨h1, h2, h3⟩ := h
  refine ⟨h1.below hb, h2, fun i hi => ?_⟩
  obtain ⟨a, b, hv, hR⟩ := h3 i hi
  exact ⟨a, b, hv, EnE.keep hR fun b _ hl => hb.block b hl⟩
theorem CpE.next {w : World} {B g n k : Nat} {f : Nat → En} {cur : Array Value} {a b : Value} (h : CpE w B g n k f cur) (hk : k < n) (hv : EnE.R w (fun b => B ≤ b ∧ b ≠ g) [a, b] (f k)) :
    CpE ((w.setCell ⟨g, k * 2, none⟩ a).setCell ⟨g, k * 2 + 1, none⟩ b) B g n (k + 1) f ((cur.set! (k * 2) a).set! (k * 2 + 1) b) := by
  obtain ⟨h1, h2, h3⟩ := h
  have hkp : ∀ b', b' ≠ g → ((w.setCell ⟨g, k * 2, none⟩ a).setCell ⟨g, k * 2 + 1, none⟩ b).heap[b']? = w.heap[b']? := fun b' hb' => by
    rw [Below.heap_setCell _ _ _ _ hb', Below.heap_setCell _ _ _ _ hb']
  have hg3 := get2 cur (k * 2) a b (by omega)
  refine ⟨(h1.set (k * 2) a).set (k * 2 + 1) b, by simpa using h2, fun i hi => ?_⟩
  rcases Nat.lt_or_ge i k with h5 | h5
  · obtain ⟨a', b', ⟨q1, q2⟩, hR⟩ := h3 i h5
    refine ⟨a', b', ⟨?_, ?_⟩, EnE.keep hR fun b hb hl => hkp b hb.2⟩
    · rw [hg3, if_neg (by omega), if_neg (by omega)]; exact q1
    · rw [hg3, if_neg (by omega), if_neg (by omega)]; exact q2
  · obtain rfl : i = k := by omega
    refine ⟨a, b, ⟨?_, ?_⟩, EnE.keep hv fun b hb hl => hkp b hb.2⟩
    · rw [hg3, if_neg (by omega), if_pos rfl]
    · rw [hg3, if_pos rfl]
theorem CpE.ens {w : World} {B g n : Nat} {f : Nat → En} {cur : Array Value} (h : CpE w B g n n f cur) (hg : B ≤ g) : Ens w (fun b => B ≤ b) (some ⟨g, 0, none⟩) n ((List.range n).map f) := by
  obtain ⟨h1, h2, h3⟩ := h
  refine ens_of_cells (by simp) hg fun i hi => ?_
  obtain ⟨a, b, ⟨q1, q2⟩, hR⟩ := h3 i hi
  refine ⟨a, b, ⟨h1.cell _ q1, h1.cell _ q2⟩, ?_⟩
  rw [show ((List.range n).map f).getD i en0 = f i by rw [List.getD_eq_getElem?_getD, List.getElem?_map, List.getElem?_range hi]; rfl]
  exact EnE.mono hR fun b hb _ => hb.1
/-- The k-th entry with its piece. -/
def dle (L : List En) (S z : List Int) (k : Nat) : En := ((L.getD k en0).1, (z.drop (ofs S k)).take (S.getD k 0).toNat)
def DealPost (L : List En) (S z : List Int) (n q r : Nat) (w : World) (e : Ending) (w' : World) : Prop :=
  Below w.heap.size w w' ∧ ((¬ (q = n ∧ Fits S n r) ∧ e = .returned (.tuple #[.slice none 0 0, .bool false])) ∨
    (q = n ∧ Fits S n r ∧ ∃ A' c', e = .returned (.tuple #[.slice A' n c', .bool true]) ∧ Ens w' (fun b => w.heap.size ≤ b) A' n ((List.range n).map (dle L S z))))
set_option maxHeartbeats 8000000 in
theorem deal_any (P : Nat → Prop) (A B C : Option Addr) (n m q c r d : Nat) (L : List En) (S z : List Int) (w : World) (hz : Ens w P A n L) (hS : Is w B q S) (hd : Bs w C r z) (hn : n ≤ 30) (hr : r ≤ 100000) (hq : q ≤ 1000000) (hs : esm L) (hSb : ∀ y ∈ S, -9223372036854775808 ≤ y ∧ y ≤ 9223372036854775807) (hzb : ∀ x ∈ z, 0 ≤ x ∧ x < 256) :
    Calls Try.prog 26 #[.slice A n m, .slice B q c, .slice C r d] w (DealPost L S z n q r w) := by
  have HL := Lib.hid hz.1
  have HC := Lib.hid (fun h => hz.cells h)
  have HD := Lib.hid hd
  have HSM := Lib.hid hs
  have HZB := Lib.hid hzb
  have HSI := Lib.hid hS
  have hfit := fit_any B q c r S w hS hq (by omega) hSb
  clear hz hS hd hs hSb hzb
  by_cases hqn : q = n
  case neg =>
    have hb2 : ((q : Int) != (n : Int)) = true := by simp; omega
    have HN := Lib.hid hqn
    clear hfit hqn
    go_enter Try.func26, Try.ntmps26
    go_wp2
    go_ret2
    exact ⟨Below.refl _ _, .inl ⟨fun h => HN.out h.1, rfl⟩⟩
  subst hqn
  have hb2 : ((q : Int) != (q : Int)) = false := by simp
  go_enter Try.func26, Try.ntmps26
  go_wp2_with fail
  refine hfit.mono ?_
  rintro e w0 ⟨fb, rfl, hb0, hf1, hf2⟩
  clear hfit
  cases fb
  · have HF := Lib.hid (hf2 rfl)
    clear hf1 hf2
    go_wp2
    go_ret2
    exact ⟨hb0, .inl ⟨fun h => HF.out h.2, rfl⟩⟩
  have HF := Lib.hid (hf1 rfl)
  clear hf1 hf2
  go_wp2_with fail
  refine (clone24_any (m := d) (HD.out.below hb0) hr).mono ?_
  rintro e w1 ⟨C1, d1, rfl, ho1, hb1⟩
  have hbd1 := hb0.trans (hb1.mono hb0.size)
  have hbs1 := ho1.bs.2
  have hcap1 := ho1.cap
  have HBLK : Hid (∀ a, C1 = some a → w.heap.size ≤ a.block) := Lib.hid fun a ha => by have := own_addr ho1 a ha; have := hb0.size; omega
  obtain ⟨cur0, hcur0, hmk⟩ := make_ent q (by omega)
  have hblk := Blk.new w1 cur0 26
  have hbm := below_one w1 (.cells cur0 26)
  have HB1 := Lib.hid hbd1
  have HBS := Lib.hid hbs1
  have HLT := Lib.hid (fun (h0 : 0 < r) => hbs1.lt h0)
  clear ho1 hb1 hb0 hbs1
  go_wp2
  clear hmk
  have hgB : w.heap.size ≤ w1.heap.size := hbd1.size
  generalize w1.alloc (.cells cur0 26) = w2 at *
  go_loopw [10, 33] (fun t i wr => ∃ (k u : Nat) (cur : Array Value), k ≤ q ∧ t = .int .i64 u ∧ i = .int .i64 k ∧ Hid (u = ofs S k) ∧ Hid (CpE wr w.heap.size w1.heap.size q k (dle L S z) cur) ∧ Hid (cur.size = q * 2) ∧ Hid (Below w1.heap.size w1 wr)) (fun _ i _ => q - (intOf i).toNat)
  case atStart => exact ⟨0, 0, cur0, by omega, rfl, rfl, Lib.hid rfl, Lib.hid ⟨hblk, by omega, fun i hi => absurd hi (by omega)⟩, Lib.hid hcur0, Lib.hid hbm⟩
  case round =>
    clear hblk hbm hcur0
    obtain ⟨k, u, cur, hk, rfl, rfl, HU, HCP, HSZ, HBD⟩ := hrel
    by_cases hlt : k < q
    · obtain ⟨g, o, rfl, _, hg, hc⟩ := HC.out (by omega)
      obtain ⟨KL, DL, a1, l1, m1, b1, r1, k1, he, hlm, hnl, hks, hrk, hnb, hbs, hbb, hsq, hcell⟩ := hc k hlt
      have ek : (k : Int) < q := by omega
      have e3 : IntKind.i64.wrap ((k : Int) + 1) = ((k + 1 : Nat) : Int) := IntWalk.i64_in _ (by omega)
      have hbw := HB1.out.trans (HBD.out.mono HB1.out.size)
      have hbA := below_one wr (.cells (enc' a1 l1 m1 b1 r1 k1) 26)
      have hbX := hbw.trans (hbA.mono hbw.size)
      obtain ⟨c0, c1⟩ := hcell wr hbw
      obtain ⟨g2, o2, hB2, s0⟩ := (HSI.out.below hbX).at_ hlt
      subst hB2
      obtain ⟨hsn, hfo⟩ := HF.out.1 k hlt
      have hof : ofs S (k + 1) = ofs S k + (S.getD k 0).toNat := rfl
      obtain ⟨s, hs⟩ := Int.eq_ofNat_of_zero_le hsn
      rw [← HU.out] at hof
      rw [hs, Int.toNat_natCast] at hof
      rw [hs] at s0
      obtain ⟨t, ht⟩ : ∃ t, t = u + s := ⟨_, rfl⟩
      have htr : u + s ≤ r := by rw [← hof]; exact hfo
      have e5 : IntKind.i64.wrap ((u : Int) + (s : Int)) = (t : Int) := by rw [IntWalk.i64_in _ (by omega)]; omega
      have hsl := fun w' => slice_lhm8 C1 r d1 u s (by omega) w'
      simp only [Int.natCast_add] at hsl
      have HT := Lib.hid ht
      have HU2 : Hid (t = ofs S (k + 1)) := Lib.hid (by rw [hof, ht])
      have HDL : Hid (dle L S z k = (KL, (z.drop u).take s)) := Lib.hid (by unfold dle; rw [he, hs, ← HU.out]; rfl)
      have hpc := (HBS.out.mid u s htr)
      have hpn := mid_none HBS.out htr
      have hpb : 0 < s → ∀ a, (if s = 0 then C1 else C1.map (·.add u)) = some a → w.heap.size ≤ a.block ∧ a.block ≠ w1.heap.size := fun h0 a ha => by
        obtain ⟨b, hb, hbe⟩ := mid_block ha
        have h1 := HBLK.out b hb
        have h2 := HLT.out (by omega) b hb
        omega
      have hpz : ∀ x ∈ (z.drop u).take s, 0 ≤ x ∧ x < 256 := fun x hx => HZB.out x (List.mem_of_mem_drop (List.mem_of_mem_take hx))
      have HSQ := Lib.hid (fun w' (h : Below w1.heap.size w1 w') => Bs.sq (hpc.below h) hpz (P := fun b => w.heap.size ≤ b ∧ b ≠ w1.heap.size) hpb)
      generalize hAp : (if s = 0 then C1 else C1.map (·.add u)) = Ap at *
      clear hAp
      have hsm := HSM.out k
      rw [he] at hsm
      replace hsm : KL.length ≤ 50 ∧ blen 50 KL ∧ DL.length ≤ 500 := hsm
      have hX := Blk.new wr (enc' a1 l1 m1 b1 r1 k1) 26
      obtain ⟨x0, x1⟩ := hX.c2
      have hCA := HCP.out.below hbA
      have hBA : Below w1.heap.size w1 (wr.alloc (.cells (enc' a1 l1 m1 b1 r1 k1) 26)) := HBD.out.trans (hbA.mono HBD.out.size)
      have hXd : Blk (wr.alloc (.cells (enc' a1 l1 m1 b1 r1 k1) 26)).drew wr.heap.size (enc' a1 l1 m1 b1 r1 k1) 26 := hX
      have hCd := hCA.below (below_one' _)
      have HBd := Lib.hid (hBA.trans ((below_one' _).mono hBA.size))
      have hksd := hks.below (hbX.trans ((below_one' _).mono hbX.size))
      have hcon := lcopy_any P a1 l1 m1 KL _ hksd hnl (by rw [← hks.1]; omega) (hsm.2.1.le (by omega))
      have hgw : w1.heap.size ≠ wr.heap.size := by have := HCP.out.1.lt; omega
      have hL1 : Hid (l1 = KL.length) := Lib.hid hks.1.symm
      have HPN := Lib.hid hpn
      have HPL := Lib.hid hpc.1
      have hwsz : w1.heap.size < (wr.alloc (.cells (enc' a1 l1 m1 b1 r1 k1) 26)).drew.heap.size := by have := HCP.out.1.lt; show _ < (wr.alloc _).heap.size; simp; omega
      clear hc hcell he hlm hks hrk hnb hbs hbb hsq hbA hbX hbw hX hCA hBA hksd hsm hpc hpn hpb hpz hof hs hsn hfo htr HBD HCP hnl
      go_wp2
      clear c0 c1 x0 x1 s0
      have L1 : ∀ w', Blk w' wr.heap.size (enc' a1 l1 m1 b1 r1 k1) 26 → w'.cell? ⟨wr.heap.size, 0, none⟩ = some (.slice a1 l1 m1) ∧ w'.cell? ⟨wr.heap.size, 1, none⟩ = some (.slice b1 r1 k1) := fun w' h => h.c2
      refine Seq.wp_region_last (fun w' => Blk w' wr.heap.size (enc' a1 l1 m1 b1 r1 k1) 26) (by kernel_rfl) (by kernel_rfl) (by kernel_rfl) hXd ?_
      generalize (wr.alloc (.cells (enc' a1 l1 m1 b1 r1 k1) 26)).drew = wd at *
      repeat (first | (refine Seq.SeqE.skip (by rfl) ?_; (try simp only [Act.put, List.setIfInBounds_toArray, List.set_cons_zero, List.set_cons_succ])) | (refine Seq.SeqE.det ?_ (by rfl) (fun w hS => ?_) ?_; rotate_left; ((try dsimp only at hS); go_simp; (try rw [if_pos (by omega)]); with_reducible rfl); (try simp only [Act.put, List.setIfInBounds_toArray, List.set_cons_zero, List.set_cons_succ])))
      refine Seq.SeqE.make (by rfl) (by rfl) (fun K Q' hK => ?_)
      go_simp
      go_at_call 53
      refine hcon.mono ?_
      rintro en w5 ⟨v5, rfl, hb5, ho5⟩
      obtain ⟨A5, m5, rfl, h51, h52, h53⟩ := ho5.lks
      rw [← hL1.out] at h51 h53 ⊢
      have hS5 := hXd.below hb5
      have hC5 := hCd.below hb5
      have hbd5 := HBd.out.trans (hb5.mono HBd.out.size)
      have h5 := hC5.1
      obtain ⟨y0, hy0⟩ : ∃ v, cur[k * 2]? = some v := ⟨_, Array.getElem?_eq_getElem (by have := HSZ.out; omega)⟩
      obtain ⟨y1, hy1⟩ : ∃ v, cur[k * 2 + 1]? = some v := ⟨_, Array.getElem?_eq_getElem (by have := HSZ.out; omega)⟩
      have q0 := h5.cell _ hy0
      have q1 := h5.cell _ hy1
      have r0 := h5.free (k * 2)
      have r1' := h5.free (k * 2 + 1)
      have hlk5 : Lks w5 (fun b => w.heap.size ≤ b ∧ b ≠ w1.heap.size) A5 l1 KL := h53.mono fun b hb9 _ => by have h2 : wd.heap.size ≤ b := hb9; omega
      have hel : EnE.R w5 (fun b => w.heap.size ≤ b ∧ b ≠ w1.heap.size) [.slice A5 l1 m5, .slice Ap s s] (dle L S z k) := by
        rw [HDL.out]
        exact EnE.mk hlk5 h51 h52 HPL.out (Nat.le_refl _) HPN.out (HSQ.out w5 hbd5)
      have hnx := hC5.next hlt hel
      clear hcon hb5 ho5 hXd hCd h5 h53 hlk5 hel
      refine hK.out _ _ (hS5) ?_
      clear hK K
      try simp only [Act.put, List.setIfInBounds_toArray, List.set_cons_zero, List.set_cons_succ]
      repeat (first | (refine Seq.SeqE.skip (by rfl) ?_; (try simp only [Act.put, List.setIfInBounds_toArray, List.set_cons_zero, List.set_cons_succ])) | (refine Seq.SeqE.det ?_ (by rfl) (fun w hS => ?_) ?_; rotate_left; ((try dsimp only at hS); go_simp; (try rw [if_pos (by omega)]); with_reducible rfl); (try simp only [Act.put, List.setIfInBounds_toArray, List.set_cons_zero, List.set_cons_succ])))
      refine Seq.SeqE.last (by rfl) (by rfl) (fun K Q' hK => ?_)
      go_simp
      refine hK.out _ _ ?_
      clear hK K
      try simp only [Act.put, List.setIfInBounds_toArray, List.set_cons_zero, List.set_cons_succ]
      clear r0 r1' q0 q1 hy0 hy1 L1 hS5 hC5 hsl
      have HC9 := Lib.hid hnx
      have HSZ9 : Hid (((cur.set! (k * 2) (.slice A5 l1 m5)).set! (k * 2 + 1) (.slice Ap s s)).size = q * 2) := Lib.hid (by have := HSZ.out; simpa using this)
      have HB9 := Lib.hid (Below.setCell (Below.setCell hbd5 (p := ⟨w1.heap.size, k * 2, none⟩) (Nat.le_refl _) (.slice A5 l1 m5)) (p := ⟨w1.heap.size, k * 2 + 1, none⟩) (Nat.le_refl _) (.slice Ap s s))
      clear hnx hbd5
      go_wp2
      go_roundw
      case rel => exact ⟨k + 1, t, _, by omega, (by have := HT.out; congr 1; omega), by go_num, HU2, HC9, HSZ9, HB9⟩
      case measure => simp [intOf]; omega
    · obtain rfl : k = q := by omega
      have HE := Lib.hid (HCP.out.ens hgB)
      have HBF := Lib.hid (HB1.out.trans (HBD.out.mono HB1.out.size))
      clear HCP
      go_wp2
      go_ret2
      exact ⟨HBF.out, .inr ⟨rfl, HF.out, _, _, rfl, HE.out⟩⟩
end Go.Proofs.Ytoeedhdckccajaa.Cur
