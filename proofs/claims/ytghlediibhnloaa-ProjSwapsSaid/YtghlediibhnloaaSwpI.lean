/- Projections copied by the document, each set into a block of its own. -/
import Derived.Test.YtghlediibhnloaaSwpH
import Derived.Test.YtghlediibhnloaaPrjQ
namespace Go.Proofs.Ytghlediibhnloaa.Cur
open Go.RowKit Mem
set_option linter.unusedVariables false
set_option maxRecDepth 100000


/-- The first j sets, in an array of the call's own. -/
def PArr (w : World) (W : Nat) (v : Value) (S : List (List Int)) (b : Nat → Nat) (j : Nat) : Prop := ∃ cs, w.ownsRow W 101 1 v j cs ∧ (∀ i, i < j → ∃ u, cs[i]? = some u ∧ SetD w W u (S.getD i []) (b i)) ∧ ∀ i i', i < i' → i' < j → b i < b i'
theorem PArr.keep {w w' : World} {W : Nat} {v : Value} {S : List (List Int)} {b : Nat → Nat} {j : Nat} (h : PArr w W v S b j) (hk : ∀ x, W ≤ x → x < w.heap.size → w'.heap[x]? = w.heap[x]?) : PArr w' W v S b j := by
  obtain ⟨cs, h1, h2, h3⟩ := h
  refine ⟨cs, own_block h1 fun x hx => hk x (World.ownsRow.lt h1 x hx).1 (World.ownsRow.lt h1 x hx).2, fun i hi => ?_, h3⟩
  obtain ⟨u, hu, hd⟩ := h2 i hi
  exact ⟨u, hu, hd.keep (hk _ hd.blk.2.1 hd.blk.2.2.1)⟩
theorem PArr.below {w w' : World} {W : Nat} {v : Value} {S : List (List Int)} {b : Nat → Nat} {j : Nat} (h : PArr w W v S b j) (hb : Below w.heap.size w w') : PArr w' W v S b j := h.keep fun x _ hl => hb.block x hl
theorem PArr.snoc {w w' : World} {W b' j : Nat} {v v' u : Value} {S : List (List Int)} {b : Nat → Nat} {cs : List Value} (h1 : w.ownsRow W 101 1 v j cs) (h2 : ∀ i, i < j → ∃ u, cs[i]? = some u ∧ SetD w W u (S.getD i []) (b i)) (h3 : ∀ i i', i < i' → i' < j → b i < b i')
    (hd : SetD w W u (S.getD j []) b') (hlt : ∀ i, i < j → b i < b') (ho : w'.ownsRow W 101 1 v' (j + 1) (cs ++ [u])) (hg : w.grownBy w' v.ownBlock) : PArr w' W v' S (fun i => if i = j then b' else b i) (j + 1) := by
  have hcl : cs.length = j := by have := h1.1; omega
  have hkp : ∀ {x : Value} {z : List Int} {y : Nat}, SetD w W x z y → SetD w' W x z y := fun {x z y} hx => hx.keep (hg.block y hx.blk.2.2.1 fun e => by
    obtain ⟨⟨c, hc⟩, _⟩ := hx.blk
    obtain ⟨⟨c2, hc2⟩, _⟩ := row_blk h1 e.symm
    exact blk_ne hc hc2 (by decide) rfl)
  refine ⟨_, ho, fun i hi => ?_, fun i i' hii hi' => ?_⟩
  · by_cases hij : i = j
    · subst hij
      simp only [if_true]
      exact ⟨u, by rw [List.getElem?_append_right (by omega), hcl, Nat.sub_self]; rfl, hkp hd⟩
    · simp only [hij, if_false]
      obtain ⟨u', hu, hd'⟩ := h2 i (by omega)
      exact ⟨u', by rw [List.getElem?_append_left (by omega)]; exact hu, hkp hd'⟩
  · have hij : i ≠ j := by omega
    by_cases hij' : i' = j
    · simp only [hij, hij', if_true, if_false]
      exact hlt i (by omega)
    · simp only [hij, hij', if_false]
      exact h3 i i' hii (by omega)
/-- The first k stripes, in an array of the call's own. -/
def PStp (w : World) (W : Nat) (v : Value) (L : List Stp) (a : Nat → Nat) (b : Nat → Nat → Nat) (k : Nat) : Prop := ∃ cs, w.ownsRow W 60 3 v k cs ∧ (∀ i, i < k → StpAt w W cs (L.getD i stp0) (a i) (b i) i) ∧ Apt k (slen L) a b
theorem PStp.keep {w w' : World} {W : Nat} {v : Value} {L : List Stp} {a : Nat → Nat} {b : Nat → Nat → Nat} {k : Nat} (h : PStp w W v L a b k) (hk : ∀ x, W ≤ x → x < w.heap.size → w'.heap[x]? = w.heap[x]?) : PStp w' W v L a b k := by
  obtain ⟨cs, h1, h2, h3⟩ := h
  refine ⟨cs, own_block h1 fun x hx => hk x (World.ownsRow.lt h1 x hx).1 (World.ownsRow.lt h1 x hx).2, fun i hi => ?_, h3⟩
  have hl := (h2 i hi).lt
  exact (h2 i hi).keep (fun j _ => rfl) (hk _ hl.1.1 hl.1.2.1) fun x hx => hk _ (hl.2 x hx).1 (hl.2 x hx).2.1
theorem PStp.below {w w' : World} {W : Nat} {v : Value} {L : List Stp} {a : Nat → Nat} {b : Nat → Nat → Nat} {k : Nat} (h : PStp w W v L a b k) (hb : Below w.heap.size w w') : PStp w' W v L a b k := h.keep fun x _ hl => hb.block x hl
theorem PStp.snoc {w w' : World} {W a' k sz : Nat} {v v' u : Value} {L : List Stp} {a : Nat → Nat} {b : Nat → Nat → Nat} {b' : Nat → Nat} {cs : List Value} {f t : Int} {S : List (List Int)} (h1 : w.ownsRow W 60 3 v k cs) (h2 : ∀ i, i < k → StpAt w W cs (L.getD i stp0) (a i) (b i) i) (h3 : Apt k (slen L) a b)
    (hL : L.getD k stp0 = (f, t, S)) (hf : 0 ≤ f ∧ f < 18446744073709551616) (ht : 0 ≤ t ∧ t < 18446744073709551616) (hu : u.ownBlock = some a') (hA : ArrD w W u S b') (hlt : ∀ i, i < k → a i < sz ∧ ∀ j, j < slen L i → b i j < sz) (ha : sz ≤ a') (hb : ∀ j, j < S.length → sz ≤ b' j) (hinc : ∀ j l, j < l → l < S.length → b' j < b' l)
    (ho : w'.ownsRow W 60 3 v' (k + 1) (cs ++ [.int .u64 f, .int .u64 t, u])) (hg : w.grownBy w' v.ownBlock) : PStp w' W v' L (fun i => if i = k then a' else a i) (fun i => if i = k then b' else b i) (k + 1) := by
  have hcl : cs.length = k * 3 := h1.1
  have hlk : slen L k = S.length := by show (L.getD k stp0).2.2.length = _; rw [hL]
  have hkp : ∀ {x : Nat} {c : Array Value} {T : Nat}, Blk w x c T → T ≠ 60 → w'.heap[x]? = w.heap[x]? := fun {x c T} hx hT => hg.block x hx.lt fun e => by
    obtain ⟨⟨c2, hc2⟩, _⟩ := row_blk h1 e.symm
    exact blk_ne hx hc2 hT rfl
  refine ⟨_, ho, fun i hi => ?_, h3.next hlt ha (fun j hj => hb j (by rw [← hlk]; exact hj)) fun j l hj hl e => ?_⟩
  · by_cases hik : i = k
    · subst hik
      simp only [if_true]
      rw [hL]
      refine ⟨u, by rw [List.getElem?_append_right (by omega), show i * 3 - cs.length = 0 by omega]; rfl, by rw [List.getElem?_append_right (by omega), show i * 3 + 1 - cs.length = 1 by omega]; rfl, by rw [List.getElem?_append_right (by omega), show i * 3 + 2 - cs.length = 2 by omega]; rfl, hf, ht, hu, hA.keep hu ?_ fun x hx => ?_⟩
      · obtain ⟨c, hc⟩ := (hA.blk hu).1
        exact hkp hc (by decide)
      · obtain ⟨cs2, _, h6⟩ := hA
        obtain ⟨u2, _, h5⟩ := h6 x hx
        obtain ⟨c, hc⟩ := h5.blk.1
        exact hkp hc (by decide)
    · simp only [hik, if_false]
      have hl := (h2 i (by omega)).lt
      obtain ⟨_, _, c, hc⟩ := hl.1
      refine (h2 i (by omega)).keep (fun j hj => ?_) (hkp hc (by decide)) fun x hx => ?_
      · rw [List.getElem?_append_left (by omega)]
      · obtain ⟨_, _, c, hc⟩ := hl.2 x hx
        exact hkp hc (by decide)
  · rw [hlk] at hj hl
    rcases Nat.lt_trichotomy j l with h | h | h
    · have := hinc j l h hl; omega
    · exact h
    · have := hinc l j h hj; omega
/-- The state of the outer loop. -/
def RdO (w : World) (e E : Int) (A : Option Addr) (n m : Nat) (L : List Stp) (k : Nat) (v : Value) (a : Nat → Nat) (b : Nat → Nat → Nat) (wr : World) : Prop :=
  Blk wr w.heap.size (prc e A n m) 25 ∧ Blk wr (w.heap.size + 1) (prc 0 none 0 0) 25 ∧ Blk wr (w.heap.size + 1 + 1) #[.int .u64 E, v] 25 ∧ PStp wr (w.heap.size + 3) v L a b k ∧ Below w.heap.size w wr
/-- The state of the inner loop. -/
def RdI (wr : World) (f t : Int) (S : List (List Int)) (j : Nat) (v : Value) (b : Nat → Nat) (w2 : World) : Prop :=
  Blk w2 wr.heap.size #[.int .u64 f, .int .u64 t, v] 60 ∧ PArr w2 (wr.heap.size + 1) v S b j ∧ Below wr.heap.size wr w2

theorem own_some {w : World} {B : Nat} {v : Value} {z : List Int} (h : OwnU w B v z) (hz : 1 ≤ z.length) : ∃ b, v.ownBlock = some b := by
  rcases h.2 with ⟨_, h0⟩ | ⟨g, _, _, e, _⟩
  · omega
  · exact ⟨g, by rw [e]; rfl⟩
set_option maxHeartbeats 8000000 in
theorem rcopyd_any (P : Nat → Prop) (e : Int) (A : Option Addr) (n m : Nat) (L : List Stp) (w : World) (hz : Pts w P A n L) (hn : n ≤ 1000) (hlen : plen 1000 L) (e0 : 0 ≤ e) (e1 : e + 1 < 18446744073709551616) (hpn : pne L) :
    Calls Try.prog 65 #[pragg e A n m] w (PCpdPost (e + 1) L w) := by
  have HZ := Lib.hid hz
  have HL := Lib.hid hz.1
  have HC := Lib.hid (fun h => hz.cells h)
  have HLEN := Lib.hid (fun k => hlen.at_ k)
  have HPN := Lib.hid hpn
  obtain ⟨E, hE⟩ : ∃ E, E = e + 1 := ⟨_, rfl⟩
  rw [← hE]
  have he3 : IntKind.u64.wrap (e + 1) = E := by rw [hE]; exact IntWalk.u64_in _ (by omega)
  clear hE
  obtain ⟨w3, hw3, hX, hY, hO, hb, hsz⟩ : ∃ w3, w3 = ((w.alloc (.cells (prc e A n m) 25)).alloc (.cells (prc 0 none 0 0) 25)).alloc (.cells (prc E none 0 0) 25) ∧ Blk w3 w.heap.size (prc e A n m) 25 ∧ Blk w3 (w.heap.size + 1) (prc 0 none 0 0) 25 ∧ Blk w3 (w.heap.size + 1 + 1) (prc E none 0 0) 25 ∧ Below w.heap.size w w3 ∧ w3.heap.size = w.heap.size + 3 := by
    refine ⟨_, rfl, ?_⟩
    obtain ⟨h1, h2, h3, h4⟩ := three_new (Below.refl _ (((w.alloc (.cells (prc e A n m) 25)).alloc (.cells (prc 0 none 0 0) 25)).alloc (.cells (prc E none 0 0) 25)))
    exact ⟨h1, h2, h3, h4, by simp⟩
  have x0 := ((Blk.new w (prc e A n m) 25).alloc (.cells (prc 0 none 0 0) 25)).c2
  obtain ⟨x0, x1⟩ := x0
  have HO : Hid (RdO w e E A n m L 0 (.slice none 0 0) (fun _ => 0) (fun _ _ => 0) w3) := Lib.hid ⟨hX, hY, hO, ⟨[], World.ownsRow_nil _ _ _ _, fun i hi => absurd hi (by omega), fun i j hi => absurd hi (by omega), fun i k j l hi => absurd hi (by omega)⟩, hb⟩
  clear hz hlen hX hY hO hb hsz hpn
  go_enter Try.func65, Try.ntmps65
  go_wp2
  rw [← hw3]
  clear hw3 x0 x1
  clear he3
  go_loopw [4] (fun i wr => ∃ (k : Nat) (v : Value) (aa : Nat → Nat) (bb : Nat → Nat → Nat), k ≤ n ∧ i = .int .i64 k ∧ Hid (RdO w e E A n m L k v aa bb wr)) (fun i _ => n - (intOf i).toNat)
  case atStart => exact ⟨0, _, _, _, by omega, rfl, HO⟩
  case round =>
    clear HO
    obtain ⟨k, v, aa, bb, hk, rfl, HR⟩ := hrel
    obtain ⟨wo, hwo⟩ : ∃ wo, wo = wr := ⟨_, rfl⟩
    subst hwo
    obtain ⟨hX, hY, hO, ho, hb⟩ := HR.out
    obtain ⟨Av, cv, hv, _⟩ := own_slice ho.choose_spec.1
    subst hv
    obtain ⟨x0, x1⟩ := hX.c2
    by_cases hlt : k < n
    · obtain ⟨g, o, rfl, _, _, hc⟩ := HC.out (by omega)
      obtain ⟨f, t, S, a, l, mm, he, hf, ht, hl, hlm, han, hst, hcell⟩ := hc k hlt
      obtain ⟨c0, c1, c2⟩ := hcell wo hb
      have hll := HLEN.out k
      rw [he] at hll
      have e2 : (k : Int) < n := by omega
      have e4 : IntKind.i64.wrap ((k : Int) + 1) = ((k + 1 : Nat) : Int) := IntWalk.i64_in _ (by omega)
      have HCELL := Lib.hid hcell
      have HE := Lib.hid he
      have HST := Lib.hid (fun h => hst.cells h)
      have HSL : Hid (S.length = l) := Lib.hid hl
      have HFB := Lib.hid hf
      have HTB := Lib.hid ht
      have hl10 : l ≤ 1000 := by rw [← hl]; exact hll.1
      have HLL : Hid (∀ z ∈ S, z.length ≤ 1000) := Lib.hid hll.2
      have hS1 : 1 ≤ l ∧ ∀ z ∈ S, 1 ≤ z.length := by
        have h9 := HPN.out (f, t, S) (by rw [← he, List.getD_eq_getElem?_getD, List.getElem?_eq_getElem (by rw [HL.out]; exact hlt)]; exact List.getElem_mem _)
        exact ⟨by rw [← hl]; exact h9.1, h9.2⟩
      have HS1 : Hid (∀ z ∈ S, 1 ≤ z.length) := Lib.hid hS1.2
      have hl1 := hS1.1
      have HKL : Hid (k < L.length) := Lib.hid (by rw [HL.out]; exact hlt)
      have hS : RcS w.heap.size (prc e (some ⟨g, o, none⟩) n m) g (o + k * 3) f t wo.drew := RcS.below ⟨hX, c0, c1⟩ (below_one' wo)
      have L1 : ∀ w', RcS w.heap.size (prc e (some ⟨g, o, none⟩) n m) g (o + k * 3) f t w' → w'.cell? ⟨w.heap.size, 1, none⟩ = some (.slice (some ⟨g, o, none⟩) n m) ∧ w'.cell? ⟨g, o + k * 3, none⟩ = some (.int .u64 f) ∧ w'.cell? ⟨g, o + k * 3 + 1, none⟩ = some (.int .u64 t) := fun w' h => ⟨h.1.c2.2, h.2.1, h.2.2⟩
      have hwr := hb.size
      have hN := Blk.new wo.drew (stc 0 0 none 0 0) 60
      have hI : RdI wo f t S 0 (.slice none 0 0) (fun _ => 0) (wo.alloc (.cells (stc f t none 0 0) 60)).drew :=
        ⟨(Blk.new wo (stc f t none 0 0) 60).drew, ⟨[], World.ownsRow_nil _ _ _ _, fun i hi => absurd hi (by omega), fun i j _ hj => absurd hj (by omega)⟩, (below_one wo (.cells (stc f t none 0 0) 60)).trans ((below_one' _).mono (by simp))⟩
      have HI := Lib.hid hI
      clear hc he hf ht hl han hst hcell hll hX hY hO ho hI hS1
      go_wp2
      clear x0 x1 c0 c1 c2
      refine Seq.wp_region_last (RcS w.heap.size (prc e (some ⟨g, o, none⟩) n m) g (o + k * 3) f t) (by kernel_rfl) (by kernel_rfl) (by kernel_rfl) hS ?_
      repeat (first | (refine Seq.SeqE.skip (by rfl) ?_; (try simp only [Act.put, List.setIfInBounds_toArray, List.set_cons_zero, List.set_cons_succ])) | (refine Seq.SeqE.det ?_ (by rfl) (fun w hS => ?_) ?_; rotate_left; ((try dsimp only at hS); go_simp; (try rw [if_pos (by omega)]); with_reducible rfl); (try simp only [Act.put, List.setIfInBounds_toArray, List.set_cons_zero, List.set_cons_succ])))
      refine Seq.SeqE.make (by rfl) (by rfl) (fun K Q' hK => ?_)
      go_simp
      have hS2 := hS.below (below_one wo.drew (.cells (stc 0 0 none 0 0) 60))
      obtain ⟨q0, q1, q2⟩ := hN.c3
      have r0 := hN.free 0
      have r1 := hN.free 1
      have r2 := hN.free 2
      refine hK.out _ _ (hS2) ?_
      clear hK K
      try simp only [Act.put, List.setIfInBounds_toArray, List.set_cons_zero, List.set_cons_succ]
      repeat (first | (refine Seq.SeqE.skip (by rfl) ?_; (try simp only [Act.put, List.setIfInBounds_toArray, List.set_cons_zero, List.set_cons_succ])) | (refine Seq.SeqE.det ?_ (by rfl) (fun w hS => ?_) ?_; rotate_left; ((try dsimp only at hS); go_simp; (try rw [if_pos (by omega)]); with_reducible rfl); (try simp only [Act.put, List.setIfInBounds_toArray, List.set_cons_zero, List.set_cons_succ])))
      refine Seq.SeqE.last (by rfl) (by rfl) (fun K Q' hK => ?_)
      go_simp
      refine hK.out _ _ ?_
      clear hK K
      try simp only [Act.put, List.setIfInBounds_toArray, List.set_cons_zero, List.set_cons_succ]
      clear hS hS2 q0 q1 q2 r0 r1 r2 hN L1
      generalize (wo.alloc (.cells (stc f t none 0 0) 60)).drew = w2 at *
      go_wp2
      go_loopw [6] (fun i w2 => ∃ (j : Nat) (v : Value) (b5 : Nat → Nat), j ≤ l ∧ i = .int .i64 j ∧ Hid (RdI wo f t S j v b5 w2)) (fun i _ => l - (intOf i).toNat)
      case atStart => exact ⟨0, _, _, by omega, rfl, HI⟩
      case round =>
        clear HI
        obtain ⟨j, v, b5, hj, rfl, HI⟩ := hrel
        obtain ⟨hS, hos, hbi⟩ := HI.out
        obtain ⟨As, cs, hv, hns, hcs⟩ := own_slice hos.choose_spec.1
        subst hv
        obtain ⟨hX, hY, hO, ho, hb⟩ := HR.out
        replace hX := hX.below hbi
        replace hO := hO.below hbi
        have hbw := hb.trans (hbi.mono hb.size)
        obtain ⟨c0, c1, c2⟩ := HCELL.out _ hbw
        obtain ⟨x0, x1⟩ := hX.c2
        obtain ⟨s0, s1, s2⟩ := hS.c3
        by_cases hjl : j < l
        · obtain ⟨g2, o2, rfl, _, _, hc2⟩ := HST.out (by omega)
          obtain ⟨a2, l2, m2, hz2, hlm2, hn2, hus2, _, hzb2, hcell2⟩ := hc2 j hjl
          have s3 := hcell2 _ hbw
          have e5 : (j : Int) < l := by omega
          have e6 : IntKind.i64.wrap ((j : Int) + 1) = ((j + 1 : Nat) : Int) := IntWalk.i64_in _ (by omega)
          have hjS : j < S.length := by rw [HSL.out]; exact hjl
          have hl2 : l2 ≤ 1000 := by rw [← hz2]; exact HLL.out _ (by rw [List.getD_eq_getElem?_getD, List.getElem?_eq_getElem hjS]; exact List.getElem_mem hjS)
          have hz1 : 1 ≤ (S.getD j []).length := HS1.out _ (by rw [List.getD_eq_getElem?_getD, List.getElem?_eq_getElem hjS]; exact List.getElem_mem hjS)
          obtain ⟨z, hz⟩ : ∃ z, z = S.getD j [] := ⟨_, rfl⟩
          rw [← hz] at hz2 hus2 hzb2 hz1
          rw [hz2] at hz1
          have HZZ := Lib.hid hz
          have hrw2 := (hus2.below hbw).2
          have hul : (uv z).length = l2 * 1 := by rw [List.length_map, hz2, Nat.mul_one]
          have hu1 : ∀ u ∈ uv z, u.oneCell' = true := by intro u hu; simp [uv] at hu; obtain ⟨x, _, rfl⟩ := hu; rfl
          have hB2 := hbi.size
          have hnw := World.ownsRow_nil wr wr.heap.size 22 1
          have hsl := hS.lt
          have HOS := Lib.hid hos
          have HZ2 := Lib.hid hz2
          have HZB := Lib.hid hzb2
          have HBW := Lib.hid hbw
          clear hcell2 hus2 hz hos hcs hns hz2 hzb2 hX hY hO ho hb hbw HBW
          go_wp2_with (at_builtin; go_must (first | (refine list_append_rw kindU rfl (.tmp 43) (.tmp 52) rfl wr.heap.size (.slice none 0 0) 0 [] rfl hnw _ l2 m2 (uv z) rfl hul hrw2 hn2 hu1 (by omega) (by omega) (Nat.le_refl _) ?_; intro v3 w3 ho3 hg3 hgr3; have hb3 : Below wr.heap.size wr w3 := (Below.refl _ _).grown hg3 (Nat.le_refl _) (fun k e => by cases e); have hou : OwnU w3 wr.heap.size v3 z := (by unfold OwnU; rw [HZ2.out]; simpa using ho3); obtain ⟨b', hvb⟩ := own_some hou (by rw [HZ2.out]; exact hz1); have hb' := (World.ownsRow.lt hou b' hvb).1; have hsd : SetD w3 (wo.heap.size + 1) v3 (S.getD j []) b' := (by rw [← HZZ.out]; exact ⟨hvb, ⟨hou.1, hou.2.imp id fun ⟨g, c, cur, e1, e2, e3⟩ => ⟨g, c, cur, e1, by omega, e3⟩⟩, HZB.out⟩); obtain ⟨A3, m3, hv3⟩ := hou.slice; subst hv3; rw [HZ2.out] at hou hsd ⊢; replace hbi := hbi.trans (hb3.mono hbi.size); replace hS := hS.below hb3; have hbA := below_one w3 (.cells #[.slice A3 l2 m3] 101); have hrwX := rw_new w3 [.slice A3 l2 m3] 101; have hSA := hS.below hbA; have hoA := (HOS.out.below hb3).below hbA; have hsdA := hsd.keep (hbA.block _ hsd.blk.2.2.1); have hbiA := hbi.trans (hbA.mono hbi.size); have h32 := hb3.size; have HLT : Hid (∀ i, i < j → b5 i < b') := Lib.hid (fun i hi => by obtain ⟨_, _, h2, _⟩ := HOS.out; obtain ⟨_, _, hd⟩ := h2 i hi; have := hd.blk.2.2.1; omega); obtain ⟨css, gg2, gg1, gg3⟩ := hoA; have hB4 : wo.heap.size + 1 ≤ (w3.alloc (.cells #[.slice A3 l2 m3] 101)).heap.size := (by simp; omega); obtain ⟨s0, s1, s2⟩ := hS.c3; clear ho3 hg3 hgr3 hou hbA hbi hb3 hnw hrw2 hul hu1 hsd hvb) | (refine list_append_rw kindSU rfl (.tmp 55) (.tmp 57) rfl (wo.heap.size + 1) _ j _ rfl gg2 _ 1 1 [.slice A3 l2 m3] rfl rfl hrwX (by simp) (by simp [Value.oneCell']) (by omega) (by omega) hB4 ?_; intro v5 w5 ho5 hg5 hgr5; have hge5 := own_ge gg2; have H5 := PArr.snoc gg2 gg1 gg3 hsdA HLT.out ho5 hg5; obtain ⟨A5, c5, hv5, _⟩ := own_slice ho5; subst hv5; have hk5 := Ks.of_grown (S := fun b => wo.heap.size + 1 ≤ b) hg5 (fun b e => hge5 b e); have hS5 := hSA.ks hk5 (by omega); have hb5 := Ks.below hbiA (Nat.le_refl _) hk5 (fun b h9 => by omega); have HEND : Hid (RdI wo f t S (j + 1) (.slice A5 (j + 1) c5) (fun i => if i = j then b' else b5 i) (w5.setCell ⟨wo.heap.size, 2, none⟩ (.slice A5 (j + 1) c5))) := Lib.hid ⟨hS5.set 2 _, H5.keep (fun b hb9 _ => Below.heap_setCell _ _ _ _ (fun e => by have e2 : b = wo.heap.size := e; omega)), Below.setCell hb5 (Nat.le_refl _) _⟩; have q2 := hS5.c3.2.2; have f2 := hS5.free 2; clear gg1 gg2 gg3 hsdA ho5 hg5 hgr5 hge5 H5 hk5 hb5 hbiA hSA hS hS5 hrwX hB4)))
          go_roundw
          case rel => exact ⟨j + 1, _, _, by omega, by go_num, HEND⟩
          case measure => simp [intOf]; omega
        · have hjl2 : j = l := by omega
          subst hjl2
          obtain ⟨a5, hva⟩ : ∃ a5, (Value.slice As j cs).ownBlock = some a5 := by
            rcases hos.choose_spec.1.2 with ⟨_, h0⟩ | ⟨g, _, _, e, _⟩
            · omega
            · exact ⟨g, by rw [e]; rfl⟩
          have hinc := hos.choose_spec.2.2
          have harr : ArrD wr (wo.heap.size + 1) (.slice As j cs) S b5 := by
            obtain ⟨c2, h1, h2, _⟩ := hos
            exact ⟨c2, by rw [HSL.out]; exact h1, fun i hi => h2 i (by rw [← HSL.out]; exact hi)⟩
          have hO0 := HR.out.2.2.1.lt
          have harr3 := harr.mono3 (W' := w.heap.size + 3) (by omega)
          have hba : wo.heap.size ≤ a5 := by have := (harr.blk hva).2.1; omega
          have hbb : ∀ i, i < S.length → wo.heap.size ≤ b5 i := fun i hi => by have := (harr.lt hi).1; omega
          have HLTS : Hid (∀ i, i < k → aa i < wo.heap.size ∧ ∀ j, j < slen L i → bb i j < wo.heap.size) := Lib.hid fun i hi => by
            obtain ⟨_, _, h2, _⟩ := HR.out.2.2.2.1
            exact ⟨(h2 i hi).lt.1.2.1, fun j hj => ((h2 i hi).lt.2 j hj).2.1⟩
          replace hY := hY.below hbi
          replace ho := ho.below hbi
          have hbA := below_one wr (.cells #[.int .u64 f, .int .u64 t, .slice As j cs] 60)
          have hrwX := rw_new wr [.int .u64 f, .int .u64 t, .slice As j cs] 60
          have harrA := harr3.below hva hbA
          have hXA := hX.below hbA
          have hYA := hY.below hbA
          have hOA := hO.below hbA
          have hoA := ho.below hbA
          have hbwA := hbw.trans (hbA.mono hbw.size)
          obtain ⟨css, gg2, gg1, gg3⟩ := hoA
          have hB4 : w.heap.size + 3 ≤ (wr.alloc (.cells #[.int .u64 f, .int .u64 t, .slice As j cs] 60)).heap.size := by have := hO.lt; simp; omega
          obtain ⟨q0, q1⟩ := hO.c2
          have HN1 : k + 1 ≤ 1000000 := by omega
          have HSNOC := Lib.hid (fun w5 v5 ho5 hg5 => PStp.snoc (w' := w5) (v' := v5) gg2 gg1 gg3 HE.out HFB.out HTB.out hva harrA HLTS.out hba hbb (fun x y hxy hy => hinc x y hxy (by rw [← HSL.out]; exact hy)) ho5 hg5)
          clear hY ho hX hO hb hbw hbA hos hcs hns harr harr3 harrA hinc hva hbb gg1 gg3
          go_wp2_with (at_builtin; go_must (refine list_append_rw kindST rfl (.tmp 61) (.tmp 63) rfl (w.heap.size + 3) _ k _ rfl gg2 _ 1 _ [.int .u64 f, .int .u64 t, .slice As j cs] rfl rfl hrwX (by simp) (by simp [Value.oneCell']) (by omega) (by omega) hB4 ?_; intro v5 w5 ho5 hg5 hgr5; have hge5 := own_ge gg2; have H5 := HSNOC.out w5 v5 ho5 hg5; obtain ⟨A5, c5, hv5, _⟩ := own_slice ho5; subst hv5; have hk5 := Ks.of_grown (S := fun b => w.heap.size + 3 ≤ b) hg5 (fun b e => hge5 b e); have hX5 := hXA.ks hk5 (by omega); have hY5 := hYA.ks hk5 (by omega); have hO5 := hOA.ks hk5 (by omega); have hb5 := Ks.below hbwA (Nat.le_refl _) hk5 (fun b h9 => by omega); have HEND := Lib.hid (show RdO w e E (some ⟨g, o, none⟩) n m L (k + 1) (.slice A5 (k + 1) c5) (fun i => if i = k then a5 else aa i) (fun i => if i = k then b5 else bb i) (w5.setCell ⟨w.heap.size + 1 + 1, 1, none⟩ (.slice A5 (k + 1) c5)) from ⟨hX5.far (g := w.heap.size + 1 + 1) 1 _ (by omega), hY5.far (g := w.heap.size + 1 + 1) 1 _ (by omega), hO5.set 1 _, H5.keep (fun b hb9 _ => Below.heap_setCell _ _ _ _ (fun e => by have e2 : b = w.heap.size + 1 + 1 := e; omega)), Below.setCell hb5 (by show w.heap.size ≤ w.heap.size + 1 + 1; omega) _⟩); have q5 := hO5.c2.2; have f5 := hO5.free 1; clear gg2 ho5 hg5 hgr5 hge5 H5 hk5 hb5 hbwA hXA hYA hOA hX5 hY5 hO5 hrwX hB4))
          go_roundw
          case rel => exact ⟨k + 1, _, _, _, by omega, by go_num, HEND⟩
          case measure => simp [intOf]; omega
    · have hkn : k = n := by omega
      subst hkn
      obtain ⟨q0, q1⟩ := hO.c2
      obtain ⟨y0, y1⟩ := hY.c2
      have f0 := hY.free 0
      have f1 := hY.free 1
      have HHO := Lib.hid ho
      have HBD := Lib.hid hb
      clear hX hO ho hb HR
      go_wp2
      refine bodyPost_ret (v := .agg #[.int .u64 E, .slice Av k cv]) (by simp [results, Try.results65, go_sem, y0, y1]) rfl ⟨_, aa, bb, rfl, ?_, ?_, by rw [HL.out]; exact HHO.out.choose_spec.2.2⟩
      · iterate 2 (refine Below.setCell ?_ (by simp) _)
        exact HBD.out
      · have h := HHO.out.keep (w' := (wo.setCell ⟨w.heap.size + 1, 0, none⟩ (.int .u64 E)).setCell ⟨w.heap.size + 1, 1, none⟩ (.slice Av k cv)) (fun b hb9 _ => by
          rw [Below.heap_setCell _ _ _ _ (by simp; omega), Below.heap_setCell _ _ _ _ (by simp; omega)])
        obtain ⟨cs, h1, h2, _⟩ := h
        exact StpD.mono3 ⟨cs, by rw [HL.out]; exact h1, fun i hi => h2 i (by rw [← HL.out]; exact hi)⟩ (by omega)
end Go.Proofs.Ytghlediibhnloaa.Cur
