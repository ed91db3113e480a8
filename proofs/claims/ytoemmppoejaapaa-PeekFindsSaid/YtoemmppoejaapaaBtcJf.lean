/- As the seat's text, without what nothing here names. -/
import Derived.Test.YtoemmppoejaapaaBtcAf
import Derived.Test.YtoemmppoejaapaaK39f
import Derived.Test.YtoemmppoejaapaaK38f
namespace Go.Proofs.Ytoemmppoejaapaa.Cur
open Go.RowKit Mem
set_option linter.unusedVariables false
set_option maxRecDepth 100000
def CpB (w : World) (B g n k : Nat) (L : List En) (cur : Array Value) (lo hi : Nat → Nat) : Prop :=
  Blk w g cur 31 ∧ n * 2 ≤ cur.size ∧ B ≤ g ∧ (∀ i, i < k → (∃ a l m b r j, cur[i * 2]? = some (.slice a l m) ∧ cur[i * 2 + 1]? = some (.slice b r j) ∧ CpIn w (lo i) (hi i) a l m b r j (L.getD i en0).1 (L.getD i en0).2) ∧ g < lo i ∧ hi i ≤ w.heap.size) ∧ ∀ i j, i < j → j < k → hi i ≤ lo j
theorem CpB.below {w w' : World} {B g n k : Nat} {L : List En} {cur : Array Value} {lo hi : Nat → Nat} (h : CpB w B g n k L cur lo hi) (hb : Below w.heap.size w w') : CpB w' B g n k L cur lo hi := by
  obtain ⟨h1, h2, h3, h4, h5⟩ := h
  refine ⟨h1.below hb, h2, h3, fun i hi => ?_, h5⟩
  obtain ⟨⟨a, l, m, b, r, j, q1, q2, q3⟩, q4, q5⟩ := h4 i hi
  exact ⟨⟨a, l, m, b, r, j, q1, q2, q3.below hb⟩, q4, Nat.le_trans q5 hb.size⟩
theorem CpB.next {w : World} {B g n k : Nat} {L : List En} {cur : Array Value} {lo hi : Nat → Nat} {a b : Option Addr} {l m r j x y : Nat} (h : CpB w B g n k L cur lo hi) (hk : k < n) (hv : CpIn w x y a l m b r j (L.getD k en0).1 (L.getD k en0).2) (hg : g < x) (hy : y ≤ w.heap.size) (hx : ∀ i, i < k → hi i ≤ x) :
    CpB ((w.setCell ⟨g, k * 2, none⟩ (.slice a l m)).setCell ⟨g, k * 2 + 1, none⟩ (.slice b r j)) B g n (k + 1) L ((cur.set! (k * 2) (.slice a l m)).set! (k * 2 + 1) (.slice b r j)) (fun i => if i = k then x else lo i) (fun i => if i = k then y else hi i) := by
  obtain ⟨h1, h2, h3, h4, h5⟩ := h
  have hkp : ∀ b', b' ≠ g → ((w.setCell ⟨g, k * 2, none⟩ (.slice a l m)).setCell ⟨g, k * 2 + 1, none⟩ (.slice b r j)).heap[b']? = w.heap[b']? := fun b' hb' => by
    rw [Below.heap_setCell _ _ _ _ hb', Below.heap_setCell _ _ _ _ hb']
  have hsz : ((w.setCell ⟨g, k * 2, none⟩ (.slice a l m)).setCell ⟨g, k * 2 + 1, none⟩ (.slice b r j)).heap.size = w.heap.size := by simp
  have hg3 := get2 cur (k * 2) (.slice a l m) (.slice b r j) (by omega)
  refine ⟨(h1.set (k * 2) _).set (k * 2 + 1) _, by simpa using h2, h3, fun i hi => ?_, fun i i' hii hi' => ?_⟩
  · dsimp only
    rcases Nat.lt_or_ge i k with h6 | h6
    · obtain ⟨⟨a', l', m', b', r', j', q1, q2, q3⟩, q4, q5⟩ := h4 i h6
      rw [if_neg (by omega), if_neg (by omega), hsz]
      refine ⟨⟨a', l', m', b', r', j', ?_, ?_, q3.keep fun c hc1 hc2 _ => hkp c (by omega)⟩, q4, q5⟩
      · rw [hg3, if_neg (by omega), if_neg (by omega)]; exact q1
      · rw [hg3, if_neg (by omega), if_neg (by omega)]; exact q2
    · obtain rfl : i = k := by omega
      rw [if_pos rfl, if_pos rfl, hsz]
      refine ⟨⟨a, l, m, b, r, j, ?_, ?_, hv.keep fun c hc1 hc2 _ => hkp c (by omega)⟩, hg, hy⟩
      · rw [hg3, if_neg (by omega), if_pos rfl]
      · rw [hg3, if_pos rfl]
  · dsimp only
    rw [if_neg (by omega)]
    by_cases he : i' = k
    · rw [if_pos he]; exact hx i (by omega)
    · rw [if_neg he]; exact h5 i i' hii (by omega)
theorem CpIn.ene {w : World} {lo hi : Nat} {A : Option Addr} {n m : Nat} {B : Option Addr} {r k : Nat} {L : List Lk} {D : List Int} (h : CpIn w lo hi A n m B r k L D) (hD : ∀ x ∈ D, 0 ≤ x ∧ x < 256) : EnE.R w (fun b => lo ≤ b ∧ b < hi) [.slice A n m, .slice B r k] (L, D) := by
  obtain ⟨h1, h2, h3, h4, h5, h6, h7, h8, h9⟩ := h
  exact EnE.mk h1 h2 h8 h3.1 h4 h9 (Bs.sq h3 hD h5)
theorem CpB.ens {w : World} {B g n : Nat} {L : List En} {cur : Array Value} {lo hi : Nat → Nat} (h : CpB w B g n n L cur lo hi) (hl : L.length = n) (hD : ∀ x ∈ L, ∀ y ∈ x.2, 0 ≤ y ∧ y < 256) : Ens w (fun b => B ≤ b) (some ⟨g, 0, none⟩) n L := by
  obtain ⟨h1, h2, h3, h4, h5⟩ := h
  refine ens_of_cells hl h3 fun i hi => ?_
  obtain ⟨⟨a, l, m, b, r, j, q1, q2, q3⟩, q4, q5⟩ := h4 i hi
  refine ⟨_, _, ⟨h1.cell _ q1, h1.cell _ q2⟩, ?_⟩
  have hm : L.getD i en0 ∈ L := by
    rw [List.getD_eq_getElem?_getD, List.getElem?_eq_getElem (by omega)]
    exact List.getElem_mem _
  have := q3.ene (hD _ hm)
  exact EnE.mono this fun b hb _ => by omega
def CbtPost (e b : Int) (n : Nat) (L : List En) (w : World) (en : Ending) (w' : World) : Prop :=
  ∃ g cur lo hi, en = .returned (btagg e b (some ⟨g, 0, none⟩) n n) ∧ Below w.heap.size w w' ∧ CpB w' w.heap.size g n n L cur lo hi
set_option maxHeartbeats 4000000 in
theorem bcopy_any (P : Nat → Prop) (e b : Int) (A : Option Addr) (n m : Nat) (L : List En) (w : World) (hz : Ens w P A n L) (hn : n ≤ 1000) (hs : ∀ k, (L.getD k en0).1.length ≤ 100000 ∧ blen 100000 (L.getD k en0).1 ∧ (L.getD k en0).2.length ≤ 100000) :
    Calls Try.prog 32 #[btagg e b A n m] w (CbtPost e b n L w) := by
  have hX := (Blk.new w (btenc e b A n m) 25).alloc (.cells (btenc 0 0 none 0 0) 25)
  have hF := Blk.new (w.alloc (.cells (btenc e b A n m) 25)) (btenc 0 0 none 0 0) 25
  rw [World.size_alloc] at hF
  have hb := below_two w (.cells (btenc e b A n m) 25) (.cells (btenc 0 0 none 0 0) 25)
  have hsz : ((w.alloc (.cells (btenc e b A n m) 25)).alloc (.cells (btenc 0 0 none 0 0) 25)).heap.size = w.heap.size + 2 := by simp
  have HL := Lib.hid hz.1
  have HSM := Lib.hid hs
  have HC := Lib.hid (fun h => (hz.below hb).cells h)
  obtain ⟨cur0, hcur0, hmk⟩ := make_ent n (by omega)
  obtain ⟨x0, x1, x2⟩ := hX.c3
  have HX := Lib.hid hX
  have HF := Lib.hid hF
  clear hz hs hX hF
  go_enter Try.func32, Try.ntmps32
  go_wp2
  clear hmk x0 x1 x2
  generalize (w.alloc (.cells (btenc e b A n m) 25)).alloc (.cells (btenc 0 0 none 0 0) 25) = w0 at *
  have hblk := Blk.new w0 cur0 31
  have hbm := below_one w0 (.cells cur0 31)
  rw [hsz] at hblk
  have hsz1 : (w0.alloc (.cells cur0 31)).heap.size = w.heap.size + 3 := by rw [World.size_alloc, hsz]
  try rw [hsz]
  generalize w0.alloc (.cells cur0 31) = w1 at *
  go_loopw [13] (fun i wr => ∃ (k : Nat) (cur : Array Value) (lo hi : Nat → Nat), k ≤ n ∧ i = .int .i64 k ∧ Hid (CpB wr w.heap.size (w.heap.size + 2) n k L cur lo hi) ∧ Hid (Below w0.heap.size w0 wr) ∧ w.heap.size + 3 ≤ wr.heap.size) (fun i _ => n - (intOf i).toNat)
  case atStart => exact ⟨0, cur0, fun _ => 0, fun _ => 0, by omega, rfl, Lib.hid ⟨hblk, by omega, by omega, fun i hi => absurd hi (by omega), fun i j _ hj => absurd hj (by omega)⟩, Lib.hid hbm, by omega⟩
  case round =>
    clear hblk hbm hcur0 hsz1
    obtain ⟨k, cur, lo, hi, hk, rfl, HCP, HBD, hszr⟩ := hrel
    by_cases hlt : k < n
    · obtain ⟨g, o, rfl, _, hg, hc⟩ := HC.out (by omega)
      obtain ⟨K, D, a1, l1, m1, b1', r1, k1, he, hlm, hnl, hks, hrk, hnb, hbs, hbb, hsq, hcell⟩ := hc k hlt
      have ek : (k : Int) < n := by omega
      have e3 : IntKind.i64.wrap ((k : Int) + 1) = ((k + 1 : Nat) : Int) := IntWalk.i64_in _ (by omega)
      obtain ⟨c0, c1⟩ := hcell wr HBD.out
      have hX2 := Blk.new wr (enc' a1 l1 m1 b1' r1 k1) 31
      have hbA := below_one wr (.cells (enc' a1 l1 m1 b1' r1 k1) 31)
      have hbX := HBD.out.trans (hbA.mono HBD.out.size)
      have hsm := HSM.out k
      rw [he] at hsm
      replace hsm : K.length ≤ 100000 ∧ blen 100000 K ∧ D.length ≤ 100000 := hsm
      have hcon := encopy_any P a1 l1 m1 K b1' r1 k1 D _ (hks.below hbX) hnl (by rw [← hks.1]; exact hsm.1) hsm.2.1 (hbs.below hbX) hnb (by rw [← hbs.1]; exact hsm.2.2)
      have HE := Lib.hid he
      have HCA := Lib.hid (HCP.out.below hbA)
      have HBX := Lib.hid hbX
      obtain ⟨y0, y1⟩ := hX2.c2
      have hszx : wr.heap.size < (wr.alloc (.cells (enc' a1 l1 m1 b1' r1 k1) 31)).heap.size := by simp
      clear hc hcell he hlm hnl hks hrk hnb hbs hbb hsq hX2 hbA hbX hsm
      go_wp2_with fail
      refine hcon.mono ?_
      rintro en w2 ⟨A2, m2, B2, k2, rfl, hb2, hin⟩
      have hCA := HCA.out.below hb2
      have HB2 := Lib.hid (HBX.out.trans (hb2.mono HBX.out.size))
      have hs2 := hb2.size
      have HHI : Hid (∀ i, i < k → hi i ≤ wr.heap.size) := Lib.hid (fun i h => (HCP.out.2.2.2.1 i h).2.2)
      have q0 : w2.cell? ⟨w.heap.size + 2, k * 2, none⟩ = some (cur[k * 2]'(by have := HCP.out.2.1; omega)) := hCA.1.cell _ (Array.getElem?_eq_getElem _)
      have q1 : w2.cell? ⟨w.heap.size + 2, k * 2 + 1, none⟩ = some (cur[k * 2 + 1]'(by have := HCP.out.2.1; omega)) := hCA.1.cell _ (Array.getElem?_eq_getElem _)
      have f0 := hCA.1.free (k * 2)
      have f1 := hCA.1.free (k * 2 + 1)
      have HIN : Hid (CpIn w2 (wr.alloc (.cells (enc' a1 l1 m1 b1' r1 k1) 31)).heap.size w2.heap.size A2 l1 m2 B2 r1 k2 (L.getD k en0).1 (L.getD k en0).2) := Lib.hid (by rw [HE.out]; exact hin)
      have HNX := Lib.hid (hCA.next hlt HIN.out (by omega) (Nat.le_refl _) (fun i h => by have := HHI.out i h; omega))
      have HBS := Lib.hid (Below.setCell (Below.setCell HB2.out (p := ⟨w.heap.size + 2, k * 2, none⟩) (by simp; omega) (.slice A2 l1 m2)) (p := ⟨w.heap.size + 2, k * 2 + 1, none⟩) (by simp; omega) (.slice B2 r1 k2))
      have hszw : ((w2.setCell ⟨w.heap.size + 2, k * 2, none⟩ (.slice A2 l1 m2)).setCell ⟨w.heap.size + 2, k * 2 + 1, none⟩ (.slice B2 r1 k2)).heap.size = w2.heap.size := by simp
      clear hcon hb2 hin hCA HIN HHI y0 y1 c0 c1
      go_wp2
      go_roundw
      case rel => exact ⟨k + 1, _, _, _, by omega, by go_num, HNX, HBS, by rw [hszw]; omega⟩
      case measure => simp [intOf]; omega
    · obtain rfl : k = n := by omega
      have hA := HX.out.below HBD.out
      have hF := HF.out.below HBD.out
      obtain ⟨x0, x1, x2⟩ := hA.c3
      obtain ⟨f0, f1, f2⟩ := hF.c3
      obtain ⟨k0, k1, k2⟩ := blk_f3 hF
      have HF9 := Lib.hid hF
      have hbd := hb.trans (HBD.out.mono hb.size)
      have HB9 := Lib.hid hbd
      clear hA hF hbd
      go_wp2
      obtain ⟨hFd, hkd⟩ := set3 HF9.out (.int .u64 e) (.int .u64 b) (.slice (some ⟨w.heap.size + 2, 0, none⟩) k k)
      have HBd := Lib.hid (((HB9.out.setCell (p := ⟨w.heap.size + 1, 0, none⟩) (Nat.le_succ _) (.int .u64 e)).setCell (p := ⟨w.heap.size + 1, 1, none⟩) (Nat.le_succ _) (.int .u64 b)).setCell (p := ⟨w.heap.size + 1, 2, none⟩) (Nat.le_succ _) (.slice (some ⟨w.heap.size + 2, 0, none⟩) k k))
      obtain ⟨h1, h2, h3, h4, h5⟩ := HCP.out
      have HCd : Hid (CpB (((wr.setCell ⟨w.heap.size + 1, 0, none⟩ (.int .u64 e)).setCell ⟨w.heap.size + 1, 1, none⟩ (.int .u64 b)).setCell ⟨w.heap.size + 1, 2, none⟩ (.slice (some ⟨w.heap.size + 2, 0, none⟩) k k)) w.heap.size (w.heap.size + 2) k k L cur lo hi) := Lib.hid ⟨blk_kp h1 hkd (by omega), h2, h3, fun i hi' => by
        obtain ⟨⟨a', l', m', b', r', j', q1, q2, q3⟩, q4, q5⟩ := h4 i hi'
        exact ⟨⟨a', l', m', b', r', j', q1, q2, q3.keep fun c hc1 hc2 hc3 => hkd.block c hc3 (by omega)⟩, q4, Nat.le_trans q5 hkd.size⟩, h5⟩
      clear h1 h2 h3 h4 h5 hkd f0 f1 f2 k0 k1 k2 x0 x1 x2
      generalize ((wr.setCell ⟨w.heap.size + 1, 0, none⟩ (.int .u64 e)).setCell ⟨w.heap.size + 1, 1, none⟩ (.int .u64 b)).setCell ⟨w.heap.size + 1, 2, none⟩ (.slice (some ⟨w.heap.size + 2, 0, none⟩) k k) = wd at *
      obtain ⟨d0, d1, d2⟩ := hFd.c3
      exact bodyPost_ret (v := btagg e b (some ⟨w.heap.size + 2, 0, none⟩) k k) (by simp [results, Try.results32, go_sem, d0, d1, d2]) rfl ⟨_, cur, lo, hi, rfl, HBd.out, HCd.out⟩
end Go.Proofs.Ytoemmppoejaapaa.Cur
