/- PenPlays: called with any int and any calls, the law returns true; no condition. -/
import Derived.Test.YtafbmickbgccfaaRows
import Derived.Test.YtafbmickbgccfaaPenL
import Derived.Test.YtafbmickbgccfaaOpenA
import Derived.IntWalk
import Derived.StillTailTactics
import Derived.Deep.RegionHeld3
import Derived.Deep.CutRange
import Derived.Deep.CutBlock
import Derived.ProofKit
import Derived.OpenShut
import Derived.ShutString
import Derived.ChangeOld
namespace Go.Proofs.Ytafbmickbgccfaa.penPlays
open Go.ChangeShapes Go.WideShapes Go.ChangeAt Go.RowKit
open Go.ChangeMaps (open_string shut_string)
set_option linter.unusedVariables false

theorem own : ownKnob Try.prog.godebug = none := by kernel_rfl
theorem laidOut : laidOutB Try.prog = true := by kernel_rfl
open Cur Mem

/-- At an address lie n calls: kind, number, number, bytes of each. -/
def IsDos (w : World) (A : Option Addr) (n : Nat) : Prop :=
  ∀ i, i < n → ∃ b o x y u Ab Lb Cb z, A = some ⟨b, o, none⟩ ∧ w.cell? ⟨b, o + i * 4, none⟩ = some (.int .i64 x) ∧ w.cell? ⟨b, o + i * 4 + 1, none⟩ = some (.int .i64 y) ∧ w.cell? ⟨b, o + i * 4 + 2, none⟩ = some (.int .u64 u) ∧
    w.cell? ⟨b, o + i * 4 + 3, none⟩ = some (.slice Ab Lb Cb) ∧ 0 ≤ u ∧ u < 18446744073709551616 ∧ Bs w Ab Lb z ∧ (∀ x ∈ z, 0 ≤ x ∧ x < 256) ∧ (Ab = none → Cb = 0)

theorem addr_flat4 {b o i j : Nat} : ((⟨b, o, none⟩ : Addr).add (i * 4)).add j = ⟨b, o + i * 4 + j, none⟩ := by
  rw [addr_add_add]
  unfold Addr.add
  split
  · rename_i h
    have h1 : o + i * 4 + j = o := by omega
    rw [h1]
  · simp [Nat.add_assoc]

theorem open_dos {H : Type} {enc : TypeId × Value → H} {w : World} {base : Nat} {v : Value} {d : DataW H} {p : List MemPlace} (g : Value.okWide Try.prog w .any base 22 v) (h : DataW.Trod enc Try.prog w 0 (fun _ => true) true 22 v d p) :
    ∃ A n m, v = .slice A n m ∧ n ≤ m ∧ IsDos w A n := by
  obtain ⟨A, n, m, rfl⟩ := okWide_slice Try.underlying22 g
  obtain ⟨fuel, hf⟩ := h
  have c4 : Try.prog.cellsOf 34 = 4 := by kernel_rfl
  have k3 : Try.prog.cellsOf 3 = 1 := by kernel_rfl
  have ku : Try.prog.cellsOf 32 = 1 := by kernel_rfl
  have kb : Try.prog.cellsOf 27 = 1 := by kernel_rfl
  rcases Go.Deep.open_slice Try.underlying22 hf with ⟨hcs, _⟩ | ⟨a, l, c, k, _, D, Pl, hcs, _, hl, _, hk, _, hi⟩
  · simp [Value.cells] at hcs
    obtain ⟨rfl, rfl, rfl⟩ := hcs
    exact ⟨none, 0, 0, rfl, Nat.le_refl _, fun i hi => absurd hi (by omega)⟩
  · simp [Value.cells] at hcs
    obtain ⟨rfl, rfl, rfl⟩ := hcs
    refine ⟨some a, n, m, rfl, hl, fun i hin => ?_⟩
    have hkn : n ≤ k := by rw [hk]; split <;> omega
    obtain ⟨cs', hc, ht⟩ := hi i (by omega)
    rw [c4] at hc
    obtain ⟨_, hlen, hcell⟩ := World.cells?_some hc
    match cs', hlen with
    | [x0, x1, x2, x3], _ =>
      obtain ⟨y0, y1, y2, y3, _, _, _, t0, t1, t2, t3⟩ := Go.Joins.trod_struct4 Try.underlying34 ht
      simp only [k3, ku, kb, List.drop_zero, List.take_succ_cons, List.take_zero, List.drop_succ_cons] at t0 t1 t2 t3
      obtain ⟨x, e0, _, _⟩ := DataW.trod_int Try.underlying3 t0
      obtain ⟨y, e1, _, _⟩ := DataW.trod_int Try.underlying3 t1
      obtain ⟨u, e2, _, r2⟩ := DataW.trod_int Try.underlying32 t2
      obtain ⟨Ab, Lb, Cb, z, e3, _, hbs, hby, hn⟩ := read_bytes t3
      simp only [List.cons.injEq, and_true] at e0 e1 e2 e3
      subst e0 e1 e2 e3
      have h0 := hcell 0 (by omega)
      have h1 := hcell 1 (by omega)
      have h2 := hcell 2 (by omega)
      have h3 := hcell 3 (by omega)
      obtain ⟨b, off, spot⟩ := a
      have hspot : spot = none := by
        obtain ⟨ds, hd, ht'⟩ := hi 0 (by omega)
        rw [c4] at hd
        obtain ⟨_, hdl, hdc⟩ := World.cells?_some hd
        have g0 := hdc 0 (by omega)
        rw [List.getElem?_eq_getElem (by omega)] at g0
        simpa [Addr.add] using World.cell?_spot g0
      subst hspot
      rw [addr_flat4] at h0 h1 h2 h3
      have hu := bounds_u64 r2
      exact ⟨b, off, x, y, u, Ab, Lb, Cb, z, rfl, h0, h1, h2, h3, by omega, by omega, hbs, hby, hn⟩

/-- The first k calls' bytes are short. -/
def Short (w : World) (A : Option Addr) (k : Nat) : Prop := ∀ i, i < k → ∀ b o Ar Lr Cr, A = some ⟨b, o, none⟩ → w.cell? ⟨b, o + i * 4 + 3, none⟩ = some (.slice Ar Lr Cr) → Lr ≤ 200
theorem Short.next {w : World} {b o k : Nat} {Ar : Option Addr} {Lr Cr : Nat} (h : Short w (some ⟨b, o, none⟩) k) (hc : w.cell? ⟨b, o + k * 4 + 3, none⟩ = some (.slice Ar Lr Cr)) (hl : Lr ≤ 200) : Short w (some ⟨b, o, none⟩) (k + 1) := by
  intro i hi b' o' A' L' C' e hc'
  rcases Nat.lt_succ_iff_lt_or_eq.1 hi with h1 | rfl
  · exact h i h1 _ _ _ _ _ e hc'
  · injection e with e; injection e with e1 e2; subst e1 e2
    rw [hc] at hc'; injection hc' with hc'; injection hc' with _ e2 _; omega

def LongPost (A : Option Addr) (n : Nat) (w : World) (e : Ending) (w' : World) : Prop := ∃ bo, e = .returned (.bool bo) ∧ w = w' ∧ (bo = false → n ≤ 100 ∧ Short w A n)

set_option maxHeartbeats 800000 in
theorem long_any (A : Option Addr) (n m : Nat) (w : World) (h : IsDos w A n) : Calls Try.prog 7 #[.slice A n m] w (LongPost A n w) := by
  go_enter Try.func7, Try.ntmps7
  go_wp2
  go_loop [3] (fun i => ∃ k : Nat, k ≤ n ∧ k ≤ 100 ∧ i = .int .i64 k ∧ Short w A k) (fun i => n - (intOf i).toNat)
  case atStart => exact ⟨0, Nat.zero_le _, Nat.zero_le _, rfl, fun i hi => absurd hi (by omega)⟩
  case round =>
    obtain ⟨k, hk, hk1, rfl, hsh⟩ := hrel
    have k0 : (0 : Int) ≤ k := by omega
    have HH := Lib.hid hsh
    clear hsh
    by_cases hlt : k < n ∧ k < 100
    · obtain ⟨l0, l1⟩ := hlt
      obtain ⟨bb, o, x, y, u, Ar, Lr, Cr, z, rfl, _, _, _, hc, _⟩ := h k l0
      have l2 : (k : Int) < n := by omega
      have l3 : (k : Int) < 100 := by omega
      by_cases hl : 200 < (Lr : Int)
      · go_wp2
        go_ret
        exact ⟨true, rfl, rfl, fun h => by cases h⟩
      · have hn := HH.out.next hc (by omega)
        have HN := Lib.hid hn
        clear hn HH
        go_wp2
        go_round
        case rel => exact ⟨k + 1, by omega, by omega, by go_num, HN.out⟩
        case measure => simp [intOf]; omega
    · by_cases hn : 100 < (n : Int)
      · have hk' : ¬ (k : Int) < 100 := by omega
        have hkn : (k : Int) < n := by omega
        go_wp2
        go_ret
        exact ⟨true, rfl, rfl, fun h => by cases h⟩
      · have hk' : k = n := by omega
        have hkn : ¬ (k : Int) < n := by omega
        rw [hk'] at HH
        clear hlt hk'
        have hp : LongPost A n w (.returned (.bool false)) w := ⟨false, rfl, rfl, fun _ => ⟨by omega, HH.out⟩⟩
        have HP := Lib.hid hp
        clear hp HH
        go_wp2
        go_ret
        exact HP.out
/-- What holds at the head of the loop. -/
def St (b xb : Nat) (W : World) (M : Int) (k : Nat) (r : Option Nat) (z : List Int) (c : Int) (A : Option Addr) (cap : Nat) (w : World) : Prop :=
  Wr w W.heap.size b r z M c ∧ Blk w xb #[.int .i64 M, .slice A z.length cap, .int .i64 c] 30 ∧ Bs w A z.length z ∧ (A = none → cap = 0) ∧ (0 < z.length → ∀ a, A = some a → ¬ WS b r a.block ∧ a.block ≠ xb) ∧
    Below W.heap.size W w ∧ W.heap.size ≤ xb ∧ z.length ≤ 200 * k

theorem St.next {b xb k n' m' : Nat} {W w2 w3 : World} {M c' : Int} {r' : Option Nat} {z' : List Int} {A' : Option Addr} {v0 v1 v2 : Value} (hw2 : Wr w2 W.heap.size b r' z' M c') (hx2 : Blk w2 xb #[v0, v1, v2] 30) (hbd2 : Below W.heap.size W w2) (hxb : W.heap.size ≤ xb) (hne : xb ≠ b)
    (hb3 : Below w2.heap.size w2 w3) (hbs : Bs w3 A' n' z') (hnil : A' = none → m' = 0) (hoff : 0 < n' → ∀ a, A' = some a → ¬ WS b r' a.block ∧ a.block ≠ xb) (hl : z'.length ≤ 200 * (k + 1)) :
    St b xb W M (k + 1) r' z' c' A' m' (((w3.setCell ⟨xb, 0, none⟩ (.int .i64 M)).setCell ⟨xb, 1, none⟩ (.slice A' n' m')).setCell ⟨xb, 2, none⟩ (.int .i64 c')) := by
  have e := hbs.1
  subst e
  have hS : Ks (fun i => i = xb) w3 (((w3.setCell ⟨xb, 0, none⟩ (.int .i64 M)).setCell ⟨xb, 1, none⟩ (.slice A' z'.length m')).setCell ⟨xb, 2, none⟩ (.int .i64 c')) :=
    ((Ks.setCell (S := fun i => i = xb) _ _ _ _ rfl).trans (Ks.setCell (S := fun i => i = xb) _ _ _ _ rfl)).trans (Ks.setCell (S := fun i => i = xb) _ _ _ _ rfl)
  have hx3 := hx2.below hb3
  have hw3 := hw2.below hb3
  have hbd3 := hbd2.trans (hb3.mono hbd2.size)
  refine ⟨hw3.ks hS ?_, ((hx3.set 0 _).set 1 _).set 2 _, hbs.ks hS (fun h a ha => (hoff h a ha).2), hnil, hoff, hS.below hbd3 (Nat.le_refl _) ?_, hxb, hl⟩
  · rintro i rfl
    exact hw3.ne hx3 (by decide) hne
  · rintro k rfl; exact hxb

/-- The document's bytes stay apart from the writer. -/
theorem off_next {b xb n' : Nat} {w w2 : World} {B : Nat} {r r' : Option Nat} {z z' zz : List Int} {M c c' : Int} {A A' : Option Addr} (hw : Wr w B b r z M c) (hw2 : Wr w2 B b r' z' M c') (hx : xb < w2.heap.size) (hg : Gr r r' w) (hbs : Bs w A z.length z)
    (hoff : 0 < z.length → ∀ a, A = some a → ¬ WS b r a.block ∧ a.block ≠ xb) (hA : (A' = A ∧ zz = z) ∨ ∀ a, A' = some a → w2.heap.size ≤ a.block) (hn : zz.length = n') :
    0 < n' → ∀ a, A' = some a → ¬ WS b r' a.block ∧ a.block ≠ xb := by
  intro h0 a ha
  rcases hA with ⟨rfl, rfl⟩ | hA
  · obtain ⟨h1, h2⟩ := hoff (by omega) a ha
    refine ⟨?_, h2⟩
    rintro (e | e)
    · exact h1 (.inl e)
    · rcases hg with rfl | ⟨g, rfl, hg⟩
      · exact h1 (.inr e)
      · injection e with e
        have := hbs.lt (by omega) a ha
        omega
  · have := hA a ha
    exact ⟨hw2.off_new this, by omega⟩

theorem putZ_len (z y : List Int) (M c : Int) : (putZ z y M c).length ≤ z.length + y.length := by
  unfold putZ; split
  · rw [List.length_append]; exact Nat.le_refl _
  · omega

theorem St.below {b xb k cap : Nat} {W w w1 : World} {M c : Int} {r : Option Nat} {z : List Int} {A : Option Addr} (h : St b xb W M k r z c A cap w) (hb : Below w.heap.size w w1) : St b xb W M k r z c A cap w1 := by
  obtain ⟨h1, h2, h3, h4, h5, h6, h7⟩ := h
  exact ⟨h1.below hb, h2.below hb, h3.below hb, h4, h5, h6.trans (hb.mono h6.size), h7⟩

/-- A call that leaves the world as it is, within a region that only reads. -/
theorem quiet_same {P : Program} {f : FuncId} {args : Array Value} {w : World} {n : Nat} {v : Value} (h : Calls P f args (w.drewN n) fun e w' => e = .returned v ∧ w.drewN n = w') :
    Calls P f args (w.drewN n) fun e w'' => e = .returned v ∧ ∃ m, w'' = w.drewN m := Calls.quiet_of_same (h.mono fun _ _ ⟨a, b⟩ => ⟨a, b.symm⟩)


set_option maxRecDepth 100000 in
set_option maxHeartbeats 2000000 in
theorem walk {H : Type} (enc : TypeId × Value → H) (w : World) (base : Nat) (v0 : Value) (d0 : DataW H) (p0 : List MemPlace) (g0 : Value.okWide Try.prog w .any base 3 v0) (h0 : DataW.Trod enc Try.prog w 0 (fun _ => true) true 3 v0 d0 p0) (v1 : Value) (d1 : DataW H) (p1 : List MemPlace) (g1 : Value.okWide Try.prog w .any base 22 v1) (h1 : DataW.Trod enc Try.prog w 0 (fun _ => true) true 22 v1 d1 p1) :
    Calls Try.prog 3 #[v0, v1] w fun e w' => e = .returned (.bool true) ∧ Below w.heap.size w w' := by
  obtain ⟨most, rfl, m0, m1⟩ := open_i64 g0 h0
  obtain ⟨A2, n, cap2, rfl, _, hd⟩ := open_dos g1 h1
  clear g0 h0 g1 h1
  go_enter Try.func3, Try.ntmps3
  go_wp2_with fail
  refine (long_any _ _ _ _ hd).mono ?_
  rintro e w1 ⟨bo, rfl, rfl, hbo⟩
  cases bo
  rotate_left
  · clear hbo
    go_wp2_with fail
    refine (live3_any _).mono ?_
    rintro e w4 ⟨rfl, hb4⟩
    go_wp2
    go_ret
    exact ⟨rfl, hb4⟩
  · obtain ⟨hn, hsh⟩ := hbo rfl
    have HH := Lib.hid hsh
    clear hbo hsh
    go_wp2_with fail
    refine (wnew_any _ _ m1).mono ?_
    rintro e w1 ⟨b, rfl, hb, hb1, hw1⟩
    go_wp2_with fail
    refine (rnew3_any _ _).mono ?_
    rintro e w2 ⟨rfl, hb2⟩
    generalize (if most < 0 then 0 else most) = M at *
    have hbd2 := hb1.trans (hb2.mono hb1.size)
    have hR : St b w2.heap.size w M 0 none [] 0 none 0 (w2.alloc (.cells #[.int .i64 M, .slice none 0 0, .int .i64 0] 30)) :=
      ⟨(hw1.below hb2).below (below_one _ _), Blk.new _ _ _, ⟨rfl, fun h => absurd h (by simp)⟩, fun _ => rfl, fun h => absurd h (by simp), hbd2.alloc hbd2.size _, hbd2.size, Nat.zero_le _⟩
    have hne : w2.heap.size ≠ b := by have := (hw1.below hb2).lt; omega
    clear hbd2 hb1 hb2 hw1
    go_wp2_with fail
    generalize w2.alloc (.cells #[.int .i64 M, .slice none 0 0, .int .i64 0] 30) = w3 at *
    generalize w2.heap.size = xb at *
    go_loopw [7] (fun i wr => ∃ k : Nat, k ≤ n ∧ i = .int .i64 k ∧ ∃ r z c A cap, St b xb w M k r z c A cap wr) (fun i _ => n - (intOf i).toNat)
    case atStart => exact ⟨0, Nat.zero_le _, rfl, _, _, _, _, _, hR⟩
    case round =>
      obtain ⟨k, hk, rfl, r, z, c, A, cap, hw, hx, hz, hnil, hoff, hbd, hxb, hzl⟩ := hrel
      clear hR
      have k0 : (0 : Int) ≤ k := by omega
      by_cases hlt : k < n
      · obtain ⟨lb, lo, x, yy, u, Ab, Lb, Cb, y, rfl, c0, c1, c2, c3, u0, u1, hby, hyb, hbn⟩ := hd k hlt
        have hL : Lb ≤ 200 := HH.out k hlt _ _ _ _ _ rfl c3
        have hlb := lt_of_cell c0
        have hcell : ∀ wq, Below w.heap.size w wq → wq.cell? ⟨lb, lo + k * 4, none⟩ = some (.int .i64 x) ∧ wq.cell? ⟨lb, lo + k * 4 + 1, none⟩ = some (.int .i64 yy) ∧ wq.cell? ⟨lb, lo + k * 4 + 2, none⟩ = some (.int .u64 u) ∧ wq.cell? ⟨lb, lo + k * 4 + 3, none⟩ = some (.slice Ab Lb Cb) :=
          fun wq hb => ⟨(hb.cell (p := ⟨lb, _, none⟩) hlb).trans c0, (hb.cell (p := ⟨lb, _, none⟩) hlb).trans c1, (hb.cell (p := ⟨lb, _, none⟩) hlb).trans c2, (hb.cell (p := ⟨lb, _, none⟩) hlb).trans c3⟩
        obtain ⟨l0, l1, l2, l3⟩ := hcell _ hbd
        have hyr := hby.below hbd
        have hyo : 0 < Lb → ∀ a, Ab = some a → ¬ WS b r a.block := fun hn a ha hs => by have := WS.ge hw _ hs; have := hby.lt hn a ha; omega
        have k1 : (k : Int) < n := by omega
        have hB := hbd.size
        have hln := hby.1
        subst hln
        clear c0 c1 c2 c3 HH
        go_upto_block 2 with (fail)
        go_cut [31] from 29 to 104 (fun _ wx => ∃ r' z' c' A' m', St b xb w M (k + 1) r' z' c' A' m' wx)
        case first =>
          by_cases hx0 : x = 0
          · subst hx0
            go_wp2_with fail
            refine (wput_any _ _ _ hw hyr hbn hyo (by omega) hB).mono ?_
            rintro e w2 ⟨r', rfl, hks, hgr, hw2⟩
            have hx2 := hx.ks hks (hw.ne hx (by decide) hne)
            have hz2 := hz.ks hks (fun h a ha => (hoff h a ha).1)
            have hb2 := hw.belowOf hbd (Nat.le_refl _) hks (Nat.le_refl _)
            have hy2 := hby.below hb2
            clear l0 l1 l2 l3
            obtain ⟨x0, x1, x2⟩ := hx2.c3
            obtain ⟨l0, l1, l2, l3⟩ := hcell _ hb2
            have hbl2 : xb ≠ lb := by omega
            go_wp2_with fail
            go_still_tail 6, (by kernel_rfl)
            change wpList _ _ _ _ _ w2.drew
            go_wp2_with fail
            refine (rput3_any _ _ _ _ _ _ _ _ _ _ _ (by exact hz2) (by exact hy2) hnil hbn (by omega)).mono ?_
            rintro e w3 ⟨A', n', m', rfl, hb3, hbs3, hnil', hA'⟩
            have hb3' : Below w2.heap.size w2 w3 := below_of_drew hb3
            have hx3 := hx2.below hb3'
            obtain ⟨d0, d1, d2⟩ := hx3.c3
            have g0 := hx3.free 0
            have g1 := hx3.free 1
            have g2 := hx3.free 2
            clear x0 x1 x2 l0 l1 l2 l3 hb3
            have R := St.next (k := k) hw2 hx2 hb2 hxb hne hb3' hbs3 hnil' (off_next hw hw2 hx2.lt hgr hz hoff hA' hbs3.1) (by have := putZ_len z y M c; omega)
            go_wp2
            go_meet
            exact ⟨_, _, _, _, _, R⟩
          · have n0 : (x == 0) = false := by simpa using hx0
            clear hx0
            by_cases hx1 : x = 1
            · subst hx1
              have hconv := run_convert_bs (w := wr) Cb hyr
              obtain ⟨s, hs⟩ : ∃ s, s = strOfNums y := ⟨_, rfl⟩
              rw [← hs] at hconv
              have HS := Lib.hid hs
              clear hs
              go_wp2_with fail
              rw [HS.out]
              refine (wtext_any hw hyb (by omega) hB).mono ?_
              rintro e w2 ⟨r', rfl, hks, hgr, hw2⟩
              have hx2 := hx.ks hks (hw.ne hx (by decide) hne)
              have hz2 := hz.ks hks (fun h a ha => (hoff h a ha).1)
              have hb2 := hw.belowOf hbd (Nat.le_refl _) hks (Nat.le_refl _)
              have hy2 := hby.below hb2
              clear l0 l1 l2 l3 hconv HS
              obtain ⟨x0, x1, x2⟩ := hx2.c3
              obtain ⟨l0, l1, l2, l3⟩ := hcell _ hb2
              have hbl2 : xb ≠ lb := by omega
              go_wp2_with fail
              go_still_tail 6, (by kernel_rfl)
              change wpList _ _ _ _ _ w2.drew
              go_wp2_with fail
              refine (rput3_any _ _ _ _ _ _ _ _ _ _ _ (by exact hz2) (by exact hy2) hnil hbn (by omega)).mono ?_
              rintro e w3 ⟨A', n', m', rfl, hb3, hbs3, hnil', hA'⟩
              have hb3' : Below w2.heap.size w2 w3 := below_of_drew hb3
              have hx3 := hx2.below hb3'
              obtain ⟨d0, d1, d2⟩ := hx3.c3
              have g0 := hx3.free 0
              have g1 := hx3.free 1
              have g2 := hx3.free 2
              clear x0 x1 x2 l0 l1 l2 l3 hb3
              have R := St.next (k := k) hw2 hx2 hb2 hxb hne hb3' hbs3 hnil' (off_next hw hw2 hx2.lt hgr hz hoff hA' hbs3.1) (by have := putZ_len z y M c; omega)
              go_wp2
              go_meet
              exact ⟨_, _, _, _, _, R⟩
            · have n1 : (x == 1) = false := by simpa using hx1
              clear hx1
              by_cases hx2 : x = 2
              · subst hx2
                go_wp2_with fail
                go_still_tail 11, (by kernel_rfl)
                change wpList _ _ _ _ _ wr.drew
                go_wp2_with fail
                refine (wfixed_any _ _ (show Wr wr.drew _ _ _ _ _ _ by exact hw) u0 u1 (by omega) hB).mono ?_
                rintro e w2 ⟨r', rfl, hks', hgr, hw2⟩
                have hks := (Ks.of_below (S := WS b r) (Below.refl wr.heap.size wr).drew).trans hks'
                have hx2 := hx.ks hks (hw.ne hx (by decide) hne)
                have hz2 := hz.ks hks (fun h a ha => (hoff h a ha).1)
                have hb2 := hw.belowOf hbd (Nat.le_refl _) hks (Nat.le_refl _)
                have hf8 := fixN_le yy
                clear l0 l1 l2 l3 hks'
                obtain ⟨x0, x1, x2⟩ := hx2.c3
                obtain ⟨l0, l1, l2, l3⟩ := hcell _ hb2
                go_wp2_with fail
                go_region_law (first
                  | (go_simp; go_at_call 15; go_must (refine (rfixed_any _ _ _ u0 u1).mono ?_; rintro e w4 ⟨Af, mf, rfl, hb4, hbsf, hfn, _⟩; have hb4' : Below w2.heap.size w2 w4 := below_of_drew hb4; have hx4 := hx2.below hb4'; obtain ⟨y0, y1, y2⟩ := hx4.c3))
                  | (go_simp; go_at_call 12; go_must (refine (rput3_any _ _ _ _ _ _ _ _ _ _ _ (hz2.below hb4') hbsf hnil hfn (by rw [fixZ_length]; omega)).mono ?_; rintro e w3 ⟨A', n', m', rfl, hb3, hbs3, hnil', hA'⟩; have hb3' : Below w2.heap.size w2 w3 := hb4'.trans (hb3.mono hb4'.size); have hA'' : (A' = A ∧ putZ z (fixZ u (fixN yy)) M c = z) ∨ ∀ a, A' = some a → w2.heap.size ≤ a.block := hA'.imp_right fun h a ha => Nat.le_trans hb4'.size (h a ha); have hx3 := hx2.below hb3'; obtain ⟨d0, d1, d2⟩ := hx3.c3; have g0 := hx3.free 0; have g1 := hx3.free 1; have g2 := hx3.free 2))
                  | fail)
                all_goals
                  have R := St.next (k := k) hw2 hx2 hb2 hxb hne hb3' hbs3 hnil' (off_next hw hw2 hx2.lt hgr hz hoff hA'' hbs3.1) (by have := putZ_len z (fixZ u (fixN yy)) M c; rw [fixZ_length] at this; omega)
                  go_wp2
                  go_meet
                all_goals exact ⟨_, _, _, _, _, R⟩
              · have n2 : (x == 2) = false := by simpa using hx2
                clear hx2
                by_cases hx3 : x = 3
                · subst hx3
                  go_wp2_with fail
                  refine (wfail_any _ hw).mono ?_
                  rintro e w2 ⟨rfl, hks, hw2⟩
                  obtain ⟨cf, hcf⟩ : ∃ cf : Int, cf = (if c = 0 then yy else c) := ⟨_, rfl⟩
                  rw [← hcf] at hw2
                  have HCF := Lib.hid hcf
                  clear hcf
                  have hgr := Gr.refl r wr
                  have hx2 := hx.ks hks (hw.ne hx (by decide) hne)
                  have hz2 := hz.ks hks (fun h a ha => (hoff h a ha).1)
                  have hb2 := hw.belowOf hbd (Nat.le_refl _) hks (Nat.le_refl _)
                  clear l0 l1 l2 l3
                  obtain ⟨x0, x1, x2⟩ := hx2.c3
                  obtain ⟨l0, l1, l2, l3⟩ := hcell _ hb2
                  go_wp2_with fail
                  go_still_tail 6, (by kernel_rfl)
                  change wpList _ _ _ _ _ w2.drew
                  go_wp2_with fail
                  refine (rfail3_any _ _ _ _ _ _ _).mono ?_
                  rintro e w3 ⟨rfl, hb3⟩
                  rw [← HCF.out]
                  have hb3' : Below w2.heap.size w2 w3 := below_of_drew hb3
                  have hx3 := hx2.below hb3'
                  have hbs3 := hz2.below hb3'
                  obtain ⟨d0, d1, d2⟩ := hx3.c3
                  have g0 := hx3.free 0
                  have g1 := hx3.free 1
                  have g2 := hx3.free 2
                  clear x0 x1 x2 l0 l1 l2 l3 hb3
                  have R := St.next (k := k) hw2 hx2 hb2 hxb hne hb3' hbs3 hnil (off_next (zz := z) hw hw2 hx2.lt hgr hz hoff (.inl ⟨rfl, rfl⟩) rfl) (by omega)
                  go_wp2
                  go_meet
                  exact ⟨_, _, _, _, _, R⟩
                · have n3 : (x == 3) = false := by simpa using hx3
                  clear hx3
                  have R : St b xb w M (k + 1) r z c A cap wr := ⟨hw, hx, hz, hnil, hoff, hbd, hxb, by omega⟩
                  go_wp2
                  go_meet
                  exact ⟨_, _, _, _, _, R⟩
        case rest =>
          obtain ⟨r', z', c', A', m', R⟩ := hcut
          clear hw hx hz hoff hbd hB hyo hyr l0 l1 l2 l3 hcell
          obtain ⟨hw4, hx4, hz4, hnil4, hoff4, hbd4, hxb4, hl4⟩ := R
          go_wp2_with fail
          refine (wbytes_any hw4 (by omega)).mono ?_
          rintro e w5 ⟨Ax, nx, cx, rfl, hb5, hbs5, _⟩
          have R5 := St.below ⟨hw4, hx4, hz4, hnil4, hoff4, hbd4, hxb4, hl4⟩ hb5
          have HR := Lib.hid R5
          obtain ⟨hw6, hx6, hz6, _, _, hbd6, _, hl6⟩ := R5
          clear hw4 hx4 hz4 hnil4 hoff4 hbd4 hb5 hl4
          obtain ⟨x0, x1, x2⟩ := hx6.c3
          obtain ⟨q0, q1⟩ := hw6.most
          generalize hcc : c' = c9 at *
          have HCC := Lib.hid hcc
          clear hcc
          by_cases hc9 : c9 = 0
          · rw [if_pos hc9] at hbs5
            subst hc9
            go_wp2
            go_quiet ((first | (go_at_call 19; exact quiet_same (same_any _ _ _ _ _ _ _ _ (by exact hbs5) (by exact hz6))) | (go_at_call 20; exact quiet_same (wcode_any (by exact hw6))) | (go_at_call 21; exact quiet_same (wlen_any (by exact hw6))) | (go_at_call 22; exact Calls.quiet_of (wroom_any (by exact hw6)))))
            go_wp2
            go_roundw
            case rel => exact ⟨k + 1, by omega, by go_num, _, _, _, _, _, HR.out.below (below_drewN (Below.refl _ _) _)⟩
            case measure => simp [intOf]; omega
          · rw [if_neg hc9] at hbs5
            have hcb : (c9 != 0) = true := by simpa using hc9
            clear hc9
            go_wp2
            go_quiet ((first | (go_at_call 19; exact quiet_same (same_any _ _ _ _ _ _ _ _ (by exact hbs5) (by exact (Bs.none w5)))) | (go_at_call 20; exact quiet_same (wcode_any (by exact hw6))) | (go_at_call 21; exact quiet_same (wlen_any (by exact hw6))) | (go_at_call 22; exact Calls.quiet_of (wroom_any (by exact hw6)))))
            go_wp2
            go_roundw
            case rel => exact ⟨k + 1, by omega, by go_num, _, _, _, _, _, HR.out.below (below_drewN (Below.refl _ _) _)⟩
            case measure => simp [intOf]; omega
      · go_wp2_with fail
        refine (live3_any _).mono ?_
        rintro e w4 ⟨rfl, hb4⟩
        go_wp2
        go_ret
        exact ⟨rfl, hbd.trans (hb4.mono hbd.size)⟩

set_option maxRecDepth 100000 in
theorem lifted (os : Os) (started : os.Started) (H : Type) (enc : TypeId × Value → H) :
    ReturnsInHanded {} Try.checked os 3 .any (Rows.penPlaysSpec.pre6 enc Try.prog Try.f3 Rows.penPlaysRow.domain false) (Rows.penPlaysSpec.post enc Try.prog Try.f3 false true false false) := by
  refine returnsInHanded_of_change (C := Try.checked) own started (by kernel_rfl) Try.func3
    (ChangeSpec.witness6 (enc := enc) (C := Try.checked) false ⟨#[], #[.int .i64 0, .slice none 0 0], []⟩ 8 (by kernel_rfl) (by kernel_rfl) (by kernel_rfl) (by kernel_rfl)) ?_
  intro W base args ds gs before hval0 hW hcnd _
  have hval : ∀ (j : Nat) t v, Try.f3.params[j]? = some t → args[j]? = some v → Value.okWide Try.prog W .any base t v := hval0
  have hW' := hW
  obtain ⟨p, q, hA0, hV, rfl, hfz, hnd⟩ := hW
  have hA : DataW.TrodAll enc Try.prog W 0 (fun _ => true) true Try.f3.params.toList args.toList ds p := hA0
  rw [Try.params3] at hA hval
  obtain ⟨v0, vs0, d0, ds0, p0, q0, hargs, rfl, rfl, h0, r0⟩ := trodAll_cons hA
  obtain ⟨v1, vs1, d1, ds1, p1, q1, rfl, rfl, rfl, h1, r1⟩ := trodAll_cons r0
  obtain ⟨rfl, rfl, rfl⟩ := trodAll_nil r1
  obtain rfl : args = #[v0, v1] := by cases args; simp_all
  obtain ⟨rfl, rfl⟩ := trodVars_none hV
  have lt0 : ∀ x ∈ p0, x.block < W.heap.size := by obtain ⟨m, hm⟩ := h0; exact DataW.trod_lt m _ _ _ hm
  have lt1 : ∀ x ∈ p1, x.block < W.heap.size := by obtain ⟨m, hm⟩ := h1; exact DataW.trod_lt m _ _ _ hm
  clear hA0 hval0
  refine (walk enc W base v0 d0 p0 (hval 0 3 v0 rfl rfl) h0 v1 d1 p1 (hval 1 22 v1 rfl rfl) h1).mono fun e W' ⟨he, bel⟩ => ?_
  subst he
  exact ⟨_, rfl, _, _, _, [], _, [], hW', trodAll_mk1 (shut_bool Try.underlying4 _), (trodAll_cons_mk (Below.trod laidOut (by kernel_rfl) (of_decide_eq_true (by kernel_rfl)) h0 bel lt0) (trodAll_cons_mk (Below.trod laidOut (by kernel_rfl) (of_decide_eq_true (by kernel_rfl)) h1 bel lt1) trodAll_mk0)), rfl, bel.frame _, fun h => by cases h⟩

theorem over : Rows.penPlaysRow.holds Try.pinned (OpenSpec.ofChange Rows.penPlaysSpec) :=
  OpenClaim.holds_of_wide 3 Try.f3 rfl rfl rfl rfl rfl rfl rfl ⟨rfl, rfl, rfl, rfl, rfl⟩ rfl rfl rfl rfl rfl (by kernel_rfl) Try.func3 (by kernel_rfl)
    (of_decide_eq_true (by kernel_rfl)) (by unfold Func.isWrapper; first | (rw [if_pos (by decide +kernel)]; kernel_rfl) | (rw [if_neg (by decide +kernel)]; exact ⟨rfl, rfl⟩))
    (fun os started H enc _ => lifted os started H enc)

/-- THE STATEMENT. -/
theorem proved : Rows.PenPlaysSaid := over
#print axioms proved
end Go.Proofs.Ytafbmickbgccfaa.penPlays
