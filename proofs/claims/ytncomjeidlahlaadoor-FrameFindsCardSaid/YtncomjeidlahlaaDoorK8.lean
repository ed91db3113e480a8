/- K8: PenR PenS FrmA FrmB FrmC FrmD FrmE FrmM -/
import Derived.Test.YtncomjeidlahlaaDoorK3
import Derived.Test.YtncomjeidlahlaaDoorK1
import Derived.Test.YtncomjeidlahlaaDoorK6
import Derived.Test.YtncomjeidlahlaaDoorK7
import Derived.Deep.Cut
/- The document's own writer, as a value (package tholepinref03): New, Fail, Put, Fixed. -/
/- The document's Fixed. -/
/- Frames: how they are written (package frame: Size, Most, Put, Bytes; the document's Bytes). -/
/- Frames: how they are read (package frame: limited, payload, length, Read; the document's Read). -/
/- Frames: how the document reads them. -/
/- Frames: Get, Whole. -/
/- Frames: Whole; the law's example. -/
/- Frames as lists: what is put is read; a beginning is too short; what is read is put so again; a burst is told. -/
namespace Go.Proofs.YtncomjeidlahlaaDoor.Cur
open Go.RowKit Mem
set_option linter.unusedVariables false

/-- The document's writer as a value. -/
abbrev wv (M : Int) (s : Value) (c : Int) : Value := .agg #[.int .i64 M, s, .int .i64 c]

def RPutPost (A : Option Addr) (z y : List Int) (M c : Int) (w : World) (e : Ending) (w' : World) : Prop :=
  ∃ A' n' m', e = .returned (wv M (.slice A' n' m') (putC z y M c)) ∧ Below w.heap.size w w' ∧ Bs w' A' n' (putZ z y M c) ∧ (A' = none → m' = 0) ∧ ((A' = A ∧ putZ z y M c = z) ∨ ∀ a, A' = some a → w.heap.size ≤ a.block)

theorem putZ_bad {z y : List Int} {M c : Int} (h : ¬ (c = 0 ∧ (y.length : Int) ≤ M - z.length)) : putZ z y M c = z := if_neg h

end Go.Proofs.YtncomjeidlahlaaDoor.Cur

namespace Go.Proofs.YtncomjeidlahlaaDoor.Cur
open Go.RowKit Mem
set_option linter.unusedVariables false

def RFixPost (z : List Int) (w : World) (e : Ending) (w' : World) : Prop :=
  ∃ A m, e = .returned (.slice A z.length m) ∧ Below w.heap.size w w' ∧ Bs w' A z.length z ∧ (A = none → m = 0) ∧ ∀ a, A = some a → w.heap.size ≤ a.block

theorem fixN_iff (n : Int) (j : Nat) : j < fixN n ↔ (j : Int) < n ∧ (j : Int) < 8 := by
  unfold fixN; repeat' split <;> omega

theorem two56 (j : Nat) : (2 : Int) ^ (8 * j) = 256 ^ j := by
  induction j with
  | zero => rfl
  | succ j ih => rw [Nat.mul_succ, Int.pow_add, ih, Int.pow_succ]; rfl

set_option maxHeartbeats 800000 in
theorem rpfixed_any (x n : Int) (w : World) (h0 : 0 ≤ x) (h1 : x < 18446744073709551616) :
    Calls Tryd.prog 39 #[.int .u64 x, .int .i64 n] w (RFixPost (fixZ x (fixN n)) w) := by
  go_enter Tryd.func39, Tryd.ntmps39
  go_wp2
  go_loopw [5, 6] (fun v i wr => ∃ j : Nat, j ≤ fixN n ∧ i = .int .i64 j ∧ Own wr w.heap.size v (fixZ x j) ∧ Below w.heap.size w wr) (fun _ i _ => fixN n - (intOf i).toNat)
  case atStart => exact ⟨0, Nat.zero_le _, rfl, Own.nil _ _, Below.refl _ _⟩
  case round =>
    obtain ⟨j, hj, rfl, hown, hbd⟩ := hrel
    have j1 : (0 : Int) ≤ j := by omega
    have hK := fixN_le n
    by_cases hlt : j < fixN n
    · obtain ⟨j2, j3⟩ := (fixN_iff n j).1 hlt
      obtain ⟨A, m, rfl⟩ := hown.slice
      have hnx : fixZ x j ++ [x / 2 ^ (8 * j) % 256] = fixZ x (j + 1) := by rw [two56, fixZ_succ]
      have HN := Lib.hid hnx
      clear hnx
      have hbs : Bs (wr.alloc (.cells #[.int .u8 (x / 2 ^ (8 * j) % 256)] 5)) (some ⟨wr.heap.size, 0, none⟩) 1 [x / 2 ^ (8 * j) % 256] := Bs.of_block (z := [x / 2 ^ (8 * j) % 256]) (heap_alloc_new _ _)
      have hl := fixZ_length x j
      go_wp2_with (at_builtin; go_must (refine list_append_bs rfl (.tmp 16) (.tmp 23) rfl w.heap.size (.slice A (fixZ x j).length m) (fixZ x j) rfl (hown.below (below_one _ _)) (some ⟨wr.heap.size, 0, none⟩) 1 1 [x / 2 ^ (8 * j) % 256] rfl hbs (by simp) (by rw [hl]; omega) (by have := hbd.size; simp; omega) ?_; intro v1 w1 hown1 hg1; have hb1 := Own.belowOf (hbd.alloc hbd.size _) (by have := hbd.size; simp; omega) (hown.below (below_one _ _)) hg1; rw [HN.out] at hown1; clear hg1 hown hbd hbs))
      go_roundw
      case rel => exact ⟨j + 1, by omega, by go_num, hown1, hb1⟩
      case measure => simp [intOf]; omega
    · have hjk : j = fixN n := by omega
      have hK' : (j : Int) < n → (j : Int) < 8 → False := fun a b => hlt ((fixN_iff n j).2 ⟨a, b⟩)
      obtain ⟨A, m, rfl⟩ := hown.slice
      have hp : RFixPost (fixZ x (fixN n)) w (.returned (.slice A (fixZ x j).length m)) wr := by
        rw [← hjk]
        refine ⟨A, m, rfl, hbd, hown.bs.2, ?_, ?_⟩
        · intro e
          subst e
          rcases hown.2 with ⟨e, _⟩ | ⟨g, cap, cur, e, _⟩
          · injection e
          · injection e with e; cases e
        · intro a ha
          subst ha
          rcases hown.2 with ⟨e, _⟩ | ⟨g, cap, cur, e, hg, _⟩
          · injection e with e; cases e
          · injection e with e; injection e with e; subst e; exact hg
      have HP := Lib.hid hp
      clear hp hown hbd hjk
      by_cases hjn : (j : Int) < n
      · have hj8 : ¬ (j : Int) < 8 := fun h => hK' hjn h
        clear hK'
        go_wp2
        go_ret
        exact HP.out
      · have hjd : decide ((j : Int) < n) = false := by simpa using hjn
        clear hK'
        go_wp2
        go_ret
        exact HP.out
end Go.Proofs.YtncomjeidlahlaaDoor.Cur

namespace Go.Proofs.YtncomjeidlahlaaDoor.Cur
open Go.RowKit Mem CrcM
set_option linter.unusedVariables false
set_option maxRecDepth 100000

/-- The frame of bytes. -/
def frm (y : List Int) : List Int := vz y.length ++ y ++ fixZ (sm y : Nat) 4
theorem frm_length (y : List Int) : (frm y).length = vsz y.length + y.length + 4 := by
  unfold frm
  rw [List.length_append, List.length_append, vz_length, fixZ_length]
theorem frm_byte {y : List Int} (hn : y.length ≤ 9000000) (hy : ∀ x ∈ y, 0 ≤ x ∧ x < 256) : ∀ x ∈ frm y, 0 ≤ x ∧ x < 256 := by
  intro x hx
  unfold frm at hx
  rcases List.mem_append.1 hx with hx | hx
  · rcases List.mem_append.1 hx with hx | hx
    · exact vz_byte _ (by omega) (by omega) x hx
    · exact hy x hx
  · exact fixZ_byte _ _ x hx
theorem Tbs.ks {w w' : World} {S : Nat → Prop} (h : Tbs w) (k : Ks S w w') (h1 : ¬ S 0) (h2 : ¬ S 1) : Tbs w' :=
  ⟨fun i hi => (World.cell?_of_block (w := w) (k.block _ (lt_of_cell (h.1 i hi)) h1)).trans (h.1 i hi), fun i hi => (World.cell?_of_block (w := w) (k.block _ (lt_of_cell (h.2 i hi)) h2)).trans (h.2 i hi)⟩
theorem Tbs.lt {w : World} (h : Tbs w) : 0 < w.heap.size ∧ 1 < w.heap.size := ⟨lt_of_cell (h.1 0 (by decide)), lt_of_cell (h.2 0 (by decide))⟩

set_option maxHeartbeats 400000 in
theorem fsize_any (n : Int) (w : World) (h1 : n ≤ 4611686018427387000) :
    Calls Tryd.prog 18 #[.int .i64 n] w fun e w' => e = .returned (.int .i64 ((vsz (max n 0) : Int) + max n 0 + 4)) ∧ w = w' := by
  have hv := vsz_le (max n 0)
  have hs := bsize_any n w (by omega)
  have h0 : 0 ≤ max n 0 := by omega
  have h2 : max n 0 ≤ 4611686018427387000 := by omega
  generalize max n 0 = x at *
  go_enter Tryd.func18, Tryd.ntmps18
  go_wp2_with fail
  refine hs.mono ?_
  rintro e w1 ⟨rfl, rfl⟩
  go_wp2
  go_ret
  exact ⟨rfl, rfl⟩
set_option maxHeartbeats 400000 in
theorem fmost_any (n : Int) (w : World) (h1 : n ≤ 4611686018427387000) :
    Calls Tryd.prog 19 #[.int .i64 n] w fun e w' => e = .returned (.int .i64 ((vsz (max n 0) : Int) + max n 0 + 4)) ∧ w = w' := by
  go_enter Tryd.func19, Tryd.ntmps19
  go_wp2_with fail
  refine (fsize_any _ _ h1).mono ?_
  rintro e w1 ⟨rfl, rfl⟩
  go_wp2
  go_ret
  exact ⟨rfl, rfl⟩

set_option maxHeartbeats 800000 in
theorem fput_any {w : World} {B b : Nat} {r : Option Nat} {z y : List Int} {M c : Int} (A : Option Addr) (m cap : Nat) (h : Wr w B b r z M c) (hy : Bs w A m y) (hA : A = none → cap = 0) (hoff : 0 < m → ∀ a, A = some a → ¬ WS b r a.block)
    (hsz : z.length + m ≤ 700000) (hBw : B ≤ w.heap.size) (hby : ∀ x ∈ y, 0 ≤ x ∧ x < 256) (hT : Tbs w) (hg : 0 < B ∧ 1 < B) :
    Calls Tryd.prog 13 #[.pointer (some ⟨b, 0, none⟩), .slice A m cap] w (WPutsPost B b r z [vz m, y, fixZ (sm y : Nat) 4] M c w) := by
  have HOFF := Lib.hid hoff
  have HLT : Hid (0 < m → ∀ a, A = some a → a.block < w.heap.size) := Lib.hid (fun h0 => hy.lt h0)
  have HBY := Lib.hid hby
  have HT := Lib.hid hT
  have HGE := Lib.hid (WS.ge h)
  have hml : ¬ 2097152 < (m : Int) := by omega
  have hsl := sm_lt hby
  have HP : Hid (puts [vz m, y, fixZ (sm y : Nat) 4] z M c = (putZ (puts [vz m, y] z M c).1 (fixZ (sm y : Nat) 4) M (puts [vz m, y] z M c).2, putC (puts [vz m, y] z M c).1 (fixZ (sm y : Nat) 4) M (puts [vz m, y] z M c).2)) := Lib.hid (puts_snoc [vz m, y] _ z M c)
  have HLE : Hid ((puts [vz m, y] z M c).1.length ≤ 900000) := Lib.hid (by
    have := puts_le [vz m, y] z M c
    have hv := vsz_le (m : Int)
    have e : [vz m, y].flatten.length = vsz m + m := by simp [vz_length, hy.1]
    rw [e] at this; omega)
  clear hby hoff hT
  go_enter Tryd.func13, Tryd.ntmps13
  go_wp2_with fail
  refine (bput_any _ _ _ h hy hA HOFF.out (by omega) hBw).mono ?_
  rintro e w1 ⟨r1, rfl, hk1, hg1, hw1⟩
  have hy1 := hy.ks hk1 (fun h0 a ha => HOFF.out h0 a ha)
  have hT1 := HT.out.ks hk1 (fun hs => by have := HGE.out _ hs; omega) (fun hs => by have := HGE.out _ hs; omega)
  go_wp2_with fail
  refine (csum_any _ _ _ y _ hy1 (by omega) HBY.out hT1).mono ?_
  rintro e w2 ⟨rfl, k2, rfl⟩
  have hw2 := hw1.drewN k2
  have hs1 := hk1.size
  have hsl0 : (0 : Int) ≤ ((sm y : Nat) : Int) := by omega
  have hsl1 : ((sm y : Nat) : Int) < 18446744073709551616 := by omega
  have HSL := Lib.hid hsl1
  have hsl2 : ((sm y : Nat) : Int) < 4294967296 := by omega
  clear hsl1 hsl
  obtain ⟨x, hx⟩ : ∃ x : Nat, x = sm y := ⟨_, rfl⟩
  rw [← hx] at hsl0 hsl2 HSL HP ⊢
  have HX := Lib.hid hx
  clear hx
  go_wp2_with fail
  refine (wfixed_any _ 4 hw2 hsl0 HSL.out HLE.out (Nat.le_trans hBw hs1)).mono ?_
  rintro e w3 ⟨r3, rfl, hk3, hg3, hw3⟩
  go_wp2
  go_end0
  refine ⟨r3, rfl, Ks.wr (hk1.trans' (Ks.drewN (WS b r) w1 k2) (fun _ _ h => h)) hg1 hk3, hg1.trans hg3 hk1.size, ?_⟩
  rw [← HX.out, HP.out]
  exact hw3

/-- What frame.Bytes hands back. -/
def FBPost (y : List Int) (w : World) (e : Ending) (w' : World) : Prop :=
  ∃ g, e = .returned (.tuple #[.slice (some ⟨g, 0, none⟩) (frm y).length (frm y).length, .int .i64 0]) ∧ w.heap.size ≤ g ∧ Below w.heap.size w w' ∧ Blk w' g ((frm y).map (Value.int .u8)).toArray 5
set_option maxHeartbeats 800000 in
theorem fbytes_any (A : Option Addr) (m cap : Nat) (y : List Int) (w : World) (hy : Bs w A m y) (hA : A = none → cap = 0) (hsz : m ≤ 600000) (hby : ∀ x ∈ y, 0 ≤ x ∧ x < 256) (hT : Tbs w) :
    Calls Tryd.prog 10 #[.slice A m cap] w (FBPost y w) := by
  have HBY := Lib.hid hby
  have HT := Lib.hid hT
  have hv := vsz_le (m : Int)
  have hfl := frm_length y
  rw [hy.1] at hfl
  have HP : Hid (puts [vz m, y, fixZ (sm y : Nat) 4] [] ((vsz m : Int) + m + 4) 0 = (frm y, 0)) := Lib.hid (by
    have e : [vz (m : Int), y, fixZ (sm y : Nat) 4].flatten = frm y := by unfold frm; rw [hy.1]; simp
    have := puts_fits (xs := [vz (m : Int), y, fixZ (sm y : Nat) 4]) (z := []) (M := (vsz m : Int) + m + 4) (by rw [e, hfl]; simp)
    rw [this, e]; rfl)
  have HFL : Hid ((frm y).length ≤ 1000000) := Lib.hid (by omega)
  clear hby hT hfl
  go_enter Tryd.func10, Tryd.ntmps10
  go_wp2_with fail
  refine (fsize_any _ _ (by omega)).mono ?_
  rintro e w1 ⟨rfl, rfl⟩
  rw [show max (m : Int) 0 = m by omega]
  go_wp2_with fail
  refine (wnew_any _ w (by omega)).mono ?_
  rintro e w1 ⟨b, rfl, hbb, hb1, hw1⟩
  rw [if_neg (by omega)] at hw1
  have hlt := HT.out.lt
  go_wp2_with fail
  refine (fput_any _ m _ hw1 (hy.below hb1) hA (fun h0 a' ha => hw1.off_lt (hy.lt h0 a' ha)) (by simp; omega) hb1.size HBY.out (HT.out.below hb1) hlt).mono ?_
  rintro e w2 ⟨r2, rfl, hk2, hg2, hw2⟩
  have hbd := hw1.belowOf hb1 (Nat.le_refl _) hk2 (Nat.le_refl _)
  rw [HP.out] at hw2
  clear hw1 hk2 hg2 hb1
  go_wp2_with fail
  refine (wbytes_good hw2 HFL.out).mono ?_
  rintro e w6 ⟨g, rfl, hg, hb6, hblk⟩
  go_wp2
  go_ret2
  exact ⟨g, rfl, Nat.le_trans hbd.size hg, hbd.trans (hb6.mono hbd.size), hblk⟩

set_option maxHeartbeats 800000 in
theorem rfbytes_any (A : Option Addr) (n m : Nat) (z : List Int) (w : World) (hz : Bs w A n z) (hA : A = none → m = 0) (hn : n ≤ 800000) (hby : ∀ x ∈ z, 0 ≤ x ∧ x < 256) :
    Calls Tryd.prog 17 #[.slice A n m] w (RowPost (frm z) w) := by
  have HBY := Lib.hid hby
  have hv := vsz_le (n : Int)
  have HL : Hid ((vz n ++ z).length = vsz n + n) := Lib.hid (by rw [List.length_append, vz_length, hz.1])
  have hsl := sm_lt hby
  have HF : Hid (frm z = vz n ++ z ++ fixZ (sm z : Nat) (fixN 4)) := Lib.hid (by unfold frm; rw [hz.1]; rfl)
  have HX4 : Hid (fixN 4 = 4) := Lib.hid (by decide)
  obtain ⟨Y, hY⟩ : ∃ Y, Y = vz n ++ z := ⟨_, rfl⟩
  rw [← hY] at HL HF
  have HY := Lib.hid hY
  clear hby hY
  go_enter Tryd.func17, Tryd.ntmps17
  go_wp2_with fail
  refine (rbbytes_any _ _ _ _ _ hz hA (by omega)).mono ?_
  rw [← HY.out]
  rintro e w1 ⟨A1, m1, rfl, hb1, _, _, _, ho1⟩
  go_wp2_with fail
  refine (rsum_any _ _ _ z _ (hz.below hb1) (by omega) HBY.out).mono ?_
  rintro e w2 ⟨rfl, rfl⟩
  have hsl0 : (0 : Int) ≤ ((sm z : Nat) : Int) := by omega
  have HSL : Hid (((sm z : Nat) : Int) < 18446744073709551616) := Lib.hid (by omega)
  have hsl2 : ((sm z : Nat) : Int) < 4294967296 := by omega
  obtain ⟨x, hx⟩ : ∃ x : Nat, x = sm z := ⟨_, rfl⟩
  rw [← hx] at hsl0 hsl2 HSL HF ⊢
  clear hx hsl
  go_wp2_with fail
  refine (rpfixed_any _ 4 _ hsl0 HSL.out).mono ?_
  rintro e w3 ⟨A3, m3, rfl, hb3, hbs3, hnil3, _⟩
  have ho3 := ho1.below hb3
  have hbd := hb1.trans (hb3.mono hb1.size)
  have hB := hbd.size
  have HLF : Hid ((fixZ (x : Int) (fixN 4)).length = 4) := Lib.hid (by rw [fixZ_length]; exact HX4.out)
  go_wp2_with (at_builtin; go_must (refine list_append_gr rfl (.tmp 4) (.tmp 8) rfl w.heap.size _ Y rfl ho3 _ _ _ _ rfl hbs3 hnil3 (by rw [HL.out, HLF.out]; omega) hB ?_; intro v' w4 ho' hg' hgr; have hb4 := Own.belowOf hbd hB ho3 hg'; rw [← HF.out] at ho'; obtain ⟨A4, cap4, hv⟩ := ho'.slice; subst hv))
  go_ret
  exact Own.rowPost (B := 0) ho' hb4
end Go.Proofs.YtncomjeidlahlaaDoor.Cur

namespace Go.Proofs.YtncomjeidlahlaaDoor.Cur
open Go.RowKit Mem CrcM
set_option linter.unusedVariables false
set_option maxRecDepth 100000

/-- What is read from a place on: a frame's payload of at most mo bytes. -/
def frs (z y : List Int) (p1 x p2 : Int) : Rs (List Int) := if x = ((sm y : Nat) : Int) then (y, p2, 0, 0) else ([], 0, 6, p1)
def fr2 (z y : List Int) (p1 : Int) : Rs (List Int) := (fx z 4 p1).bind [] fun x p2 => frs z y p1 x p2
def fr (z : List Int) (mo p : Int) : Rs (List Int) := (bl z mo p).bind [] fun y p1 => fr2 z y p1
theorem frs_st {n : Nat} {z y : List Int} {p1 x p2 c q : Int} (h0 : 0 ≤ p2) (h1 : p2 ≤ n) (hx : x = ((sm y : Nat) : Int)) : St [] n (frs z y p1 x p2) p2 c q (if c = 0 then y else []) p2 c q := by
  by_cases hc : c = 0
  · subst hc
    rw [if_pos rfl]
    exact St.done (by unfold frs; rw [if_pos hx]) h0 h1
  · rw [if_neg hc]
    exact St.stay h0 h1 hc
theorem frs_bad {n : Nat} {z y : List Int} {p1 x p2 c q c' q' : Int} (h0 : 0 ≤ p2) (h1 : p2 ≤ n) (hx : x ≠ ((sm y : Nat) : Int)) (hf : FailSt c q 6 p1 c' q') : St [] n (frs z y p1 x p2) p2 c q [] p2 c' q' ∧ c' ≠ 0 := by
  rcases hf with ⟨rfl, rfl, rfl⟩ | ⟨hc, rfl, rfl⟩
  · exact ⟨St.fault (x := []) (y := 0) (by unfold frs; rw [if_neg hx]) (by decide) h0 h1, by decide⟩
  · exact ⟨St.stay h0 h1 hc, hc⟩
theorem bl_mem {n : Nat} {z l : List Int} {mo p c q p' c' q' : Int} (h : St [] n (bl z mo p) p c q l p' c' q') : ∀ b ∈ l, b ∈ z := by
  obtain ⟨_, _, ⟨_, rfl, _⟩ | ⟨_, g0, rfl, _⟩ | ⟨_, _, rfl, _⟩⟩ := h
  · simp
  · obtain ⟨g1, e⟩ := Rs.bind_ok g0
    have e' : bl z mo p = tk z (vm z mo p).1 (vm z mo p).2.1 := e
    rw [e'] at g0 ⊢
    unfold tk at g0 ⊢
    split
    · simp
    · split
      · simp
      · exact fun b hb => List.mem_of_mem_drop (List.mem_of_mem_take hb)
  · simp
theorem bl_size {n : Nat} {z l : List Int} {mo p c q p' c' q' : Int} (h : St [] n (bl z mo p) p c q l p' c' q') (hz : z.length = n) : l.length ≤ n := by
  obtain ⟨_, _, ⟨_, rfl, _⟩ | ⟨_, g0, rfl, _⟩ | ⟨_, _, rfl, _⟩⟩ := h
  · simp
  · obtain ⟨g1, e⟩ := Rs.bind_ok g0
    have e' : bl z mo p = tk z (vm z mo p).1 (vm z mo p).2.1 := e
    rw [e'] at g0 ⊢
    unfold tk at g0 ⊢
    split
    · simp
    · split
      · simp
      · show (piece _ _ _).length ≤ n
        unfold piece
        have := List.length_take_le (((vm z mo p).2.1 + (vm z mo p).1).toNat - (vm z mo p).2.1.toNat) (z.drop (vm z mo p).2.1.toNat)
        rw [List.length_take, List.length_drop]; omega
  · simp
theorem Tbs.kp_rd {w w' : World} {b : Nat} {s : Value} {p c q : Int} (h : Tbs w) (hr : IsRd w b s p c q) (hs : ∀ x, s ≠ .int .u32 x) (k : Kp b w w') : Tbs w' :=
  ⟨fun i hi => (World.cell?_of_block (w := w) (k.block _ (lt_of_cell (h.1 i hi)) (Blk.ne_of_cell hr (h.1 i hi) (hs _) (by simp) (by simp) (by simp)))).trans (h.1 i hi),
   fun i hi => (World.cell?_of_block (w := w) (k.block _ (lt_of_cell (h.2 i hi)) (Blk.ne_of_cell hr (h.2 i hi) (hs _) (by simp) (by simp) (by simp)))).trans (h.2 i hi)⟩
theorem min4 : min (max (4 : Int) 0) 8 = 4 := by decide

set_option maxHeartbeats 1000000 in
theorem payload_any (b : Nat) (a : Option Addr) (n m : Nat) (z : List Int) (p c q mo : Int) (w : World) (h : IsRd w b (.slice a n m) p c q) (hz : Bs w a n z) (h0 : 0 ≤ p) (h1 : p ≤ n) (hm : n ≤ m) (hn : n ≤ 1000000) (hby : ∀ x ∈ z, 0 ≤ x ∧ x < 256) (hmo : mo ≤ 9223372036854775807) (hT : Tbs w) :
    Calls Tryd.prog 43 #[.int .i64 mo, .pointer (some ⟨b, 0, none⟩)] w (BRPost b (.slice a n m) n (fr z mo p) p c q w) := by
  have HBY := Lib.hid hby
  have HT := Lib.hid hT
  clear hby hT
  go_enter Tryd.func43, Tryd.ntmps43
  go_wp2_with fail
  refine (bread_any _ _ _ _ _ _ _ _ _ _ h hz h0 h1 hm hn HBY.out hmo).mono ?_
  rintro e w1 ⟨v1, l, p1, c1, q1, rfl, ho1, hk1, hr1, hs1⟩
  have HS1 := Lib.hid hs1
  obtain ⟨p10, p11⟩ := hs1.place
  have HLB : Hid (∀ x ∈ l, 0 ≤ x ∧ x < 256) := Lib.hid (fun x hx => HBY.out x (bl_mem hs1 x hx))
  have hll := bl_size hs1 hz.1
  have hz1 := hz.kp h (by simp) hk1
  have hT1 := HT.out.kp_rd h (by simp) hk1
  have hk1s := hk1.size
  clear hs1
  go_wp2_with fail
  refine (at_any _ _ _ _ _ _ hr1).mono ?_
  rintro e w' ⟨rfl, rfl⟩
  go_wp2_with fail
  refine (bfixed_any _ _ _ _ _ _ _ _ 4 _ hr1 hz1 p10 p11 hm hn HBY.out).mono ?_
  rw [min4]
  rintro e w2 ⟨x, p2, c2, q2, rfl, hk2, hr2, hs2, x0, x1⟩
  have HS2 := Lib.hid hs2
  obtain ⟨p20, p21⟩ := hs2.place
  have hT2 := hT1.kp_rd hr1 (by simp) hk2
  have ho2 : Own w2 w.heap.size v1 l := own_kp ho1 hk2 (Own.ne_blk ho1 hr1 (by decide))
  have hk3 := hk1.trans hk2
  obtain ⟨A1, cc1, rfl⟩ := ho2.slice
  clear hs2 hk1 hk2 ho1 hT1 hz1
  go_wp2_with fail
  refine (csum_any _ _ _ l _ ho2.bs.2 (by omega) HLB.out hT2).mono ?_
  rintro e w3 ⟨rfl, k3, rfl⟩
  have hr3 : IsRd (w2.drewN k3) b (.slice a n m) p2 c2 q2 := hr2.drewN k3
  have ho3 : Own (w2.drewN k3) w.heap.size (.slice A1 l.length cc1) l := ho2
  have hk4 := hk3.trans (Kp.drewN b w2 k3)
  have hsl := sm_lt HLB.out
  have hS0 : (0 : Int) ≤ ((sm l : Nat) : Int) := by omega
  have hS1 : ((sm l : Nat) : Int) < 4294967296 := by omega
  clear hr2 ho2 hk3 hT2 hsl
  generalize w2.drewN k3 = w3 at *
  have FIN : ∀ w4 p4 c4 q4 u, Kp b w w4 → IsRd w4 b (.slice a n m) p4 c4 q4 → St [] n (frs z l p1 x p2) p2 c2 q2 u p4 c4 q4 → St [] n (fr z mo p) p c q u p4 c4 q4 := fun w4 p4 c4 q4 u _ _ hs => HS1.out.bind (f := fun y p1 => fr2 z y p1) (HS2.out.bind (f := fun x p2 => frs z l p1 x p2) hs)
  have HFIN := Lib.hid FIN
  clear FIN
  by_cases hx : x = ((sm l : Nat) : Int)
  · have hb : (x != ((sm l : Nat) : Int)) = false := by simp [hx]
    have HST := Lib.hid (frs_st (z := z) (p1 := p1) (c := c2) (q := q2) p20 p21 hx)
    have HXX := Lib.hid hx
    clear hx
    generalize ((sm l : Nat) : Int) = s at *
    go_wp2_with fail
    refine (good_any _ _ _ _ _ _ hr3).mono ?_
    rintro e w4 ⟨rfl, hb4⟩
    by_cases hc : c2 = 0
    · have hg : (c2 == 0) = true := by simpa using hc
      have HST2 : Hid (St [] n (frs z l p1 x p2) p2 c2 q2 l p2 c2 q2) := Lib.hid (by have := HST.out; rw [if_pos hc] at this; exact this)
      clear hc
      go_wp2
      go_ret
      exact ⟨_, l, p2, c2, q2, rfl, ho3.below hb4, hk4.trans (Kp.of_below hb4), hr3.below hb4, HFIN.out _ _ _ _ _ (hk4.trans (Kp.of_below hb4)) (hr3.below hb4) HST2.out⟩
    · have hg : (c2 == 0) = false := by simpa using hc
      have HST2 : Hid (St [] n (frs z l p1 x p2) p2 c2 q2 [] p2 c2 q2) := Lib.hid (by have := HST.out; rw [if_neg hc] at this; exact this)
      clear hc
      go_wp2
      go_ret
      exact ⟨_, [], p2, c2, q2, rfl, Own.nil _ _, hk4.trans (Kp.of_below hb4), hr3.below hb4, HFIN.out _ _ _ _ _ (hk4.trans (Kp.of_below hb4)) (hr3.below hb4) HST2.out⟩
  · have hb : (x != ((sm l : Nat) : Int)) = true := by simpa using hx
    have HXX := Lib.hid hx
    clear hx
    generalize hs : ((sm l : Nat) : Int) = s at *
    have HSS := Lib.hid hs
    clear hs
    go_wp2_with fail
    refine (fail_any _ _ _ _ _ _ _ _ hr3).mono ?_
    rintro e w4 ⟨c4, q4, rfl, hk5, hr4, hf⟩
    obtain ⟨hst, hc4⟩ := frs_bad (z := z) (y := l) (p1 := p1) p20 p21 (by rw [HSS.out]; exact HXX.out) hf
    have HST := Lib.hid hst
    have hk6 := hk4.trans hk5
    clear hst hf hk5
    go_wp2_with fail
    refine (good_any _ _ _ _ _ _ hr4).mono ?_
    rintro e w5 ⟨rfl, hb5⟩
    have hg : (c4 == 0) = false := by simpa using hc4
    clear hc4
    go_wp2
    go_ret
    exact ⟨_, [], p2, c4, q4, rfl, Own.nil _ _, hk6.trans (Kp.of_below hb5), hr4.below hb5, HFIN.out _ _ _ _ _ (hk6.trans (Kp.of_below hb5)) (hr4.below hb5) HST.out⟩

set_option maxHeartbeats 400000 in
theorem limited_any (mo : Int) (w : World) : Calls Tryd.prog 42 #[.int .i64 mo] w fun e w' => e = .returned (.int .i64 (min mo 2097152)) ∧ w = w' := by
  go_enter Tryd.func42, Tryd.ntmps42
  go_wp2
  go_ret
  exact ⟨rfl, rfl⟩

set_option maxHeartbeats 400000 in
theorem fread_any (b : Nat) (a : Option Addr) (n m : Nat) (z : List Int) (p c q mo : Int) (w : World) (h : IsRd w b (.slice a n m) p c q) (hz : Bs w a n z) (h0 : 0 ≤ p) (h1 : p ≤ n) (hm : n ≤ m) (hn : n ≤ 1000000) (hby : ∀ x ∈ z, 0 ≤ x ∧ x < 256) (hT : Tbs w) :
    Calls Tryd.prog 21 #[.pointer (some ⟨b, 0, none⟩), .int .i64 mo] w (BRPost b (.slice a n m) n (fr z (min mo 2097152) p) p c q w) := by
  have HBY := Lib.hid hby
  clear hby
  have hl : min mo 2097152 ≤ 9223372036854775807 := by omega
  have hli := limited_any mo w
  generalize min mo 2097152 = lim at *
  go_enter Tryd.func21, Tryd.ntmps21
  go_wp2_with fail
  refine hli.mono ?_
  rintro e w' ⟨rfl, rfl⟩
  go_wp2_with fail
  refine (payload_any _ _ _ _ _ _ _ _ _ _ h hz h0 h1 hm hn HBY.out hl hT).mono ?_
  rintro e w1 ⟨v, l, p', c', q', rfl, ho, hk, hr, hs⟩
  go_wp2
  go_ret
  exact ⟨v, l, p', c', q', rfl, ho, hk, hr, hs⟩

/-- What a reader of a length hands back. -/
def LenPost (b : Nat) (s : Value) (n : Nat) (g : Rs Int) (p c q : Int) (w : World) (e : Ending) (w' : World) : Prop :=
  ∃ v p' c' q', e = .returned (.int .i64 v) ∧ Kp b w w' ∧ IsRd w' b s p' c' q' ∧ St 0 n g p c q v p' c' q'
set_option maxHeartbeats 400000 in
theorem length_any (b : Nat) (a : Option Addr) (n m : Nat) (z : List Int) (p c q mo : Int) (w : World) (h : IsRd w b (.slice a n m) p c q) (hz : Bs w a n z) (h0 : 0 ≤ p) (h1 : p ≤ n) (hn : n ≤ 1000000) (hby : ∀ x ∈ z, 0 ≤ x ∧ x < 256) (hmo : mo ≤ 9223372036854775807) :
    Calls Tryd.prog 50 #[.int .i64 mo, .pointer (some ⟨b, 0, none⟩)] w (LenPost b (.slice a n m) n (vm z mo p) p c q w) := by
  have HBY := Lib.hid hby
  clear hby
  go_enter Tryd.func50, Tryd.ntmps50
  go_wp2_with fail
  refine (vint_any _ _ _ _ _ _ _ _ _ _ h hz h0 h1 hn HBY.out hmo).mono ?_
  rintro e w1 ⟨x, p1, c1, q1, rfl, hk1, hr1, hs1⟩
  have HST := Lib.hid (hs1.st hz.1 h0 h1 HBY.out)
  clear hs1
  go_wp2
  go_ret
  exact ⟨x, p1, c1, q1, rfl, hk1, hr1, HST.out⟩
end Go.Proofs.YtncomjeidlahlaaDoor.Cur

namespace Go.Proofs.YtncomjeidlahlaaDoor.Cur
open Go.RowKit Mem CrcM
set_option linter.unusedVariables false
set_option maxRecDepth 100000


set_option maxHeartbeats 2000000 in
theorem rfread_any (a : Option Addr) (n m : Nat) (z : List Int) (p c q mo : Int) (w : World) (hz : Bs w a n z) (ha : a = none → m = 0) (h0 : 0 ≤ p) (h1 : p ≤ n) (hm : n ≤ m) (hn : n ≤ 1000000) (hby : ∀ x ∈ z, 0 ≤ x ∧ x < 256) :
    Calls Tryd.prog 22 #[cv (.slice a n m) p c q, .int .i64 mo] w (RBRPost (.slice a n m) n (fr z (min mo 2097152) p) p c q w) := by
  have HBY := Lib.hid hby
  clear hby
  rcases Int.lt_or_le 2097152 mo with h | h
  · have e : min mo 2097152 = 2097152 := by omega
    rw [e]
    clear e
    go_enter Tryd.func22, Tryd.ntmps22
    go_wp2_with fail
    refine (rbread_any _ _ _ _ _ _ _ (2097152) _ (hz.below (below_two _ _ _)) ha h0 h1 hm hn HBY.out (by omega)).mono ?_
    rintro e w1 ⟨A2, k2, m2, l, p1, c1, q1, rfl, hb1, hs1, hbs1, hkm⟩
    obtain ⟨hC, hR, hbd⟩ := two_new hb1
    have HS1 := Lib.hid hs1
    obtain ⟨p10, p11⟩ := hs1.place
    have HLB : Hid (∀ x ∈ l, 0 ≤ x ∧ x < 256) := Lib.hid (fun x hx => HBY.out x (bl_mem hs1 x hx))
    have hll := bl_size hs1 hz.1
    have hk2 : k2 ≤ n := by rw [← hbs1.1]; exact hll
    have hbd2 := hbd.alloc hbd.size (.cells (cvs (.slice a n m) p1 c1 q1) 44)
    have hR2 := hR.alloc (.cells (cvs (.slice a n m) p1 c1 q1) 44)
    have hD2 := Blk.new w1 (cvs (.slice a n m) p1 c1 q1) 44
    have hbs2 := hbs1.alloc (.cells (cvs (.slice a n m) p1 c1 q1) 44)
    have hlt1 : w.heap.size + 1 < w1.heap.size := hR.lt
    clear hb1 hC hR hbd hbs1 hs1
    go_wp2_with fail
    generalize w1.alloc (.cells (cvs (.slice a n m) p1 c1 q1) 44) = w2 at *
    generalize w1.heap.size = db at *
    refine (rfixed_any _ _ _ _ _ _ _ 4 _ (hz.below hbd2) ha p10 p11 hm hn HBY.out).mono ?_
    rw [min4]
    rintro e w3 ⟨x, p2, c2, q2, rfl, hb3, hs2⟩
    have HS2 := Lib.hid hs2
    obtain ⟨p20, p21⟩ := hs2.place
    have hbd3 := hbd2.trans (hb3.mono hbd2.size)
    have hR3 := hR2.below hb3
    have hD3 := hD2.below hb3
    have hbs3 := hbs2.below hb3
    have hbA := below_one w3 (.cells (cvs (.slice a n m) p2 c2 q2) 44)
    have hE4 := Blk.new w3 (cvs (.slice a n m) p2 c2 q2) 44
    have hlt3 : db < w3.heap.size := hD3.lt
    have hbd4 := hbd3.trans (hbA.mono hbd3.size)
    have hR4 := hR3.below hbA
    have hD4 := hD3.below hbA
    have hbs4 := hbs3.below hbA
    have HFIN : Hid (∀ p4 c4 q4 u, St [] n (frs z l p1 x p2) p2 c2 q2 u p4 c4 q4 → St [] n (fr z (2097152) p) p c q u p4 c4 q4) := Lib.hid (fun p4 c4 q4 u hs => HS1.out.bind (f := fun y p1 => fr2 z y p1) (HS2.out.bind (f := fun x p2 => frs z l p1 x p2) hs))
    clear hb3 hbd2 hR2 hD2 hbs2 hs2 hbd3 hR3 hD3 hbs3 hbA
    by_cases hc : c2 = 0
    · have hg : (c2 == 0) = true := by simpa using hc
      have hg2 : (c2 != 0) = false := by simpa using hc
      have HC := Lib.hid hc
      clear hc
      have e4 := hE4.c4
      go_wp2_with fail
      generalize w3.alloc (.cells (cvs (.slice a n m) p2 c2 q2) 44) = w4 at *
      generalize w3.heap.size = eb at *
      refine (rsum_any _ _ _ l _ hbs4 (by omega) HLB.out).mono ?_
      rintro e w' ⟨rfl, rfl⟩
      have hsl := sm_lt HLB.out
      have hS0 : (0 : Int) ≤ ((sm l : Nat) : Int) := by omega
      have hS1 : ((sm l : Nat) : Int) < 4294967296 := by omega
      clear hsl
      by_cases hx : x = ((sm l : Nat) : Int)
      · have hb : (x != ((sm l : Nat) : Int)) = false := by simp [hx]
        have HST : Hid (St [] n (frs z l p1 x p2) p2 c2 q2 l p2 c2 q2) := Lib.hid (by have := frs_st (z := z) (p1 := p1) (c := c2) (q := q2) p20 p21 hx; rw [if_pos HC.out] at this; exact this)
        clear hx
        generalize ((sm l : Nat) : Int) = s at *
        obtain ⟨e0, e1, e2, e3⟩ := hE4.c4
        obtain ⟨r0, r1, r2, r3⟩ := hR4.c4
        obtain ⟨g0, g1, g2, g3⟩ := hR4.f4
        have hbs5 : Bs ((((w4.setCell ⟨w.heap.size + 1, 0, none⟩ (.slice a n m)).setCell ⟨w.heap.size + 1, 1, none⟩ (.int .i64 p2)).setCell ⟨w.heap.size + 1, 2, none⟩ (.int .i64 c2)).setCell ⟨w.heap.size + 1, 3, none⟩ (.int .i64 q2)) A2 k2 l := by
          obtain ⟨_, hkp⟩ := set4 hR4 (.slice a n m) (.int .i64 p2) (.int .i64 c2) (.int .i64 q2)
          exact hbs4.kp4 hR4 (by intro x; simp) (by intro x; simp) (by intro x; simp) (by intro x; simp) hkp
        have HBD := Lib.hid (set4_below hbd4 (show w.heap.size ≤ w.heap.size + 1 by omega) (.slice a n m) (.int .i64 p2) (.int .i64 c2) (.int .i64 q2))
        go_wp2
        refine bodyPost_ret (v := .tuple #[cv (.slice a n m) p2 c2 q2, .slice A2 k2 m2]) (by simp [results, Tryd.results22, go_sem, r0, r1, r2, r3]) rfl ⟨A2, k2, m2, l, p2, c2, q2, rfl, HBD.out, HFIN.out _ _ _ _ HST.out, hbs5, hkm⟩
      · have hb : (x != ((sm l : Nat) : Int)) = true := by simpa using hx
        have HXX := Lib.hid hx
        clear hx
        generalize hs : ((sm l : Nat) : Int) = s at *
        have HSS := Lib.hid hs
        clear hs
        obtain ⟨d0, d1, d2, d3⟩ := hD4.c4
        clear d0 d2 d3
        go_wp2_with fail
        refine (rfail_any _ _ _ _ _ _ _ _ _).mono ?_
        rintro e w5 ⟨c5, q5, rfl, hb5, hf⟩
        obtain ⟨hst, hc5⟩ := frs_bad (z := z) (y := l) (p1 := p1) p20 p21 (by rw [HSS.out]; exact HXX.out) hf
        have HST := Lib.hid hst
        have hg5 : (c5 != 0) = true := by simpa using hc5
        have hE5 := hE4.below hb5
        have hR5 := hR4.below hb5
        have hbd5 := hbd4.trans (hb5.mono hbd4.size)
        obtain ⟨e0, e1, e2, e3⟩ := hE5.c4
        obtain ⟨f0, f1, f2, f3⟩ := hE5.f4
        obtain ⟨hE6, hkp⟩ := set4 hE5 (.slice a n m) (.int .i64 p2) (.int .i64 c5) (.int .i64 q5)
        have hR6 := blk_kp hR5 hkp (by omega)
        have hbd6 := Kp.below hbd5 (Nat.le_refl _) hkp (by omega)
        have HE := Lib.hid hE6
        have HR := Lib.hid hR6
        have HBD := Lib.hid hbd6
        clear hst hf hb5 hc5 hE6 hR6 hbd6 hkp hE5 hR5 hbd5 hbd4 hE4 hR4 hD4 hbs4
        go_upto_region 7 with (fail)
        generalize (((w5.setCell ⟨eb, 0, none⟩ (.slice a n m)).setCell ⟨eb, 1, none⟩ (.int .i64 p2)).setCell ⟨eb, 2, none⟩ (.int .i64 c5)).setCell ⟨eb, 3, none⟩ (.int .i64 q5) = w6 at *
        clear e0 e1 e2 e3 f0 f1 f2 f3
        obtain ⟨e0, e1, e2, e3⟩ := HE.out.c4
        obtain ⟨r0, r1, r2, r3⟩ := HR.out.c4
        obtain ⟨g0, g1, g2, g3⟩ := HR.out.f4
        have HBD2 := Lib.hid (set4_below HBD.out (show w.heap.size ≤ w.heap.size + 1 by omega) (.slice a n m) (.int .i64 p2) (.int .i64 c5) (.int .i64 q5))
        go_wp2
        refine bodyPost_ret (v := .tuple #[cv (.slice a n m) p2 c5 q5, .slice none 0 0]) (by simp [results, Tryd.results22, go_sem, r0, r1, r2, r3]) rfl ⟨none, 0, 0, [], p2, c5, q5, rfl, HBD2.out, HFIN.out _ _ _ _ HST.out, Bs.none _, Nat.le_refl _⟩
    · have hg : (c2 == 0) = false := by simpa using hc
      have hg2 : (c2 != 0) = true := by simpa using hc
      have HST : Hid (St [] n (frs z l p1 x p2) p2 c2 q2 [] p2 c2 q2) := Lib.hid (St.stay p20 p21 hc)
      clear hc
      obtain ⟨e0, e1, e2, e3⟩ := hE4.c4
      obtain ⟨r0, r1, r2, r3⟩ := hR4.c4
      obtain ⟨g0, g1, g2, g3⟩ := hR4.f4
      have HBD := Lib.hid (set4_below hbd4 (show w.heap.size ≤ w.heap.size + 1 by omega) (.slice a n m) (.int .i64 p2) (.int .i64 c2) (.int .i64 q2))
      clear hbd4 hE4 hR4 hD4 hbs4
      go_upto_region 5 with (fail)
      generalize w3.alloc (.cells (cvs (.slice a n m) p2 c2 q2) 44) = w4 at *
      generalize w3.heap.size = eb at *
      go_wp2
      refine bodyPost_ret (v := .tuple #[cv (.slice a n m) p2 c2 q2, .slice none 0 0]) (by simp [results, Tryd.results22, go_sem, r0, r1, r2, r3]) rfl ⟨none, 0, 0, [], p2, c2, q2, rfl, HBD.out, HFIN.out _ _ _ _ HST.out, Bs.none _, Nat.le_refl _⟩
  · have e : min mo 2097152 = mo := by omega
    rw [e]
    clear e
    go_enter Tryd.func22, Tryd.ntmps22
    go_wp2_with fail
    refine (rbread_any _ _ _ _ _ _ _ (mo) _ (hz.below (below_two _ _ _)) ha h0 h1 hm hn HBY.out (by omega)).mono ?_
    rintro e w1 ⟨A2, k2, m2, l, p1, c1, q1, rfl, hb1, hs1, hbs1, hkm⟩
    obtain ⟨hC, hR, hbd⟩ := two_new hb1
    have HS1 := Lib.hid hs1
    obtain ⟨p10, p11⟩ := hs1.place
    have HLB : Hid (∀ x ∈ l, 0 ≤ x ∧ x < 256) := Lib.hid (fun x hx => HBY.out x (bl_mem hs1 x hx))
    have hll := bl_size hs1 hz.1
    have hk2 : k2 ≤ n := by rw [← hbs1.1]; exact hll
    have hbd2 := hbd.alloc hbd.size (.cells (cvs (.slice a n m) p1 c1 q1) 44)
    have hR2 := hR.alloc (.cells (cvs (.slice a n m) p1 c1 q1) 44)
    have hD2 := Blk.new w1 (cvs (.slice a n m) p1 c1 q1) 44
    have hbs2 := hbs1.alloc (.cells (cvs (.slice a n m) p1 c1 q1) 44)
    have hlt1 : w.heap.size + 1 < w1.heap.size := hR.lt
    clear hb1 hC hR hbd hbs1 hs1
    go_wp2_with fail
    generalize w1.alloc (.cells (cvs (.slice a n m) p1 c1 q1) 44) = w2 at *
    generalize w1.heap.size = db at *
    refine (rfixed_any _ _ _ _ _ _ _ 4 _ (hz.below hbd2) ha p10 p11 hm hn HBY.out).mono ?_
    rw [min4]
    rintro e w3 ⟨x, p2, c2, q2, rfl, hb3, hs2⟩
    have HS2 := Lib.hid hs2
    obtain ⟨p20, p21⟩ := hs2.place
    have hbd3 := hbd2.trans (hb3.mono hbd2.size)
    have hR3 := hR2.below hb3
    have hD3 := hD2.below hb3
    have hbs3 := hbs2.below hb3
    have hbA := below_one w3 (.cells (cvs (.slice a n m) p2 c2 q2) 44)
    have hE4 := Blk.new w3 (cvs (.slice a n m) p2 c2 q2) 44
    have hlt3 : db < w3.heap.size := hD3.lt
    have hbd4 := hbd3.trans (hbA.mono hbd3.size)
    have hR4 := hR3.below hbA
    have hD4 := hD3.below hbA
    have hbs4 := hbs3.below hbA
    have HFIN : Hid (∀ p4 c4 q4 u, St [] n (frs z l p1 x p2) p2 c2 q2 u p4 c4 q4 → St [] n (fr z (mo) p) p c q u p4 c4 q4) := Lib.hid (fun p4 c4 q4 u hs => HS1.out.bind (f := fun y p1 => fr2 z y p1) (HS2.out.bind (f := fun x p2 => frs z l p1 x p2) hs))
    clear hb3 hbd2 hR2 hD2 hbs2 hs2 hbd3 hR3 hD3 hbs3 hbA
    by_cases hc : c2 = 0
    · have hg : (c2 == 0) = true := by simpa using hc
      have hg2 : (c2 != 0) = false := by simpa using hc
      have HC := Lib.hid hc
      clear hc
      have e4 := hE4.c4
      go_wp2_with fail
      generalize w3.alloc (.cells (cvs (.slice a n m) p2 c2 q2) 44) = w4 at *
      generalize w3.heap.size = eb at *
      refine (rsum_any _ _ _ l _ hbs4 (by omega) HLB.out).mono ?_
      rintro e w' ⟨rfl, rfl⟩
      have hsl := sm_lt HLB.out
      have hS0 : (0 : Int) ≤ ((sm l : Nat) : Int) := by omega
      have hS1 : ((sm l : Nat) : Int) < 4294967296 := by omega
      clear hsl
      by_cases hx : x = ((sm l : Nat) : Int)
      · have hb : (x != ((sm l : Nat) : Int)) = false := by simp [hx]
        have HST : Hid (St [] n (frs z l p1 x p2) p2 c2 q2 l p2 c2 q2) := Lib.hid (by have := frs_st (z := z) (p1 := p1) (c := c2) (q := q2) p20 p21 hx; rw [if_pos HC.out] at this; exact this)
        clear hx
        generalize ((sm l : Nat) : Int) = s at *
        obtain ⟨e0, e1, e2, e3⟩ := hE4.c4
        obtain ⟨r0, r1, r2, r3⟩ := hR4.c4
        obtain ⟨g0, g1, g2, g3⟩ := hR4.f4
        have hbs5 : Bs ((((w4.setCell ⟨w.heap.size + 1, 0, none⟩ (.slice a n m)).setCell ⟨w.heap.size + 1, 1, none⟩ (.int .i64 p2)).setCell ⟨w.heap.size + 1, 2, none⟩ (.int .i64 c2)).setCell ⟨w.heap.size + 1, 3, none⟩ (.int .i64 q2)) A2 k2 l := by
          obtain ⟨_, hkp⟩ := set4 hR4 (.slice a n m) (.int .i64 p2) (.int .i64 c2) (.int .i64 q2)
          exact hbs4.kp4 hR4 (by intro x; simp) (by intro x; simp) (by intro x; simp) (by intro x; simp) hkp
        have HBD := Lib.hid (set4_below hbd4 (show w.heap.size ≤ w.heap.size + 1 by omega) (.slice a n m) (.int .i64 p2) (.int .i64 c2) (.int .i64 q2))
        go_wp2
        refine bodyPost_ret (v := .tuple #[cv (.slice a n m) p2 c2 q2, .slice A2 k2 m2]) (by simp [results, Tryd.results22, go_sem, r0, r1, r2, r3]) rfl ⟨A2, k2, m2, l, p2, c2, q2, rfl, HBD.out, HFIN.out _ _ _ _ HST.out, hbs5, hkm⟩
      · have hb : (x != ((sm l : Nat) : Int)) = true := by simpa using hx
        have HXX := Lib.hid hx
        clear hx
        generalize hs : ((sm l : Nat) : Int) = s at *
        have HSS := Lib.hid hs
        clear hs
        obtain ⟨d0, d1, d2, d3⟩ := hD4.c4
        clear d0 d2 d3
        go_wp2_with fail
        refine (rfail_any _ _ _ _ _ _ _ _ _).mono ?_
        rintro e w5 ⟨c5, q5, rfl, hb5, hf⟩
        obtain ⟨hst, hc5⟩ := frs_bad (z := z) (y := l) (p1 := p1) p20 p21 (by rw [HSS.out]; exact HXX.out) hf
        have HST := Lib.hid hst
        have hg5 : (c5 != 0) = true := by simpa using hc5
        have hE5 := hE4.below hb5
        have hR5 := hR4.below hb5
        have hbd5 := hbd4.trans (hb5.mono hbd4.size)
        obtain ⟨e0, e1, e2, e3⟩ := hE5.c4
        obtain ⟨f0, f1, f2, f3⟩ := hE5.f4
        obtain ⟨hE6, hkp⟩ := set4 hE5 (.slice a n m) (.int .i64 p2) (.int .i64 c5) (.int .i64 q5)
        have hR6 := blk_kp hR5 hkp (by omega)
        have hbd6 := Kp.below hbd5 (Nat.le_refl _) hkp (by omega)
        have HE := Lib.hid hE6
        have HR := Lib.hid hR6
        have HBD := Lib.hid hbd6
        clear hst hf hb5 hc5 hE6 hR6 hbd6 hkp hE5 hR5 hbd5 hbd4 hE4 hR4 hD4 hbs4
        go_upto_region 7 with (fail)
        generalize (((w5.setCell ⟨eb, 0, none⟩ (.slice a n m)).setCell ⟨eb, 1, none⟩ (.int .i64 p2)).setCell ⟨eb, 2, none⟩ (.int .i64 c5)).setCell ⟨eb, 3, none⟩ (.int .i64 q5) = w6 at *
        clear e0 e1 e2 e3 f0 f1 f2 f3
        obtain ⟨e0, e1, e2, e3⟩ := HE.out.c4
        obtain ⟨r0, r1, r2, r3⟩ := HR.out.c4
        obtain ⟨g0, g1, g2, g3⟩ := HR.out.f4
        have HBD2 := Lib.hid (set4_below HBD.out (show w.heap.size ≤ w.heap.size + 1 by omega) (.slice a n m) (.int .i64 p2) (.int .i64 c5) (.int .i64 q5))
        go_wp2
        refine bodyPost_ret (v := .tuple #[cv (.slice a n m) p2 c5 q5, .slice none 0 0]) (by simp [results, Tryd.results22, go_sem, r0, r1, r2, r3]) rfl ⟨none, 0, 0, [], p2, c5, q5, rfl, HBD2.out, HFIN.out _ _ _ _ HST.out, Bs.none _, Nat.le_refl _⟩
    · have hg : (c2 == 0) = false := by simpa using hc
      have hg2 : (c2 != 0) = true := by simpa using hc
      have HST : Hid (St [] n (frs z l p1 x p2) p2 c2 q2 [] p2 c2 q2) := Lib.hid (St.stay p20 p21 hc)
      clear hc
      obtain ⟨e0, e1, e2, e3⟩ := hE4.c4
      obtain ⟨r0, r1, r2, r3⟩ := hR4.c4
      obtain ⟨g0, g1, g2, g3⟩ := hR4.f4
      have HBD := Lib.hid (set4_below hbd4 (show w.heap.size ≤ w.heap.size + 1 by omega) (.slice a n m) (.int .i64 p2) (.int .i64 c2) (.int .i64 q2))
      clear hbd4 hE4 hR4 hD4 hbs4
      go_upto_region 5 with (fail)
      generalize w3.alloc (.cells (cvs (.slice a n m) p2 c2 q2) 44) = w4 at *
      generalize w3.heap.size = eb at *
      go_wp2
      refine bodyPost_ret (v := .tuple #[cv (.slice a n m) p2 c2 q2, .slice none 0 0]) (by simp [results, Tryd.results22, go_sem, r0, r1, r2, r3]) rfl ⟨none, 0, 0, [], p2, c2, q2, rfl, HBD.out, HFIN.out _ _ _ _ HST.out, Bs.none _, Nat.le_refl _⟩
end Go.Proofs.YtncomjeidlahlaaDoor.Cur

namespace Go.Proofs.YtncomjeidlahlaaDoor.Cur
open Go.RowKit Mem CrcM
set_option linter.unusedVariables false
set_option maxRecDepth 100000

/-- What Get tells of what is read. -/
def GetSt {α : Type} (d : α) (g : Rs α) (l : α) (nn c q : Int) : Prop := (g.2.2.1 = 0 ∧ l = g.1 ∧ nn = g.2.1 ∧ c = 0 ∧ q = 0) ∨ (g.2.2.1 ≠ 0 ∧ l = d ∧ nn = 0 ∧ c = g.2.2.1 ∧ q = g.2.2.2)
theorem St.get {α : Type} {d : α} {n : Nat} {g : Rs α} {p : Int} {l : α} {p' c' q' : Int} (h : St d n g p 0 0 l p' c' q') : (c' = 0 → GetSt d g l p' 0 0) ∧ (c' ≠ 0 → GetSt d g d 0 c' q') := by
  obtain ⟨_, _, ⟨h0, _⟩ | ⟨_, h1, h2, h3, h4, h5⟩ | ⟨_, h1, h2, h3, h4⟩⟩ := h
  · exact absurd rfl h0
  · exact ⟨fun _ => .inl ⟨h1, h2, h3, rfl, rfl⟩, fun h => absurd h4 h⟩
  · exact ⟨fun h => absurd (h3.symm.trans h) h1, fun _ => .inr ⟨h1, rfl, rfl, h3, h4⟩⟩
def FGPost (g : Rs (List Int)) (w : World) (e : Ending) (w' : World) : Prop :=
  ∃ v l nn c q, e = .returned (.tuple #[v, .int .i64 nn, .agg #[.int .i64 c, .int .i64 q]]) ∧ Own w' w.heap.size v l ∧ Below w.heap.size w w' ∧ GetSt [] g l nn c q
theorem blk_set2 {w : World} {b : Nat} {v0 v1 : Value} {t : Nat} (h : Blk w b #[v0, v1] t) (u0 u1 : Value) : Blk ((w.setCell ⟨b, 0, none⟩ u0).setCell ⟨b, 1, none⟩ u1) b #[u0, u1] t ∧ Kp b w ((w.setCell ⟨b, 0, none⟩ u0).setCell ⟨b, 1, none⟩ u1) :=
  ⟨(h.set 0 u0).set 1 u1, (Kp.setCell _ _ _ _).trans (Kp.setCell _ _ _ _)⟩


set_option maxHeartbeats 1000000 in
theorem front_any (a : Option Addr) (n m : Nat) (z : List Int) (lim : Int) (w : World) (hz : Bs w a n z) (hm : n ≤ m) (hn : n ≤ 1000000) (hby : ∀ x ∈ z, 0 ≤ x ∧ x < 256) (hl : lim ≤ 9223372036854775807) (hT : Tbs w) :
    Calls Tryd.prog 47 #[.slice a n m, .func (.func 43) #[.int .i64 lim] #[]] w (FGPost (fr z lim 0) w) := by
  have HBY := Lib.hid hby
  have HT := Lib.hid hT
  have HL := Lib.hid hl
  clear hby hT hl
  go_enter Tryd.func47, Tryd.ntmps47
  have hR := Blk.new w #[.int .i64 0, .int .i64 0] 42
  have hb0 := below_one w (.cells #[.int .i64 0, .int .i64 0] 42)
  have hz0 : (w.alloc (.cells #[.int .i64 0, .int .i64 0] 42)).heap.size = w.heap.size + 1 := by simp
  go_wp2_with fail
  generalize w.alloc (.cells #[.int .i64 0, .int .i64 0] 42) = w0 at *
  refine (new_some _ _ _ _ hm).mono ?_
  rintro e w1 ⟨rb, rfl, hrb, hb1, hr⟩
  have HRB : Hid (w.heap.size + 1 ≤ rb) := Lib.hid (by omega)
  have hR1 := hR.below hb1
  have hbd := hb0.trans (hb1.mono hb0.size)
  have HW1 : Hid (w.heap.size < w1.heap.size) := Lib.hid hR1.lt
  clear hz0 hR hb0 hb1 hrb
  go_wp2_with fail
  refine (payload_any _ _ _ _ _ _ _ _ _ _ hr (hz.below hbd) (by omega) (by omega) (Nat.le_refl _) hn HBY.out HL.out (HT.out.below hbd)).mono ?_
  rintro e w2 ⟨v2, l, p2, c2, q2, rfl, ho2, hk2, hr2, hs2⟩
  have hR2 := blk_kp hR1 hk2 (by have := HRB.out; omega)
  have hbd2 := Kp.below hbd (Nat.le_refl _) hk2 (by have := HRB.out; omega)
  obtain ⟨G1, G2⟩ := hs2.get
  have HG1 := Lib.hid G1
  have HG2 := Lib.hid G2
  have hp2 := hs2.place
  clear G1 G2 hbd hk2 hs2 hR1 hr
  go_wp2_with fail
  refine (good_any _ _ _ _ _ _ hr2).mono ?_
  rintro e w3 ⟨rfl, hb3⟩
  have hR3 := hR2.below hb3
  have hr3 := hr2.below hb3
  have hbd3 := hbd2.trans (hb3.mono hbd2.size)
  have ho3 := ho2.below hb3
  clear ho2 hr2 hb3 hR2 hbd2
  obtain ⟨r0, r1⟩ := hR3.c2
  obtain ⟨g0, g1⟩ := hR3.f2
  by_cases hc : c2 = 0
  · have hg : (c2 == 0) = true := by simpa using hc
    have HST := Lib.hid (HG1.out hc)
    clear hc
    obtain ⟨A3, cc3, rfl⟩ := ho3.slice
    go_wp2_with fail
    refine (at_any _ _ _ _ _ _ hr3).mono ?_
    rintro e w' ⟨rfl, rfl⟩
    obtain ⟨hRS, hkS⟩ := blk_set2 hR3 (.int .i64 0) (.int .i64 0)
    have hbdS := Kp.below hbd3 (Nat.le_refl _) hkS (Nat.le_refl _)
    have hoS : Own ((w3.setCell ⟨w.heap.size, 0, none⟩ (.int .i64 0)).setCell ⟨w.heap.size, 1, none⟩ (.int .i64 0)) w.heap.size (.slice A3 l.length cc3) l :=
      Own.base ((ho3.far (p := ⟨w.heap.size, 0, none⟩) HW1.out (.int .i64 0)).far (p := ⟨w.heap.size, 1, none⟩) HW1.out (.int .i64 0)) (fun g hg => by have := ho3.ge g hg; have := HW1.out; omega)
    have HBS := Lib.hid hbdS
    have HOS := Lib.hid hoS
    clear hbdS hoS hRS hkS hbd3 ho3
    go_wp2
    exact bodyPost_ret (v := .tuple #[.slice A3 l.length cc3, .int .i64 p2, .agg #[.int .i64 0, .int .i64 0]]) (by simp [results, Tryd.results47, go_sem, r0, r1]) rfl ⟨_, l, p2, 0, 0, rfl, HOS.out, HBS.out, HST.out⟩
  · have hg : (c2 == 0) = false := by simpa using hc
    have HST := Lib.hid (HG2.out hc)
    clear hc
    go_wp2_with fail
    refine (fault_any _ _ _ _ _ _ hr3).mono ?_
    rintro e w4 ⟨rfl, hb4⟩
    have hR4 := hR3.below hb4
    have hbd4 := hbd3.trans (hb4.mono hbd3.size)
    clear r0 r1 g0 g1
    obtain ⟨r0, r1⟩ := hR4.c2
    obtain ⟨g0, g1⟩ := hR4.f2
    obtain ⟨hRS, hkS⟩ := blk_set2 hR4 (.int .i64 c2) (.int .i64 q2)
    have hbdS := Kp.below hbd4 (Nat.le_refl _) hkS (Nat.le_refl _)
    have HBS := Lib.hid hbdS
    clear hbdS hRS hkS hbd3 hbd4 ho3 hb4
    go_wp2
    exact bodyPost_ret (v := .tuple #[.slice none 0 0, .int .i64 0, .agg #[.int .i64 c2, .int .i64 q2]]) (by simp [results, Tryd.results47, go_sem, r0, r1]) rfl ⟨_, [], 0, c2, q2, rfl, Own.nil _ _, HBS.out, HST.out⟩

def FLPost (g : Rs Int) (w : World) (e : Ending) (w' : World) : Prop :=
  ∃ l nn c q, e = .returned (.tuple #[.int .i64 l, .int .i64 nn, .agg #[.int .i64 c, .int .i64 q]]) ∧ Below w.heap.size w w' ∧ GetSt 0 g l nn c q
set_option maxHeartbeats 1000000 in
theorem frontlen_any (a : Option Addr) (n m : Nat) (z : List Int) (lim : Int) (w : World) (hz : Bs w a n z) (hm : n ≤ m) (hn : n ≤ 1000000) (hby : ∀ x ∈ z, 0 ≤ x ∧ x < 256) (hl : lim ≤ 9223372036854775807) :
    Calls Tryd.prog 49 #[.slice a n m, .func (.func 50) #[.int .i64 lim] #[]] w (FLPost (vm z lim 0) w) := by
  have HBY := Lib.hid hby
  have HL := Lib.hid hl
  clear hby hl
  go_enter Tryd.func49, Tryd.ntmps49
  have hR := Blk.new w #[.int .i64 0, .int .i64 0] 42
  have hb0 := below_one w (.cells #[.int .i64 0, .int .i64 0] 42)
  have hz0 : (w.alloc (.cells #[.int .i64 0, .int .i64 0] 42)).heap.size = w.heap.size + 1 := by simp
  go_wp2_with fail
  generalize w.alloc (.cells #[.int .i64 0, .int .i64 0] 42) = w0 at *
  refine (new_some _ _ _ _ hm).mono ?_
  rintro e w1 ⟨rb, rfl, hrb, hb1, hr⟩
  have HRB : Hid (w.heap.size + 1 ≤ rb) := Lib.hid (by omega)
  have hR1 := hR.below hb1
  have hbd := hb0.trans (hb1.mono hb0.size)
  have HW1 : Hid (w.heap.size < w1.heap.size) := Lib.hid hR1.lt
  clear hz0 hR hb0 hb1 hrb
  go_wp2_with fail
  refine (length_any _ _ _ _ _ _ _ _ _ _ hr (hz.below hbd) (by omega) (by omega) hn HBY.out HL.out).mono ?_
  rintro e w2 ⟨l, p2, c2, q2, rfl, hk2, hr2, hs2⟩
  have hR2 := blk_kp hR1 hk2 (by have := HRB.out; omega)
  have hbd2 := Kp.below hbd (Nat.le_refl _) hk2 (by have := HRB.out; omega)
  obtain ⟨G1, G2⟩ := hs2.get
  have HG1 := Lib.hid G1
  have HG2 := Lib.hid G2
  have hp2 := hs2.place
  clear G1 G2 hbd hk2 hs2 hR1 hr
  go_wp2_with fail
  refine (good_any _ _ _ _ _ _ hr2).mono ?_
  rintro e w3 ⟨rfl, hb3⟩
  have hR3 := hR2.below hb3
  have hr3 := hr2.below hb3
  have hbd3 := hbd2.trans (hb3.mono hbd2.size)
  clear hr2 hb3 hR2 hbd2
  obtain ⟨r0, r1⟩ := hR3.c2
  obtain ⟨g0, g1⟩ := hR3.f2
  by_cases hc : c2 = 0
  · have hg : (c2 == 0) = true := by simpa using hc
    have HST := Lib.hid (HG1.out hc)
    clear hc
    go_wp2_with fail
    refine (at_any _ _ _ _ _ _ hr3).mono ?_
    rintro e w' ⟨rfl, rfl⟩
    obtain ⟨hRS, hkS⟩ := blk_set2 hR3 (.int .i64 0) (.int .i64 0)
    have hbdS := Kp.below hbd3 (Nat.le_refl _) hkS (Nat.le_refl _)
    have HBS := Lib.hid hbdS
    clear hbdS hRS hkS hbd3
    go_wp2
    exact bodyPost_ret (v := .tuple #[.int .i64 l, .int .i64 p2, .agg #[.int .i64 0, .int .i64 0]]) (by simp [results, Tryd.results49, go_sem, r0, r1]) rfl ⟨l, p2, 0, 0, rfl, HBS.out, HST.out⟩
  · have hg : (c2 == 0) = false := by simpa using hc
    have HST := Lib.hid (HG2.out hc)
    clear hc
    go_wp2_with fail
    refine (fault_any _ _ _ _ _ _ hr3).mono ?_
    rintro e w4 ⟨rfl, hb4⟩
    have hR4 := hR3.below hb4
    have hbd4 := hbd3.trans (hb4.mono hbd3.size)
    clear r0 r1 g0 g1
    obtain ⟨r0, r1⟩ := hR4.c2
    obtain ⟨g0, g1⟩ := hR4.f2
    obtain ⟨hRS, hkS⟩ := blk_set2 hR4 (.int .i64 c2) (.int .i64 q2)
    have hbdS := Kp.below hbd4 (Nat.le_refl _) hkS (Nat.le_refl _)
    have HBS := Lib.hid hbdS
    clear hbdS hRS hkS hbd3 hbd4 hb4
    go_wp2
    exact bodyPost_ret (v := .tuple #[.int .i64 0, .int .i64 0, .agg #[.int .i64 c2, .int .i64 q2]]) (by simp [results, Tryd.results49, go_sem, r0, r1]) rfl ⟨0, 0, c2, q2, rfl, HBS.out, HST.out⟩

set_option maxHeartbeats 1000000 in
theorem fget_any (a : Option Addr) (n m : Nat) (z : List Int) (mo : Int) (w : World) (hz : Bs w a n z) (hm : n ≤ m) (hn : n ≤ 1000000) (hby : ∀ x ∈ z, 0 ≤ x ∧ x < 256) (hT : Tbs w) :
    Calls Tryd.prog 23 #[.slice a n m, .int .i64 mo] w (FGPost (fr z (min mo 2097152) 0) w) := by
  have HBY := Lib.hid hby
  have HT := Lib.hid hT
  have hl : min mo 2097152 ≤ 9223372036854775807 := by omega
  have hli := fun w => limited_any mo w
  clear hby hT
  generalize min mo 2097152 = lim at *
  have HL := Lib.hid hl
  clear hl
  go_enter Tryd.func23, Tryd.ntmps23
  have hR := Blk.new w #[.int .i64 0, .int .i64 0] 42
  have hb0 := below_one w (.cells #[.int .i64 0, .int .i64 0] 42)
  have hz0 : (w.alloc (.cells #[.int .i64 0, .int .i64 0] 42)).heap.size = w.heap.size + 1 := by simp
  go_wp2_with fail
  generalize w.alloc (.cells #[.int .i64 0, .int .i64 0] 42) = w0 at *
  refine (hli _).mono ?_
  rintro e w' ⟨rfl, rfl⟩
  go_wp2_with fail
  refine (front_any _ _ _ _ _ _ (hz.below hb0) hm hn HBY.out HL.out (HT.out.below hb0)).mono ?_
  rintro e w1 ⟨v, l, nn, c, q, rfl, ho1, hb1, hst⟩
  have HST := Lib.hid hst
  have hR1 := hR.below hb1
  have hbd := hb0.trans (hb1.mono hb0.size)
  obtain ⟨r0, r1⟩ := hR1.c2
  obtain ⟨g0, g1⟩ := hR1.f2
  obtain ⟨hRS, hkS⟩ := blk_set2 hR1 (.int .i64 c) (.int .i64 q)
  have HBS := Lib.hid (Kp.below hbd (Nat.le_refl _) hkS (Nat.le_refl _))
  have HOS : Hid (Own ((w1.setCell ⟨w.heap.size, 0, none⟩ (.int .i64 c)).setCell ⟨w.heap.size, 1, none⟩ (.int .i64 q)) w.heap.size v l) := Lib.hid
    (Own.base ((ho1.far (p := ⟨w.heap.size, 0, none⟩) (by rw [hz0]; exact Nat.lt_succ_self _) (.int .i64 c)).far (p := ⟨w.heap.size, 1, none⟩) (by rw [hz0]; exact Nat.lt_succ_self _) (.int .i64 q)) (fun g hg => by have := ho1.ge g hg; omega))
  obtain ⟨A1, cc1, rfl⟩ := ho1.slice
  clear hst ho1 hz0 hRS hkS hbd hb1 hR hb0
  go_wp2
  exact bodyPost_ret (v := .tuple #[.slice A1 l.length cc1, .int .i64 nn, .agg #[.int .i64 c, .int .i64 q]]) (by simp [results, Tryd.results23, go_sem, r0, r1]) rfl ⟨_, l, nn, c, q, rfl, HOS.out, HBS.out, HST.out⟩
end Go.Proofs.YtncomjeidlahlaaDoor.Cur

namespace Go.Proofs.YtncomjeidlahlaaDoor.Cur
open Go.RowKit Mem CrcM
set_option linter.unusedVariables false
set_option maxRecDepth 100000

/-- How many bytes the frame has whose length this is. -/
def whl (g : Rs Int) : Int := if g.2.2.1 = 0 then (vsz g.1 : Int) + g.1 + 4 else 0
theorem vm_nonneg {z : List Int} {mo p : Int} (hby : ∀ x ∈ z, 0 ≤ x ∧ x < 256) (h : (vm z mo p).2.2.1 = 0) : 0 ≤ (vm z mo p).1 ∧ (vm z mo p).1 ≤ mo := by
  obtain ⟨_, h2, h3⟩ := vm_ok h
  rw [h3]
  exact ⟨vg_bd z p hby, h2⟩

set_option maxHeartbeats 1000000 in
theorem fwhole_any (a : Option Addr) (n m : Nat) (z : List Int) (mo : Int) (w : World) (hz : Bs w a n z) (hm : n ≤ m) (hn : n ≤ 1000000) (hby : ∀ x ∈ z, 0 ≤ x ∧ x < 256) :
    Calls Tryd.prog 26 #[.slice a n m, .int .i64 mo] w fun e w' => e = .returned (.tuple #[.int .i64 (whl (vm z (min mo 2097152) 0)), .bool (decide ((vm z (min mo 2097152) 0).2.2.1 = 0))]) ∧ Below w.heap.size w w' := by
  have HBY := Lib.hid hby
  have hl : min mo 2097152 ≤ 2097152 := by omega
  have hli := fun w => limited_any mo w
  have hvn := fun h => vm_nonneg (z := z) (mo := min mo 2097152) (p := 0) hby h
  clear hby
  generalize min mo 2097152 = lim at *
  have hlim : lim ≤ 9223372036854775807 := by omega
  have HLI := Lib.hid hlim
  by_cases g0 : (vm z lim 0).2.2.1 = 0
  · obtain ⟨l0, l1⟩ := hvn g0
    have HW : whl (vm z lim 0) = (vsz (max (vm z lim 0).1 0) : Int) + max (vm z lim 0).1 0 + 4 := by
      have e : max (vm z lim 0).1 0 = (vm z lim 0).1 := by omega
      rw [e]; unfold whl; rw [if_pos g0]
    have l2 : (vm z lim 0).1 ≤ 4611686018427387000 := by omega
    have HS := Lib.hid (fun w => fsize_any (vm z lim 0).1 w l2)
    rw [HW, show decide ((vm z lim 0).2.2.1 = 0) = true by simpa using g0]
    have HG := Lib.hid g0
    obtain ⟨v, hv⟩ : ∃ v, v = (vm z lim 0).1 := ⟨_, rfl⟩
    rw [← hv] at HS ⊢
    have HV := Lib.hid hv
    clear g0 HW hvn hl hlim l0 l1 l2 hv
    go_enter Tryd.func26, Tryd.ntmps26
    go_wp2_with fail
    refine (hli _).mono ?_
    rintro e w' ⟨rfl, rfl⟩
    go_wp2_with fail
    refine (frontlen_any _ _ _ _ _ _ hz hm hn HBY.out HLI.out).mono ?_
    rintro e w1 ⟨l, nn, c, q, rfl, hb1, hst⟩
    have hbA := hb1.alloc hb1.size (.cells #[.int .i64 c, .int .i64 q] 42)
    rcases hst with ⟨_, rfl, rfl, rfl, rfl⟩ | ⟨g1, _⟩
    · rw [← HV.out]
      generalize (vm z lim 0).2.1 = u at *
      go_wp2_with fail
      refine (fgood_any _ _ _).mono ?_
      rintro e w2 ⟨rfl, hb2⟩
      rw [show ((0 : Int) == 0) = true from rfl]
      go_wp2_with fail
      refine (HS.out _).mono ?_
      rintro e w3 ⟨rfl, rfl⟩
      go_wp2
      go_ret2
      exact ⟨rfl, hbA.trans (hb2.mono hbA.size)⟩
    · exact absurd HG.out g1
  · have HG := Lib.hid g0
    rw [show whl (vm z lim 0) = 0 by unfold whl; rw [if_neg g0], show decide ((vm z lim 0).2.2.1 = 0) = false by simpa using g0]
    clear g0 hvn hl hlim
    go_enter Tryd.func26, Tryd.ntmps26
    go_wp2_with fail
    refine (hli _).mono ?_
    rintro e w' ⟨rfl, rfl⟩
    go_wp2_with fail
    refine (frontlen_any _ _ _ _ _ _ hz hm hn HBY.out HLI.out).mono ?_
    rintro e w1 ⟨l, nn, c, q, rfl, hb1, hst⟩
    have hbA := hb1.alloc hb1.size (.cells #[.int .i64 c, .int .i64 q] 42)
    rcases hst with ⟨g1, _⟩ | ⟨g1, rfl, rfl, rfl, rfl⟩
    · exact absurd g1 HG.out
    · have hc : ((vm z lim 0).2.2.1 == 0) = false := by simpa using HG.out
      clear g1
      generalize (vm z lim 0).2.2.1 = c at *
      generalize (vm z lim 0).2.2.2 = q at *
      go_wp2_with fail
      refine (fgood_any _ _ _).mono ?_
      rintro e w2 ⟨rfl, hb2⟩
      rw [hc]
      go_wp2
      go_ret2
      exact ⟨rfl, hbA.trans (hb2.mono hbA.size)⟩

set_option maxHeartbeats 1000000 in
theorem rwhole_any (a : Option Addr) (n m : Nat) (z : List Int) (mo : Int) (w : World) (hz : Bs w a n z) (hm : n ≤ m) (hn : n ≤ 1000000) (hby : ∀ x ∈ z, 0 ≤ x ∧ x < 256) :
    Calls Tryd.prog 27 #[.slice a n m, .int .i64 mo] w (BPost (.int .i64 (whl (vm z (min mo 2097152) 0))) w) := by
  unfold BPost
  have HBY := Lib.hid hby
  clear hby
  rcases Int.lt_or_le 2097152 mo with h | h
  · rw [show min mo 2097152 = 2097152 by omega]
    by_cases g0 : (vm z (2097152) 0).2.2.1 = 0
    · have hlb := vm_nonneg (z := z) (mo := 2097152) (p := 0) HBY.out g0
      rw [show whl (vm z (2097152) 0) = (vsz (vm z (2097152) 0).1 : Int) + (vm z (2097152) 0).1 + 4 by unfold whl; rw [if_pos g0]]
      have HG := Lib.hid g0
      obtain ⟨v, hv⟩ : ∃ v, v = (vm z (2097152) 0).1 := ⟨_, rfl⟩
      rw [← hv] at hlb ⊢
      have HV := Lib.hid hv
      have hsz := vsz_le v
      obtain ⟨v0, v1⟩ := hlb
      have v2 : v ≤ 2097152 := by omega
      clear g0 hv v1
      go_enter Tryd.func27, Tryd.ntmps27
      go_wp2_with fail
      refine (rint_any _ _ _ _ 0 0 0 (2097152) _ hz (by omega) (by omega) hm hn HBY.out (by omega)).mono ?_
      rintro e w1 ⟨l, p1, c1, q1, rfl, hb1, hs1⟩
      have hst := hs1.st hz.1 (by omega) (by omega) HBY.out
      have hG := hst.get
      have hbA := hb1.alloc hb1.size (.cells (cvs (.slice a n m) p1 c1 q1) 44)
      have hc1 : c1 = 0 := by
        by_cases h : c1 = 0
        · exact h
        · rcases hG.2 h with ⟨_, _, _, h2, _⟩ | ⟨h2, _⟩
          · exact h2
          · exact absurd HG.out h2
      subst hc1
      have hlv : l = v := by
        rcases hG.1 rfl with ⟨_, h2, _⟩ | ⟨h2, _⟩
        · rw [h2, HV.out]
        · exact absurd HG.out h2
      subst hlv
      have HVL := Lib.hid (vz_length l)
      have HU : Hid (l < 18446744073709551616) := Lib.hid (by omega)
      clear hs1 hst hG hb1
      go_wp2_with fail
      refine (rbytes_any 10 _ _ (vsz_le _) v0 HU.out).mono ?_
      rintro e w2 ⟨A2, m2, rfl, hb2, _, _, _, _⟩
      rw [HVL.out]
      go_wp2
      go_ret
      exact ⟨rfl, hbA.trans (hb2.mono hbA.size)⟩
    · rw [show whl (vm z (2097152) 0) = 0 by unfold whl; rw [if_neg g0]]
      have HG := Lib.hid g0
      clear g0
      go_enter Tryd.func27, Tryd.ntmps27
      go_wp2_with fail
      refine (rint_any _ _ _ _ 0 0 0 (2097152) _ hz (by omega) (by omega) hm hn HBY.out (by omega)).mono ?_
      rintro e w1 ⟨l, p1, c1, q1, rfl, hb1, hs1⟩
      have hst := hs1.st hz.1 (by omega) (by omega) HBY.out
      have hG := hst.get
      have hbA := hb1.alloc hb1.size (.cells (cvs (.slice a n m) p1 c1 q1) 44)
      have hc1 : c1 ≠ 0 := by
        intro h
        rcases hG.1 h with ⟨h2, _⟩ | ⟨_, _, _, h2, _⟩
        · exact HG.out h2
        · exact HG.out h2.symm
      have hcb : (c1 != 0) = true := by simpa using hc1
      clear hs1 hst hG hb1 hc1
      go_wp2
      go_ret
      exact ⟨rfl, hbA⟩
  · rw [show min mo 2097152 = mo by omega]
    by_cases g0 : (vm z (mo) 0).2.2.1 = 0
    · have hlb := vm_nonneg (z := z) (mo := mo) (p := 0) HBY.out g0
      rw [show whl (vm z (mo) 0) = (vsz (vm z (mo) 0).1 : Int) + (vm z (mo) 0).1 + 4 by unfold whl; rw [if_pos g0]]
      have HG := Lib.hid g0
      obtain ⟨v, hv⟩ : ∃ v, v = (vm z (mo) 0).1 := ⟨_, rfl⟩
      rw [← hv] at hlb ⊢
      have HV := Lib.hid hv
      have hsz := vsz_le v
      obtain ⟨v0, v1⟩ := hlb
      have v2 : v ≤ 2097152 := by omega
      clear g0 hv v1
      go_enter Tryd.func27, Tryd.ntmps27
      go_wp2_with fail
      refine (rint_any _ _ _ _ 0 0 0 (mo) _ hz (by omega) (by omega) hm hn HBY.out (by omega)).mono ?_
      rintro e w1 ⟨l, p1, c1, q1, rfl, hb1, hs1⟩
      have hst := hs1.st hz.1 (by omega) (by omega) HBY.out
      have hG := hst.get
      have hbA := hb1.alloc hb1.size (.cells (cvs (.slice a n m) p1 c1 q1) 44)
      have hc1 : c1 = 0 := by
        by_cases h : c1 = 0
        · exact h
        · rcases hG.2 h with ⟨_, _, _, h2, _⟩ | ⟨h2, _⟩
          · exact h2
          · exact absurd HG.out h2
      subst hc1
      have hlv : l = v := by
        rcases hG.1 rfl with ⟨_, h2, _⟩ | ⟨h2, _⟩
        · rw [h2, HV.out]
        · exact absurd HG.out h2
      subst hlv
      have HVL := Lib.hid (vz_length l)
      have HU : Hid (l < 18446744073709551616) := Lib.hid (by omega)
      clear hs1 hst hG hb1
      go_wp2_with fail
      refine (rbytes_any 10 _ _ (vsz_le _) v0 HU.out).mono ?_
      rintro e w2 ⟨A2, m2, rfl, hb2, _, _, _, _⟩
      rw [HVL.out]
      go_wp2
      go_ret
      exact ⟨rfl, hbA.trans (hb2.mono hbA.size)⟩
    · rw [show whl (vm z (mo) 0) = 0 by unfold whl; rw [if_neg g0]]
      have HG := Lib.hid g0
      clear g0
      go_enter Tryd.func27, Tryd.ntmps27
      go_wp2_with fail
      refine (rint_any _ _ _ _ 0 0 0 (mo) _ hz (by omega) (by omega) hm hn HBY.out (by omega)).mono ?_
      rintro e w1 ⟨l, p1, c1, q1, rfl, hb1, hs1⟩
      have hst := hs1.st hz.1 (by omega) (by omega) HBY.out
      have hG := hst.get
      have hbA := hb1.alloc hb1.size (.cells (cvs (.slice a n m) p1 c1 q1) 44)
      have hc1 : c1 ≠ 0 := by
        intro h
        rcases hG.1 h with ⟨h2, _⟩ | ⟨_, _, _, h2, _⟩
        · exact HG.out h2
        · exact HG.out h2.symm
      have hcb : (c1 != 0) = true := by simpa using hc1
      clear hs1 hst hG hb1 hc1
      go_wp2
      go_ret
      exact ⟨rfl, hbA⟩

def five : List Int := [0, 0, 0, 0, 0]
theorem frm_nil : frm [] = five := by decide +kernel
set_option maxHeartbeats 1000000 in
theorem live8_any (w : World) (hT : Tbs w) :
    Calls Tryd.prog 9 #[] w (BPost (.bool true) w) := by
  unfold BPost
  go_enter Tryd.func9, Tryd.ntmps9
  go_wp2_with fail
  refine (fbytes_any none 0 0 [] w (Bs.none _) (fun _ => rfl) (by omega) (by simp) hT).mono ?_
  rintro e w1 ⟨g, rfl, hg, hb1, hblk⟩
  rw [frm_nil] at hblk ⊢
  have hbs := (Bs.of_block hblk).below (below_one w1 (.cells #[.int .u8 0, .int .u8 0, .int .u8 0, .int .u8 0, .int .u8 0] 5))
  have hbs2 : Bs (w1.alloc (.cells #[.int .u8 0, .int .u8 0, .int .u8 0, .int .u8 0, .int .u8 0] 5)) (some ⟨w1.heap.size, 0, none⟩) 5 five := Bs.of_block (z := five) (heap_alloc_new _ _)
  have hl : five.length = 5 := rfl
  rw [hl] at hbs ⊢
  have hb2 := hb1.trans ((below_one w1 (.cells #[.int .u8 0, .int .u8 0, .int .u8 0, .int .u8 0, .int .u8 0] 5)).mono hb1.size)
  clear hblk hl
  go_wp2_with fail
  refine (same_any _ _ _ _ _ _ five _ hbs hbs2).mono ?_
  rintro e w3 ⟨rfl, rfl⟩
  go_wp2
  go_ret
  exact ⟨rfl, hb2⟩
end Go.Proofs.YtncomjeidlahlaaDoor.Cur

namespace Go.Proofs.YtncomjeidlahlaaDoor.Cur
open Go.RowKit Mem CrcM
set_option linter.unusedVariables false
set_option maxRecDepth 100000

theorem vgo_short (l : List Int) : ∀ (i : Nat) (X : Int), (∀ b ∈ l, 128 ≤ b) → i + l.length ≤ 9 → vgo l i X = (0, 0, 1, ((i + l.length : Nat) : Int)) := by
  induction l with
  | nil => intro i X _ _; rw [vgo_nil]; rfl
  | cons b l ih =>
    intro i X hl hi
    rw [List.length_cons] at hi
    have hb := hl b (List.mem_cons_self ..)
    rw [vgo_more (by omega) hb, ih (i + 1) _ (fun x hx => hl x (List.mem_cons_of_mem _ hx)) (by omega), List.length_cons]
    congr 4; omega
theorem vz_take {x : Int} {k : Nat} (h : k < vsz x) : ∀ b ∈ (vz x).take k, 128 ≤ b := by
  intro b hb
  unfold vz vzL at hb
  rw [List.take_append_of_le_length (by simp; omega)] at hb
  have := List.mem_of_mem_take hb
  obtain ⟨i, _, rfl⟩ := List.mem_map.1 this
  have := Int.emod_nonneg (x / 128 ^ i) (show (128 : Int) ≠ 0 by decide)
  omega
theorem vm_short {x mo : Int} {k : Nat} (h : k < vsz x) : vm ((vz x).take k) mo 0 = (0, 0, 1, (k : Int)) := by
  have hl : ((vz x).take k).length = k := by rw [List.length_take, vz_length]; omega
  have hv := vsz_le x
  have hg : vg ((vz x).take k) 0 = (0, 0, 1, (k : Int)) := by
    unfold vg
    have := vgo_short ((vz x).take k) 0 0 (vz_take h) (by rw [hl]; omega)
    rw [hl, Nat.zero_add] at this
    simp [this]
  unfold vm
  rw [hg, if_pos (show (1 : Int) ≠ 0 by decide)]
theorem tk_short {z : List Int} {x p : Int} (h0 : 0 ≤ x) (h : (z.length : Int) - p < x) : tk z x p = ([], 0, 1, (z.length : Int)) := by
  unfold tk
  rw [if_neg (by omega), if_pos h]
theorem bind_bad {α β : Type} {g : Rs α} {d : β} {f : α → Int → Rs β} {v : α} {u c q : Int} (h : g = (v, u, c, q)) (hc : c ≠ 0) : g.bind d f = (d, 0, c, q) := by
  subst h; unfold Rs.bind; rw [if_pos hc]

theorem sm_256 {y : List Int} (hy : ∀ x ∈ y, 0 ≤ x ∧ x < 256) : ((sm y : Nat) : Int) < 256 ^ 4 := by
  have := sm_lt hy
  have e : (256 : Int) ^ 4 = 4294967296 := by decide
  rw [e]; omega
theorem fr_put {z pre y rest : List Int} {mo : Int} (hz : z = pre ++ frm y ++ rest) (hl : (y.length : Int) ≤ mo) (h64 : (y.length : Int) < 18446744073709551616) (hy : ∀ x ∈ y, 0 ≤ x ∧ x < 256) :
    fr z mo pre.length = (y, ((pre.length + (frm y).length : Nat) : Int), 0, 0) := by
  unfold fr
  have e1 := bl_put (z := z) (pre := pre) (y := y) (rest := fixZ (sm y : Nat) 4 ++ rest) (mo := mo) (by rw [hz]; unfold frm; simp only [List.append_assoc]) hl h64
  rw [Rs.bind_of e1]
  unfold fr2
  have e2 := fx_put (z := z) (pre := pre ++ (vz y.length ++ y)) (rest := rest) (x := (sm y : Nat)) 4 (by rw [hz]; unfold frm; simp only [List.append_assoc]) (by omega) (sm_256 hy)
  rw [List.length_append] at e2
  rw [show (4 : Int) = ((4 : Nat) : Int) from rfl, Rs.bind_of e2]
  unfold frs
  rw [if_pos rfl, frm_length, List.length_append, vz_length, show pre.length + (vsz y.length + y.length) + 4 = pre.length + (vsz y.length + y.length + 4) by omega]
theorem fr_cut {y : List Int} {mo : Int} {k : Nat} (hk : k < (frm y).length) (hl : (y.length : Int) ≤ mo) (h64 : (y.length : Int) < 18446744073709551616) :
    fr ((frm y).take k) mo 0 = ([], 0, 1, (k : Int)) := by
  have hlen : ((frm y).take k).length = k := by rw [List.length_take]; omega
  rw [frm_length] at hk
  unfold fr
  by_cases h1 : k < vsz y.length
  · have e : (frm y).take k = (vz y.length).take k := by unfold frm; rw [List.append_assoc, List.take_append_of_le_length (by rw [vz_length]; omega)]
    have e1 : bl ((frm y).take k) mo 0 = ([], 0, 1, (k : Int)) := by
      unfold bl
      rw [e]
      exact bind_bad (vm_short h1) (by decide)
    rw [bind_bad e1 (by decide)]
  · by_cases h2 : k < vsz y.length + y.length
    · have e : (frm y).take k = [] ++ vz y.length ++ (y.take (k - vsz y.length)) := by
        unfold frm
        rw [List.append_assoc, List.take_append, List.take_of_length_le (by rw [vz_length]; omega), vz_length, List.take_append_of_le_length (by omega), List.nil_append]
      have e1 : bl ((frm y).take k) mo 0 = ([], 0, 1, (k : Int)) := by
        unfold bl
        have e2 := vm_put (pre := []) (mo := mo) e (by omega) h64 hl
        rw [show ((([] : List Int).length : Nat) : Int) = 0 from rfl] at e2
        rw [Rs.bind_of e2, tk_short (by omega) (by rw [hlen]; simp; omega), hlen]
      rw [bind_bad e1 (by decide)]
    · have e : (frm y).take k = [] ++ (vz y.length ++ y) ++ (fixZ (sm y : Nat) 4).take (k - (vsz y.length + y.length)) := by
        unfold frm
        rw [List.take_append, List.take_of_length_le (by rw [List.length_append, vz_length]; omega), List.length_append, vz_length, List.nil_append]
      have e1 := bl_put (pre := []) (mo := mo) e hl h64
      rw [show ((([] : List Int).length : Nat) : Int) = 0 from rfl] at e1
      rw [Rs.bind_of e1]
      unfold fr2 fx
      have e3 : tk ((frm y).take k) 4 ((([] : List Int).length + (vz y.length ++ y).length : Nat) : Int) = ([], 0, 1, (k : Int)) := by
        rw [tk_short (by omega) (by rw [hlen, List.length_append, vz_length]; simp; omega), hlen]
      rw [e3]
      exact bind_bad (g := Rs.map ([], 0, 1, (k : Int)) lev) rfl (by decide)
theorem fixZ_zero_succ (b r : Int) (h0 : 0 ≤ b) (h1 : b < 256) (k : Nat) : fixZ (b + 256 * r) (k + 1) = b :: fixZ r k := by
  unfold fixZ
  rw [List.range_succ_eq_map, List.map_cons, List.map_map]
  congr 1
  · simp; omega
  · apply List.map_congr_left
    intro i _
    simp only [Function.comp]
    rw [Int.pow_succ, Int.mul_comm (256 ^ i) 256, ← Int.ediv_ediv_of_nonneg (by decide), show (b + 256 * r) / 256 = r by omega]
theorem fixZ_lev (l : List Int) (hl : ∀ x ∈ l, 0 ≤ x ∧ x < 256) : fixZ (lev l) l.length = l := by
  induction l with
  | nil => rfl
  | cons b l ih =>
    have hb := hl b (List.mem_cons_self ..)
    rw [lev, List.length_cons, fixZ_zero_succ _ _ hb.1 hb.2, ih (fun x hx => hl x (List.mem_cons_of_mem _ hx))]
theorem fr_once {z : List Int} {mo p : Int} (hby : ∀ x ∈ z, 0 ≤ x ∧ x < 256) (h0 : 0 ≤ p) (h1 : p ≤ z.length) (h : (fr z mo p).2.2.1 = 0) :
    frm (fr z mo p).1 = piece z p.toNat (fr z mo p).2.1.toNat ∧ ((fr z mo p).1.length : Int) ≤ mo ∧ p ≤ (fr z mo p).2.1 ∧ (fr z mo p).2.1 ≤ z.length ∧ (∀ x ∈ (fr z mo p).1, x ∈ z) := by
  unfold fr at h ⊢
  obtain ⟨g0, e⟩ := Rs.bind_ok h
  obtain ⟨b1, b2, b3, b4⟩ := bl_once hby h0 h1 g0
  have hm : ∀ b ∈ (bl z mo p).1, b ∈ z := bl_mem (n := z.length) (c := 0) (q := 0) (p' := (bl z mo p).2.1) (c' := 0) (q' := 0) ⟨by omega, by omega, .inr (.inl ⟨rfl, g0, rfl, rfl, rfl, rfl⟩)⟩
  rw [e] at h ⊢
  generalize (bl z mo p).1 = y at *
  generalize (bl z mo p).2.1 = p1 at *
  unfold fr2 at h ⊢
  obtain ⟨g1, e1⟩ := Rs.bind_ok h
  have g1' : (tk z 4 p1).2.2.1 = 0 := g1
  obtain ⟨t1, t2, t3⟩ := tk_once (by omega) b4 g1'
  have ex : (fx z 4 p1) = (lev (piece z p1.toNat (p1 + 4).toNat), p1 + 4, 0, 0) := by unfold fx Rs.map; rw [t3]
  rw [e1] at h ⊢
  rw [ex] at h ⊢
  have hpl : (piece z p1.toNat (p1 + 4).toNat).length = 4 := by rw [length_piece (n := z.length) rfl (by omega)]; omega
  have hfz := fixZ_lev (piece z p1.toNat (p1 + 4).toNat) (fun x hx => hby x (List.mem_of_mem_drop (List.mem_of_mem_take hx)))
  rw [hpl] at hfz
  simp only at h ⊢
  unfold frs at h ⊢
  split at h
  · rename_i hx
    rw [if_pos hx]
    refine ⟨?_, b2, show p ≤ p1 + 4 by omega, show p1 + 4 ≤ (z.length : Int) by omega, hm⟩
    show frm y = piece z p.toNat (p1 + 4).toNat
    unfold frm
    rw [b1, ← hx, hfz]
    exact piece_append (by omega) (by omega) (by omega)
  · exact absurd h (by show ¬ (6 : Int) = 0; decide)

/-- The residue of what has its sum behind it. -/
theorem lev_num (l : List Int) (hl : ∀ x ∈ l, 0 ≤ x ∧ x < 256) : lev l = ((num l : Nat) : Int) := by
  induction l with
  | nil => rfl
  | cons b l ih =>
    have hb := hl b (List.mem_cons_self ..)
    have e : b.toNat ^^^ 2 ^ 8 * num l = b.toNat + 2 ^ 8 * num l := by
      rw [Nat.xor_comm, Nat.add_comm]
      have hlt : b.toNat < 2 ^ 8 := by omega
      apply Nat.eq_of_testBit_eq
      intro i
      rw [Nat.testBit_xor, Nat.testBit_two_pow_mul, Nat.testBit_two_pow_mul_add _ hlt]
      by_cases hi : i < 8
      · rw [if_pos hi]; simp [Nat.not_le.2 hi]
      · rw [if_neg hi, Nat.testBit_lt_two_pow (Nat.lt_of_lt_of_le hlt (Nat.pow_le_pow_right (by decide) (by omega)))]; simp [Nat.not_lt.1 hi]
    rw [lev, ih (fun x hx => hl x (List.mem_cons_of_mem _ hx)), num, e]
    push_cast
    omega
theorem residue {Y S : List Int} (hS : ∀ x ∈ S, 0 ≤ x ∧ x < 256) (hl : S.length = 4) (h : lev S = ((sm Y : Nat) : Int)) : sm (Y ++ S) = 4294967295 ^^^ csn 32 4294967295 := by
  rw [lev_num S hS] at h
  have h2 : num S = sm Y := by omega
  unfold sm
  congr 1
  rw [fd_append, fd_eq, hl, h2]
  unfold sm
  rw [Nat.xor_comm 4294967295 (fd 4294967295 Y), ← Nat.xor_assoc, Nat.xor_self, Nat.zero_xor]
/-- A frame of whose payload and sum a burst was turned about. -/
theorem fr_burst {y rest T : List Int} {d : Nat} {at_ : Int} {mo : Int} (hd : d < 2 ^ 32) (hy : ∀ x ∈ y, 0 ≤ x ∧ x < 256) (hl : (y.length : Int) ≤ mo) (h64 : (y.length : Int) < 18446744073709551616) (hat : at_ ≤ 8 * (y.length + 4))
    (hT : T = trn d (-at_) (y ++ fixZ (sm y : Nat) 4)) :
    fr (vz y.length ++ T ++ rest) mo 0 = if T = y ++ fixZ (sm y : Nat) 4 then (y, (((frm y).length : Nat) : Int), 0, 0) else ([], 0, 6, ((vsz y.length + y.length : Nat) : Int)) := by
  have hRb : ∀ x ∈ y ++ fixZ (sm y : Nat) 4, 0 ≤ x ∧ x < 256 := by
    intro x hx
    rcases List.mem_append.1 hx with hx | hx
    · exact hy x hx
    · exact fixZ_byte _ _ x hx
  have hRl : (y ++ fixZ (sm y : Nat) 4).length = y.length + 4 := by rw [List.length_append, fixZ_length]
  by_cases e : T = y ++ fixZ (sm y : Nat) 4
  · rw [if_pos e, e]
    have := fr_put (z := vz y.length ++ (y ++ fixZ (sm y : Nat) 4) ++ rest) (pre := []) (y := y) (rest := rest) (mo := mo) (by unfold frm; simp only [List.append_assoc, List.nil_append]) hl h64 hy
    simpa using this
  · rw [if_neg e]
    have hTl : T.length = y.length + 4 := by rw [hT, trn_length, hRl]
    have hTb : ∀ x ∈ T, 0 ≤ x ∧ x < 256 := by rw [hT]; exact trn_byte hRb
    have hsp : T = T.take y.length ++ T.drop y.length := (List.take_append_drop ..).symm
    have hY : (T.take y.length).length = y.length := by rw [List.length_take]; omega
    have hS : (T.drop y.length).length = 4 := by rw [List.length_drop]; omega
    have hSb : ∀ x ∈ T.drop y.length, 0 ≤ x ∧ x < 256 := fun x hx => hTb x (List.mem_of_mem_drop hx)
    have hne : lev (T.drop y.length) ≠ ((sm (T.take y.length) : Nat) : Int) := by
      intro hh
      have r1 := residue hSb hS hh
      rw [← hsp] at r1
      have r2 := residue (Y := y) (S := fixZ (sm y : Nat) 4) (fixZ_byte _ _) (fixZ_length _ _) (by rw [lev_fixZ _ (by omega), Int.emod_eq_of_lt (by omega) (sm_256 hy)])
      have := sm_burst hd (at_ := at_) hRb (by rw [hRl]; omega) (by rw [← hT, r1, r2])
      exact e (hT.trans this)
    have ez : vz y.length ++ T ++ rest = [] ++ (vz (T.take y.length).length ++ T.take y.length) ++ (T.drop y.length ++ rest) := by
      rw [hY]
      conv => lhs; rw [hsp]
      simp only [List.append_assoc, List.nil_append]
    unfold fr
    have e1 := bl_put (mo := mo) ez (by rw [hY]; exact hl) (by rw [hY]; exact h64)
    rw [show ((([] : List Int).length : Nat) : Int) = 0 from rfl] at e1
    rw [Rs.bind_of e1]
    unfold fr2
    have e2 : fx (vz y.length ++ T ++ rest) 4 ((([] : List Int).length + (vz (T.take y.length).length ++ T.take y.length).length : Nat) : Int) = (lev (T.drop y.length), ((([] : List Int).length + (vz (T.take y.length).length ++ T.take y.length).length + 4 : Nat) : Int), 0, 0) := by
      have h := tk_put (z := vz y.length ++ T ++ rest) (pre := [] ++ (vz (T.take y.length).length ++ T.take y.length)) (y := T.drop y.length) (rest := rest) (by rw [ez]; simp only [List.append_assoc])
      rw [hS, List.length_append] at h
      unfold fx Rs.map
      rw [show (4 : Int) = ((4 : Nat) : Int) from rfl, h]
    rw [Rs.bind_of e2]
    unfold frs
    rw [if_neg hne, List.length_append, vz_length, hY]
    simp
end Go.Proofs.YtncomjeidlahlaaDoor.Cur
