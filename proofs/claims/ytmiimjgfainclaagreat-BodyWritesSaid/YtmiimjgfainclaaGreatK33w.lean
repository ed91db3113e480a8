/- As the seat's text, without what nothing here names. -/
import Derived.Test.YtmiimjgfainclaaGreatK32w
import Derived.Test.YtmiimjgfainclaaGreatK25w
import Derived.BigQuiet
import Derived.Deep.QuietTactic
namespace Go.Proofs.YtmiimjgfainclaaGreat.Cur
open Go.RowKit Mem
set_option linter.unusedVariables false
abbrev Lk := Int × List Int
def lk0 : Lk := (0, [])
def lks (pos : Int) : Int → List Lk → Bool
  | _, [] => true
  | pr, s :: l => decide (pr < s.1) && decide (s.2.length ≤ 4) && flb pos s.2 && lks pos s.1 l
def lkok (pos : Int) (l : List Lk) : Bool := decide (l.length ≤ 16) && lks pos (-1) l
def lk1 (pos pr : Int) (s : Lk) : List Int := vz (s.1 - pr - 1) ++ lz (dif pos s.2)
def lkb (pos : Int) : Int → List Lk → List Int
  | _, [] => []
  | pr, s :: l => lk1 pos pr s ++ lkb pos s.1 l
def lkz (pos : Int) (l : List Lk) : List Int := vz l.length ++ lkb pos (-1) l
def lkr (z : List Int) (pos pr p : Int) : Rs Lk :=
  (vg z p).bind lk0 fun x p1 => if 18446744073709551615 < pr + 1 + x then (lk0, 0, 13, p) else (dl z 4 pos p1).bind lk0 fun l p2 => ((pr + 1 + x, l), p2, 0, 0)
def lkgo (z : List Int) (pos : Int) : Nat → Int → Int → List Lk → Rs (List Lk)
  | 0, _, p, acc => (acc, p, 0, 0)
  | k + 1, pr, p, acc => (lkr z pos pr p).bind [] fun s p' => lkgo z pos k s.1 p' (acc ++ [s])
def lrd (z : List Int) (pos p : Int) : Rs (List Lk) := (vm z 16 p).bind [] fun n p1 => lkgo z pos n.toNat (-1) p1 []
theorem lks_parts {pos pr : Int} {s : Lk} {l : List Lk} (h : lks pos pr (s :: l) = true) : pr < s.1 ∧ s.2.length ≤ 4 ∧ flb pos s.2 = true ∧ lks pos s.1 l = true := by
  unfold lks at h
  simp only [Bool.and_eq_true, decide_eq_true_eq] at h
  exact ⟨h.1.1.1, h.1.1.2, h.1.2, h.2⟩
theorem lks_mk {pos pr : Int} {s : Lk} {l : List Lk} (h1 : pr < s.1) (h2 : s.2.length ≤ 4) (h3 : flb pos s.2 = true) (h4 : lks pos s.1 l = true) : lks pos pr (s :: l) = true := by
  unfold lks
  simp only [Bool.and_eq_true, decide_eq_true_eq]
  exact ⟨⟨⟨h1, h2⟩, h3⟩, h4⟩
theorem lkok_parts {pos : Int} {l : List Lk} (h : lkok pos l = true) : l.length ≤ 16 ∧ lks pos (-1) l = true := by
  unfold lkok at h
  simp only [Bool.and_eq_true, decide_eq_true_eq] at h
  exact h
theorem lkok_mk {pos : Int} {l : List Lk} (h1 : l.length ≤ 16) (h2 : lks pos (-1) l = true) : lkok pos l = true := by
  unfold lkok; rw [decide_eq_true h1, h2]; rfl
def ext (pos : Int) (s : Lk) : Lk := (s.1, pos :: s.2.take 3)
theorem flat_len : ∀ (l : List Int), ((l.map vz).flatten).length ≤ 10 * l.length
  | [] => by simp
  | x :: l => by
    have ih := flat_len l
    have h1 := vz_length x
    have h2 := vsz_le x
    rw [List.map_cons, List.flatten_cons, List.length_append, List.length_cons]
    omega
theorem lzd_len (l : List Int) : (lz l).length ≤ 10 + 10 * l.length := by
  have e : lz l = vz l.length ++ (l.map vz).flatten := rfl
  have h1 := vz_length (l.length : Int)
  have h2 := vsz_le (l.length : Int)
  have h3 := flat_len l
  rw [e, List.length_append]
  omega
theorem lk1_len {pos pr : Int} {s : Lk} (h : s.2.length ≤ 4) : (lk1 pos pr s).length ≤ 60 := by
  have h1 := vz_length (s.1 - pr - 1)
  have h2 := vsz_le (s.1 - pr - 1)
  have h3 := lzd_len (dif pos s.2)
  rw [dif_len] at h3
  unfold lk1
  rw [List.length_append]
  omega
theorem lkb_len {pos : Int} : ∀ {l : List Lk} {pr : Int}, lks pos pr l = true → (lkb pos pr l).length ≤ 60 * l.length
  | [], _, _ => by simp [lkb]
  | s :: l, pr, h => by
    obtain ⟨_, k2, _, k4⟩ := lks_parts h
    have ih := lkb_len k4
    have h1 := lk1_len (pos := pos) (pr := pr) k2
    unfold lkb
    rw [List.length_append, List.length_cons]
    omega
theorem lkz_len {pos : Int} {l : List Lk} (h : lkok pos l = true) : (lkz pos l).length ≤ 970 := by
  obtain ⟨k1, k2⟩ := lkok_parts h
  have h1 := lkb_len k2
  have h2 := vz_length (l.length : Int)
  have h3 := vsz_le (l.length : Int)
  unfold lkz
  rw [List.length_append]
  omega
end Go.Proofs.YtmiimjgfainclaaGreat.Cur
namespace Go.Proofs.YtmiimjgfainclaaGreat.Cur
open Go.RowKit Mem
set_option linter.unusedVariables false
set_option maxRecDepth 100000
abbrev LkE : El Lk := PrE U64E (SlE U64E)
def Lks (w : World) (P : Nat → Prop) (A : Option Addr) (n : Nat) (L : List Lk) : Prop := L.length = n ∧ Sq LkE w P A L
theorem Lks.keep {w w' : World} {P : Nat → Prop} {A : Option Addr} {n : Nat} {L : List Lk} (h : Lks w P A n L) (hk : ∀ b, P b → b < w.heap.size → w'.heap[b]? = w.heap[b]?) : Lks w' P A n L := ⟨h.1, h.2.keep hk⟩
theorem Lks.mono {w : World} {P Q : Nat → Prop} {A : Option Addr} {n : Nat} {L : List Lk} (h : Lks w P A n L) (hq : ∀ b, P b → b < w.heap.size → Q b) : Lks w Q A n L := ⟨h.1, h.2.mono hq⟩
theorem Lks.below {w w' : World} {P : Nat → Prop} {A : Option Addr} {n : Nat} {L : List Lk} (h : Lks w P A n L) (hb : Below w.heap.size w w') : Lks w' P A n L := ⟨h.1, h.2.below hb⟩
theorem us_block {w : World} {P : Nat → Prop} {A : Option Addr} {z : List Int} (h : Sq U64E w P A z) (hl : 0 < z.length) : ∀ ad, A = some ad → P ad.block := fun ad ha => by
  obtain ⟨cs, c1, c2⟩ := h
  obtain ⟨k', o', e2, hPk, _⟩ := c2 (by rw [c1.flat]; exact Nat.mul_pos hl (by decide))
  rw [e2] at ha
  injection ha with ha
  subst ha
  exact hPk
theorem link_parts {w : World} {P : Nat → Prop} {c : List Value} {s : Lk} (h : LkE.R w P c s) :
    ∃ A m, c = [.int .u64 s.1, .slice A s.2.length m] ∧ (0 ≤ s.1 ∧ s.1 < 18446744073709551616) ∧ s.2.length ≤ m ∧ (A = none → m = 0) ∧ Us w A s.2.length s.2 ∧ (∀ x ∈ s.2, 0 ≤ x ∧ x < 18446744073709551616) ∧ (0 < s.2.length → ∀ ad, A = some ad → P ad.block) ∧ Sq U64E w P A s.2 := by
  obtain ⟨d, e, rfl, ⟨rfl, b0⟩, A, m, rfl, h1, h2, h3⟩ := h
  obtain ⟨u1, u2⟩ := h3.us
  exact ⟨A, m, rfl, b0, h1, h2, u1, u2, fun hl => us_block h3 hl, h3⟩
theorem LkE.mk {w : World} {P : Nat → Prop} {x : Int} {A : Option Addr} {l m : Nat} {z : List Int} (hx : 0 ≤ x ∧ x < 18446744073709551616) (hl : z.length = l) (hm : l ≤ m) (hn : A = none → m = 0) (h : Sq U64E w P A z) : LkE.R w P [.int .u64 x, .slice A l m] (x, z) :=
  ⟨[_], [_], rfl, ⟨rfl, hx.1, hx.2⟩, A, m, by rw [hl], by rw [hl]; exact hm, hn, h⟩
theorem Lks.cells {w : World} {P : Nat → Prop} {A : Option Addr} {n : Nat} {L : List Lk} (h : Lks w P A n L) (hn : n ≠ 0) :
    ∃ g o, A = some ⟨g, o, none⟩ ∧ P g ∧ g < w.heap.size ∧ ∀ k, k < n → ∃ x z a l m, L.getD k lk0 = (x, z) ∧ (0 ≤ x ∧ x < 18446744073709551616) ∧ z.length = l ∧ l ≤ m ∧ (a = none → m = 0) ∧ Us w a l z ∧ (∀ y ∈ z, 0 ≤ y ∧ y < 18446744073709551616) ∧ (0 < l → ∀ ad, a = some ad → P ad.block) ∧ Sq U64E w P a z ∧
      ∀ w', Below w.heap.size w w' → w'.cell? ⟨g, o + k * 2, none⟩ = some (.int .u64 x) ∧ w'.cell? ⟨g, o + k * 2 + 1, none⟩ = some (.slice a l m) := by
  obtain ⟨rfl, h⟩ := h
  obtain ⟨g, o, c, e, hP, hg, _⟩ := h.at_ (i := 0) (by decide) (List.getElem?_eq_getElem (Nat.pos_of_ne_zero hn))
  refine ⟨g, o, e, hP, hg, fun k hk => ?_⟩
  obtain ⟨g', o', c', e', hP', hg', hR, hcell⟩ := h.at_ (i := k) (by decide) (List.getElem?_eq_getElem hk)
  rw [e] at e'
  injection e' with e'
  injection e' with e1 e2
  subst e1 e2
  have hS : L.getD k lk0 = L[k] := by rw [List.getD_eq_getElem?_getD, List.getElem?_eq_getElem hk]; rfl
  obtain ⟨a, m, rfl, b0, h1, h2, h3, h4, h5, h6⟩ := link_parts hR
  rw [hS]
  refine ⟨L[k].1, L[k].2, a, _, m, rfl, b0, rfl, h1, h2, h3, h4, h5, h6, fun w' hb => ⟨?_, ?_⟩⟩
  · have := hcell 0 _ rfl; exact (hb.cell (lt_of_cell this)).trans this
  · have := hcell 1 _ rfl; exact (hb.cell (lt_of_cell this)).trans this
abbrev lkagg (x : Int) (A : Option Addr) (n m : Nat) : Value := .agg #[.int .u64 x, .slice A n m]
abbrev lkc (x : Int) (A : Option Addr) (n m : Nat) : Array Value := #[.int .u64 x, .slice A n m]
theorem opens_link : Opens LkE 124 := opens_pair Tryz.underlying124 rfl rfl (by kernel_rfl) (by kernel_rfl) (by kernel_rfl) (opens_u64 Tryz.underlying22) (opens_slice Tryz.underlying23 (by kernel_rfl) (by decide) (opens_u64 Tryz.underlying22))
section
variable {H : Type} {enc : TypeId × Value → H} {w : World} {base : Nat} {v : Value} {d : DataW H} {p : List MemPlace}
end
end Go.Proofs.YtmiimjgfainclaaGreat.Cur
namespace Go.Proofs.YtmiimjgfainclaaGreat.Cur
open Go.RowKit Mem
set_option linter.unusedVariables false
set_option maxRecDepth 100000
def lkp (pr : Int) (L : List Lk) (k : Nat) : Int := ((((pr, []) : Lk) :: L).getD k lk0).1
theorem lkp_zero (pr : Int) (L : List Lk) : lkp pr L 0 = pr := rfl
theorem lkp_succ (pr : Int) (L : List Lk) (k : Nat) : lkp pr L (k + 1) = (L.getD k lk0).1 := rfl
def lko (pos pr : Int) (L : List Lk) (k : Nat) : Prop := lkp pr L k < (L.getD k lk0).1 ∧ (L.getD k lk0).2.length ≤ 4 ∧ flb pos (L.getD k lk0).2 = true
theorem lks_iff (pos : Int) : ∀ (L : List Lk) (pr : Int), lks pos pr L = true ↔ ∀ k, k < L.length → lko pos pr L k
  | [], pr => by simp [lks]
  | s :: L, pr => by
    have hp : ∀ k, lkp s.1 L k = lkp pr (s :: L) (k + 1) := fun k => by cases k <;> rfl
    constructor
    · intro h k hk
      obtain ⟨h1, h2, h3, h4⟩ := lks_parts h
      rcases k with _ | k
      · exact ⟨h1, h2, h3⟩
      · have := (lks_iff pos L s.1).1 h4 k (by simpa using hk)
        unfold lko at this ⊢
        rw [hp] at this
        exact this
    · intro h
      obtain ⟨h1, h2, h3⟩ := h 0 (by simp)
      refine lks_mk h1 h2 h3 ((lks_iff pos L s.1).2 fun k hk => ?_)
      have := h (k + 1) (by simpa using hk)
      unfold lko at this ⊢
      rw [hp]
      exact this
theorem lkok_yes {pos : Int} {L : List Lk} (hl : L.length ≤ 16) (h : ∀ k, k < L.length → lko pos (-1) L k) : lkok pos L = true := lkok_mk hl ((lks_iff pos L (-1)).2 h)
theorem lkok_at {pos : Int} {L : List Lk} (h : lkok pos L = true) {k : Nat} (hk : k < L.length) : lko pos (-1) L k := (lks_iff pos L (-1)).1 (lkok_parts h).2 k hk
theorem lkok_no {pos : Int} {L : List Lk} {k : Nat} (hk : k < L.length) (h : ¬ lko pos (-1) L k) : lkok pos L = false := by
  cases e : lkok pos L with
  | false => rfl
  | true => exact absurd (lkok_at e hk) h
theorem lkok_long {pos : Int} {L : List Lk} (h : 16 < L.length) : lkok pos L = false := by
  cases e : lkok pos L with
  | false => rfl
  | true => have := (lkok_parts e).1; omega
theorem lko_next {pos : Int} {L : List Lk} {k : Nat} (hj : ∀ j, j < k → lko pos (-1) L j) (h : lko pos (-1) L k) : ∀ j, j < k + 1 → lko pos (-1) L j := fun j hjk => by
  rcases Nat.lt_or_ge j k with h2 | h2
  · exact hj j h2
  · obtain rfl : j = k := by omega
    exact h
theorem Lks.ahead {w : World} {P : Nat → Prop} {g o n : Nat} {L : List Lk} (h : Lks w P (some ⟨g, o, none⟩) n L) {k : Nat} (hk : k < n) (h0 : 0 < k) :
    ∃ y, lkp (-1) L k = y ∧ (0 ≤ y ∧ y < 18446744073709551616) ∧ ∀ w', Below w.heap.size w w' → w'.cell? ⟨g, o + (k - 1) * 2, none⟩ = some (.int .u64 y) := by
  obtain ⟨g', o', e, hP, hg, hc⟩ := h.cells (by omega)
  injection e with e
  injection e with e1 e2
  subst e1 e2
  obtain ⟨x, z, a, l, m, h1, h2, _, _, _, _, _, _, _, h9⟩ := hc (k - 1) (by omega)
  refine ⟨x, ?_, h2, fun w' hb => (h9 w' hb).1⟩
  have := lkp_succ (-1) L (k - 1)
  rw [show k - 1 + 1 = k by omega, h1] at this
  exact this
set_option maxHeartbeats 4000000 in
theorem lkright_any (P : Nat → Prop) (pos : Int) (A : Option Addr) (n m : Nat) (L : List Lk) (w : World) (hz : Lks w P A n L) (p0 : 0 ≤ pos) (p1 : pos < 18446744073709551616) :
    Calls Tryz.prog 53 #[.int .u64 pos, .slice A n m] w (BPost (.bool (lkok pos L)) w) := by
  unfold BPost
  have HL := Lib.hid hz.1
  have HC := Lib.hid (fun h => hz.cells h)
  have HNO := Lib.hid (fun k hk h => lkok_no (pos := pos) (L := L) (k := k) hk h)
  have HYES := Lib.hid (lkok_yes (pos := pos) (L := L))
  have HLG := Lib.hid (lkok_long (pos := pos) (L := L))
  have HE := Lib.hid (And.intro p0 p1)
  have HZ := Lib.hid hz
  generalize lkok pos L = r at *
  clear hz p0 p1
  by_cases h16 : 16 < n
  · have HR := Lib.hid (HLG.out (by rw [HL.out]; exact h16))
    have e1 : 16 < (n : Int) := by omega
    clear h16
    go_enter Tryz.func53, Tryz.ntmps53
    go_wp2
    go_ret
    exact ⟨by rw [HR.out]; rfl, Below.refl _ _⟩
  · have e1 : ¬ 16 < (n : Int) := by omega
    go_enter Tryz.func53, Tryz.ntmps53
    go_wp2
    go_loopw [12] (fun i wr => ∃ k : Nat, k ≤ n ∧ i = .int .i64 k ∧ Hid (∀ j, j < k → lko pos (-1) L j) ∧ Below w.heap.size w wr) (fun i _ => n - (intOf i).toNat)
    case atStart => exact ⟨0, by omega, rfl, Lib.hid (by intro j hj; omega), Below.refl _ _⟩
    case round =>
      obtain ⟨k, hk, rfl, hj, hb⟩ := hrel
      by_cases hlt : k < n
      · obtain ⟨g, o, rfl, _, hg, hc⟩ := HC.out (by omega)
        obtain ⟨x, z, a, l, mm, he, xb, hl, hlm, han, hus, hzb, _, _, hcell⟩ := hc k hlt
        obtain ⟨c0, c1⟩ := hcell wr hb
        have HEQ := Lib.hid he
        have HLZ := Lib.hid hl
        have HUS := Lib.hid hus
        have HZB := Lib.hid hzb
        have e2 : (k : Int) < n := by omega
        have e3 : IntKind.i64.wrap ((k : Int) + 1) = ((k + 1 : Nat) : Int) := IntWalk.i64_in _ (by omega)
        have hX := Blk.new wr (lkc x a l mm) 124
        have hbW0 := hb.trans ((below_one wr (.cells (lkc x a l mm) 124)).mono hb.size)
        obtain ⟨x0, x1⟩ := hX.c2
        clear hc hcell he hl hus hzb han hX hlm
        by_cases h0 : k = 0
        · have HPX : Hid (lkp (-1) L k < x) := Lib.hid (by rw [h0, lkp_zero]; omega)
          have e4 : ¬ 0 < (k : Int) := by omega
          have e4n : ¬ 0 < k := by omega
          clear h0
          go_wp2
          go_quiet (fail)
          have hbW := fun n => below_drewN hbW0 n
          by_cases h4 : 4 < (l : Int)
          · have HRR : Hid (r = false) := Lib.hid (HNO.out k (by rw [HL.out]; exact hlt) (fun h => by have h5 := h.2.1; rw [HEQ.out] at h5; have h6 : z.length ≤ 4 := h5; rw [HLZ.out] at h6; omega))
            go_wp2
            go_ret
            exact ⟨by rw [HRR.out]; rfl, hbW _⟩
          · have hl4 : l ≤ 4 := by omega
            go_wp2_with fail
            refine (dfalls_any a l mm pos z _ (HUS.out.below (hbW _)) (by omega) HZB.out HE.out.1 HE.out.2).mono ?_
            rintro en w2 ⟨rfl, hb2⟩
            have hbd := (hbW _).trans (hb2.mono (hbW _).size)
            obtain ⟨fv, hfv⟩ : ∃ fv, fv = flb pos z := ⟨_, rfl⟩
            rw [← hfv]
            have HF := Lib.hid hfv
            clear hfv hb2 x0 x1
            cases fv
            · have HRR : Hid (r = false) := Lib.hid (HNO.out k (by rw [HL.out]; exact hlt) (fun h => by have h5 := h.2.2; rw [HEQ.out, ← HF.out] at h5; cases h5))
              go_wp2
              go_ret
              exact ⟨by rw [HRR.out]; rfl, hbd⟩
            · have HJ : Hid (lko pos (-1) L k) := Lib.hid ⟨by rw [HEQ.out]; exact HPX.out, by rw [HEQ.out]; show z.length ≤ 4; rw [HLZ.out]; exact hl4, by rw [HEQ.out]; exact HF.out.symm⟩
              go_wp2
              go_roundw
              case rel => exact ⟨k + 1, by omega, by go_num, Lib.hid (lko_next hj.out HJ.out), hbd⟩
              case measure => simp [intOf]; omega
        · obtain ⟨y, hy, yb, hya⟩ := HZ.out.ahead hlt (by omega)
          have d0 := hya _ hbW0
          have HY := Lib.hid hy
          have e4 : 0 < (k : Int) := by omega
          have e4n : 0 < k := by omega
          have e5 : IntKind.i64.wrap ((k : Int) - 1) = ((k - 1 : Nat) : Int) := by rw [IntWalk.i64_in _ (by omega)]; omega
          have e6 : ((k - 1 : Nat) : Int) < n := by omega
          clear h0 hy hya
          by_cases hxy : x ≤ y
          · have HRR : Hid (r = false) := Lib.hid (HNO.out k (by rw [HL.out]; exact hlt) (fun h => by have h5 := h.1; rw [HEQ.out, HY.out] at h5; have h6 : y < x := h5; omega))
            go_wp2
            go_quiet (fail)
            go_wp2
            go_ret
            exact ⟨by rw [HRR.out]; rfl, below_drewN hbW0 _⟩
          · have HPX : Hid (lkp (-1) L k < x) := Lib.hid (by rw [HY.out]; omega)
            go_wp2
            go_quiet (fail)
            have hbW := fun n => below_drewN hbW0 n
            by_cases h4 : 4 < (l : Int)
            · have HRR : Hid (r = false) := Lib.hid (HNO.out k (by rw [HL.out]; exact hlt) (fun h => by have h5 := h.2.1; rw [HEQ.out] at h5; have h6 : z.length ≤ 4 := h5; rw [HLZ.out] at h6; omega))
              go_wp2
              go_ret
              exact ⟨by rw [HRR.out]; rfl, hbW _⟩
            · have hl4 : l ≤ 4 := by omega
              go_wp2_with fail
              refine (dfalls_any a l mm pos z _ (HUS.out.below (hbW _)) (by omega) HZB.out HE.out.1 HE.out.2).mono ?_
              rintro en w2 ⟨rfl, hb2⟩
              have hbd := (hbW _).trans (hb2.mono (hbW _).size)
              obtain ⟨fv, hfv⟩ : ∃ fv, fv = flb pos z := ⟨_, rfl⟩
              rw [← hfv]
              have HF := Lib.hid hfv
              clear hfv hb2 x0 x1
              cases fv
              · have HRR : Hid (r = false) := Lib.hid (HNO.out k (by rw [HL.out]; exact hlt) (fun h => by have h5 := h.2.2; rw [HEQ.out, ← HF.out] at h5; cases h5))
                go_wp2
                go_ret
                exact ⟨by rw [HRR.out]; rfl, hbd⟩
              · have HJ : Hid (lko pos (-1) L k) := Lib.hid ⟨by rw [HEQ.out]; exact HPX.out, by rw [HEQ.out]; show z.length ≤ 4; rw [HLZ.out]; exact hl4, by rw [HEQ.out]; exact HF.out.symm⟩
                go_wp2
                go_roundw
                case rel => exact ⟨k + 1, by omega, by go_num, Lib.hid (lko_next hj.out HJ.out), hbd⟩
                case measure => simp [intOf]; omega
      · obtain rfl : k = n := by omega
        have HR := Lib.hid (HYES.out (by rw [HL.out]; omega) (fun i hi => hj.out i (by rw [HL.out] at hi; exact hi)))
        go_wp2
        go_ret
        exact ⟨by rw [HR.out]; rfl, hb⟩
end Go.Proofs.YtmiimjgfainclaaGreat.Cur
namespace Go.Proofs.YtmiimjgfainclaaGreat.Cur
open Go.RowKit Mem
set_option linter.unusedVariables false
set_option maxRecDepth 100000
def LkS (w w' : World) : Prop := Below w.heap.size w w'
set_option maxHeartbeats 8000000 in
theorem rlkright_any (P : Nat → Prop) (pos : Int) (A : Option Addr) (n m : Nat) (L : List Lk) (w : World) (hz : Lks w P A n L) (p0 : 0 ≤ pos) (p1 : pos < 18446744073709551616) :
    Calls Tryz.prog 64 #[.int .u64 pos, .slice A n m] w (BPost (.bool (lkok pos L)) w) := by
  unfold BPost
  have HL := Lib.hid hz.1
  have HC := Lib.hid (fun h => hz.cells h)
  have HNO := Lib.hid (fun k hk h => lkok_no (pos := pos) (L := L) (k := k) hk h)
  have HYES := Lib.hid (lkok_yes (pos := pos) (L := L))
  have HLG := Lib.hid (lkok_long (pos := pos) (L := L))
  have HE := Lib.hid (And.intro p0 p1)
  have HZ := Lib.hid hz
  generalize lkok pos L = r at *
  clear hz p0 p1
  by_cases h16 : 16 < n
  · have HR := Lib.hid (HLG.out (by rw [HL.out]; exact h16))
    have e1 : 16 < (n : Int) := by omega
    clear h16
    go_enter Tryz.func64, Tryz.ntmps64
    go_wp2
    go_ret
    exact ⟨by rw [HR.out]; rfl, Below.refl _ _⟩
  · have e1 : ¬ 16 < (n : Int) := by omega
    go_enter Tryz.func64, Tryz.ntmps64
    go_wp2
    go_loopw [5] (fun i wr => ∃ k : Nat, k ≤ n ∧ i = .int .i64 k ∧ Hid (∀ j, j < k → lko pos (-1) L j) ∧ Below w.heap.size w wr) (fun i _ => n - (intOf i).toNat)
    case atStart => exact ⟨0, by omega, rfl, Lib.hid (by intro j hj; omega), Below.refl _ _⟩
    case round =>
      obtain ⟨k, hk, rfl, hj, hb⟩ := hrel
      by_cases hlt : k < n
      · obtain ⟨g, o, rfl, _, hg, hc⟩ := HC.out (by omega)
        obtain ⟨x, z, a, l, mm, he, xb, hl, hlm, han, hus, hzb, _, _, hcell⟩ := hc k hlt
        have L1 : ∀ w', LkS w w' → w'.cell? ⟨g, o + k * 2, none⟩ = some (.int .u64 x) ∧ w'.cell? ⟨g, o + k * 2 + 1, none⟩ = some (.slice a l mm) := fun w' h => hcell w' h
        have HEQ := Lib.hid he
        have HLZ := Lib.hid hl
        have HUS := Lib.hid hus
        have HZB := Lib.hid hzb
        have HBD := Lib.hid (hb.trans ((below_one' wr).mono hb.size))
        have hS : LkS w wr.drew := HBD.out
        have e2 : (k : Int) < n := by omega
        have e3 : IntKind.i64.wrap ((k : Int) + 1) = ((k + 1 : Nat) : Int) := IntWalk.i64_in _ (by omega)
        clear hc hcell he hl hus hzb han hlm hb
        by_cases h0 : k = 0
        · have HPX : Hid (lkp (-1) L k < x) := Lib.hid (by rw [h0, lkp_zero]; omega)
          have e4 : ¬ 0 < (k : Int) := by omega
          have e4n : ¬ 0 < k := by omega
          clear h0
          by_cases h4 : 4 < (l : Int)
          · have h4d : decide (4 < (l : Int)) = true := decide_eq_true h4
            have HRR : Hid (r = false) := Lib.hid (HNO.out k (by rw [HL.out]; exact hlt) (fun h => by have h5 := h.2.1; rw [HEQ.out] at h5; have h6 : z.length ≤ 4 := h5; rw [HLZ.out] at h6; omega))
            go_wp2
            refine Seq.wp_region_seq (LkS w) (by kernel_rfl) (by kernel_rfl) hS ?_
            repeat (first | (refine Seq.Seq.skip (by rfl) ?_; (try simp only [Act.put, List.setIfInBounds_toArray, List.set_cons_zero, List.set_cons_succ])) | (refine Seq.Seq.det ?_ (by rfl) (fun w hS => ?_) ?_; rotate_left; ((try dsimp only at hS); go_simp; (try rw [if_pos (by omega)]); with_reducible rfl); (try simp only [Act.put, List.setIfInBounds_toArray, List.set_cons_zero, List.set_cons_succ])))
            refine Seq.Seq.nil ?_
            go_wp2
            go_ret
            exact ⟨by rw [HRR.out]; rfl, HBD.out⟩
          · have hl4 : l ≤ 4 := by omega
            have h4d : decide (4 < (l : Int)) = false := decide_eq_false h4
            clear h4
            have HRC := Lib.hid (rdfalls_any a l mm pos z wr.drew (HUS.out.below hS) (by omega) HZB.out HE.out.1 HE.out.2)
            have HF := Lib.hid (fun (h : flb pos z = false) => HNO.out k (by rw [HL.out]; exact hlt) (fun h9 => by have h5 := h9.2.2; rw [HEQ.out] at h5; have h6 : flb pos z = true := h5; rw [h] at h6; cases h6))
            have HT := Lib.hid (fun (h : flb pos z = true) => (show lko pos (-1) L k from ⟨by rw [HEQ.out]; exact HPX.out, by rw [HEQ.out]; show z.length ≤ 4; rw [HLZ.out]; exact hl4, by rw [HEQ.out]; exact h⟩))
            unfold BPost at HRC
            generalize flb pos z = fv at *
            cases fv
            · have HRR := Lib.hid (HF.out rfl)
              go_wp2
              refine Seq.wp_region_seq (LkS w) (by kernel_rfl) (by kernel_rfl) hS ?_
              repeat (first | (refine Seq.Seq.skip (by rfl) ?_; (try simp only [Act.put, List.setIfInBounds_toArray, List.set_cons_zero, List.set_cons_succ])) | (refine Seq.Seq.det ?_ (by rfl) (fun w hS => ?_) ?_; rotate_left; ((try dsimp only at hS); go_simp; (try rw [if_pos (by omega)]); with_reducible rfl); (try simp only [Act.put, List.setIfInBounds_toArray, List.set_cons_zero, List.set_cons_succ])))
              refine Seq.Seq.make (by rfl) (by rfl) (fun K Q' hK => ?_)
              go_simp
              go_at_call 117
              refine HRC.out.mono ?_
              rintro en v1 ⟨rfl, hc1⟩
              have hS2 : LkS w v1 := Below.trans hS (hc1.mono (show w.heap.size ≤ wr.drew.heap.size from Below.size hS))
              clear hc1
              refine hK.out _ _ (hS2) ?_
              clear hK K
              try simp only [Act.put, List.setIfInBounds_toArray, List.set_cons_zero, List.set_cons_succ]
              repeat (first | (refine Seq.Seq.skip (by rfl) ?_; (try simp only [Act.put, List.setIfInBounds_toArray, List.set_cons_zero, List.set_cons_succ])) | (refine Seq.Seq.det ?_ (by rfl) (fun w hS => ?_) ?_; rotate_left; ((try dsimp only at hS); go_simp; (try rw [if_pos (by omega)]); with_reducible rfl); (try simp only [Act.put, List.setIfInBounds_toArray, List.set_cons_zero, List.set_cons_succ])))
              refine Seq.Seq.nil ?_
              go_wp2
              go_ret
              exact ⟨by rw [HRR.out]; rfl, hS2⟩
            · have HJ := Lib.hid (HT.out rfl)
              go_wp2
              refine Seq.wp_region_seq (LkS w) (by kernel_rfl) (by kernel_rfl) hS ?_
              repeat (first | (refine Seq.Seq.skip (by rfl) ?_; (try simp only [Act.put, List.setIfInBounds_toArray, List.set_cons_zero, List.set_cons_succ])) | (refine Seq.Seq.det ?_ (by rfl) (fun w hS => ?_) ?_; rotate_left; ((try dsimp only at hS); go_simp; (try rw [if_pos (by omega)]); with_reducible rfl); (try simp only [Act.put, List.setIfInBounds_toArray, List.set_cons_zero, List.set_cons_succ])))
              refine Seq.Seq.make (by rfl) (by rfl) (fun K Q' hK => ?_)
              go_simp
              go_at_call 117
              refine HRC.out.mono ?_
              rintro en v1 ⟨rfl, hc1⟩
              have hS2 : LkS w v1 := Below.trans hS (hc1.mono (show w.heap.size ≤ wr.drew.heap.size from Below.size hS))
              clear hc1
              refine hK.out _ _ (hS2) ?_
              clear hK K
              try simp only [Act.put, List.setIfInBounds_toArray, List.set_cons_zero, List.set_cons_succ]
              repeat (first | (refine Seq.Seq.skip (by rfl) ?_; (try simp only [Act.put, List.setIfInBounds_toArray, List.set_cons_zero, List.set_cons_succ])) | (refine Seq.Seq.det ?_ (by rfl) (fun w hS => ?_) ?_; rotate_left; ((try dsimp only at hS); go_simp; (try rw [if_pos (by omega)]); with_reducible rfl); (try simp only [Act.put, List.setIfInBounds_toArray, List.set_cons_zero, List.set_cons_succ])))
              refine Seq.Seq.nil ?_
              go_wp2
              go_roundw
              case rel => exact ⟨k + 1, by omega, by go_num, Lib.hid (lko_next hj.out HJ.out), hS2⟩
              case measure => simp [intOf]; omega
        · obtain ⟨y, hy, yb, hya⟩ := HZ.out.ahead hlt (by omega)
          have L2 : ∀ w', LkS w w' → w'.cell? ⟨g, o + (k - 1) * 2, none⟩ = some (.int .u64 y) := fun w' h => hya w' h
          have HY := Lib.hid hy
          have e4 : 0 < (k : Int) := by omega
          have e4n : 0 < k := by omega
          have e5 : IntKind.i64.wrap ((k : Int) - 1) = ((k - 1 : Nat) : Int) := by rw [IntWalk.i64_in _ (by omega)]; omega
          have e6 : ((k - 1 : Nat) : Int) < n := by omega
          clear h0 hy hya
          by_cases hxy : x ≤ y
          · have HRR : Hid (r = false) := Lib.hid (HNO.out k (by rw [HL.out]; exact hlt) (fun h => by have h5 := h.1; rw [HEQ.out, HY.out] at h5; have h6 : y < x := h5; omega))
            have hxyd : decide (x ≤ y) = true := decide_eq_true hxy
            clear hxy
            go_wp2
            refine Seq.wp_region_seq (LkS w) (by kernel_rfl) (by kernel_rfl) hS ?_
            repeat (first | (refine Seq.Seq.skip (by rfl) ?_; (try simp only [Act.put, List.setIfInBounds_toArray, List.set_cons_zero, List.set_cons_succ])) | (refine Seq.Seq.det ?_ (by rfl) (fun w hS => ?_) ?_; rotate_left; ((try dsimp only at hS); go_simp; (try rw [if_pos (by omega)]); with_reducible rfl); (try simp only [Act.put, List.setIfInBounds_toArray, List.set_cons_zero, List.set_cons_succ])))
            refine Seq.Seq.nil ?_
            go_wp2
            go_ret
            exact ⟨by rw [HRR.out]; rfl, HBD.out⟩
          · have HPX : Hid (lkp (-1) L k < x) := Lib.hid (by rw [HY.out]; omega)
            have hxyd : decide (x ≤ y) = false := decide_eq_false hxy
            clear hxy
            by_cases h4 : 4 < (l : Int)
            · have h4d : decide (4 < (l : Int)) = true := decide_eq_true h4
              have HRR : Hid (r = false) := Lib.hid (HNO.out k (by rw [HL.out]; exact hlt) (fun h => by have h5 := h.2.1; rw [HEQ.out] at h5; have h6 : z.length ≤ 4 := h5; rw [HLZ.out] at h6; omega))
              go_wp2
              refine Seq.wp_region_seq (LkS w) (by kernel_rfl) (by kernel_rfl) hS ?_
              repeat (first | (refine Seq.Seq.skip (by rfl) ?_; (try simp only [Act.put, List.setIfInBounds_toArray, List.set_cons_zero, List.set_cons_succ])) | (refine Seq.Seq.det ?_ (by rfl) (fun w hS => ?_) ?_; rotate_left; ((try dsimp only at hS); go_simp; (try rw [if_pos (by omega)]); with_reducible rfl); (try simp only [Act.put, List.setIfInBounds_toArray, List.set_cons_zero, List.set_cons_succ])))
              refine Seq.Seq.nil ?_
              go_wp2
              go_ret
              exact ⟨by rw [HRR.out]; rfl, HBD.out⟩
            · have hl4 : l ≤ 4 := by omega
              have h4d : decide (4 < (l : Int)) = false := decide_eq_false h4
              clear h4
              have HRC := Lib.hid (rdfalls_any a l mm pos z wr.drew (HUS.out.below hS) (by omega) HZB.out HE.out.1 HE.out.2)
              have HF := Lib.hid (fun (h : flb pos z = false) => HNO.out k (by rw [HL.out]; exact hlt) (fun h9 => by have h5 := h9.2.2; rw [HEQ.out] at h5; have h6 : flb pos z = true := h5; rw [h] at h6; cases h6))
              have HT := Lib.hid (fun (h : flb pos z = true) => (show lko pos (-1) L k from ⟨by rw [HEQ.out]; exact HPX.out, by rw [HEQ.out]; show z.length ≤ 4; rw [HLZ.out]; exact hl4, by rw [HEQ.out]; exact h⟩))
              unfold BPost at HRC
              generalize flb pos z = fv at *
              cases fv
              · have HRR := Lib.hid (HF.out rfl)
                go_wp2
                refine Seq.wp_region_seq (LkS w) (by kernel_rfl) (by kernel_rfl) hS ?_
                repeat (first | (refine Seq.Seq.skip (by rfl) ?_; (try simp only [Act.put, List.setIfInBounds_toArray, List.set_cons_zero, List.set_cons_succ])) | (refine Seq.Seq.det ?_ (by rfl) (fun w hS => ?_) ?_; rotate_left; ((try dsimp only at hS); go_simp; (try rw [if_pos (by omega)]); with_reducible rfl); (try simp only [Act.put, List.setIfInBounds_toArray, List.set_cons_zero, List.set_cons_succ])))
                refine Seq.Seq.make (by rfl) (by rfl) (fun K Q' hK => ?_)
                go_simp
                go_at_call 117
                refine HRC.out.mono ?_
                rintro en v1 ⟨rfl, hc1⟩
                have hS2 : LkS w v1 := Below.trans hS (hc1.mono (show w.heap.size ≤ wr.drew.heap.size from Below.size hS))
                clear hc1
                refine hK.out _ _ (hS2) ?_
                clear hK K
                try simp only [Act.put, List.setIfInBounds_toArray, List.set_cons_zero, List.set_cons_succ]
                repeat (first | (refine Seq.Seq.skip (by rfl) ?_; (try simp only [Act.put, List.setIfInBounds_toArray, List.set_cons_zero, List.set_cons_succ])) | (refine Seq.Seq.det ?_ (by rfl) (fun w hS => ?_) ?_; rotate_left; ((try dsimp only at hS); go_simp; (try rw [if_pos (by omega)]); with_reducible rfl); (try simp only [Act.put, List.setIfInBounds_toArray, List.set_cons_zero, List.set_cons_succ])))
                refine Seq.Seq.nil ?_
                go_wp2
                go_ret
                exact ⟨by rw [HRR.out]; rfl, hS2⟩
              · have HJ := Lib.hid (HT.out rfl)
                go_wp2
                refine Seq.wp_region_seq (LkS w) (by kernel_rfl) (by kernel_rfl) hS ?_
                repeat (first | (refine Seq.Seq.skip (by rfl) ?_; (try simp only [Act.put, List.setIfInBounds_toArray, List.set_cons_zero, List.set_cons_succ])) | (refine Seq.Seq.det ?_ (by rfl) (fun w hS => ?_) ?_; rotate_left; ((try dsimp only at hS); go_simp; (try rw [if_pos (by omega)]); with_reducible rfl); (try simp only [Act.put, List.setIfInBounds_toArray, List.set_cons_zero, List.set_cons_succ])))
                refine Seq.Seq.make (by rfl) (by rfl) (fun K Q' hK => ?_)
                go_simp
                go_at_call 117
                refine HRC.out.mono ?_
                rintro en v1 ⟨rfl, hc1⟩
                have hS2 : LkS w v1 := Below.trans hS (hc1.mono (show w.heap.size ≤ wr.drew.heap.size from Below.size hS))
                clear hc1
                refine hK.out _ _ (hS2) ?_
                clear hK K
                try simp only [Act.put, List.setIfInBounds_toArray, List.set_cons_zero, List.set_cons_succ]
                repeat (first | (refine Seq.Seq.skip (by rfl) ?_; (try simp only [Act.put, List.setIfInBounds_toArray, List.set_cons_zero, List.set_cons_succ])) | (refine Seq.Seq.det ?_ (by rfl) (fun w hS => ?_) ?_; rotate_left; ((try dsimp only at hS); go_simp; (try rw [if_pos (by omega)]); with_reducible rfl); (try simp only [Act.put, List.setIfInBounds_toArray, List.set_cons_zero, List.set_cons_succ])))
                refine Seq.Seq.nil ?_
                go_wp2
                go_roundw
                case rel => exact ⟨k + 1, by omega, by go_num, Lib.hid (lko_next hj.out HJ.out), hS2⟩
                case measure => simp [intOf]; omega
      · obtain rfl : k = n := by omega
        have HR := Lib.hid (HYES.out (by rw [HL.out]; omega) (fun i hi => hj.out i (by rw [HL.out] at hi; exact hi)))
        go_wp2
        go_ret
        exact ⟨by rw [HR.out]; rfl, hb⟩
set_option maxHeartbeats 1000000 in
theorem lstep_any (P : Nat → Prop) (A : Option Addr) (n m : Nat) (L : List Lk) (k : Nat) (w : World) (hz : Lks w P A n L) (hn : n ≤ 1000000) (hk : k < n) (hlt : lkp (-1) L k < (L.getD k lk0).1) :
    Calls Tryz.prog 104 #[.slice A n m, .int .i64 k] w (BPost (.int .u64 ((L.getD k lk0).1 - lkp (-1) L k - 1)) w) := by
  unfold BPost
  obtain ⟨g, o, rfl, _, hg, hc⟩ := hz.cells (by omega)
  obtain ⟨x, z, a, l, mm, he, xb, _, _, _, _, _, _, _, hcell⟩ := hc k hk
  obtain ⟨c0, _⟩ := hcell w (Below.refl _ _)
  rw [he] at hlt ⊢
  have e2 : (k : Int) < n := by omega
  by_cases h0 : k = 0
  · subst h0
    have HV : Hid (((x, z) : Lk).1 - lkp (-1) L 0 - 1 = x) := Lib.hid (by rw [lkp_zero]; show x - -1 - 1 = x; omega)
    rw [HV.out]
    rw [Nat.zero_mul, Nat.add_zero] at c0
    rw [show ((0 : Nat) : Int) = 0 from rfl] at e2 ⊢
    clear hc hcell hz hlt he
    go_enter Tryz.func104, Tryz.ntmps104
    go_wp2
    go_ret
    exact ⟨rfl, Below.refl _ _⟩
  · obtain ⟨y, hy, yb, hya⟩ := hz.ahead hk (by omega)
    have d0 := hya w (Below.refl _ _)
    rw [hy] at hlt ⊢
    have hyx : y < x := hlt
    have e4 : ((k : Int) == 0) = false := by simp; omega
    have e5 : IntKind.i64.wrap ((k : Int) - 1) = ((k - 1 : Nat) : Int) := by rw [IntWalk.i64_in _ (by omega)]; omega
    have e6 : ((k - 1 : Nat) : Int) < n := by omega
    have e7 : IntKind.u64.wrap (x - y) = x - y := IntWalk.u64_in _ (by omega)
    have e8 : IntKind.u64.wrap (x - y - 1) = x - y - 1 := IntWalk.u64_in _ (by omega)
    have HB := Lib.hid (fun n => below_drewN (Below.refl w.heap.size w) n)
    show Calls _ _ _ _ (fun e w' => e = .returned (.int .u64 (x - y - 1)) ∧ _)
    clear hc hcell hz hlt he h0 hy hya hyx
    go_enter Tryz.func104, Tryz.ntmps104
    go_wp2
    go_quiet (fail)
    go_wp2
    go_ret
    exact ⟨rfl, HB.out _⟩
def lk1i (pos pr : Int) (s : Lk) : List (List Int) := vz (s.1 - pr - 1) :: litems (dif pos s.2)
theorem lk1i_flat (pos pr : Int) (s : Lk) : (lk1i pos pr s).flatten = lk1 pos pr s := rfl
def lkis (pos : Int) (L : List Lk) : Nat → List (List Int)
  | 0 => [vz L.length]
  | k + 1 => lkis pos L k ++ lk1i pos (lkp (-1) L k) (L.getD k lk0)
theorem lkb_snoc (pos : Int) : ∀ (L : List Lk) (pr : Int) (k : Nat), k < L.length → lkb pos pr (L.take (k + 1)) = lkb pos pr (L.take k) ++ lk1 pos (lkp pr L k) (L.getD k lk0)
  | s :: L, pr, 0, _ => by simp [lkb, lkp]
  | s :: L, pr, k + 1, h => by
    have ih := lkb_snoc pos L s.1 k (by simpa using h)
    rw [List.take_succ_cons, List.take_succ_cons]
    show lk1 pos pr s ++ lkb pos s.1 (L.take (k + 1)) = lk1 pos pr s ++ lkb pos s.1 (L.take k) ++ _
    rw [ih, List.append_assoc]
    have hp : lkp s.1 L k = lkp pr (s :: L) (k + 1) := by cases k <;> rfl
    rw [hp]
    rfl
theorem lkis_flat (pos : Int) (L : List Lk) : ∀ k, k ≤ L.length → (lkis pos L k).flatten = vz L.length ++ lkb pos (-1) (L.take k)
  | 0, _ => by simp [lkis, lkb]
  | k + 1, h => by
    rw [lkis, List.flatten_append, lkis_flat pos L k (by omega), lk1i_flat, lkb_snoc pos L (-1) k (by omega), List.append_assoc]
theorem lkis_end (pos : Int) (L : List Lk) : (lkis pos L L.length).flatten = lkz pos L := by
  rw [lkis_flat pos L _ (Nat.le_refl _), List.take_length]; rfl
theorem lkis_len {pos : Int} {L : List Lk} (h : lkok pos L = true) : ∀ k, k ≤ L.length → (lkis pos L k).flatten.length ≤ 10 + 60 * k
  | 0, _ => by
    have := vsz_le L.length
    rw [lkis_flat pos L 0 (by omega), List.take_zero]
    simp [lkb, vz_length]
    omega
  | k + 1, hk => by
    have ih := lkis_len h k (by omega)
    have h1 := lk1_len (pos := pos) (pr := lkp (-1) L k) (lkok_at h (show k < L.length by omega)).2.1
    rw [lkis, List.flatten_append, List.length_append, lk1i_flat]
    omega
theorem puts_two (xs : List (List Int)) (u : List Int) (ys : List (List Int)) (y : List Int) (M c : Int) :
    puts ys (putZ (puts xs y M c).1 u M (puts xs y M c).2) M (putC (puts xs y M c).1 u M (puts xs y M c).2) = puts (xs ++ u :: ys) y M c := by
  rw [puts_append]; rfl
theorem Lks.ks_cells {S0 : Nat → Prop} {w : World} {P : Nat → Prop} {g o n : Nat} {L : List Lk} (h : Lks w P (some ⟨g, o, none⟩) n L) (hoff : ∀ b, P b → b < w.heap.size → ¬ S0 b) {k : Nat} (hk : k < n) :
    ∃ x z a l m, L.getD k lk0 = (x, z) ∧ (0 ≤ x ∧ x < 18446744073709551616) ∧ z.length = l ∧ l ≤ m ∧ (a = none → m = 0) ∧ (∀ y ∈ z, 0 ≤ y ∧ y < 18446744073709551616) ∧
      ∀ w', Ks S0 w w' → (w'.cell? ⟨g, o + k * 2, none⟩ = some (.int .u64 x) ∧ w'.cell? ⟨g, o + k * 2 + 1, none⟩ = some (.slice a l m)) ∧ Us w' a l z := by
  obtain ⟨g', o', e, hP, hg, hc⟩ := h.cells (by omega)
  injection e with e
  injection e with e1 e2
  subst e1 e2
  obtain ⟨x, z, a, l, m, h1, h2, h3, h4, h5, h6, h7, _, h8, h9⟩ := hc k hk
  refine ⟨x, z, a, l, m, h1, h2, h3, h4, h5, h7, fun w' hk' => ⟨?_, ?_⟩⟩
  · obtain ⟨c0, c1⟩ := h9 w (Below.refl _ _)
    have hcell : ∀ x, w'.cell? ⟨g, x, none⟩ = w.cell? ⟨g, x, none⟩ := fun x => World.cell?_of_block (hk'.block g hg (hoff g hP hg))
    exact ⟨(hcell _).trans c0, (hcell _).trans c1⟩
  · have := (h8.keep (w' := w') fun b hb hl => hk'.block b hl (hoff b hb hl)).us.1
    rwa [h3] at this
set_option maxHeartbeats 4000000 in
theorem lput_yes {w : World} {B b : Nat} {r : Option Nat} {y : List Int} {M c : Int} (P : Nat → Prop) (pos : Int) (A : Option Addr) (n m : Nat) (L : List Lk) (h : Wr w B b r y M c) (hz : Lks w P A n L) (p0 : 0 ≤ pos) (p1 : pos < 18446744073709551616) (hok : lkok pos L = true)
    (hoff : ∀ b', P b' → b' < w.heap.size → ¬ WS b r b') (hy : y.length ≤ 600000) (hBw : B ≤ w.heap.size) :
    Calls Tryz.prog 42 #[.pointer (some ⟨b, 0, none⟩), .int .u64 pos, .slice A n m] w (WPutsPost B b r y (lkis pos L n) M c w) := by
  have hrcon := lkright_any P pos A n m L w hz p0 p1
  rw [hok] at hrcon
  unfold BPost at hrcon
  have HOK := Lib.hid (fun k (hk : k < L.length) => lkok_at hok hk)
  have HLE := Lib.hid (fun k (hk : k ≤ L.length) => lkis_len hok k hk)
  have hn16 : n ≤ 16 := by rw [← hz.1]; exact (lkok_parts hok).1
  have HL := Lib.hid hz.1
  have HE := Lib.hid (And.intro p0 p1)
  have HZ := Lib.hid hz
  have HOFF := Lib.hid hoff
  have H0 : Hid (lkis pos L 0 = [vz n]) := Lib.hid (by rw [← hz.1]; rfl)
  have HSU : Hid (∀ k, lkis pos L (k + 1) = lkis pos L k ++ lk1i pos (lkp (-1) L k) (L.getD k lk0)) := Lib.hid (fun k => by rw [lkis])
  have hn0 : (0 : Int) ≤ n := by omega
  have hn1 : (n : Int) < 18446744073709551616 := by omega
  have e2 : IntKind.u64.wrap (n : Int) = n := IntWalk.u64_in _ (by omega)
  generalize lkis pos L = sk at *
  clear hz hok hoff p0 p1
  go_enter Tryz.func42, Tryz.ntmps42
  go_wp2_with fail
  refine hrcon.mono ?_
  rintro en w1 ⟨rfl, hb1⟩
  have hks1 : Ks (WS b r) w w1 := Ks.of_below hb1
  have h1 := h.below hb1
  have hB1 := Nat.le_trans hBw hks1.size
  clear hrcon hb1 h
  go_wp2_with fail
  refine (vput_any _ h1 hn0 hn1 (by omega) hB1).mono ?_
  rintro en w2 ⟨r2, rfl, hk2, hg2, hw2⟩
  have hks2 := Ks.wr hks1 (Gr.refl _ _) hk2
  have hgr2 : Gr r r2 w := (Gr.refl _ _).trans hg2 hks1.size
  have H2 : Hid (Wr w2 B b r2 (puts (sk 0) y M c).1 M (puts (sk 0) y M c).2) := Lib.hid (by rw [H0.out]; exact hw2)
  clear hk2 hg2 h1 hks1 hw2 hn0 hn1 e2
  go_wp2
  go_loopw [21] (fun i wr => ∃ (k : Nat) (r' : Option Nat), k ≤ n ∧ i = .int .i64 k ∧ Ks (WS b r) w wr ∧ Gr r r' w ∧ Hid (Wr wr B b r' (puts (sk k) y M c).1 M (puts (sk k) y M c).2)) (fun i _ => n - (intOf i).toNat)
  case atStart => exact ⟨0, r2, by omega, rfl, hks2, hgr2, H2⟩
  case round =>
    clear hks2 hgr2 H2
    obtain ⟨k, r', hk, rfl, hks, hgr, HW⟩ := hrel
    have hw := HW.out
    by_cases hlt : k < n
    · obtain ⟨g, o, rfl, hPg, hg, _⟩ := HZ.out.cells (by omega)
      obtain ⟨x, z, a, l, mm, he, xb, hl, hlm, han, hzb, hcell⟩ := HZ.out.ks_cells (S0 := WS b r) HOFF.out hlt
      obtain ⟨⟨c0, c1⟩, hus⟩ := hcell wr hks
      have hkL : k < L.length := by rw [HL.out]; exact hlt
      obtain ⟨o1, o2, o3⟩ := HOK.out k hkL
      have hle := HLE.out k (by omega)
      have hpl := puts_le (sk k) y M c
      have hsu := HSU.out k
      have hz2 : Lks wr P (some ⟨g, o, none⟩) n L := HZ.out.keep fun b' hb' hl' => hks.block b' hl' (HOFF.out b' hb' hl')
      have hX := Blk.new wr (lkc x a l mm) 124
      have hbX := below_one wr (.cells (lkc x a l mm) 124)
      have hwX := hw.below hbX
      have hksX := hks.trans (Ks.of_below hbX)
      have hscon := lstep_any P _ n m L k _ (hz2.below hbX) (by omega) hlt o1
      have hBX := Nat.le_trans hBw hksX.size
      have hXo : ¬ WS b r' wr.heap.size := hw.off (Nat.le_refl _)
      rw [he] at o1 o2 o3 hsu hscon
      obtain ⟨pr, hpr⟩ : ∃ pr, pr = lkp (-1) L k := ⟨_, rfl⟩
      rw [← hpr] at o1 hsu hscon
      replace o1 : pr < x := o1
      replace o2 : z.length ≤ 4 := o2
      replace o3 : flb pos z = true := o3
      have hpm : -1 ≤ pr := by
        rw [hpr]
        rcases k with _ | k
        · rw [lkp_zero]; omega
        · obtain ⟨y', e9, yb', _⟩ := HZ.out.ahead hlt (by omega)
          rw [e9]; omega
      have HSN := Lib.hid hsu
      have HO3 := Lib.hid o3
      have HZB := Lib.hid hzb
      have s0 : 0 ≤ x - pr - 1 := by omega
      have s1 : x - pr - 1 < 18446744073709551616 := by omega
      replace hscon : Calls Tryz.prog 104 #[.slice (some ⟨g, o, none⟩) n m, .int .i64 k] (wr.alloc (.cells (lkc x a l mm) 124)) (BPost (.int .u64 (x - pr - 1)) _) := hscon
      unfold BPost at hscon
      obtain ⟨v, hv⟩ : ∃ v, v = x - pr - 1 := ⟨_, rfl⟩
      rw [← hv] at s0 s1 hscon
      have HV := Lib.hid hv
      obtain ⟨x0, x1⟩ := hX.c2
      have e3 : IntKind.i64.wrap ((k : Int) + 1) = ((k + 1 : Nat) : Int) := IntWalk.i64_in _ (by omega)
      have e4 : (k : Int) < n := by omega
      clear hsu hpr hv o3 hzb hz2 HW hw hks han he hbX
      go_wp2_with fail
      refine hscon.mono ?_
      rintro en w5 ⟨rfl, hb5⟩
      have hw5 := hwX.below hb5
      have hks5 := hksX.trans (Ks.of_below hb5)
      have hX5 := hX.below hb5
      have hB5 := Nat.le_trans hBw hks5.size
      clear hscon hb5 hwX hksX hX x0 x1 hBX c0 c1
      go_wp2_with fail
      refine (vput_any _ hw5 s0 s1 (by omega) hB5).mono ?_
      rintro en w6 ⟨r6, rfl, hk6, hg6, hw6⟩
      have hks6 := Ks.wr hks5 hgr hk6
      have hgr6 := hgr.trans hg6 hks5.size
      have hX6 := hX5.ks hk6 hXo
      obtain ⟨x0, x1⟩ := hX6.c2
      have hB6 := Nat.le_trans hBw hks6.size
      have hus6 := (hcell w6 hks6).2
      have hp2 := putZ_le (puts (sk k) y M c).1 (vz v) M (puts (sk k) y M c).2
      rw [vz_length] at hp2
      have hv2 := vsz_le v
      clear hcell hk6 hg6 hw5 hks5 hgr hX5 hX6 hXo hB5
      go_wp2_with fail
      refine (dput_yes a l mm pos z hw6 hus6 (by omega) HZB.out HE.out.1 HE.out.2 HO3.out (by omega) hB6).mono ?_
      rintro en w7 ⟨r7, rfl, hk7, hg7, hw7⟩
      have hks7 := Ks.wr hks6 hgr6 hk7
      have hgr7 := hgr6.trans hg7 hks6.size
      have H7 : Hid (Wr w7 B b r7 (puts (sk (k + 1)) y M c).1 M (puts (sk (k + 1)) y M c).2) := Lib.hid (by
        rw [HSN.out]
        show Wr w7 B b r7 (puts (sk k ++ vz (x - pr - 1) :: litems (dif pos z)) y M c).1 M (puts (sk k ++ vz (x - pr - 1) :: litems (dif pos z)) y M c).2
        rw [← puts_two, ← HV.out]
        exact hw7)
      clear hk7 hg7 hw7 hw6 hks6 hgr6 x0 x1 hus6 hp2 hle hpl
      go_wp2
      go_roundw
      case rel => exact ⟨k + 1, r7, by omega, by go_num, hks7, hgr7, H7⟩
      case measure => simp [intOf]; omega
    · obtain rfl : k = n := by omega
      go_wp2
      go_end0
      exact ⟨r', rfl, hks, hgr, hw⟩
end Go.Proofs.YtmiimjgfainclaaGreat.Cur
namespace Go.Proofs.YtmiimjgfainclaaGreat.Cur
open Go.RowKit Mem
set_option linter.unusedVariables false
set_option maxRecDepth 100000
theorem lkp_ge {w : World} {P : Nat → Prop} {A : Option Addr} {n : Nat} {L : List Lk} (h : Lks w P A n L) {k : Nat} (hk : k < n) : -1 ≤ lkp (-1) L k := by
  rcases k with _ | k
  · rw [lkp_zero]; omega
  · obtain ⟨g, o, rfl, _⟩ := h.cells (by omega)
    obtain ⟨y', e9, yb', _⟩ := h.ahead hk (by omega)
    rw [e9]; omega
theorem lkis_step (pos : Int) (L : List Lk) (k : Nat) : (lkis pos L (k + 1)).flatten = (lkis pos L k).flatten ++ (vz ((L.getD k lk0).1 - lkp (-1) L k - 1) ++ lz (dif pos (L.getD k lk0).2)) := by
  rw [lkis, List.flatten_append, lk1i_flat]; rfl
set_option maxHeartbeats 4000000 in
theorem rlkbytes_any (P : Nat → Prop) (pos : Int) (A : Option Addr) (n m : Nat) (L : List Lk) (w : World) (hz : Lks w P A n L) (p0 : 0 ≤ pos) (p1 : pos < 18446744073709551616) (hok : lkok pos L = true) :
    Calls Tryz.prog 79 #[.int .u64 pos, .slice A n m] w (RowPost (lkz pos L) w) := by
  have HV : Hid (lkz pos L = (lkis pos L n).flatten) := Lib.hid (by rw [← hz.1, lkis_end])
  rw [HV.out]
  have HOK := Lib.hid (fun k (hk : k < L.length) => lkok_at hok hk)
  have HLE := Lib.hid (fun k (hk : k ≤ L.length) => lkis_len hok k hk)
  have hn16 : n ≤ 16 := by rw [← hz.1]; exact (lkok_parts hok).1
  have HL := Lib.hid hz.1
  have HE := Lib.hid (And.intro p0 p1)
  have HZ := Lib.hid hz
  have H0 : Hid ((lkis pos L 0).flatten = [(n : Int)]) := Lib.hid (by rw [← hz.1, lkis]; simp; rw [vz_lt _ (by rw [hz.1]; omega)])
  have HSU : Hid (∀ k, (lkis pos L (k + 1)).flatten = (lkis pos L k).flatten ++ (vz ((L.getD k lk0).1 - lkp (-1) L k - 1) ++ lz (dif pos (L.getD k lk0).2))) := Lib.hid (fun k => lkis_step pos L k)
  have HPG := Lib.hid (fun k (hk : k < n) => lkp_ge hz hk)
  have e2 : IntKind.u8.wrap (n : Int) = n := by show (n : Int) % 256 = n; omega
  obtain ⟨sk, hsk⟩ : ∃ sk : Nat → List Int, sk = fun k => (lkis pos L k).flatten := ⟨_, rfl⟩
  have HSK := Lib.hid (fun k => (congrFun hsk k).symm)
  have ho0 := Own.built w (n : Int)
  have hb0 := below_one w (.cells #[.int .u8 (n : Int)] 5)
  clear hz hok p0 p1 HV hsk
  go_enter Tryz.func79, Tryz.ntmps79
  go_wp2
  go_loopw [5, 6] (fun v i wr => ∃ k : Nat, k ≤ n ∧ i = .int .i64 k ∧ Own wr w.heap.size v (lkis pos L k).flatten ∧ Below w.heap.size w wr) (fun _ i _ => n - (intOf i).toNat)
  case atStart => exact ⟨0, by omega, rfl, by rw [H0.out]; exact ho0, hb0⟩
  case round =>
    clear ho0 hb0
    obtain ⟨k, hk, rfl, ho, hb⟩ := hrel
    by_cases hlt : k < n
    · obtain ⟨g, o, rfl, _, hg, hc⟩ := HZ.out.cells (by omega)
      obtain ⟨x, z, a, l, mm, he, xb, hl, hlm, han, hus, hzb, _, _, hcell⟩ := hc k hlt
      obtain ⟨c0, c1⟩ := hcell wr hb
      have HCELL := Lib.hid hcell
      have hkL : k < L.length := by rw [HL.out]; exact hlt
      obtain ⟨o1, o2, o3⟩ := HOK.out k hkL
      have hle := HLE.out (k + 1) (by omega)
      have hsu := HSU.out k
      have hpm := HPG.out k hlt
      rw [he] at o1 o2 o3 hsu
      obtain ⟨pr, hpr⟩ : ∃ pr, pr = lkp (-1) L k := ⟨_, rfl⟩
      rw [← hpr] at o1 hsu hpm
      replace o1 : pr < x := o1
      replace o2 : z.length ≤ 4 := o2
      replace o3 : flb pos z = true := o3
      replace hsu : (lkis pos L (k + 1)).flatten = (lkis pos L k).flatten ++ (vz (x - pr - 1) ++ lz (dif pos z)) := hsu
      have s0 : 0 ≤ x - pr - 1 := by omega
      have s1 : x - pr - 1 < 18446744073709551616 := by omega
      have hdb := fun w' (h : Below w.heap.size w w') => rdbytes_any a l mm pos z w' (hus.below h) (by omega) hzb HE.out.1 HE.out.2 o3
      generalize lz (dif pos z) = D at *
      have HDB := Lib.hid hdb
      obtain ⟨v, hv⟩ : ∃ v, v = x - pr - 1 := ⟨_, rfl⟩
      rw [← hv] at s0 s1 hsu
      have HSU2 := Lib.hid hsu
      rw [hsu, List.length_append, List.length_append, vz_length] at hle
      obtain ⟨Y, hY⟩ : ∃ Y, Y = (lkis pos L k).flatten := ⟨_, rfl⟩
      rw [← hY] at ho hle HSU2
      have e3 : IntKind.i64.wrap ((k : Int) + 1) = ((k + 1 : Nat) : Int) := IntWalk.i64_in _ (by omega)
      have e4 : (k : Int) < n := by omega
      have HP0 := Lib.hid (fun (h : k = 0) => (show pr = -1 by rw [hpr, h, lkp_zero]))
      clear hc hcell o3 hzb han he hsu hdb hus hl hY
      by_cases h0 : k = 0
      · have hp0 := HP0.out h0
        have hvx : v = x := by rw [hv, hp0]; omega
        have e5 : ¬ 0 < (k : Int) := by omega
        have e5n : ¬ 0 < k := by omega
        clear hv hp0 hpr h0
        subst hvx
        go_wp2_with fail
        refine (rbytes_any 10 _ _ (vsz_le _) s0 s1).mono ?_
        rintro en w3 ⟨A3, m3, rfl, hb3, hbs3, hnil3, _⟩
        have ho3 := ho.below hb3
        have hb4 := hb.trans (hb3.mono hb.size)
        have hB4 := hb4.size
        have HY4 : Hid (Y.length + (vz v).length ≤ 1000000) := Lib.hid (by rw [vz_length]; have := vsz_le v; omega)
        clear ho hb hb3 c0 c1 s0 s1
        go_wp2_with (at_builtin; go_must (refine list_append_gr rfl (.tmp 34) (.tmp 36) rfl w.heap.size _ _ rfl ho3 _ _ _ _ rfl hbs3 hnil3 HY4.out hB4 ?_; intro v5 w5 ho5 hg5 hgr5; have hb5 := Own.belowOf hb4 hB4 ho3 hg5; clear hg5 hgr5 hbs3 hnil3 hb4 hB4 ho3; obtain ⟨c0, c1⟩ := HCELL.out w5 hb5))
        refine (HDB.out w5 hb5).mono ?_
        rintro en w6 ⟨A6, m6, rfl, hb6, hbs6, hnil6, _⟩
        have ho6 := ho5.below hb6
        have hb7 := hb5.trans (hb6.mono hb5.size)
        have hB7 := hb7.size
        have HY7 : Hid ((Y ++ vz v).length + D.length ≤ 1000000) := Lib.hid (by rw [List.length_append, vz_length]; have := vsz_le v; omega)
        clear ho5 hb5 hb6 c0 c1
        go_wp2_with (at_builtin; go_must (refine list_append_gr rfl (.tmp 38) (.tmp 45) rfl w.heap.size _ _ rfl ho6 _ _ _ _ rfl hbs6 hnil6 HY7.out hB7 ?_; intro v8 w8 ho8 hg8 hgr8; have hb8 := Own.belowOf hb7 hB7 ho6 hg8; clear hg8 hgr8 hbs6 hnil6 hb7 hB7 ho6))
        go_roundw
        case rel => exact ⟨k + 1, by omega, by go_num, by rw [HSU2.out, ← List.append_assoc]; exact ho8, hb8⟩
        case measure => simp [intOf]; omega
      · obtain ⟨y, hy, yb, hya⟩ := HZ.out.ahead hlt (by omega)
        have d0 := hya _ hb
        rw [← hpr] at hy
        clear hpr
        subst hy
        have e5 : 0 < (k : Int) := by omega
        have e5n : 0 < k := by omega
        have e6 : IntKind.i64.wrap ((k : Int) - 1) = ((k - 1 : Nat) : Int) := by rw [IntWalk.i64_in _ (by omega)]; omega
        have e7 : ((k - 1 : Nat) : Int) < n := by omega
        have e8 : IntKind.u64.wrap (x - pr) = x - pr := IntWalk.u64_in _ (by omega)
        have e9 : IntKind.u64.wrap (x - pr - 1) = v := by rw [hv]; exact IntWalk.u64_in _ (by omega)
        clear h0 hv hya
        go_wp2_with fail
        refine (rbytes_any 10 _ _ (vsz_le _) s0 s1).mono ?_
        rintro en w3 ⟨A3, m3, rfl, hb3, hbs3, hnil3, _⟩
        have ho3 := ho.below hb3
        have hb4 := hb.trans (hb3.mono hb.size)
        have hB4 := hb4.size
        have HY4 : Hid (Y.length + (vz v).length ≤ 1000000) := Lib.hid (by rw [vz_length]; have := vsz_le v; omega)
        clear ho hb hb3 c0 c1 s0 s1
        go_wp2_with (at_builtin; go_must (refine list_append_gr rfl (.tmp 34) (.tmp 36) rfl w.heap.size _ _ rfl ho3 _ _ _ _ rfl hbs3 hnil3 HY4.out hB4 ?_; intro v5 w5 ho5 hg5 hgr5; have hb5 := Own.belowOf hb4 hB4 ho3 hg5; clear hg5 hgr5 hbs3 hnil3 hb4 hB4 ho3; obtain ⟨c0, c1⟩ := HCELL.out w5 hb5))
        refine (HDB.out w5 hb5).mono ?_
        rintro en w6 ⟨A6, m6, rfl, hb6, hbs6, hnil6, _⟩
        have ho6 := ho5.below hb6
        have hb7 := hb5.trans (hb6.mono hb5.size)
        have hB7 := hb7.size
        have HY7 : Hid ((Y ++ vz v).length + D.length ≤ 1000000) := Lib.hid (by rw [List.length_append, vz_length]; have := vsz_le v; omega)
        clear ho5 hb5 hb6 c0 c1
        go_wp2_with (at_builtin; go_must (refine list_append_gr rfl (.tmp 38) (.tmp 45) rfl w.heap.size _ _ rfl ho6 _ _ _ _ rfl hbs6 hnil6 HY7.out hB7 ?_; intro v8 w8 ho8 hg8 hgr8; have hb8 := Own.belowOf hb7 hB7 ho6 hg8; clear hg8 hgr8 hbs6 hnil6 hb7 hB7 ho6))
        go_roundw
        case rel => exact ⟨k + 1, by omega, by go_num, by rw [HSU2.out, ← List.append_assoc]; exact ho8, hb8⟩
        case measure => simp [intOf]; omega
    · obtain rfl : k = n := by omega
      obtain ⟨A3, c3, rfl⟩ := ho.slice
      go_wp2
      go_ret
      exact Own.rowPost (B := 0) ho hb
end Go.Proofs.YtmiimjgfainclaaGreat.Cur
