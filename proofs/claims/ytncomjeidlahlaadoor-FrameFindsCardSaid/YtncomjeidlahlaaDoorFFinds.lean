/- FrameFinds: called with any two lists of rows of bytes, the law returns true; condition: crc's two tables read as the program's text lays them, to which the card ties them. -/
import Derived.Test.YtncomjeidlahlaaDoorRows
import Derived.Test.YtncomjeidlahlaaDoorFrmY
import Derived.Test.YtncomjeidlahlaaDoorCrcT
import Derived.Test.YtncomjeidlahlaaDoorK1
import Derived.Test.YtncomjeidlahlaaDoorRowL
import Derived.ProofKit
import Derived.OpenShut
import Derived.ShutString
import Derived.ChangeOld
import Derived.Test.YtncomjeidlahlaaDoorCards
import Derived.Test.YtncomjeidlahlaaDoorTie
import Derived.LaidMore
import Derived.Stop.Joined
import Derived.Deep.Slices
import Derived.SevenTiedAt
namespace Go.Proofs.YtncomjeidlahlaaDoor.frameFinds
open Go.ChangeShapes Go.WideShapes Go.ChangeAt Go.RowKit
open Go.ChangeMaps (open_string shut_string)
set_option linter.unusedVariables false

theorem own : ownKnob Tryd.prog.godebug = none := by kernel_rfl
theorem laidOut : laidOutB Tryd.prog = true := by kernel_rfl
open Cur Mem CrcM


/-- The first k frames, each with what stands ahead of it. -/
def allz (R R2 : List (List Int)) : Nat → List Int
  | 0 => []
  | k + 1 => (allz R R2 k ++ R2.getD k []) ++ frm (R.getD k [])
def plc (R R2 : List (List Int)) (k : Nat) : Nat := (allz R R2 k ++ R2.getD k []).length
def plcs (R R2 : List (List Int)) : Nat → List Int
  | 0 => []
  | k + 1 => plcs R R2 k ++ [(plc R R2 k : Int)]
theorem plcs_len (R R2 : List (List Int)) (k : Nat) : (plcs R R2 k).length = k := by
  induction k with
  | zero => rfl
  | succ k ih => unfold plcs; rw [List.length_append, ih]; rfl
theorem plcs_get {R R2 : List (List Int)} {k j : Nat} (h : j < k) : (plcs R R2 k)[j]? = some (plc R R2 j : Int) := by
  induction k with
  | zero => omega
  | succ k ih =>
    unfold plcs
    rcases Nat.lt_or_ge j k with h1 | h1
    · rw [List.getElem?_append_left (by rw [plcs_len]; exact h1)]; exact ih h1
    · obtain rfl : j = k := by omega
      rw [List.getElem?_append_right (by rw [plcs_len]; exact Nat.le_refl _), plcs_len, Nat.sub_self]; rfl
theorem allz_pre {R R2 : List (List Int)} {k j : Nat} (h : j ≤ k) : ∃ t, allz R R2 k = allz R R2 j ++ t := by
  induction k with
  | zero => obtain rfl : j = 0 := by omega
            exact ⟨[], by simp⟩
  | succ k ih =>
    rcases Nat.lt_or_ge j (k + 1) with h1 | h1
    · obtain ⟨t, ht⟩ := ih (by omega)
      exact ⟨t ++ R2.getD k [] ++ frm (R.getD k []), by rw [allz, ht]; simp only [List.append_assoc]⟩
    · obtain rfl : j = k + 1 := by omega
      exact ⟨[], by simp⟩
theorem allz_drop {R R2 : List (List Int)} {k j : Nat} (h : j < k) : ∃ rest, (allz R R2 k).drop (plc R R2 j) = [] ++ frm (R.getD j []) ++ rest := by
  obtain ⟨t, ht⟩ := allz_pre (R := R) (R2 := R2) (show j + 1 ≤ k from h)
  refine ⟨t, ?_⟩
  rw [ht, allz, List.append_assoc (allz R R2 j ++ R2.getD j []), plc, List.drop_left, List.nil_append]
set_option maxRecDepth 100000 in
theorem allz_fas {R R2 : List (List Int)} {k j : Nat} (h : j < k) (hl : (R.getD j []).length ≤ 60) (hy : ∀ x ∈ R.getD j [], 0 ≤ x ∧ x < 256) : fas ((allz R R2 k).drop (plc R R2 j)) 60 = ((frm (R.getD j [])).length : Nat) := by
  obtain ⟨rest, hr⟩ := allz_drop (R := R) (R2 := R2) h
  have := fr_put (mo := 60) hr (by omega) (by omega) hy
  rw [show (([] : List Int).length : Int) = 0 from rfl] at this
  unfold fas
  rw [this, if_pos rfl]
  show ((([] : List Int).length + (frm (R.getD j [])).length : Nat) : Int) = _
  rw [List.length_nil, Nat.zero_add]
theorem allz_next {R R2 : List (List Int)} (j : Nat) : (allz R R2 (j + 1)).length = plc R R2 j + (frm (R.getD j [])).length := by
  rw [allz, List.length_append]; rfl
theorem allz_len {R R2 : List (List Int)} (k : Nat) (h : ∀ j, j < k → (R.getD j []).length ≤ 60 ∧ (R2.getD j []).length ≤ 30) : (allz R R2 k).length ≤ 110 * k := by
  induction k with
  | zero => simp [allz]
  | succ k ih =>
    have h1 := ih (fun j hj => h j (by omega))
    have h2 := h k (by omega)
    have := vsz_le ((R.getD k []).length : Int)
    rw [allz_next, plc, List.length_append, frm_length]
    omega
theorem allz_byte {w w2 : World} {A A2 : Option Addr} {n : Nat} {R R2 : List (List Int)} (hR : RowsL w A n R) (hR2 : RowsL w2 A2 n R2) (k : Nat) (hk : k ≤ n) (h : ∀ j, j < k → (R.getD j []).length ≤ 60 ∧ (R2.getD j []).length ≤ 30) : ∀ x ∈ allz R R2 k, 0 ≤ x ∧ x < 256 := by
  induction k with
  | zero => intro x hx; simp [allz] at hx
  | succ k ih =>
    intro x hx
    rw [allz, List.mem_append, List.mem_append] at hx
    rcases hx with (hx | hx) | hx
    · exact ih (by omega) (fun j hj => h j (by omega)) x hx
    · obtain ⟨_, _, _, _, _, _, _, _, hb, _⟩ := hR2.2 k (by omega)
      exact hb x hx
    · obtain ⟨_, _, _, _, _, _, _, _, hb, _⟩ := hR.2 k (by omega)
      exact frm_byte (by have := (h k (by omega)).1; omega) hb x hx
/-- All are found. -/
theorem found {R R2 : List (List Int)} {n : Nat} (h1 : ∀ i, i < n → nx (allz R R2 n) 60 (allz R R2 i).length = some (plc R R2 i)) (h2 : ∀ i, i < n → fas ((allz R R2 n).drop (plc R R2 i)) 60 = ((frm (R.getD i [])).length : Nat)) {p : Nat} (hp : nx (allz R R2 n) 60 p = none) :
    ∀ (L : List Int) (j : Nat), j ≤ n → Pth (allz R R2 n) 60 (allz R R2 j).length L p → L.length + j = n ∧ ∀ i, i < L.length → L[i]? = some (plc R R2 (j + i) : Int)
  | [], j, hj, h => by
    cases h
    refine ⟨?_, fun i hi => absurd hi (by simp)⟩
    rcases Nat.lt_or_ge j n with h3 | h3
    · rw [h1 j h3] at hp; cases hp
    · simp; omega
  | x :: L, j, hj, h => by
    obtain ⟨q, s, a, rfl, c, d⟩ := h
    rcases Nat.lt_or_ge j n with h3 | h3
    · rw [h1 j h3] at a
      injection a with a
      subst a
      rw [h2 j h3] at c
      obtain rfl : (frm (R.getD j [])).length = s := by omega
      rw [← allz_next] at d
      obtain ⟨e1, e2⟩ := found h1 h2 hp L (j + 1) h3 d
      refine ⟨by simp only [List.length_cons]; omega, fun i hi => ?_⟩
      cases i with
      | zero => rfl
      | succ i =>
        have := e2 i (by simpa using hi)
        rw [show j + (i + 1) = j + 1 + i by omega]
        simpa using this
    · obtain rfl : j = n := by omega
      rw [nx_end (Nat.le_refl _)] at a; cases a


set_option maxRecDepth 100000 in
set_option maxHeartbeats 4000000 in
theorem walk {H : Type} (enc : TypeId × Value → H) (w : World) (hT : Tbs w) (base : Nat) (v0 : Value) (d0 : DataW H) (p0 : List MemPlace) (g0 : Value.okWide Tryd.prog w .any base 64 v0) (h0 : DataW.Trod enc Tryd.prog w 0 (fun _ => true) true 64 v0 d0 p0) (v1 : Value) (d1 : DataW H) (p1 : List MemPlace) (g1 : Value.okWide Tryd.prog w .any base 64 v1) (h1 : DataW.Trod enc Tryd.prog w 0 (fun _ => true) true 64 v1 d1 p1) :
    Calls Tryd.prog 8 #[v0, v1] w fun e w' => e = .returned (.bool true) ∧ Below w.heap.size w w' := by
  obtain ⟨A, n, m, rfl, hnm, hrows⟩ := open_rows g0 h0
  obtain ⟨A2, n2, m2, rfl, hnm2, hrows2⟩ := open_rows g1 h1
  clear g0 h0 g1 h1
  obtain ⟨R, hR⟩ := rows_list hrows
  obtain ⟨R2, hR2⟩ := rows_list hrows2
  have HR := Lib.hid hR
  have HR2 := Lib.hid hR2
  have HT := Lib.hid hT
  clear hR hR2 hrows hrows2 hT
  by_cases hn : 10 < (n : Int)
  · go_enter Tryd.func8, Tryd.ntmps8
    have hbw := Below.refl w.heap.size w
    go_wp2_with fail
    refine (live8_any _ (HT.out.below hbw)).mono ?_
    rintro e w9 ⟨rfl, hb9⟩
    have hbd9 := hbw.trans (hb9.mono hbw.size)
    go_wp2
    go_ret
    exact ⟨rfl, hbd9⟩
  by_cases hne : ¬ n2 = n
  · have hne' : ((n2 : Int) == (n : Int)) = false := by simpa using fun h => hne (by omega)
    go_enter Tryd.func8, Tryd.ntmps8
    have hbw := Below.refl w.heap.size w
    go_wp2_with fail
    refine (live8_any _ (HT.out.below hbw)).mono ?_
    rintro e w9 ⟨rfl, hb9⟩
    have hbd9 := hbw.trans (hb9.mono hbw.size)
    go_wp2
    go_ret
    exact ⟨rfl, hbd9⟩
  obtain rfl : n2 = n := Classical.byContradiction hne
  clear hne
  go_enter Tryd.func8, Tryd.ntmps8
  go_wp2
  go_loopw [5, 6, 7] (fun v5 v6 v7 wr => ∃ k : Nat, k ≤ n2 ∧ v7 = .int .i64 k ∧ Own wr w.heap.size v5 (allz R R2 k) ∧ wr.ownsRow w.heap.size 3 1 v6 k (iv (plcs R R2 k)) ∧ Below w.heap.size w wr ∧ Hid (∀ j, j < k → (R.getD j []).length ≤ 60 ∧ (R2.getD j []).length ≤ 30)) (fun _ _ v7 _ => n2 - (intOf v7).toNat)
  case atStart => exact ⟨0, Nat.zero_le _, rfl, Own.nil _ _, ⟨rfl, .inl ⟨rfl, rfl⟩⟩, Below.refl _ _, Lib.hid (fun j hj => absurd hj (by omega))⟩
  case round =>
    obtain ⟨k, hk, rfl, ho5, ho6, hbw, HL⟩ := hrel
    by_cases hlt : k < n2
    · obtain ⟨b, o, Ar, Lr, Cr, rfl, hc, hbs, hby, hnil, hlr⟩ := HR.out.2 k hlt
      obtain ⟨b2, o2, Ar2, Lr2, Cr2, rfl, hc2, hbs2, hby2, hnil2, hlr2⟩ := HR2.out.2 k hlt
      have C1 : ∀ w', Below w.heap.size w w' → w'.cell? ⟨b, o + k, none⟩ = some (.slice Ar Lr Cr) := fun w' h => (h.cell (lt_of_cell hc)).trans hc
      have C2 : ∀ w', Below w.heap.size w w' → w'.cell? ⟨b2, o2 + k, none⟩ = some (.slice Ar2 Lr2 Cr2) := fun w' h => (h.cell (lt_of_cell hc2)).trans hc2
      have c1 := C1 _ hbw
      have c2 := C2 _ hbw
      have HLen1 := Lib.hid hbs.1
      have HLen2 := Lib.hid hbs2.1
      by_cases h60 : 60 < (Lr : Int)
      · clear ho5 ho6
        go_wp2_with fail
        refine (live8_any _ (HT.out.below hbw)).mono ?_
        rintro e w9 ⟨rfl, hb9⟩
        have hbd9 := hbw.trans (hb9.mono hbw.size)
        go_wp2
        go_ret
        exact ⟨rfl, hbd9⟩
      by_cases h30 : 30 < (Lr2 : Int)
      · clear ho5 ho6
        go_wp2_with fail
        refine (live8_any _ (HT.out.below hbw)).mono ?_
        rintro e w9 ⟨rfl, hb9⟩
        have hbd9 := hbw.trans (hb9.mono hbw.size)
        go_wp2
        go_ret
        exact ⟨rfl, hbd9⟩
      have HL2 : Hid (∀ j, j < k + 1 → (R.getD j []).length ≤ 60 ∧ (R2.getD j []).length ≤ 30) := Lib.hid (fun j hj => by
        rcases Nat.lt_or_ge j k with h | h
        · exact HL.out j h
        · obtain rfl : j = k := by omega
          rw [HLen1.out, HLen2.out]; omega)
      obtain ⟨A50, c50, rfl⟩ := ho5.slice
      obtain ⟨A60, c60, rfl, _⟩ := own_slice ho6
      have hal := allz_len (R := R) (R2 := R2) k HL.out
      have HZ1 : Hid (allz R R2 (k + 1) = (allz R R2 k ++ R2.getD k []) ++ frm (R.getD k [])) := Lib.hid rfl
      have HP1 : Hid (plcs R R2 (k + 1) = plcs R R2 k ++ [((allz R R2 k ++ R2.getD k []).length : Int)]) := Lib.hid rfl
      have hpl : (allz R R2 k ++ R2.getD k []).length ≤ 1200 := by rw [List.length_append, HLen2.out]; omega
      have hfl : (frm (R.getD k [])).length ≤ 100 := by
        have := vsz_le ((R.getD k []).length : Int)
        rw [frm_length]
        have := HLen1.out
        omega
      have hiv : iv (plcs R R2 (k + 1)) = iv (plcs R R2 k) ++ [.int .i64 ((allz R R2 k ++ R2.getD k []).length : Int)] := by rw [HP1.out]; unfold iv; rw [List.map_append]; rfl
      have HIV := Lib.hid hiv
      clear hiv HP1
      generalize allz R R2 k = Z0 at *
      generalize iv (plcs R R2 k) = I0 at *
      generalize R.getD k [] = y at *
      generalize R2.getD k [] = y2 at *
      obtain ⟨P, hP⟩ : ∃ P, (Z0 ++ y2).length = P := ⟨_, rfl⟩
      obtain ⟨F, hF⟩ : ∃ F, (frm y).length = F := ⟨_, rfl⟩
      rw [hP] at HIV hpl
      rw [hF] at hfl
      have HPP := Lib.hid hP
      have HFF := Lib.hid hF
      have HO5 := Lib.hid ho5
      have HO6 := Lib.hid ho6
      have HBW := Lib.hid hbw
      have HZ0 : Hid (Z0.length + Lr2 ≤ 1000000) := Lib.hid (by omega)
      have HB1 := Lib.hid hbs
      have HBY1 := Lib.hid hby
      have HN1 := Lib.hid hnil
      have HN2 := Lib.hid hnil2
      have hbs2w := hbs2.below hbw
      clear hP hF ho5 ho6 hal hby hby2 hbs hbs2 hnil hnil2
      go_wp2_with (first
        | (at_builtin; (refine list_append_gr rfl (.tmp 44) (.tmp 48) rfl w.heap.size _ Z0 rfl HO5.out _ _ _ _ rfl hbs2w HN2.out HZ0.out HBW.out.size ?_; intro v5' w1 ho1 hg1 hgr1; have hb1 := Own.belowOf HBW.out HBW.out.size HO5.out hg1; have hp1 := own_ks HO6.out (Ks.of_grown (S := fun i => (Value.slice A50 Z0.length c50).ownBlock = some i) hg1 (fun k hk => hk)) (fun g hg e => own_ne_own HO6.out HO5.out (by decide) hg e); obtain ⟨A5, c5, hv5⟩ := ho1.slice; rw [HPP.out] at hv5; subst hv5; have hA1 := below_one w1 (.cells #[.int .i64 (P : Int)] 3); have hpA := own_below hp1 hA1; have h5A := ho1.below hA1; have hbA := hb1.trans (hA1.mono hb1.size); have hrwA := rw_new w1 [.int .i64 (P : Int)] 3; have c1' := C1 _ hb1; have HBA := Lib.hid hbA; have H5A := Lib.hid h5A; have HPA := Lib.hid hpA; clear c1 c2 hbs2w ho1 hg1 hgr1 hp1 hA1 hpA h5A hb1 hbA))
        | (at_builtin; go_must (refine list_append_rw kindI rfl (.tmp 50) (.tmp 53) rfl w.heap.size _ _ I0 rfl HPA.out _ 1 _ [.int .i64 (P : Int)] rfl rfl hrwA (by simp) (by simp [Value.oneCell']) (by omega) (by omega) HBA.out.size ?_; intro v6' w2 ho6' hg2 hgr2; have hk2 := Ks.of_grown (S := fun i => (Value.slice A60 k c60).ownBlock = some i) hg2 (fun k hk => hk); have hb2 := hk2.below HBA.out (Nat.le_refl _) (fun k hk => (World.ownsRow.lt HPA.out k hk).1); have h52 := own_ks H5A.out hk2 (fun g hg e => own_ne_own H5A.out HPA.out (by decide) hg e); have c1'' := C1 _ hb2; have HB2 := Lib.hid hb2; have H52 := Lib.hid h52; have H62 := Lib.hid ho6'; clear c1' hrwA ho6' hg2 hgr2 hk2 hb2 h52)))
      refine (rfbytes_any Ar Lr Cr y w2 (HB1.out.below (HB2.out)) HN1.out (by omega) HBY1.out).mono ?_
      rintro e w3 ⟨A7, m7, rfl, hb3, hbs7, hn7, _, _⟩
      rw [HFF.out] at hbs7 ⊢
      have HB3 := Lib.hid (HB2.out.trans (hb3.mono HB2.out.size))
      have H53 := Lib.hid (own_below H52.out hb3)
      have H63 := Lib.hid (own_below H62.out hb3)
      have HBD : Hid ((Z0 ++ y2).length + F ≤ 1000000) := Lib.hid (by rw [HPP.out]; omega)
      clear hb3 c1''
      go_wp2_with (at_builtin; go_must (refine list_append_gr rfl (.tmp 55) (.tmp 60) rfl w.heap.size _ (Z0 ++ y2) rfl H53.out _ _ _ _ rfl hbs7 hn7 HBD.out HB3.out.size ?_; intro v5'' w4 ho4 hg4 hgr4; have hk4 := Ks.of_grown (S := fun i => (Value.slice A5 P c5).ownBlock = some i) hg4 (fun k hk => hk); have HB4 := Lib.hid (Own.belowOf HB3.out HB3.out.size H53.out hg4); have H64 := Lib.hid (own_ks H63.out hk4 (fun g hg e => own_ne_own H63.out H53.out (by decide) hg e)); have H54 := Lib.hid ho4; clear ho4 hg4 hgr4 hk4 hbs7 hn7))
      go_roundw
      case rel => exact ⟨k + 1, by omega, by go_num, by rw [HZ1.out]; exact H54.out, by rw [HIV.out]; exact H64.out, HB4.out, HL2⟩
      case measure => simp [intOf]; omega
    · obtain rfl : k = n2 := by omega
      have hal := allz_len (R := R) (R2 := R2) k HL.out
      have HZB := Lib.hid (allz_byte HR.out HR2.out k (Nat.le_refl _) HL.out)
      have HFAS : Hid (∀ i, i < k → fas ((allz R R2 k).drop (plc R R2 i)) 60 = ((frm (R.getD i [])).length : Nat)) := Lib.hid (fun i hi => by
        obtain ⟨_, _, _, _, _, _, _, _, hb, _⟩ := HR.out.2 i hi
        exact allz_fas hi (HL.out i hi).1 hb)
      have HFL : Hid (∀ j, j ≤ k → (allz R R2 j).length ≤ (allz R R2 k).length) := Lib.hid (fun j hj => by
        obtain ⟨t, ht⟩ := allz_pre (R := R) (R2 := R2) hj
        rw [ht, List.length_append]; omega)
      obtain ⟨A5, c5, rfl⟩ := ho5.slice
      obtain ⟨_, _, h5e, hn5, _⟩ := own_slice ho5
      injection h5e with e1 e2 e3
      subst e1 e3
      clear e2
      obtain ⟨A6, c6, rfl, _⟩ := own_slice ho6
      have HRW := Lib.hid (own_rw ho6 rfl).2.2.2
      have HZ := Lib.hid ho5.bs.2
      have hcap := ho5.cap
      have HBW := Lib.hid hbw
      obtain ⟨Z, hZ⟩ : ∃ Z, allz R R2 k = Z := ⟨_, rfl⟩
      rw [hZ] at hal HZB HFAS HFL HZ hcap ⊢
      have HZE := Lib.hid hZ
      clear hZ ho5 ho6 hbw HL
      obtain ⟨wq, hwq⟩ : ∃ wq, wq = wr := ⟨_, rfl⟩
      subst hwq
      have C4 : Hid (∀ (w' : World) (P : Nat), Below wq.heap.size wq w' → P ≤ Z.length → Calls Tryd.prog 30 #[.slice A5 Z.length c5, .int .i64 P, .int .i64 60] w' fun e w'' => e = .returned (.int .i64 (rn Z 60 P)) ∧ Below w'.heap.size w' w'') := Lib.hid (fun w' P hb hP => rnext_any (P : Int) 60 P (HZ.out.below hb) HZB.out hn5 hcap (by omega) (by omega) (by omega))
      have C3 : Hid (∀ (w' : World), Below wq.heap.size wq w' → Calls Tryd.prog 31 #[.slice A5 Z.length c5, .int .i64 60] w' (SPost Z 60 w')) := Lib.hid (fun w' hb => fscan_any 60 (HZ.out.below hb) HZB.out (HT.out.below (HBW.out.trans (hb.mono HBW.out.size))) hcap (by omega))
      generalize Z.length = zl at *
      clear hcap
      go_wp2
      go_loopw [8, 9] (fun v8 v9 wx => ∃ j : Nat, j ≤ k ∧ v9 = .int .i64 j ∧ v8 = .int .i64 ((allz R R2 j).length : Nat) ∧ Below wq.heap.size wq wx ∧ Hid (∀ i, i < j → nx Z 60 (allz R R2 i).length = some (plc R R2 i))) (fun _ v9 _ => k - (intOf v9).toNat)
      case atStart => exact ⟨0, Nat.zero_le _, rfl, rfl, Below.refl _ _, Lib.hid (fun j hj => absurd hj (by omega))⟩
      case round =>
        obtain ⟨j, hj, rfl, rfl, hb, HNX⟩ := hrel
        by_cases hlt2 : j < k
        · obtain ⟨b, o, Ar, Lr, Cr, rfl, hc, hbs, hby, hnil, hlr⟩ := HR.out.2 j hlt2
          have hvi : (iv (plcs R R2 k))[j]? = some (.int .i64 (plc R R2 j : Int)) := by unfold iv; rw [List.getElem?_map, plcs_get hlt2]; rfl
          obtain ⟨g6, o6, rfl, hc6⟩ := Rw.at_ HRW.out hvi
          have C1 : ∀ w', Below wq.heap.size wq w' → w'.cell? ⟨b, o + j, none⟩ = some (.slice Ar Lr Cr) ∧ w'.cell? ⟨g6, o6 + j, none⟩ = some (.int .i64 (plc R R2 j : Int)) := fun w' h => ⟨((HBW.out.trans (h.mono HBW.out.size)).cell (lt_of_cell hc)).trans hc, (h.cell (lt_of_cell hc6)).trans hc6⟩
          have HCN : Hid (∀ w', Below wq.heap.size wq w' → _) := Lib.hid (fun w' h => C4.out w' (allz R R2 j).length h (HFL.out j (by omega)))
          have hnx1 := allz_next (R := R) (R2 := R2) j
          have hfl1 := HFL.out (j + 1) hlt2
          have HBS : Hid (∀ w', Below wq.heap.size wq w' → Bs w' Ar Lr (R.getD j [])) := Lib.hid (fun w' h => hbs.below (HBW.out.trans (h.mono HBW.out.size)))
          have hlr2 : (R.getD j []).length ≤ 60 ∨ True := .inr trivial
          have HLr : Hid (Lr ≤ 800000) := Lib.hid (by
            rw [hnx1, frm_length] at hfl1
            have := hbs.1
            omega)
          have HNil := Lib.hid hnil
          have HBy := Lib.hid hby
          rw [hnx1] at hfl1
          have HNX1 := Lib.hid hnx1
          have HS : Hid (∀ i, rn Z 60 (allz R R2 j).length = (plc R R2 j : Int) → i < j + 1 → nx Z 60 (allz R R2 i).length = some (plc R R2 i)) := Lib.hid (fun i hr hi => by
            rcases Nat.lt_or_ge i j with h | h
            · exact HNX.out i h
            · obtain rfl : i = j := by omega
              unfold rn at hr
              split at hr
              · rename_i q hq
                rw [hq]
                congr 1
                omega
              · omega)
          clear hc hbs hby hnil hvi hc6 hnx1 hlr2 hlr
          obtain ⟨pj, hpj⟩ : ∃ pj, plc R R2 j = pj := ⟨_, rfl⟩
          obtain ⟨r, hr⟩ : ∃ r, rn Z 60 (allz R R2 j).length = r := ⟨_, rfl⟩
          obtain ⟨F, hF⟩ : ∃ F, (frm (R.getD j [])).length = F := ⟨_, rfl⟩
          rw [hF] at hfl1 HNX1
          rw [hpj] at hfl1 HNX1 C1
          rw [hr] at HCN
          rw [hr] at HS
          have HPJ := Lib.hid hpj
          have HFF := Lib.hid hF
          have e2 : Hid (IntKind.i64.wrap ((pj : Int) + F) = (((allz R R2 (j + 1)).length : Nat) : Int)) := Lib.hid (by rw [HNX1.out, IntWalk.i64_in _ (by omega)]; push_cast; rfl)
          clear hpj hF hr hfl1
          have hji : (j : Int) < k := by omega
          by_cases hq : r = (pj : Int)
          · subst hq
            go_wp2
            have hS := hb.drew
            clear hb
            refine Seq.wp_region_seq (fun w' => Below wq.heap.size wq w') (by kernel_rfl) (by kernel_rfl) hS ?_
            generalize wr.drew = wd at *
            repeat (first | (refine Seq.Seq.skip (by rfl) ?_; (try simp only [Act.put, List.setIfInBounds_toArray, List.set_cons_zero, List.set_cons_succ])) | (refine Seq.Seq.det ?_ (by rfl) (fun w hS => ?_) ?_; rotate_left; ((try dsimp only at hS); go_simp; (try rw [if_pos (by omega)]); with_reducible rfl); (try simp only [Act.put, List.setIfInBounds_toArray, List.set_cons_zero, List.set_cons_succ])))
            refine Seq.Seq.make (by rfl) (by rfl) (fun K Q' hK => ?_)
            go_simp
            go_at_call 30
            refine (HCN.out _ hS).mono ?_
            rintro e w4 ⟨rfl, hb4⟩
            have hS4 := hS.trans (hb4.mono hS.size)
            refine hK.out _ _ (hS4) ?_
            clear hK K
            try simp only [Act.put, List.setIfInBounds_toArray, List.set_cons_zero, List.set_cons_succ]
            repeat (first | (refine Seq.Seq.skip (by rfl) ?_; (try simp only [Act.put, List.setIfInBounds_toArray, List.set_cons_zero, List.set_cons_succ])) | (refine Seq.Seq.det ?_ (by rfl) (fun w hS => ?_) ?_; rotate_left; ((try dsimp only at hS); go_simp; (try rw [if_pos (by omega)]); with_reducible rfl); (try simp only [Act.put, List.setIfInBounds_toArray, List.set_cons_zero, List.set_cons_succ])))
            refine Seq.Seq.nil ?_
            clear hS hb4
            go_wp2
            have hS := hS4.drew
            clear hS4
            refine Seq.wp_region_seq (fun w' => Below wq.heap.size wq w') (by kernel_rfl) (by kernel_rfl) hS ?_
            generalize w4.drew = wd4 at *
            repeat (first | (refine Seq.Seq.skip (by rfl) ?_; (try simp only [Act.put, List.setIfInBounds_toArray, List.set_cons_zero, List.set_cons_succ])) | (refine Seq.Seq.det ?_ (by rfl) (fun w hS => ?_) ?_; rotate_left; ((try dsimp only at hS); go_simp; (try rw [if_pos (by omega)]); with_reducible rfl); (try simp only [Act.put, List.setIfInBounds_toArray, List.set_cons_zero, List.set_cons_succ])))
            refine Seq.Seq.make (by rfl) (by rfl) (fun K Q' hK => ?_)
            go_simp
            go_at_call 17
            refine (rfbytes_any Ar Lr Cr (R.getD j []) _ (HBS.out _ hS) HNil.out HLr.out HBy.out).mono ?_
            rintro e w5 ⟨A7, m7, rfl, hb5, _, _, _, _⟩
            rw [HFF.out]
            have hS5 := hS.trans (hb5.mono hS.size)
            refine hK.out _ _ (hS5) ?_
            clear hK K
            try simp only [Act.put, List.setIfInBounds_toArray, List.set_cons_zero, List.set_cons_succ]
            repeat (first | (refine Seq.Seq.skip (by rfl) ?_; (try simp only [Act.put, List.setIfInBounds_toArray, List.set_cons_zero, List.set_cons_succ])) | (refine Seq.Seq.det ?_ (by rfl) (fun w hS => ?_) ?_; rotate_left; ((try dsimp only at hS); go_simp; (try rw [if_pos (by omega)]); with_reducible rfl); (try simp only [Act.put, List.setIfInBounds_toArray, List.set_cons_zero, List.set_cons_succ])))
            refine Seq.Seq.nil ?_
            have HS5 := Lib.hid hS5
            clear hS hb5 hS5 C1
            go_wp2
            go_roundw
            case rel => exact ⟨j + 1, hlt2, by go_num, by rw [e2.out], HS5.out, Lib.hid (fun i hi => HS.out i (by rw [HPJ.out]) hi)⟩
            case measure => simp [intOf]; omega
          · have d1 : (r == (pj : Int)) = false := by simpa using hq
            clear hq
            go_wp2
            have hS := hb.drew
            clear hb
            refine Seq.wp_region_seq (fun w' => Below wq.heap.size wq w') (by kernel_rfl) (by kernel_rfl) hS ?_
            generalize wr.drew = wd at *
            repeat (first | (refine Seq.Seq.skip (by rfl) ?_; (try simp only [Act.put, List.setIfInBounds_toArray, List.set_cons_zero, List.set_cons_succ])) | (refine Seq.Seq.det ?_ (by rfl) (fun w hS => ?_) ?_; rotate_left; ((try dsimp only at hS); go_simp; (try rw [if_pos (by omega)]); with_reducible rfl); (try simp only [Act.put, List.setIfInBounds_toArray, List.set_cons_zero, List.set_cons_succ])))
            refine Seq.Seq.make (by rfl) (by rfl) (fun K Q' hK => ?_)
            go_simp
            go_at_call 30
            refine (HCN.out _ hS).mono ?_
            rintro e w4 ⟨rfl, hb4⟩
            have hS4 := hS.trans (hb4.mono hS.size)
            refine hK.out _ _ (hS4) ?_
            clear hK K
            try simp only [Act.put, List.setIfInBounds_toArray, List.set_cons_zero, List.set_cons_succ]
            repeat (first | (refine Seq.Seq.skip (by rfl) ?_; (try simp only [Act.put, List.setIfInBounds_toArray, List.set_cons_zero, List.set_cons_succ])) | (refine Seq.Seq.det ?_ (by rfl) (fun w hS => ?_) ?_; rotate_left; ((try dsimp only at hS); go_simp; (try rw [if_pos (by omega)]); with_reducible rfl); (try simp only [Act.put, List.setIfInBounds_toArray, List.set_cons_zero, List.set_cons_succ])))
            refine Seq.Seq.nil ?_
            have hbx := HBW.out.trans (hS4.mono HBW.out.size)
            clear hS hb4 hS4 C1
            go_wp2_with fail
            refine (live8_any _ (HT.out.below hbx)).mono ?_
            rintro e w9 ⟨rfl, hb9⟩
            have hbd9 := hbx.trans (hb9.mono hbx.size)
            go_wp2
            go_ret
            exact ⟨rfl, hbd9⟩
        · obtain rfl : j = k := by omega
          have hscan := C3.out _ hb
          have hbq := HBW.out.trans (hb.mono HBW.out.size)
          go_wp2_with fail
          with_reducible refine hscan.mono ?_
          rintro e w5 ⟨v, L, p, rfl, hoL, hb5, hpth, hend⟩
          obtain ⟨hLl, hLg⟩ := found (R := R) (R2 := R2) (n := j) (by rw [HZE.out]; exact HNX.out) (by rw [HZE.out]; exact HFAS.out) (p := p) (by rw [HZE.out]; exact hend) L 0 (Nat.zero_le _) (by rw [HZE.out]; exact hpth)
          rw [Nat.add_zero] at hLl
          obtain ⟨AL, cL, rfl, _⟩ := own_slice hoL
          have hbL := (own_rw hoL rfl).2.2.2
          have hbd5 := hbq.trans (hb5.mono hbq.size)
          have hrw6 := HRW.out.below (hb.trans (hb5.mono hb.size))
          have HRL := Lib.hid hbL
          have HR6 := Lib.hid hrw6
          have HLG : Hid (∀ i, i < j → (iv L)[i]? = some (.int .i64 (plc R R2 i : Int)) ∧ (iv (plcs R R2 j))[i]? = some (.int .i64 (plc R R2 i : Int))) := Lib.hid (fun i hi => by
            have h1 := hLg i (by omega)
            rw [Nat.zero_add] at h1
            unfold iv
            rw [List.getElem?_map, List.getElem?_map, h1, plcs_get hi]
            exact ⟨rfl, rfl⟩)
          have HB5 := Lib.hid hbd5
          rw [hLl]
          clear hscan hbq hoL hb5 hpth hend hLg hbL hrw6 hbd5 hLl hb
          go_wp2
          go_loopw [11] (fun v11 wy => ∃ i : Nat, i ≤ j ∧ v11 = .int .i64 i ∧ Below w5.heap.size w5 wy) (fun v11 _ => j - (intOf v11).toNat)
          case atStart => exact ⟨0, Nat.zero_le _, rfl, Below.refl _ _⟩
          case round =>
            obtain ⟨i, hi, rfl, hb⟩ := hrel
            by_cases hlt3 : i < j
            · obtain ⟨hv1, hv2⟩ := HLG.out i hlt3
              obtain ⟨gL, oL, rfl, hcL⟩ := Rw.at_ HRL.out hv1
              obtain ⟨g6, o6, rfl, hc6⟩ := Rw.at_ HR6.out hv2
              have C1 : ∀ w', Below w5.heap.size w5 w' → w'.cell? ⟨gL, oL + i, none⟩ = some (.int .i64 (plc R R2 i : Int)) ∧ w'.cell? ⟨g6, o6 + i, none⟩ = some (.int .i64 (plc R R2 i : Int)) := fun w' h => ⟨(h.cell (lt_of_cell hcL)).trans hcL, (h.cell (lt_of_cell hc6)).trans hc6⟩
              clear hv1 hv2 hcL hc6
              generalize plc R R2 i = pi at *
              have hii : (i : Int) < j := by omega
              go_wp2
              have hS := hb.drew
              clear hb
              refine Seq.wp_region_seq (fun w' => Below w5.heap.size w5 w') (by kernel_rfl) (by kernel_rfl) hS ?_
              generalize wr.drew = wd at *
              repeat (first | (refine Seq.Seq.skip (by rfl) ?_; (try simp only [Act.put, List.setIfInBounds_toArray, List.set_cons_zero, List.set_cons_succ])) | (refine Seq.Seq.det ?_ (by rfl) (fun w hS => ?_) ?_; rotate_left; ((try dsimp only at hS); go_simp; (try rw [if_pos (by omega)]); with_reducible rfl); (try simp only [Act.put, List.setIfInBounds_toArray, List.set_cons_zero, List.set_cons_succ])))
              refine Seq.Seq.nil ?_
              have HSS := Lib.hid hS
              clear hS C1
              go_wp2
              go_roundw
              case rel => exact ⟨i + 1, hlt3, by go_num, HSS.out⟩
              case measure => simp [intOf]; omega
            · obtain rfl : i = j := by omega
              have hbx := HB5.out.trans (hb.mono HB5.out.size)
              clear hb
              go_wp2_with fail
              refine (live8_any _ (HT.out.below hbx)).mono ?_
              rintro e w9 ⟨rfl, hb9⟩
              have hbd9 := hbx.trans (hb9.mono hbx.size)
              go_wp2
              go_ret
              exact ⟨rfl, hbd9⟩

theorem tabs_of {W : World} (h : laidMetH Tryd.prog Rows.frameFindsRow.laid W) : Tbs W := by
  rw [MakeChecks.laidMetH_plain _ _ _ (by kernel_rfl)] at h
  exact tbs_of_laid h
theorem door_met (os : Os) (args : Array Value) : laidMetH Tryd.prog Rows.frameFindsRow.laid ((World.doorLaid Tryd.prog 4000 os).forCall (fun _ _ => 0) ⟨#[], args, []⟩).memory :=
  laidMetH_of_parts3 (fuel := 8) (laidMet_of_run' 8 (by kernel_rfl) (by kernel_rfl)) (by kernel_rfl) (by kernel_rfl)
set_option maxRecDepth 100000 in
theorem lifted (os : Os) (started : os.Started) (H : Type) (enc : TypeId × Value → H) :
    ReturnsInHanded {} Tryd.checked os 8 .any (fun w args => (Rows.frameFindsSpec.pre enc Tryd.prog Tryd.f8 [] false w args ∧ laidMetH Tryd.prog Rows.frameFindsRow.laid w) ∧ sizedMet enc Tryd.prog Tryd.f8 (OpenSpec.ofChange Rows.frameFindsSpec) false w args)
      (Rows.frameFindsSpec.post enc Tryd.prog Tryd.f8 false true false false) := by
  refine returnsInHanded_of_change_and (C := Tryd.checked) (X := fun w _ => laidMetH Tryd.prog Rows.frameFindsRow.laid w) (fun _ _ _ hh h => h.of_heap hh) own started (by kernel_rfl) Tryd.func8
    (ChangeSpec.witness_shaped (enc := enc) (C := Tryd.checked) (os := os) (X := fun w _ => laidMetH Tryd.prog Rows.frameFindsRow.laid w) false (World.doorLaid Tryd.prog 4000 os) #[.slice none 0 0, .slice none 0 0] 8 rfl (World.shaped_of_RefB (by kernel_rfl) (by kernel_rfl)) (by kernel_rfl) (by kernel_rfl) (by kernel_rfl) (door_met os _)) ?_
  intro W base args ds gs before hval0 hW _ _ hL _
  have hval : ∀ (j : Nat) t v, Tryd.f8.params[j]? = some t → args[j]? = some v → Value.okWide Tryd.prog W .any base t v := hval0
  have hW' := hW
  obtain ⟨p, q, hA0, hV, rfl, hfz, hnd⟩ := hW
  have hA : DataW.TrodAll enc Tryd.prog W 0 (fun _ => true) true Tryd.f8.params.toList args.toList ds p := hA0
  rw [Tryd.params8] at hA hval
  obtain ⟨v0, vs0, d0, ds0, p0, q0, hargs, rfl, rfl, h0, r0⟩ := trodAll_cons hA
  obtain ⟨v1, vs1, d1, ds1, p1, q1, rfl, rfl, rfl, h1, r1⟩ := trodAll_cons r0
  obtain ⟨rfl, rfl, rfl⟩ := trodAll_nil r1
  obtain rfl : args = #[v0, v1] := by cases args; simp_all
  obtain ⟨rfl, rfl⟩ := trodVars_none hV
  have lt0 : ∀ x ∈ p0, x.block < W.heap.size := by obtain ⟨m, hm⟩ := h0; exact DataW.trod_lt m _ _ _ hm
  have lt1 : ∀ x ∈ p1, x.block < W.heap.size := by obtain ⟨m, hm⟩ := h1; exact DataW.trod_lt m _ _ _ hm
  clear hA0 hval0
  refine (walk enc W (tabs_of hL) base v0 d0 p0 (hval 0 64 v0 rfl rfl) h0 v1 d1 p1 (hval 1 64 v1 rfl rfl) h1).mono fun e W' ⟨he, bel⟩ => ?_
  subst he
  exact ⟨_, rfl, _, _, _, [], _, [], hW', trodAll_mk1 (shut_bool Tryd.underlying4 _), (trodAll_cons_mk (Below.trod laidOut (by kernel_rfl) (of_decide_eq_true (by kernel_rfl)) h0 bel lt0) (trodAll_cons_mk (Below.trod laidOut (by kernel_rfl) (of_decide_eq_true (by kernel_rfl)) h1 bel lt1) trodAll_mk0)), rfl, bel.frame _, fun h => by cases h⟩

theorem over : Rows.FrameFindsSaid :=
  OpenClaim.holds_of_wide 8 Tryd.f8 rfl rfl rfl rfl rfl rfl rfl ⟨rfl, rfl, rfl, rfl, rfl⟩ rfl rfl rfl rfl rfl (by kernel_rfl) Tryd.func8 (by kernel_rfl)
    (of_decide_eq_true (by kernel_rfl)) (by unfold Func.isWrapper; first | (rw [if_pos (by decide +kernel)]; kernel_rfl) | (rw [if_neg (by decide +kernel)]; exact ⟨rfl, rfl⟩))
    (fun os started H enc _ => lifted os started H enc)

/-- THE TIED CARD. -/
theorem proved : Rows.FrameFindsCardSaid :=
  Claim7.holds_tied_plain_at .later [] [.data, .data] true Rows.frameFindsCard.stood.harness Rows.frameFindsCard.stood.looks
    over (fun _ h => by cases h) (by kernel_rfl) (fun _ h => by cases h) frameFinds_row_tie rfl ⟨rfl, rfl⟩ (by kernel_rfl) rfl
    (fun f fn hf hfn => by
      obtain rfl : f = 8 := Option.some.inj ((show Tryd.prog.funcNamed "tholepin/tholepinlaw08.FrameFinds" = some 8 by kernel_rfl).symm.trans hf) |>.symm
      obtain rfl : fn = Tryd.f8 := (Option.some.inj (Tryd.func8.symm.trans hfn)).symm
      exact ⟨by kernel_rfl, fun j t ht => by
        rw [Tryd.params8] at ht
        have hm : t ∈ [64, 64] := by simpa using Array.mem_of_getElem? ht
        have hall : ([64, 64].all fun u => !Tryd.prog.wantsStandIn u) = true := by kernel_rfl
        exact (show Tryd.prog.wantsStandIn t = false by simpa using List.all_eq_true.1 hall t hm)⟩)
    (by kernel_rfl)
#print axioms proved
end Go.Proofs.YtncomjeidlahlaaDoor.frameFinds
