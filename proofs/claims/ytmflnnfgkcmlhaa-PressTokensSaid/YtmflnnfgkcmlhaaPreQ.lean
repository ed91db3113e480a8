/- Greedy compression: a text's tokens as a value; Bytes, Runs, Saves; the document's Bytes; the document's example. -/
import Derived.Test.YtmflnnfgkcmlhaaPreP
import Derived.Test.YtmflnnfgkcmlhaaK12
namespace Go.Proofs.Ytmflnnfgkcmlhaa.Cur
open Go.RowKit Go.Shelf Mem
attribute [local go_sem] Oper.semAt_some
set_option linter.unusedVariables false
set_option maxRecDepth 100000

/-- The tokens of a text. -/
def gtf (z : List Int) : Nat → Nat → List Tk → Nat → List Tk
  | 0, a, L, b => Gfin z a L b
  | k + 1, a, L, b => if a < z.length then if bn z a = 0 then gtf z k (a + 1) L b else gtf z k (a + (bn z a).toNat) (Gfin z a L b ++ [([], bo z a, bn z a)]) (a + (bn z a).toNat) else Gfin z a L b
def gtk (z : List Int) : List Tk := gtf z z.length 0 [] 0
theorem gtf_is {z : List Int} : ∀ (k a : Nat) (L : List Tk) (b : Nat), Gpd z a L b → z.length - a ≤ k → ∃ p, Gth z 0 false (gtf z k a L b) z.length p
  | 0, a, L, b, h, hk => by
    obtain ⟨p, hp, _⟩ := h.fin
    have := h.2.2.1
    obtain rfl : a = z.length := by omega
    exact ⟨p, hp⟩
  | k + 1, a, L, b, h, hk => by
    rw [gtf]
    split
    · rename_i hlt
      split
      · rename_i h0
        exact gtf_is k (a + 1) L b (h.lit hlt h0) (by omega)
      · rename_i h0
        obtain ⟨p, l, _, e2, _, _, h4, _⟩ := best_good h0
        exact gtf_is k _ _ _ (h.copy hlt h0) (by omega)
    · rename_i hlt
      obtain ⟨p, hp, _⟩ := h.fin
      have := h.2.2.1
      obtain rfl : a = z.length := by omega
      exact ⟨p, hp⟩
theorem gtk_is (z : List Int) : ∃ p, Gth z 0 false (gtk z) z.length p := gtf_is _ _ _ _ (Gpd.start z) (by omega)
theorem gtk_of {z : List Int} {T : List Tk} {p : Bool} (h : Gth z 0 false T z.length p) : T = gtk z := by
  obtain ⟨q, hq⟩ := gtk_is z
  exact gth_once h hq
/-- What a token of a text is. -/
theorem gst_right {z : List Int} {a b : Nat} {pr pb : Bool} {t : Tk} (hz : z.length ≤ 1000000) (hby : ∀ x ∈ z, 0 ≤ x ∧ x < 256) (h : Gst z a pr t b pb) : tright t = true ∧ tkok t ∧ t.1.length ≤ b - a := by
  have hl := gst_lt h
  rcases h with ⟨_, _, h1, h2, rfl, _⟩ | ⟨_, h1, h2, rfl, rfl⟩
  · have hpl : (piece z a b).length = b - a := length_piece rfl h2
    have hr : trun (piece z a b).length 0 0 = true := by unfold trun; rw [decide_eq_true_eq, hpl]; omega
    refine ⟨by unfold tright; simp only; rw [hr, Bool.true_or], ⟨fun x hx => hby x (List.mem_of_mem_drop (List.mem_of_mem_take hx)), by simp only; omega, by simp only; omega⟩, by simp only; omega⟩
  · obtain ⟨q, l, e1, e2, h3, h4, h5, h6, _⟩ := best_good h2
    have hr : tcpy 0 (bo z a) (bn z a) = true := by unfold tcpy; exact decide_eq_true (by omega)
    refine ⟨by unfold tright; simp only [List.length_nil]; rw [hr, Bool.or_true], ⟨fun x hx => absurd hx (by simp), by simp only; omega, by simp only; omega⟩, by simp⟩
theorem gth_right {z : List Int} (hz : z.length ≤ 1000000) (hby : ∀ x ∈ z, 0 ≤ x ∧ x < 256) {c : Nat} {pc : Bool} : ∀ {T : List Tk} {a : Nat} {pr : Bool}, Gth z a pr T c pc → (∀ t ∈ T, tright t = true ∧ tkok t ∧ t.1.length ≤ z.length) ∧ (tcat T).length ≤ 21 * (c - a)
  | [], a, pr, _ => ⟨fun t h => absurd h (by simp), by simp [tcat]⟩
  | t :: T, a, pr, ⟨b, pb, h1, h2⟩ => by
    obtain ⟨g1, g2, g3⟩ := gst_right hz hby h1
    obtain ⟨k1, k2⟩ := gth_right hz hby h2
    have hl := gst_lt h1
    have hle := gth_le h2
    refine ⟨fun s hs => ?_, ?_⟩
    · rcases List.mem_cons.1 hs with rfl | hs
      · exact ⟨g1, g2, by omega⟩
      · exact k1 s hs
    · have e : tcat (t :: T) = tby t ++ tcat T := by unfold tcat; rw [List.map_cons, List.flatten_cons]
      have := tby_le (t := t)
      rw [e, List.length_append]
      omega
theorem gtk_right {z : List Int} (hz : z.length ≤ 1000000) (hby : ∀ x ∈ z, 0 ≤ x ∧ x < 256) : (∀ t ∈ gtk z, tright t = true ∧ tkok t ∧ t.1.length ≤ z.length) ∧ (tcat (gtk z)).length ≤ 21 * z.length ∧ (gtk z).length ≤ z.length := by
  obtain ⟨p, hp⟩ := gtk_is z
  have h := gth_right hz hby hp
  have hl := gth_le hp
  exact ⟨h.1, by have := h.2; omega, by omega⟩
/-- A text, compressed. -/
def cps (z : List Int) : List Int := tcat (gtk z)
theorem gtk_lit {z : List Int} (hz : z.length ≤ 1000000) (hby : ∀ x ∈ z, 0 ≤ x ∧ x < 256) (i : Nat) : ((gtk z).getD i tk0).1.length ≤ z.length ∧ (i < (gtk z).length → tright ((gtk z).getD i tk0) = true) := by
  have h := (gtk_right hz hby).1
  by_cases hi : i < (gtk z).length
  · rw [List.getD_eq_getElem?_getD, List.getElem?_eq_getElem hi]
    have := h _ (List.getElem_mem hi)
    exact ⟨this.2.2, fun _ => this.1⟩
  · rw [List.getD_eq_getElem?_getD, List.getElem?_eq_none (by omega)]
    exact ⟨Nat.zero_le _, fun h => absurd h hi⟩
theorem cps_len {z : List Int} (hz : z.length ≤ 1000000) (hby : ∀ x ∈ z, 0 ≤ x ∧ x < 256) : (cps z).length ≤ 21 * z.length := (gtk_right hz hby).2.1
theorem cps_byte {z : List Int} (hz : z.length ≤ 1000000) (hby : ∀ x ∈ z, 0 ≤ x ∧ x < 256) : ∀ x ∈ cps z, 0 ≤ x ∧ x < 256 := tcat_byte (fun t ht => ((gtk_right hz hby).1 t ht).2.1) (fun t ht => ((gtk_right hz hby).1 t ht).1)
theorem tbs_gtk (z : List Int) : tbs (gtk z) (gtk z).length = cps z := tbs_tcat _

/-! ### The calls -/
def PBytesPost (z : List Int) (w : World) (e : Ending) (w' : World) : Prop :=
  ∃ A n m, e = .returned (.tuple #[.slice A n m, .int .i64 0]) ∧ Below w.heap.size w w' ∧ Bs w' A n (cps z) ∧ n ≤ m ∧ (A = none → m = 0)
set_option maxHeartbeats 2000000 in
theorem pbytes_any {w : World} {A : Option Addr} {n m : Nat} {z : List Int} (hz : Bs w A n z) (hby : ∀ x ∈ z, 0 ≤ x ∧ x < 256) (hm : n ≤ m) (hn : n ≤ 10000) : Calls Try.prog 10 #[.slice A n m] w (PBytesPost z w) := by
  have hT := ptokens_any (m := m) hz hby hm (by omega)
  have hzl := hz.1
  have hr := gtk_right (z := z) (by omega) hby
  have HR := Lib.hid hr
  have HL := Lib.hid (fun i => (gtk_lit (z := z) (by omega) hby i).1)
  have HALL := Lib.hid (tall_all (T := gtk z) (fun t ht => (hr.1 t ht).1) (gtk z).length (Nat.le_refl _))
  have HB := Lib.hid (tbs_gtk z)
  have HCL := Lib.hid (cps_len (z := z) (by omega) hby)
  clear hz hby hr
  go_enter Try.func10, Try.ntmps10
  go_wp2_with fail
  with_reducible refine hT.mono ?_
  rintro e w1 ⟨v, L, p, rfl, hL, hp, hb1⟩
  obtain rfl := gtk_of hp
  obtain ⟨A1, c1, rfl⟩ := hL.slice
  obtain ⟨_, h2, h3, hT1⟩ := hL.tks
  have hTB := tbytes_any A1 (gtk z).length c1 (gtk z) w1 hT1 (by have := HR.out.2.2; omega) (by rw [HB.out]; have := HCL.out; omega) (fun i => by have := HL.out i; omega)
  unfold TBPost at hTB
  rw [HALL.out, if_pos rfl, if_pos rfl, HB.out] at hTB
  have HBD := Lib.hid hb1
  clear hT hp hL hT1 hb1
  generalize (gtk z).length = k at *
  go_wp2_with fail
  with_reducible refine hTB.mono ?_
  rintro e w2 ⟨A2, n2, m2, rfl, hb2, hbs, _, hm2, hA2⟩
  have HB2 := Lib.hid hb2
  clear hTB hb2
  go_wp2
  go_ret2
  exact ⟨A2, n2, m2, rfl, HBD.out.trans (HB2.out.mono HBD.out.size), hbs, hm2, hA2⟩

def PRunsPost (z : List Int) (w : World) (e : Ending) (w' : World) : Prop :=
  ∃ v, e = .returned (.tuple #[v, .int .i64 0]) ∧ TkOwn w' w.heap.size v (rn1 z) ∧ Below w.heap.size w w'
set_option maxHeartbeats 2000000 in
theorem pruns_any {w : World} {A : Option Addr} {n m : Nat} {z : List Int} (hz : Bs w A n z) (hn : n ≤ 60000) : Calls Try.prog 11 #[.slice A n m] w (PRunsPost z w) := by
  have hR := prun_any (B := w.heap.size) (m := m) (TkOwn.nil w w.heap.size) hz (by omega) (by simp) (Nat.le_refl _)
  unfold PRunPost at hR
  rw [List.nil_append] at hR
  clear hz
  go_enter Try.func11, Try.ntmps11
  go_wp2_with fail
  refine (toolong_any (w := _) A n m hn).mono ?_
  rintro e w0 ⟨rfl, rfl⟩
  go_wp2_with fail
  with_reducible refine hR.mono ?_
  rintro e w1 ⟨v, rfl, hT, hk, _⟩
  have HT := Lib.hid hT
  have HK := Lib.hid hk
  obtain ⟨A1, c1, rfl⟩ := hT.slice
  clear hR hT hk
  go_wp2
  go_ret2
  exact ⟨_, rfl, HT.out, HK.out.below (Below.refl _ _) (Nat.le_refl _) (by rintro k hk; simp [Value.ownBlock] at hk)⟩

def PSavesPost (z : List Int) (w : World) (e : Ending) (w' : World) : Prop := e = .returned (.int .i64 ((z.length : Int) - ((cps z).length : Int))) ∧ Below w.heap.size w w'
set_option maxHeartbeats 2000000 in
theorem psaves_any {w : World} {A : Option Addr} {n m : Nat} {z : List Int} (hz : Bs w A n z) (hby : ∀ x ∈ z, 0 ≤ x ∧ x < 256) (hm : n ≤ m) (hn : n ≤ 10000) : Calls Try.prog 17 #[.slice A n m] w (PSavesPost z w) := by
  unfold PSavesPost
  have hB := pbytes_any (m := m) hz hby hm hn
  have hzl := hz.1
  have hl := cps_len (z := z) (by omega) hby
  rw [hzl] at hl ⊢
  have HZ : Hid (z.length = n) := Lib.hid hzl
  clear hz hby hzl
  go_enter Try.func17, Try.ntmps17
  go_wp2_with fail
  with_reducible refine hB.mono ?_
  rintro e w1 ⟨A1, n1, m1, rfl, hb1, hbs, _⟩
  have h1 : (cps z).length = n1 := hbs.1
  rw [h1] at hl
  have HC := Lib.hid h1
  have HB1 := Lib.hid hb1
  clear hB hbs h1 hb1
  have e1 : IntKind.i64.wrap ((n : Int) - (n1 : Int)) = (n : Int) - n1 := IntWalk.i64_in _ (by omega)
  go_wp2
  go_ret
  exact ⟨by rw [HC.out]; rfl, HB1.out⟩

def RB15Post (z : List Int) (w : World) (e : Ending) (w' : World) : Prop :=
  ∃ A n m, e = .returned (.slice A n m) ∧ Below w.heap.size w w' ∧ Bs w' A n (cps z) ∧ (A = none → m = 0)
theorem r15bytes_any {w : World} {A : Option Addr} {n m : Nat} {z : List Int} (hz : Bs w A n z) (hby : ∀ x ∈ z, 0 ≤ x ∧ x < 256) (hm : n ≤ m) (hn : n ≤ 10000) : Calls Try.prog 22 #[.slice A n m] w (RB15Post z w) := by
  have hT := rtokens15_any (m := m) hz hby hm (by omega)
  have hzl := hz.1
  have hr := gtk_right (z := z) (by omega) hby
  have HR := Lib.hid hr
  have HL := Lib.hid (fun i => (gtk_lit (z := z) (by omega) hby i).2)
  have HB := Lib.hid (tbs_gtk z)
  have HCL := Lib.hid (cps_len (z := z) (by omega) hby)
  clear hz hby hr
  go_enter Try.func22, Try.ntmps22
  go_wp2_with fail
  with_reducible refine hT.mono ?_
  rintro e w1 ⟨v, L, p, rfl, hL, hp, hb1⟩
  obtain rfl := gtk_of hp
  obtain ⟨A1, c1, rfl⟩ := hL.slice
  obtain ⟨_, h2, h3, hT1⟩ := hL.tks
  have hTB := rtbytes_any A1 (gtk z).length c1 (gtk z) w1 hT1 HL.out (by have := HR.out.2.2; omega) (by rw [HB.out]; have := HCL.out; omega)
  rw [HB.out] at hTB
  have HBD := Lib.hid hb1
  clear hT hp hL hT1 hb1
  generalize (gtk z).length = k at *
  go_wp2_with fail
  with_reducible refine hTB.mono ?_
  rintro e w2 ⟨A2, m2, rfl, hb2, hbs, hA2, _⟩
  have HB2 := Lib.hid hb2
  clear hTB hb2
  go_wp2
  go_ret
  exact ⟨A2, _, m2, rfl, HBD.out.trans (HB2.out.mono HBD.out.size), hbs, hA2⟩

/-! ### The document's example -/
abbrev z15 : List Int := [97, 98, 99, 97, 98, 99, 97, 98, 99, 100]
def T15 : List Tk := [([97, 98, 99], 0, 0), ([], 3, 6), ([100], 0, 0)]
theorem z15_by : ∀ x ∈ z15, 0 ≤ x ∧ x < 256 := by decide
theorem t15_is : gtk z15 = T15 := by decide +kernel
set_option maxHeartbeats 2000000 in
theorem live15_any (w : World) : Calls Try.prog 8 #[] w (BPost (.bool true) w) := by
  unfold BPost
  have hcv := Go.Joins.run_convert_bytes_const_at (P := Try.prog) w 22 5 #[.int .u8 97, .int .u8 98, .int .u8 99, .int .u8 97, .int .u8 98, .int .u8 99, .int .u8 97, .int .u8 98, .int .u8 99, .int .u8 100] 10 10 w.heap.size rfl Try.underlying22 Try.underlying5
  have hbs : Bs (w.alloc (.cells #[.int .u8 97, .int .u8 98, .int .u8 99, .int .u8 97, .int .u8 98, .int .u8 99, .int .u8 97, .int .u8 98, .int .u8 99, .int .u8 100] 5 (10, 11))) (some ⟨w.heap.size, 0, none⟩) 10 z15 := bs_mark w z15 5 (10, 11)
  have hb0 := below_one w (.cells #[.int .u8 97, .int .u8 98, .int .u8 99, .int .u8 97, .int .u8 98, .int .u8 99, .int .u8 97, .int .u8 98, .int .u8 99, .int .u8 100] 5 (10, 11))
  have hT := ptokens_any (m := 10) hbs z15_by (by omega) (by omega)
  clear hbs
  go_enter Try.func8, Try.ntmps8
  go_wp2_with fail
  with_reducible refine hT.mono ?_
  rintro e w1 ⟨v, L, p, rfl, hL, hp, hb1⟩
  obtain rfl := gtk_of hp
  rw [t15_is] at hL
  obtain ⟨A1, c1, rfl⟩ := hL.slice
  obtain ⟨_, h2, h3, _, hT1⟩ := hL.tks
  obtain ⟨b1, o1, Ar, Lr, Cr, rfl, ⟨_, k1, k2, _⟩, _⟩ := hT1 1 (by decide)
  obtain ⟨b2, o2, Ar2, Lr2, Cr2, e2, ⟨k3, _, _, hlit⟩, _⟩ := hT1 2 (by decide)
  injection e2 with e2
  injection e2 with e2 e3
  subst e2 e3
  have hlit : Bs w1 Ar2 Lr2 [100] := hlit
  obtain rfl : 1 = Lr2 := hlit.1
  have hcs := run_convert_bs Cr2 hlit
  have HB := Lib.hid (hb0.trans (hb1.mono hb0.size))
  clear hcv hT hb0 hb1 hp hL hT1 hlit
  change w1.cell? ⟨b1, o1 + 1 * 3 + 1, none⟩ = some (.int .i64 3) at k1
  change w1.cell? ⟨b1, o1 + 1 * 3 + 2, none⟩ = some (.int .i64 6) at k2
  rw [show T15.length = 3 from rfl] at *
  have hst : ((strOfNums [100]).toList == [100]) = true := by decide +kernel
  go_wp2
  go_ret
  exact ⟨rfl, HB.out⟩
end Go.Proofs.Ytmflnnfgkcmlhaa.Cur
