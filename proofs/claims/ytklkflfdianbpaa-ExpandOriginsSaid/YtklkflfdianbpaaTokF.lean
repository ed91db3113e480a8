/- Tokens read: what is read, as a value; Head, Offset, Read; the document's Read. -/
import Derived.Test.YtklkflfdianbpaaTokB
import Derived.Test.YtklkflfdianbpaaK6
namespace Go.Proofs.Ytklkflfdianbpaa.Cur
open Go.RowKit Mem
set_option linter.unusedVariables false

/-- What a token's first number says: is it a copy, and how many bytes does it make. -/
def hdv (x : Int) : Bool × Int := if x % 2 = 1 then (true, x / 2 + 4) else (false, x / 2 + 1)
def hd (z : List Int) (p : Int) : Rs (Bool × Int) := (vg z p).bind (false, 0) fun x p1 => if 1048576 < (hdv x).2 then ((false, 0), 0, 2, p) else (hdv x, p1, 0, 0)
def ofs (z : List Int) (p : Int) : Rs Int := (vg z p).bind 0 fun x p1 => if 65535 < x then (0, 0, 10, p) else (x + 1, p1, 0, 0)
/-- What follows a token's first number. -/
def trb (z : List Int) (h : Bool × Int) (p1 : Int) : Rs Tk := if h.1 then (ofs z p1).bind tk0 fun o p2 => (([], o, h.2), p2, 0, 0) else (tk z h.2 p1).bind tk0 fun y p2 => ((y, 0, 0), p2, 0, 0)
def tr (z : List Int) (p : Int) : Rs Tk := (hd z p).bind tk0 (trb z)

/-- The reader's side and the document's side of 'a number, then a test of it'. -/
theorem St.test {α : Type} {d : α} {n : Nat} {g : Rs Int} {p c q v p1 c1 q1 : Int} {bad : Int → Prop} [DecidablePred bad] {C P : Int} {r : Int → α} (h : St 0 n g p c q v p1 c1 q1) (hC : C ≠ 0) {u : α} {c2 q2 : Int}
    (k : (bad v ∧ u = d ∧ FailSt c1 q1 C P c2 q2) ∨ (¬ bad v ∧ u = (if c1 = 0 then r v else d) ∧ c2 = c1 ∧ q2 = q1)) :
    St d n (g.bind d fun x p1 => if bad x then (d, 0, C, P) else (r x, p1, 0, 0)) p c q u p1 c2 q2 := by
  have hp := h.place
  refine h.bind ?_
  rcases k with ⟨hb, rfl, hf⟩ | ⟨hb, rfl, rfl, rfl⟩
  · rcases hf with ⟨rfl, rfl, rfl⟩ | ⟨hc, rfl, rfl⟩
    · unfold fq
      rw [if_neg hC]
      exact St.fault (x := u) (y := 0) (by rw [if_pos hb]) hC hp.1 hp.2
    · exact St.stay hp.1 hp.2 hc
  · by_cases hc : c2 = 0
    · subst hc
      rw [if_pos rfl]
      exact St.done (by rw [if_neg hb]) hp.1 hp.2
    · rw [if_neg hc]
      exact St.stay hp.1 hp.2 hc
theorem FailSt.ne {c q C P c2 q2 : Int} (h : FailSt c q C P c2 q2) (hC : C ≠ 0) : c2 ≠ 0 := by
  rcases h with ⟨_, rfl, _⟩ | ⟨h, rfl, _⟩
  · exact hC
  · exact h

def HdPost (b : Nat) (s : Value) (n : Nat) (g : Rs (Bool × Int)) (p c q : Int) (w : World) (e : Ending) (w' : World) : Prop :=
  ∃ cp k p' c' q', e = .returned (.tuple #[.bool cp, .int .i64 k]) ∧ Kp b w w' ∧ IsRd w' b s p' c' q' ∧ St (false, 0) n g p c q (cp, k) p' c' q'


set_option maxRecDepth 100000 in
set_option maxHeartbeats 2000000 in
theorem thead_any (b : Nat) (a : Option Addr) (n m : Nat) (z : List Int) (p c q : Int) (w : World) (h : IsRd w b (.slice a n m) p c q) (hz : Bs w a n z) (h0 : 0 ≤ p) (h1 : p ≤ n) (hn : n ≤ 1000000) (hby : ∀ x ∈ z, 0 ≤ x ∧ x < 256) :
    Calls Try.prog 54 #[.pointer (some ⟨b, 0, none⟩)] w (HdPost b (.slice a n m) n (hd z p) p c q w) := by
  go_enter Try.func54, Try.ntmps54
  go_wp2_with fail
  refine (at_any _ _ _ _ _ _ h).mono ?_
  rintro e w0 ⟨rfl, rfl⟩
  go_wp2_with fail
  refine (vread_any _ _ _ _ _ _ _ _ _ h hz h0 h1 hn hby).mono ?_
  rintro e w1 ⟨v, p1, c1, q1, rfl, hk1, hr1, hs1⟩
  have hst := hs1.st hz.1 h0 h1 hby
  obtain ⟨v0, v1⟩ := rd_lt hs1 hz.1 h0 h1 hby
  have HS := Lib.hid hst
  have HP1 : Hid (0 ≤ p1 ∧ p1 ≤ n) := Lib.hid hst.place
  clear hs1 hst hby h hz
  have hm0 : 0 ≤ v % 2 ∧ v % 2 < 2 := by omega
  by_cases hcp : v % 2 = 1
  · have HV : Hid (hdv v = (true, v / 2 + 4)) := Lib.hid (by unfold hdv; rw [if_pos hcp])
    have hcb : (v % 2 == 1) = true := by simpa using hcp
    clear hm0
    by_cases hbig : 1048576 < v / 2 + 4
    · have e2 : IntKind.u64.wrap (v / 2 + 4) = v / 2 + 4 := IntWalk.u64_in _ (by omega)
      have HS2 : Hid (∀ c2 q2, FailSt c1 q1 2 p c2 q2 → St (false, 0) n (hd z p) p c q (false, 0) p1 c2 q2) := Lib.hid fun c2 q2 hf => HS.out.test (bad := fun x => 1048576 < (hdv x).2) (r := hdv) (by decide) (.inl ⟨by rw [HV.out]; exact hbig, rfl, hf⟩)
      clear HV HS
      go_wp2_with fail
      refine (limits_any _ _).mono ?_
      rintro e w2 ⟨rfl, rfl⟩
      try rw [if_pos rfl]
      try rw [if_neg (by simp)]
      go_wp2_with fail
      refine (fail_any _ _ _ _ _ _ _ _ hr1).mono ?_
      rintro e w2 ⟨c2, q2, rfl, hk2, hr2, hf⟩
      have HS3 := Lib.hid (HS2.out _ _ hf)
      have hcb : (c2 == 0) = false := by have := hf.ne (by decide); simpa using this
      replace hk1 := hk1.trans hk2
      replace hr1 := hr2
      clear hr2 hf hk2
      go_wp2_with fail
      refine (good_any _ _ _ _ _ _ hr1).mono ?_
      rintro e w3 ⟨rfl, hb3⟩
      rw [hcb]
      have hk3 := hk1.trans (Kp.of_below hb3)
      have hr3 := hr1.below hb3
      clear hr1 hk1 hb3
      go_wp2
      go_ret2
      exact ⟨_, _, _, _, _, rfl, hk3, hr3, HS3.out⟩
    · have e2 : IntKind.u64.wrap (v / 2 + 4) = v / 2 + 4 := IntWalk.u64_in _ (by omega)
      have e3 : IntKind.i64.wrap (v / 2 + 4) = v / 2 + 4 := IntWalk.i64_in _ (by omega)
      have HS2 : Hid (∀ u, u = (if c1 = 0 then hdv v else (false, 0)) → St (false, 0) n (hd z p) p c q u p1 c1 q1) := Lib.hid fun u hu => HS.out.test (bad := fun x => 1048576 < (hdv x).2) (r := hdv) (by decide) (.inr ⟨by rw [HV.out]; exact hbig, hu, rfl, rfl⟩)
      by_cases hc1 : c1 = 0
      · have hcb : (c1 == 0) = true := by simpa using hc1
        have HS3 := Lib.hid (HS2.out (hdv v) (by rw [if_pos hc1]))
        clear hc1 HS HS2
        go_wp2_with fail
        refine (limits_any _ _).mono ?_
        rintro e w2 ⟨rfl, rfl⟩
        try rw [if_pos rfl]
        try rw [if_neg (by simp)]
        go_wp2_with fail
        refine (good_any _ _ _ _ _ _ hr1).mono ?_
        rintro e w3 ⟨rfl, hb3⟩
        rw [hcb]
        have hk3 := hk1.trans (Kp.of_below hb3)
        have hr3 := hr1.below hb3
        clear hr1 hk1 hb3
        go_wp2
        go_ret2
        exact ⟨_, _, _, _, _, rfl, hk3, hr3, by rw [← HV.out]; exact HS3.out⟩
      · have hcb : (c1 == 0) = false := by simpa using hc1
        have HS3 := Lib.hid (HS2.out (false, 0) (by rw [if_neg hc1]))
        clear hc1 HS HS2
        go_wp2_with fail
        refine (limits_any _ _).mono ?_
        rintro e w2 ⟨rfl, rfl⟩
        try rw [if_pos rfl]
        try rw [if_neg (by simp)]
        go_wp2_with fail
        refine (good_any _ _ _ _ _ _ hr1).mono ?_
        rintro e w3 ⟨rfl, hb3⟩
        rw [hcb]
        have hk3 := hk1.trans (Kp.of_below hb3)
        have hr3 := hr1.below hb3
        clear hr1 hk1 hb3
        go_wp2
        go_ret2
        exact ⟨_, _, _, _, _, rfl, hk3, hr3, HS3.out⟩
  · have hce : v % 2 = 0 := by omega
    have HV : Hid (hdv v = (false, v / 2 + 1)) := Lib.hid (by unfold hdv; rw [if_neg hcp])
    have hcb : (v % 2 == 1) = false := by simpa using hcp
    clear hm0 hcp
    by_cases hbig : 1048576 < v / 2 + 1
    · have e2 : IntKind.u64.wrap (v / 2 + 1) = v / 2 + 1 := IntWalk.u64_in _ (by omega)
      have HS2 : Hid (∀ c2 q2, FailSt c1 q1 2 p c2 q2 → St (false, 0) n (hd z p) p c q (false, 0) p1 c2 q2) := Lib.hid fun c2 q2 hf => HS.out.test (bad := fun x => 1048576 < (hdv x).2) (r := hdv) (by decide) (.inl ⟨by rw [HV.out]; exact hbig, rfl, hf⟩)
      clear HV HS
      go_wp2_with fail
      refine (limits_any _ _).mono ?_
      rintro e w2 ⟨rfl, rfl⟩
      try rw [if_pos rfl]
      try rw [if_neg (by simp)]
      go_wp2_with fail
      refine (fail_any _ _ _ _ _ _ _ _ hr1).mono ?_
      rintro e w2 ⟨c2, q2, rfl, hk2, hr2, hf⟩
      have HS3 := Lib.hid (HS2.out _ _ hf)
      have hcb : (c2 == 0) = false := by have := hf.ne (by decide); simpa using this
      replace hk1 := hk1.trans hk2
      replace hr1 := hr2
      clear hr2 hf hk2
      go_wp2_with fail
      refine (good_any _ _ _ _ _ _ hr1).mono ?_
      rintro e w3 ⟨rfl, hb3⟩
      rw [hcb]
      have hk3 := hk1.trans (Kp.of_below hb3)
      have hr3 := hr1.below hb3
      clear hr1 hk1 hb3
      go_wp2
      go_ret2
      exact ⟨_, _, _, _, _, rfl, hk3, hr3, HS3.out⟩
    · have e2 : IntKind.u64.wrap (v / 2 + 1) = v / 2 + 1 := IntWalk.u64_in _ (by omega)
      have e3 : IntKind.i64.wrap (v / 2 + 1) = v / 2 + 1 := IntWalk.i64_in _ (by omega)
      have HS2 : Hid (∀ u, u = (if c1 = 0 then hdv v else (false, 0)) → St (false, 0) n (hd z p) p c q u p1 c1 q1) := Lib.hid fun u hu => HS.out.test (bad := fun x => 1048576 < (hdv x).2) (r := hdv) (by decide) (.inr ⟨by rw [HV.out]; exact hbig, hu, rfl, rfl⟩)
      by_cases hc1 : c1 = 0
      · have hcb : (c1 == 0) = true := by simpa using hc1
        have HS3 := Lib.hid (HS2.out (hdv v) (by rw [if_pos hc1]))
        clear hc1 HS HS2
        go_wp2_with fail
        refine (limits_any _ _).mono ?_
        rintro e w2 ⟨rfl, rfl⟩
        try rw [if_pos rfl]
        try rw [if_neg (by simp)]
        go_wp2_with fail
        refine (good_any _ _ _ _ _ _ hr1).mono ?_
        rintro e w3 ⟨rfl, hb3⟩
        rw [hcb]
        have hk3 := hk1.trans (Kp.of_below hb3)
        have hr3 := hr1.below hb3
        clear hr1 hk1 hb3
        go_wp2
        go_ret2
        exact ⟨_, _, _, _, _, rfl, hk3, hr3, by rw [← HV.out]; exact HS3.out⟩
      · have hcb : (c1 == 0) = false := by simpa using hc1
        have HS3 := Lib.hid (HS2.out (false, 0) (by rw [if_neg hc1]))
        clear hc1 HS HS2
        go_wp2_with fail
        refine (limits_any _ _).mono ?_
        rintro e w2 ⟨rfl, rfl⟩
        try rw [if_pos rfl]
        try rw [if_neg (by simp)]
        go_wp2_with fail
        refine (good_any _ _ _ _ _ _ hr1).mono ?_
        rintro e w3 ⟨rfl, hb3⟩
        rw [hcb]
        have hk3 := hk1.trans (Kp.of_below hb3)
        have hr3 := hr1.below hb3
        clear hr1 hk1 hb3
        go_wp2
        go_ret2
        exact ⟨_, _, _, _, _, rfl, hk3, hr3, HS3.out⟩

def RTakeOwn (s : Value) (n : Nat) (z : List Int) (p c q x : Int) (w : World) (e : Ending) (w' : World) : Prop :=
  ∃ ok p' c' q' A k m, e = .returned (.tuple #[cv s p' c' q', .slice A k m]) ∧ Below w.heap.size w w' ∧ SkipSt n p c q x ok p' c' q' ∧ Own w' w.heap.size (.slice A k m) (if ok = true then piece z p.toNat (p + x).toNat else [])

set_option maxHeartbeats 400000 in
theorem rtake_own (a : Option Addr) (n m : Nat) (z : List Int) (p c q x : Int) (w : World) (hz : Bs w a n z) (ha : a = none → m = 0) (h0 : 0 ≤ p) (h1 : p ≤ n) (hm : n ≤ m) (hn : n ≤ 1000000) :
    Calls Try.prog 59 #[cv (.slice a n m) p c q, .int .i64 x] w (RTakeOwn (.slice a n m) n z p c q x w) := by
  by_cases hc : c = 0
  · subst hc
    by_cases hx : x < 0
    · go_enter Try.func59, Try.ntmps59
      go_wp2_with fail
      refine (rfail_yes _ _ _ _ _ _ ⟨_, _, _, rfl⟩).mono ?_
      rintro e w1 ⟨rfl, hb⟩
      obtain ⟨h0, h1, hb⟩ := two_new hb
      obtain ⟨d0, d1, d2, d3⟩ := h1.c4
      obtain ⟨g0, g1, g2, g3⟩ := h1.f4
      go_wp2
      refine bodyPost_ret (v := .tuple #[cv (.slice a n m) p 17 (fq 17 p), .slice none 0 0]) (by simp [results, Try.results59, go_sem, d0, d1, d2, d3]) rfl ⟨false, _, _, _, _, _, _, rfl, ?_, .inr (.inl ⟨rfl, hx, rfl, rfl, rfl, by simp [fq]⟩), Own.nil _ _⟩
      iterate 4 (refine Below.setCell ?_ (by simp) _)
      exact hb
    · by_cases hy : (n : Int) - p < x
      · go_enter Try.func59, Try.ntmps59
        go_wp2_with fail
        refine (rfail_yes _ _ _ _ _ _ ⟨_, _, _, rfl⟩).mono ?_
        rintro e w1 ⟨rfl, hb⟩
        obtain ⟨h0, h1, hb⟩ := two_new hb
        obtain ⟨d0, d1, d2, d3⟩ := h1.c4
        obtain ⟨g0, g1, g2, g3⟩ := h1.f4
        go_wp2
        refine bodyPost_ret (v := .tuple #[cv (.slice a n m) p 1 (fq 1 n), .slice none 0 0]) (by simp [results, Try.results59, go_sem, d0, d1, d2, d3]) rfl ⟨false, _, _, _, _, _, _, rfl, ?_, .inr (.inr (.inl ⟨rfl, hy, rfl, rfl, rfl, by simp [fq]⟩)), Own.nil _ _⟩
        iterate 4 (refine Below.setCell ?_ (by simp) _)
        exact hb
      · obtain ⟨A', M, hsl, hA, hM, hN⟩ := slice_lh hz m p (p + x) h0 (by omega) (by omega) hm
        have e : (p + x - p).toNat = x.toNat := by omega
        rw [e] at hsl hA hM
        clear e
        go_enter Try.func59, Try.ntmps59
        go_wp2_with (at_builtin; go_must (refine list_append_bs rfl (.tmp 31) (.tmp 40) rfl (w.heap.size + 2) (.slice none 0 0) [] rfl (Own.nil _ _) _ _ _ _ rfl (hA.below (below_two _ _ _)) (fun h => by have := hN h; have := ha this.1; omega) (by simp; omega) (by simp) ?_; intro v1 w1 hown hg; rw [List.nil_append] at hown; obtain ⟨h0, h1, hb⟩ := two_new (Below.of_grown_none hg); obtain ⟨A1, M1, hv⟩ := hown.slice; subst hv; have hcap := hown.cap; obtain ⟨c0, c1, c2, c3⟩ := h0.c4; obtain ⟨f0, f1, f2, f3⟩ := h0.f4; obtain ⟨d0, d1, d2, d3⟩ := h1.c4; obtain ⟨g0, g1, g2, g3⟩ := h1.f4; clear hsl hA f0 f2 f3))
        refine bodyPost_ret (v := .tuple #[cv (.slice a n m) (p + x) 0 q, .slice A1 (piece z p.toNat (p + x).toNat).length M1]) (by simp [results, Try.results59, go_sem, d0, d1, d2, d3]) rfl ⟨true, _, _, _, _, _, _, rfl, ?_, .inr (.inr (.inr ⟨rfl, hx, hy, rfl, rfl, rfl, rfl⟩)), ?_⟩
        · iterate 5 (refine Below.setCell ?_ (by simp) _)
          exact hb
        · refine Own.base (B := w.heap.size + 2) ?_ (fun g hg => by have := (Own.ge hown g hg); omega)
          iterate 5 (refine Own.far ?_ (by simp) _)
          exact hown
  · have hcb : (c != 0) = true := by simpa using hc
    have H := Lib.hid hc
    clear hc
    go_enter Try.func59, Try.ntmps59
    go_wp2
    refine bodyPost_ret (v := .tuple #[cv (.slice a n m) p c q, .slice none 0 0]) (by simp [results, Try.results59, go_sem]) rfl ⟨false, _, _, _, _, _, _, rfl, below_two _ _ _, .inl ⟨H.out, rfl, rfl, rfl, rfl⟩, Own.nil _ _⟩


def OfPost (b : Nat) (s : Value) (n : Nat) (g : Rs Int) (p c q : Int) (w : World) (e : Ending) (w' : World) : Prop :=
  ∃ o p' c' q', e = .returned (.int .i64 o) ∧ Kp b w w' ∧ IsRd w' b s p' c' q' ∧ St 0 n g p c q o p' c' q'

set_option maxRecDepth 100000 in
set_option maxHeartbeats 2000000 in
theorem toffset_any (b : Nat) (a : Option Addr) (n m : Nat) (z : List Int) (p c q : Int) (w : World) (h : IsRd w b (.slice a n m) p c q) (hz : Bs w a n z) (h0 : 0 ≤ p) (h1 : p ≤ n) (hn : n ≤ 1000000) (hby : ∀ x ∈ z, 0 ≤ x ∧ x < 256) :
    Calls Try.prog 56 #[.pointer (some ⟨b, 0, none⟩)] w (OfPost b (.slice a n m) n (ofs z p) p c q w) := by
  go_enter Try.func56, Try.ntmps56
  go_wp2_with fail
  refine (at_any _ _ _ _ _ _ h).mono ?_
  rintro e w0 ⟨rfl, rfl⟩
  go_wp2_with fail
  refine (vread_any _ _ _ _ _ _ _ _ _ h hz h0 h1 hn hby).mono ?_
  rintro e w1 ⟨v, p1, c1, q1, rfl, hk1, hr1, hs1⟩
  have hst := hs1.st hz.1 h0 h1 hby
  obtain ⟨v0, v1⟩ := rd_lt hs1 hz.1 h0 h1 hby
  have HS := Lib.hid hst
  clear hs1 hst hby h hz
  by_cases hbig : 65535 < v
  · have hge : (65536 : Int) ≤ v := by omega
    have HS2 : Hid (∀ c2 q2, FailSt c1 q1 10 p c2 q2 → St 0 n (ofs z p) p c q 0 p1 c2 q2) := Lib.hid fun c2 q2 hf => HS.out.test (bad := fun x => 65535 < x) (r := fun x => x + 1) (by decide) (.inl ⟨hbig, rfl, hf⟩)
    clear HS
    go_wp2_with fail
    refine (fail_any _ _ _ _ _ _ _ _ hr1).mono ?_
    rintro e w2 ⟨c2, q2, rfl, hk2, hr2, hf⟩
    have HS3 := Lib.hid (HS2.out _ _ hf)
    have hcb : (c2 == 0) = false := by have := hf.ne (by decide); simpa using this
    replace hk1 := hk1.trans hk2
    replace hr1 := hr2
    clear hr2 hf hk2
    go_wp2_with fail
    refine (good_any _ _ _ _ _ _ hr1).mono ?_
    rintro e w3 ⟨rfl, hb3⟩
    rw [hcb]
    have hk3 := hk1.trans (Kp.of_below hb3)
    have hr3 := hr1.below hb3
    clear hr1 hk1 hb3
    go_wp2
    go_ret
    exact ⟨_, _, _, _, rfl, hk3, hr3, HS3.out⟩
  · have hge : ¬ (65536 : Int) ≤ v := by omega
    have e3 : IntKind.i64.wrap v = v := IntWalk.i64_in _ (by omega)
    have e4 : IntKind.i64.wrap (v + 1) = v + 1 := IntWalk.i64_in _ (by omega)
    have HS2 : Hid (∀ u, u = (if c1 = 0 then v + 1 else 0) → St 0 n (ofs z p) p c q u p1 c1 q1) := Lib.hid fun u hu => HS.out.test (bad := fun x => 65535 < x) (r := fun x => x + 1) (by decide) (.inr ⟨hbig, hu, rfl, rfl⟩)
    by_cases hc1 : c1 = 0
    · have hcb : (c1 == 0) = true := by simpa using hc1
      have HS3 := Lib.hid (HS2.out (v + 1) (by rw [if_pos hc1]))
      clear hc1 HS HS2
      go_wp2_with fail
      refine (good_any _ _ _ _ _ _ hr1).mono ?_
      rintro e w3 ⟨rfl, hb3⟩
      rw [hcb]
      have hk3 := hk1.trans (Kp.of_below hb3)
      have hr3 := hr1.below hb3
      clear hr1 hk1 hb3
      go_wp2
      go_ret
      exact ⟨_, _, _, _, rfl, hk3, hr3, HS3.out⟩
    · have hcb : (c1 == 0) = false := by simpa using hc1
      have HS3 := Lib.hid (HS2.out 0 (by rw [if_neg hc1]))
      clear hc1 HS HS2
      go_wp2_with fail
      refine (good_any _ _ _ _ _ _ hr1).mono ?_
      rintro e w3 ⟨rfl, hb3⟩
      rw [hcb]
      have hk3 := hk1.trans (Kp.of_below hb3)
      have hr3 := hr1.below hb3
      clear hr1 hk1 hb3
      go_wp2
      go_ret
      exact ⟨_, _, _, _, rfl, hk3, hr3, HS3.out⟩

/-- What Read hands back: the token's bytes are a row of the call's own. -/
def TRdPost (b : Nat) (s : Value) (n : Nat) (g : Rs Tk) (p c q : Int) (w : World) (e : Ending) (w' : World) : Prop :=
  ∃ v t p' c' q', e = .returned (.agg #[v, .int .i64 t.2.1, .int .i64 t.2.2]) ∧ Own w' w.heap.size v t.1 ∧ Kp b w w' ∧ IsRd w' b s p' c' q' ∧ St tk0 n g p c q t p' c' q'
theorem hd_cp {n : Nat} {z : List Int} {p c q : Int} {cp : Bool} {k p' c' q' : Int} (h : St (false, 0) n (hd z p) p c q (cp, k) p' c' q') : c' ≠ 0 → cp = false ∧ k = 0 := fun hc => by
  have := h.nil hc
  injection this with e1 e2
  exact ⟨e1, e2⟩
theorem trb_run (z : List Int) (k p1 : Int) : trb z (false, k) p1 = (tk z k p1).bind tk0 fun y p2 => ((y, 0, 0), p2, 0, 0) := rfl
theorem trb_cpy (z : List Int) (k p1 : Int) : trb z (true, k) p1 = (ofs z p1).bind tk0 fun o p2 => (([], o, k), p2, 0, 0) := rfl
theorem St.fin {α β : Type} {d1 : α} {d : β} {n : Nat} {g : Rs α} {r : α → β} {p c q : Int} {v : α} {p1 c1 q1 : Int} (h : St d1 n g p c q v p1 c1 q1) :
    St d n (g.bind d fun x p2 => (r x, p2, 0, 0)) p c q (if c1 = 0 then r v else d) p1 c1 q1 := by
  have hp := h.place
  refine h.bind ?_
  by_cases hc : c1 = 0
  · subst hc
    rw [if_pos rfl]
    exact St.done rfl hp.1 hp.2
  · rw [if_neg hc]
    exact St.stay hp.1 hp.2 hc


set_option maxRecDepth 100000 in
set_option maxHeartbeats 2000000 in
theorem tread_any (b : Nat) (a : Option Addr) (n m : Nat) (z : List Int) (p c q : Int) (w : World) (h : IsRd w b (.slice a n m) p c q) (hz : Bs w a n z) (h0 : 0 ≤ p) (h1 : p ≤ n) (hm : n ≤ m) (hn : n ≤ 1000000) (hby : ∀ x ∈ z, 0 ≤ x ∧ x < 256) :
    Calls Try.prog 38 #[.pointer (some ⟨b, 0, none⟩)] w (TRdPost b (.slice a n m) n (tr z p) p c q w) := by
  have HBY := Lib.hid hby
  clear hby
  have hbd := below_two w (.cells #[.slice none 0 0, .int .i64 0, .int .i64 0] 34) (.cells #[.slice none 0 0, .int .i64 0, .int .i64 0] 34)
  have hR := (Blk.new w #[.slice none 0 0, .int .i64 0, .int .i64 0] 34).alloc (.cells #[.slice none 0 0, .int .i64 0, .int .i64 0] 34)
  have hX := Blk.new (w.alloc (.cells #[.slice none 0 0, .int .i64 0, .int .i64 0] 34)) #[.slice none 0 0, .int .i64 0, .int .i64 0] 34
  rw [show (w.alloc (.cells #[.slice none 0 0, .int .i64 0, .int .i64 0] 34)).heap.size = w.heap.size + 1 by simp] at hX
  have hr := h.below hbd
  have hbw := h.lt
  have hz0 := hz.below hbd
  go_enter Try.func38, Try.ntmps38
  go_wp2_with fail
  refine (thead_any _ _ _ _ _ _ _ _ _ hr hz0 h0 h1 hn HBY.out).mono ?_
  rintro e w1 ⟨cp, k, p1, c1, q1, rfl, hk1, hr1, hs1⟩
  have hz1 := hz0.kp hr (by simp) hk1
  obtain ⟨p10, p11⟩ := hs1.place
  have HS := Lib.hid hs1
  have hne0 : w.heap.size ≠ b := by omega
  have hne1 : w.heap.size + 1 ≠ b := by omega
  replace hX := blk_kp hX hk1 hne1
  replace hR := blk_kp hR hk1 hne0
  have hkk := (Kp.of_below (b := b) hbd).trans hk1
  clear hr hz0 hk1 hbd h hz hs1
  cases cp
  · -- a run
    go_wp2_with fail
    refine (take_st _ _ _ _ _ _ _ _ _ _ hr1 hz1 p10 p11 hm hn).mono ?_
    rintro e w2 ⟨v, y, p2, c2, q2, rfl, ho2, hk2, hr2, hs2⟩
    obtain ⟨Av, mv, rfl⟩ := ho2.slice
    have HE : Hid (St tk0 n (tr z p) p c q (if c2 = 0 then (y, 0, 0) else tk0) p2 c2 q2) := Lib.hid (HS.out.bind (f := trb z) (by rw [trb_run]; exact hs2.fin (r := fun y => (y, 0, 0))))
    have HY : Hid (c2 ≠ 0 → y = []) := Lib.hid hs2.nil
    have hX2 := blk_kp hX hk2 hne1
    have hR2 := blk_kp hR hk2 hne0
    have hk3 := (hkk.trans hk2).far (p := ⟨w.heap.size + 1, 0, none⟩) (by show w.heap.size ≤ w.heap.size + 1; omega) (.slice Av y.length mv)
    have hr3 := hr2.kp (Kp.setCell w2 (w.heap.size + 1) 0 (.slice Av y.length mv)) hne1.symm
    have hX3 := hX2.set 0 (.slice Av y.length mv)
    have hR3 := hR2.far (g := w.heap.size + 1) 0 (.slice Av y.length mv) (by omega)
    have hlt1 := hX.lt
    have ho3 : Own (w2.setCell ⟨w.heap.size + 1, 0, none⟩ (.slice Av y.length mv)) w1.heap.size (.slice Av y.length mv) y := ho2.far (p := ⟨w.heap.size + 1, 0, none⟩) hlt1 (.slice Av y.length mv)
    have f0 := hX2.free 0
    obtain ⟨y0, y1, y2⟩ := hX2.c3
    clear hs2 hX hR hX2 hR2 hkk hk2 hr2 hr1 ho2
    replace hX3 : Blk (w2.setCell ⟨w.heap.size + 1, 0, none⟩ (.slice Av y.length mv)) (w.heap.size + 1) #[(.slice Av y.length mv), .int .i64 0, .int .i64 0] 34 := hX3
    go_upto_region 6 with (fail)
    generalize w2.setCell ⟨w.heap.size + 1, 0, none⟩ (.slice Av y.length mv) = w3 at *
    clear y0 y1 y2
    by_cases hc2 : c2 = 0
    · have hcb : (c2 == 0) = true := by simpa using hc2
      have HE := HE.out
      rw [if_pos hc2] at HE
      have HE := Lib.hid HE
      clear hc2
      go_wp2_with fail
      refine (good_any _ _ _ _ _ _ hr3).mono ?_
      rintro e w4 ⟨rfl, hb4⟩
      rw [hcb]
      replace hr3 := hr3.below hb4
      replace hX3 := hX3.below hb4
      replace hR3 := hR3.below hb4
      replace hk3 := hk3.trans (Kp.of_below hb4)
      replace ho3 := ho3.below hb4
      clear hb4
      obtain ⟨x0, x1, x2⟩ := hX3.c3
      obtain ⟨r0, r1, r2⟩ := hR3.c3
      have g0 := hR3.free 0
      have g1 := hR3.free 1
      have g2 := hR3.free 2
      have hkE := (((hk3.far (p := ⟨w.heap.size, 0, none⟩) (Nat.le_refl _) (Value.slice Av y.length mv)).far (p := ⟨w.heap.size, 1, none⟩) (Nat.le_refl _) (.int .i64 (0))).far (p := ⟨w.heap.size, 2, none⟩) (Nat.le_refl _) (.int .i64 (0)))
      have hrE : IsRd (((w4.setCell ⟨w.heap.size, 0, none⟩ (Value.slice Av y.length mv)).setCell ⟨w.heap.size, 1, none⟩ (.int .i64 (0))).setCell ⟨w.heap.size, 2, none⟩ (.int .i64 (0))) b _ _ _ _ := ((hr3.kp (Kp.setCell _ _ _ _) (Nat.ne_of_lt hbw)).kp (Kp.setCell _ _ _ _) (Nat.ne_of_lt hbw)).kp (Kp.setCell _ _ _ _) (Nat.ne_of_lt hbw)
      have hoE : Own (((w4.setCell ⟨w.heap.size, 0, none⟩ (Value.slice Av y.length mv)).setCell ⟨w.heap.size, 1, none⟩ (.int .i64 (0))).setCell ⟨w.heap.size, 2, none⟩ (.int .i64 (0))) w.heap.size (Value.slice Av y.length mv) (y) := ((Own.far (Own.far (Own.far (ho3) (by show w.heap.size < _; omega) _) (by show w.heap.size < _; omega) _) (by show w.heap.size < _; omega) _)).base (fun g hg => by have := Own.ge (ho3) g hg; omega)
      go_wp2
      refine bodyPost_ret (v := .agg #[Value.slice Av y.length mv, .int .i64 (0), .int .i64 (0)]) (by simp [results, Try.results38, go_sem, r0, r1, r2]) rfl ⟨Value.slice Av y.length mv, (y, 0, 0), _, _, _, rfl, hoE, hkE, hrE, HE.out⟩
    · have hcb : (c2 == 0) = false := by simpa using hc2
      have HE := HE.out
      rw [if_neg hc2] at HE
      have HE := Lib.hid HE
      clear hc2
      go_wp2_with fail
      refine (good_any _ _ _ _ _ _ hr3).mono ?_
      rintro e w4 ⟨rfl, hb4⟩
      rw [hcb]
      replace hr3 := hr3.below hb4
      replace hX3 := hX3.below hb4
      replace hR3 := hR3.below hb4
      replace hk3 := hk3.trans (Kp.of_below hb4)
      replace ho3 := ho3.below hb4
      clear hb4
      obtain ⟨x0, x1, x2⟩ := hX3.c3
      obtain ⟨r0, r1, r2⟩ := hR3.c3
      have g0 := hR3.free 0
      have g1 := hR3.free 1
      have g2 := hR3.free 2
      have hkE := (((hk3.far (p := ⟨w.heap.size, 0, none⟩) (Nat.le_refl _) (Value.slice none 0 0)).far (p := ⟨w.heap.size, 1, none⟩) (Nat.le_refl _) (.int .i64 (0))).far (p := ⟨w.heap.size, 2, none⟩) (Nat.le_refl _) (.int .i64 (0)))
      have hrE : IsRd (((w4.setCell ⟨w.heap.size, 0, none⟩ (Value.slice none 0 0)).setCell ⟨w.heap.size, 1, none⟩ (.int .i64 (0))).setCell ⟨w.heap.size, 2, none⟩ (.int .i64 (0))) b _ _ _ _ := ((hr3.kp (Kp.setCell _ _ _ _) (Nat.ne_of_lt hbw)).kp (Kp.setCell _ _ _ _) (Nat.ne_of_lt hbw)).kp (Kp.setCell _ _ _ _) (Nat.ne_of_lt hbw)
      have hoE : Own (((w4.setCell ⟨w.heap.size, 0, none⟩ (Value.slice none 0 0)).setCell ⟨w.heap.size, 1, none⟩ (.int .i64 (0))).setCell ⟨w.heap.size, 2, none⟩ (.int .i64 (0))) w.heap.size (Value.slice none 0 0) ([]) := ((Own.far (Own.far (Own.far ((Own.nil w4 w1.heap.size)) (by show w.heap.size < _; omega) _) (by show w.heap.size < _; omega) _) (by show w.heap.size < _; omega) _)).base (fun g hg => by have := Own.ge ((Own.nil w4 w1.heap.size)) g hg; omega)
      go_wp2
      refine bodyPost_ret (v := .agg #[Value.slice none 0 0, .int .i64 (0), .int .i64 (0)]) (by simp [results, Try.results38, go_sem, r0, r1, r2]) rfl ⟨Value.slice none 0 0, ([], 0, 0), _, _, _, rfl, hoE, hkE, hrE, HE.out⟩
  · -- a copy
    go_wp2_with fail
    refine (toffset_any _ _ _ _ _ _ _ _ _ hr1 hz1 p10 p11 hn HBY.out).mono ?_
    rintro e w2 ⟨o, p2, c2, q2, rfl, hk2, hr2, hs2⟩
    have HE : Hid (St tk0 n (tr z p) p c q (if c2 = 0 then ([], o, k) else tk0) p2 c2 q2) := Lib.hid (HS.out.bind (f := trb z) (by rw [trb_cpy]; exact hs2.fin (r := fun o => ([], o, k))))
    have hX2 := blk_kp hX hk2 hne1
    have hR2 := blk_kp hR hk2 hne0
    have hk3 := ((hkk.trans hk2).far (p := ⟨w.heap.size + 1, 1, none⟩) (by show w.heap.size ≤ w.heap.size + 1; omega) (.int .i64 o)).far (p := ⟨w.heap.size + 1, 2, none⟩) (by show w.heap.size ≤ w.heap.size + 1; omega) (.int .i64 k)
    have hr3 := (hr2.kp (Kp.setCell w2 (w.heap.size + 1) 1 (.int .i64 o)) hne1.symm).kp (Kp.setCell _ (w.heap.size + 1) 2 (.int .i64 k)) hne1.symm
    have hX3 := (hX2.set 1 (.int .i64 o)).set 2 (.int .i64 k)
    have hR3 := (hR2.far (g := w.heap.size + 1) 1 (.int .i64 o) (by omega)).far (g := w.heap.size + 1) 2 (.int .i64 k) (by omega)
    have hlt1 := hX.lt
    have ho3 := Own.nil ((w2.setCell ⟨w.heap.size + 1, 1, none⟩ (.int .i64 o)).setCell ⟨w.heap.size + 1, 2, none⟩ (.int .i64 k)) w1.heap.size
    have f1 := hX2.free 1
    have f2 := hX2.free 2
    obtain ⟨y0, y1, y2⟩ := hX2.c3
    clear hs2 hX hR hX2 hR2 hkk hk2 hr2 hr1
    replace hX3 : Blk ((w2.setCell ⟨w.heap.size + 1, 1, none⟩ (.int .i64 o)).setCell ⟨w.heap.size + 1, 2, none⟩ (.int .i64 k)) (w.heap.size + 1) #[.slice none 0 0, .int .i64 o, .int .i64 k] 34 := hX3
    go_upto_region 6 with (fail)
    generalize (w2.setCell ⟨w.heap.size + 1, 1, none⟩ (.int .i64 o)).setCell ⟨w.heap.size + 1, 2, none⟩ (.int .i64 k) = w3 at *
    clear y0 y1 y2
    by_cases hc2 : c2 = 0
    · have hcb : (c2 == 0) = true := by simpa using hc2
      have HE := HE.out
      rw [if_pos hc2] at HE
      have HE := Lib.hid HE
      clear hc2
      go_wp2_with fail
      refine (good_any _ _ _ _ _ _ hr3).mono ?_
      rintro e w4 ⟨rfl, hb4⟩
      rw [hcb]
      replace hr3 := hr3.below hb4
      replace hX3 := hX3.below hb4
      replace hR3 := hR3.below hb4
      replace hk3 := hk3.trans (Kp.of_below hb4)
      replace ho3 := ho3.below hb4
      clear hb4
      obtain ⟨x0, x1, x2⟩ := hX3.c3
      obtain ⟨r0, r1, r2⟩ := hR3.c3
      have g0 := hR3.free 0
      have g1 := hR3.free 1
      have g2 := hR3.free 2
      have hkE := (((hk3.far (p := ⟨w.heap.size, 0, none⟩) (Nat.le_refl _) (Value.slice none 0 0)).far (p := ⟨w.heap.size, 1, none⟩) (Nat.le_refl _) (.int .i64 (o))).far (p := ⟨w.heap.size, 2, none⟩) (Nat.le_refl _) (.int .i64 (k)))
      have hrE : IsRd (((w4.setCell ⟨w.heap.size, 0, none⟩ (Value.slice none 0 0)).setCell ⟨w.heap.size, 1, none⟩ (.int .i64 (o))).setCell ⟨w.heap.size, 2, none⟩ (.int .i64 (k))) b _ _ _ _ := ((hr3.kp (Kp.setCell _ _ _ _) (Nat.ne_of_lt hbw)).kp (Kp.setCell _ _ _ _) (Nat.ne_of_lt hbw)).kp (Kp.setCell _ _ _ _) (Nat.ne_of_lt hbw)
      have hoE : Own (((w4.setCell ⟨w.heap.size, 0, none⟩ (Value.slice none 0 0)).setCell ⟨w.heap.size, 1, none⟩ (.int .i64 (o))).setCell ⟨w.heap.size, 2, none⟩ (.int .i64 (k))) w.heap.size (Value.slice none 0 0) ([]) := ((Own.far (Own.far (Own.far (ho3) (by show w.heap.size < _; omega) _) (by show w.heap.size < _; omega) _) (by show w.heap.size < _; omega) _)).base (fun g hg => by have := Own.ge (ho3) g hg; omega)
      go_wp2
      refine bodyPost_ret (v := .agg #[Value.slice none 0 0, .int .i64 (o), .int .i64 (k)]) (by simp [results, Try.results38, go_sem, r0, r1, r2]) rfl ⟨Value.slice none 0 0, ([], o, k), _, _, _, rfl, hoE, hkE, hrE, HE.out⟩
    · have hcb : (c2 == 0) = false := by simpa using hc2
      have HE := HE.out
      rw [if_neg hc2] at HE
      have HE := Lib.hid HE
      clear hc2
      go_wp2_with fail
      refine (good_any _ _ _ _ _ _ hr3).mono ?_
      rintro e w4 ⟨rfl, hb4⟩
      rw [hcb]
      replace hr3 := hr3.below hb4
      replace hX3 := hX3.below hb4
      replace hR3 := hR3.below hb4
      replace hk3 := hk3.trans (Kp.of_below hb4)
      replace ho3 := ho3.below hb4
      clear hb4
      obtain ⟨x0, x1, x2⟩ := hX3.c3
      obtain ⟨r0, r1, r2⟩ := hR3.c3
      have g0 := hR3.free 0
      have g1 := hR3.free 1
      have g2 := hR3.free 2
      have hkE := (((hk3.far (p := ⟨w.heap.size, 0, none⟩) (Nat.le_refl _) (Value.slice none 0 0)).far (p := ⟨w.heap.size, 1, none⟩) (Nat.le_refl _) (.int .i64 (0))).far (p := ⟨w.heap.size, 2, none⟩) (Nat.le_refl _) (.int .i64 (0)))
      have hrE : IsRd (((w4.setCell ⟨w.heap.size, 0, none⟩ (Value.slice none 0 0)).setCell ⟨w.heap.size, 1, none⟩ (.int .i64 (0))).setCell ⟨w.heap.size, 2, none⟩ (.int .i64 (0))) b _ _ _ _ := ((hr3.kp (Kp.setCell _ _ _ _) (Nat.ne_of_lt hbw)).kp (Kp.setCell _ _ _ _) (Nat.ne_of_lt hbw)).kp (Kp.setCell _ _ _ _) (Nat.ne_of_lt hbw)
      have hoE : Own (((w4.setCell ⟨w.heap.size, 0, none⟩ (Value.slice none 0 0)).setCell ⟨w.heap.size, 1, none⟩ (.int .i64 (0))).setCell ⟨w.heap.size, 2, none⟩ (.int .i64 (0))) w.heap.size (Value.slice none 0 0) ([]) := ((Own.far (Own.far (Own.far (ho3) (by show w.heap.size < _; omega) _) (by show w.heap.size < _; omega) _) (by show w.heap.size < _; omega) _)).base (fun g hg => by have := Own.ge (ho3) g hg; omega)
      go_wp2
      refine bodyPost_ret (v := .agg #[Value.slice none 0 0, .int .i64 (0), .int .i64 (0)]) (by simp [results, Try.results38, go_sem, r0, r1, r2]) rfl ⟨Value.slice none 0 0, ([], 0, 0), _, _, _, rfl, hoE, hkE, hrE, HE.out⟩
end Go.Proofs.Ytklkflfdianbpaa.Cur
