/- As the seat's text, without what nothing here names. -/
import Derived.Test.YtlealkfkddhnnaaGreatBtcCv
import Derived.Test.YtlealkfkddhnnaaGreatK18v
namespace Go.Proofs.YtlealkfkddhnnaaGreat.Cur
open Go.RowKit Mem
set_option linter.unusedVariables false
set_option maxRecDepth 100000
def btb (B : Bt) : List Int := bthz B ++ bkb (jn B.2.2)
theorem btis_flat (e b : Int) (L : List En) : (btis e b L).flatten = btb (e, b, L) := by
  unfold btis btb
  rw [List.flatten_append, bhis_end, bki_flat]
theorem bthz_len {e b : Int} {L : List En} (h : enall b L = true) (hn : L.length ≤ 16) : (bthz (e, b, L)).length ≤ 15710 := by
  rw [← bhis_end]
  have := bhis_len (e := e) h L.length (Nat.le_refl _)
  omega
def BbyPost (B : Bt) (w : World) (e : Ending) (w' : World) : Prop :=
  Below w.heap.size w w' ∧ ((btk B = true ∧ ∃ g, e = .returned (.tuple #[.slice (some ⟨g, 0, none⟩) (btb B).length (btb B).length, .int .i64 0]) ∧ w.heap.size ≤ g ∧ Bs w' (some ⟨g, 0, none⟩) (btb B).length (btb B)) ∨
    (btk B = false ∧ e = .returned (.tuple #[.slice none 0 0, .int .i64 3])))
theorem btb_len {e b : Int} {L : List En} (h : btk (e, b, L) = true) (hj : (jn L).length ≤ 10000) (hjb : ∀ x ∈ jn L, 0 ≤ x ∧ x < 256) : (btb (e, b, L)).length ≤ 30000 := by
  obtain ⟨_, _, k3, _, k5⟩ := btk_parts h
  have k6 : (L.length : Int) ≤ 16 := (fitn_bd k3).2.1
  have h1 : (bthz (e, b, L)).length ≤ 15710 := bthz_len (e := e) k5 (by omega)
  have h2 := bkb_len (jn L)
  have h3 : (btb (e, b, L)).length = (bthz (e, b, L)).length + (bkb (jn L)).length := List.length_append ..
  generalize (bthz (e, b, L)).length = x at *
  generalize (bkb (jn L)).length = y at *
  omega
theorem jn_byte {w : World} {P : Nat → Prop} {A : Option Addr} {n : Nat} {L : List En} (hz : Ens w P A n L) : ∀ x ∈ jn L, 0 ≤ x ∧ x < 256 := by
  intro x hx
  unfold jn at hx
  obtain ⟨l, hl2, hx⟩ := List.mem_flatten.1 hx
  obtain ⟨en, hen, rfl⟩ := List.mem_map.1 hl2
  exact (hz.bds en hen).2 x hx
set_option maxHeartbeats 2000000 in
theorem bbytes_any (P : Nat → Prop) (e b : Int) (A : Option Addr) (n m : Nat) (L : List En) (w : World) (hz : Ens w P A n L) (hP : ∀ b', P b' → b' < w.heap.size) (hn : n ≤ 1000000) (hs : esm L) (e0 : 0 ≤ e) (e9 : e < 18446744073709551616) (b0 : 0 ≤ b) (b1 : b < 18446744073709551616) (hjl : (jn L).length ≤ 10000) :
    Calls Tryz.prog 9 #[btagg e b A n m] w (BbyPost (e, b, L) w) := by
  have hX := Blk.new w (btenc e b A n m) 25
  have hb := below_one w (.cells (btenc e b A n m) 25)
  have HX := Lib.hid hX
  obtain ⟨x0, x1, x2⟩ := hX.c3
  clear hX
  have hz1 := hz.below hb
  have HSM := Lib.hid hs
  have HJB := Lib.hid (jn_byte hz)
  clear hz hs
  go_enter Tryz.func9, Tryz.ntmps9
  go_wp2_with fail
  refine (wnew_any _ _ (by omega)).mono ?_
  rintro en w1 ⟨wb, rfl, hg1, hb1, hw1⟩
  rw [if_neg (by omega)] at hw1
  have hX := HX.out.below hb1
  replace hz1 := hz1.below hb1
  have hbd := hb.trans (hb1.mono hb.size)
  have hBX := hb1.size
  have hPB : ∀ b', P b' → b' < w1.heap.size → ¬ WS wb none b' := fun b' h1 _ => hw1.off_lt (by have := hP b' h1; simp; omega)
  clear x0 x1 x2 hb1 HX
  obtain ⟨x0, x1, x2⟩ := hX.c3
  cases hok : btk (e, b, L)
  · go_wp2_with fail
    refine (bput_no P e b A n m L hw1 hz1 hn HSM.out b0 b1 hok).mono ?_
    rintro en w2 ⟨rfl, hk, hw2⟩
    rw [if_pos rfl] at hw2
    have hbd2 := hw1.belowOf hbd (Nat.le_refl _) hk hb.size
    have HOK := Lib.hid hok
    clear x0 x1 x2 hok
    go_wp2_with fail
    refine (wbytes_bad hw2 (by decide)).mono ?_
    rintro en w3 ⟨rfl, rfl⟩
    go_wp2
    go_ret2
    exact ⟨hbd2, .inr ⟨HOK.out, rfl⟩⟩
  · have HOK := Lib.hid hok
    have HLE := Lib.hid (btb_len hok hjl HJB.out)
    have HPI : Hid (puts (btis e b L) [] 9223372036854775807 0 = (btb (e, b, L), 0)) := Lib.hid (by
      rw [puts_fits (by rw [btis_flat]; have := HLE.out; simp; omega), btis_flat, List.nil_append])
    go_wp2_with fail
    refine (bput_yes P e b A n m L hw1 hz1 HSM.out e0 e9 b0 b1 hok hPB (by simp) hBX hjl).mono ?_
    rintro en w2 ⟨r2, rfl, hk, _, hw2⟩
    rw [HPI.out] at hw2
    have hbd2 := hw1.belowOf hbd (Nat.le_refl _) hk hb.size
    clear x0 x1 x2 hok
    go_wp2_with fail
    refine (wbytes_good (z := btb (e, b, L)) hw2 (by have := HLE.out; omega)).mono ?_
    rintro en w3 ⟨g, rfl, hg, hb3, hblk⟩
    have hs3 := Bs.of_block hblk
    have hbd3 := hbd2.trans (hb3.mono hbd2.size)
    have hgw : w.heap.size ≤ g := Nat.le_trans hbd2.size hg
    go_wp2
    go_ret2
    exact ⟨hbd3, .inl ⟨HOK.out, g, rfl, hgw, hs3⟩⟩
def HkS (w w' : World) : Prop := Below w.heap.size w w'
end Go.Proofs.YtlealkfkddhnnaaGreat.Cur
