/- Numbers as words: strconv.FormatUint at base 10; the document's Num. -/
import Derived.Test.YtogfjejodoefeaaDoorShelf
import Derived.Test.YtogfjejodoefeaaDoorK1
import Derived.Lib.ItoaMem
import Derived.Lib.AppendIntMem
import Derived.Lib.Hide
namespace Go.Proofs.YtogfjejodoefeaaDoor.Cur
open Go.RowKit Mem
set_option linter.unusedVariables false
set_option maxRecDepth 100000

/-- The table of powers is as the text lays it. -/
def Tbs (w : World) : Prop := Lib.TabIs Tryd.prog w "internal/strconv.uint64pow10" .u64 Lib.pow10Tab
theorem Tbs.below {w w' : World} (h : Tbs w) (hb : Below w.heap.size w w') : Tbs w' := by
  unfold Tbs Lib.TabIs World.var? at *
  cases hg : Tryd.prog.globalNamed "internal/strconv.uint64pow10" with
  | none => simp [hg] at h
  | some g =>
    simp only [hg, Option.bind_some] at h ⊢
    have hlt : g < w.heap.size := by
      rcases Nat.lt_or_ge g w.heap.size with h' | h'
      · exact h'
      · rw [Array.getElem?_eq_none h'] at h; simp at h
    rw [hb.block g hlt]
    exact h
theorem Tbs.drewN {w : World} (h : Tbs w) (k : Nat) : Tbs (w.drewN k) := h

theorem below_grow (w : World) (k : Nat) (os : Array Obj) : Below w.heap.size w (Sort.grow (w.drewN k) os) :=
  ⟨rfl, rfl, rfl, by show w.heap.size ≤ (w.heap ++ os).size; simp, fun i hi => by show (w.heap ++ os)[i]? = w.heap[i]?; exact Array.getElem?_append_left hi⟩

set_option maxHeartbeats 4000000 in
theorem iuint_any (u : Nat) (w : World) (hu : u < 18446744073709551616) (hT : Tbs w) :
    Calls Tryd.prog 33 #[.int .u64 (u : Int), .int .i64 10] w fun e w' => e = .returned (.string ⟨(Lib.decDigits u).toArray⟩) ∧ Below w.heap.size w w' := by
  by_cases hs : u < 100
  · have hsm := Tryd.internal_strconv_small u hs
    have hus : (u : Int) < 100 := by omega
    go_enter Tryd.func33, Tryd.ntmps33
    go_wp2_with fail
    refine (hsm _).mono ?_
    rintro e w' ⟨rfl, rfl⟩
    go_wp2
    go_ret
    exact ⟨rfl, Below.refl _ _⟩
  · have hus : ¬ (u : Int) < 100 := by omega
    have hu1 : 1 ≤ u := by omega
    have hnd20 : Lib.nDigits u ≤ 20 := by have := Lib.numDigits_eq u hu1 hu; split at this <;> omega
    have hal : Tryd.prog.arrayLen 70 = 24 := by kernel_rfl
    have hnd := fun (w : World) (hT : Tbs w) => Tryd.internal_strconv_numDigits u hu1 hu w hT
    have hsl1 : ∀ W, (Instr.sliceAt 70 (.pointer (some ⟨w.heap.size, 0, none⟩)) none (some (.int .i64 (Lib.nDigits u : Int))) none).run Tryd.prog W = .ok (.slice (some ⟨w.heap.size, 0, none⟩) (Lib.nDigits u) 24) W := fun W => by
      rw [run_sliceAt_array_h W 70 ⟨w.heap.size, 0, none⟩ (by simp [Program.arrayLen, Program.elem, Tryd.underlying70]) .i64 (Lib.nDigits u : Int) (by omega) (by rw [hal]; omega)]
      go_simp
    have hH0 := Lib.holds_zero0 w 70 (Lib.nDigits u) (by omega)
    have hfmt := Tryd.internal_strconv_formatBase10 w.heap.size 0 24 u (Array.replicate (Lib.nDigits u) 0) (w.alloc (.cells Lib.zeros24 70)) hH0 (by rw [Array.size_replicate]; exact Lib.lt_pow_nDigits u) hu (by rw [Array.size_replicate]; omega)
    rw [Array.size_replicate] at hfmt
    have HH0 := Lib.hid hH0
    have hTA := hT.below (below_one w (.cells Lib.zeros24 70))
    clear hH0 hal
    go_enter Tryd.func33, Tryd.ntmps33
    go_wp2_with fail
    refine (hnd _ hTA).mono ?_
    rintro e w' ⟨rfl, rfl⟩
    go_wp2_with fail
    refine hfmt.mono ?_
    rintro e w' ⟨rfl, k, v', dk, rfl, hF⟩
    have hcv : (convert 34 9 (.slice (some ⟨w.heap.size, 0, none⟩) (Lib.nDigits u) 24)).run Tryd.prog ((Sort.putRow (fun (b : UInt8) => Value.int .u8 (b.toNat : Int)) (w.alloc (.cells Lib.zeros24 70)) w.heap.size 0 dk).drewN k) = .ok (.string ⟨(Lib.decDigits u).toArray⟩) ((Sort.putRow (fun (b : UInt8) => Value.int .u8 (b.toNat : Int)) (w.alloc (.cells Lib.zeros24 70)) w.heap.size 0 dk).drewN k) := by
      have h := run_convert_bytes_back (P := Tryd.prog) ((Sort.putRow (fun (b : UInt8) => Value.int .u8 (b.toNat : Int)) (w.alloc (.cells Lib.zeros24 70)) w.heap.size 0 dk).drewN k) 34 9 5 ⟨w.heap.size, 0, none⟩ 24 (Lib.decDigits u) Tryd.underlying34 Tryd.underlying5 Tryd.underlying9 (fun j hj => by
        rw [Lib.row_is_numeral hF j hj, Lib.add_plain, World.cell?_drewN]
        exact Sort.cell?_putRow (fun (b : UInt8) => Value.int .u8 (b.toNat : Int)) _ w.heap.size 0 _ dk HH0.out (by rw [hF.size, Array.size_replicate]) j (by rw [hF.size]; rw [Lib.decDigits_length] at hj; exact hj))
      rw [Lib.decDigits_length] at h
      exact h
    obtain ⟨os, eo⟩ := Lib.fin_at w (.cells Lib.zeros24 70) dk k 0
    have HB : Hid (Below w.heap.size w ((Sort.putRow (fun (b : UInt8) => Value.int .u8 (b.toNat : Int)) (w.alloc (.cells Lib.zeros24 70)) w.heap.size 0 dk).drewN k)) := Lib.hid (by rw [eo]; exact below_grow w k os)
    clear eo
    go_wp2
    go_ret
    exact ⟨rfl, HB.out⟩

theorem num_any (u : Nat) (w : World) (hu : u < 18446744073709551616) (hT : Tbs w) :
    Calls Tryd.prog 15 #[.int .u64 (u : Int)] w fun e w' => e = .returned (.string ⟨(Lib.decDigits u).toArray⟩) ∧ Below w.heap.size w w' := by
  have h := iuint_any u w hu hT
  have h2 : Calls Tryd.prog 28 #[.int .u64 (u : Int), .int .i64 10] w fun e w' => e = .returned (.string ⟨(Lib.decDigits u).toArray⟩) ∧ Below w.heap.size w w' := by
    go_enter Tryd.func28, Tryd.ntmps28
    go_wp2_with fail
    refine h.mono ?_
    rintro e w' ⟨rfl, hb⟩
    go_wp2
    go_ret
    exact ⟨rfl, hb⟩
  clear h
  go_enter Tryd.func15, Tryd.ntmps15
  go_wp2_with fail
  refine h2.mono ?_
  rintro e w' ⟨rfl, hb⟩
  go_wp2
  go_ret
  exact ⟨rfl, hb⟩

theorem ba_append (x y : List UInt8) : (⟨x.toArray⟩ : ByteArray) ++ ⟨y.toArray⟩ = ⟨(x ++ y).toArray⟩ := by
  apply ByteArray.ext
  show ((⟨x.toArray⟩ : ByteArray) ++ ⟨y.toArray⟩).data = _
  rw [ByteArray.data_append]
  simp

theorem dec_small {u : Nat} (h : u < 10) : Lib.decDigits u = [UInt8.ofNat (48 + u)] := Lib.decDigits_one h
theorem dec_big {u : Nat} (h : ¬ u < 10) : Lib.decDigits u = Lib.decDigits (u / 10) ++ [UInt8.ofNat (48 + u % 10)] := by rw [Lib.decDigits, dif_neg h]
theorem nd20 {u : Nat} (h : u < 18446744073709551616) : (Lib.decDigits u).length ≤ 20 := by
  rw [Lib.decDigits_length]
  rcases Nat.eq_zero_or_pos u with rfl | h1
  · rw [Lib.nDigits_small (by omega)]; omega
  · have := Lib.numDigits_eq u h1 h
    split at this <;> omega
theorem sign_nat {d : Nat} (h : d < 10) : ((UInt8.ofNat (48 + d)).toNat : Int) = 48 + d := by
  have : (UInt8.ofNat (48 + d)).toNat = 48 + d := by simp; omega
  rw [this]; push_cast; rfl

set_option maxHeartbeats 800000 in
theorem rnum_any : ∀ (u : Nat) (w : World), u < 18446744073709551616 →
    Calls Tryd.prog 16 #[.int .u64 (u : Int)] w fun e w' => e = .returned (.string ⟨(Lib.decDigits u).toArray⟩) ∧ Below w.heap.size w w' := by
  intro u
  induction u using Nat.strongRecOn with
  | ind u ih =>
    intro w hu
    obtain ⟨d, hd⟩ : ∃ d : Nat, u % 10 = d := ⟨_, rfl⟩
    have hd10 : d < 10 := by omega
    have hm : (u : Int) % 10 = (d : Int) := by omega
    have e1 : IntKind.u64.wrap (48 + (d : Int)) = 48 + (d : Int) := by rw [IntKind.wrap_u64]; omega
    have e2 : IntKind.u8.wrap (48 + (d : Int)) = 48 + (d : Int) := by rw [IntKind.wrap_u8]; omega
    have hcell := (Blk.new w #[Value.int .u8 (48 + (d : Int))] 5).c1
    have hcv : (convert 34 9 (.slice (some ⟨w.heap.size, 0, none⟩) 1 1)).run Tryd.prog (w.alloc (.cells #[Value.int .u8 (48 + (d : Int))] 5)) = .ok (.string ⟨[UInt8.ofNat (48 + d)].toArray⟩) (w.alloc (.cells #[Value.int .u8 (48 + (d : Int))] 5)) := by
      have h := run_convert_bytes_back (P := Tryd.prog) (w.alloc (.cells #[Value.int .u8 (48 + (d : Int))] 5)) 34 9 5 ⟨w.heap.size, 0, none⟩ 1 [UInt8.ofNat (48 + d)] Tryd.underlying34 Tryd.underlying5 Tryd.underlying9 (fun j hj => by
        have : j = 0 := by simpa using hj
        subst this
        rw [Lib.add_plain]
        simp only [List.getElem_cons_zero]
        rw [sign_nat hd10]
        exact hcell)
      exact h
    have hb1 := below_one w (.cells #[Value.int .u8 (48 + (d : Int))] 5)
    obtain ⟨S2, hS2⟩ : ∃ S : ByteArray, (⟨[UInt8.ofNat (48 + d)].toArray⟩ : ByteArray) = S := ⟨_, rfl⟩
    rw [hS2] at hcv
    by_cases hs : u < 10
    · have hsi : (u : Int) < 10 := by omega
      have HE : Hid ((⟨(Lib.decDigits u).toArray⟩ : ByteArray) = S2) := Lib.hid (by rw [← hS2, dec_small hs, ← hd, Nat.mod_eq_of_lt hs])
      clear hd hs ih hu hcell hS2
      go_enter Tryd.func16, Tryd.ntmps16
      go_wp2
      go_ret
      exact ⟨by rw [HE.out]; rfl, hb1⟩
    · have hsi : ¬ (u : Int) < 10 := by omega
      have HE : Hid (Lib.decDigits u = Lib.decDigits (u / 10) ++ [UInt8.ofNat (48 + d)]) := Lib.hid (by rw [dec_big hs, hd])
      have hq : (u : Int) / 10 = ((u / 10 : Nat) : Int) := by omega
      have hrec := ih (u / 10) (by omega)
      have hqb : u / 10 < 18446744073709551616 := by omega
      have HR := Lib.hid (fun w => hrec w hqb)
      have e3 : IntKind.u64.wrap ((u / 10 : Nat) : Int) = ((u / 10 : Nat) : Int) := by rw [IntKind.wrap_u64]; omega
      have hba := ba_append (Lib.decDigits (u / 10)) [UInt8.ofNat (48 + d)]
      rw [← HE.out, hS2] at hba
      obtain ⟨S3, hS3⟩ : ∃ S : ByteArray, (⟨(Lib.decDigits u).toArray⟩ : ByteArray) = S := ⟨_, rfl⟩
      obtain ⟨S1, hS1⟩ : ∃ S : ByteArray, (⟨(Lib.decDigits (u / 10)).toArray⟩ : ByteArray) = S := ⟨_, rfl⟩
      rw [hS3, hS1] at hba
      rw [hS1] at HR
      rw [hS3]
      have hlim : ¬ 9223372036854775807 < S1.size + S2.size := by
        have h1 : S1.size = (Lib.decDigits (u / 10)).length := by rw [← hS1]; simp [ByteArray.size]
        have h2 : S2.size = 1 := by rw [← hS2]; rfl
        have := nd20 (u := u / 10) hqb
        omega
      clear hd hs ih hu hcell hrec hqb HE hS1 hS2 hS3
      generalize u / 10 = q at *
      go_enter Tryd.func16, Tryd.ntmps16
      go_wp2_with fail
      with_reducible refine (HR.out _).mono ?_
      rintro e w2 ⟨rfl, hb2⟩
      have HB := Lib.hid (hb1.trans (hb2.mono hb1.size))
      clear hb1 hb2 hcv HR hq hm e1 e2 e3 hsi
      go_wp2
      go_ret
      exact ⟨rfl, HB.out⟩
end Go.Proofs.YtogfjejodoefeaaDoor.Cur
