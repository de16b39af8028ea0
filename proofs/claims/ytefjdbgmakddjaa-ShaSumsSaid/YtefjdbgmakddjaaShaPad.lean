/- The contract of Pad. -/
import Derived.Test.YtefjdbgmakddjaaShaBig
import Derived.Test.YtefjdbgmakddjaaShelf
namespace Go.Proofs.Ytefjdbgmakddjaa
open Go.RowKit
open Sh
set_option linter.unusedVariables false
/-- How many zeros. -/
def padZ (n : Nat) : Nat := (119 - n % 64) % 64
/-- The length in bits, as eight bytes. -/
def lenB (n : Nat) : List UInt8 := (List.range 8).map fun m => UInt8.ofNat (8 * n / 256 ^ (7 - m))
def padL (l : List UInt8) : List UInt8 := ((l ++ [128]) ++ List.replicate (padZ l.length) 0) ++ lenB l.length
theorem lenB_len (n : Nat) : (lenB n).length = 8 := by unfold lenB; rw [List.length_map, List.length_range]
theorem padL_len (l : List UInt8) : (padL l).length = l.length + 1 + padZ l.length + 8 := by
  unfold padL
  rw [List.length_append, List.length_append, List.length_append, List.length_replicate, lenB_len]; rfl
theorem lenB_be (n : Nat) (h : n ≤ 4000) : beL [0, 8 * (n : Int)] = lenB n := by
  have e : ∀ m, (8 * (n : Int) / m).toNat = (8 * (n : Int) / m).toNat := fun _ => rfl
  have a1 : (8 * (n : Int) / 16777216).toNat = 8 * n / 256 ^ 3 := by omega
  have a2 : (8 * (n : Int) / 65536).toNat = 8 * n / 256 ^ 2 := by omega
  have a3 : (8 * (n : Int) / 256).toNat = 8 * n / 256 ^ 1 := by omega
  have a4 : (8 * (n : Int)).toNat = 8 * n / 256 ^ 0 := by omega
  have z7 : 8 * n / 256 ^ 7 = 0 := Nat.div_eq_of_lt (by omega)
  have z6 : 8 * n / 256 ^ 6 = 0 := Nat.div_eq_of_lt (by omega)
  have z5 : 8 * n / 256 ^ 5 = 0 := Nat.div_eq_of_lt (by omega)
  have z4 : 8 * n / 256 ^ 4 = 0 := Nat.div_eq_of_lt (by omega)
  show [UInt8.ofNat 0, UInt8.ofNat 0, UInt8.ofNat 0, UInt8.ofNat 0, UInt8.ofNat (8 * (n : Int) / 16777216).toNat, UInt8.ofNat (8 * (n : Int) / 65536).toNat, UInt8.ofNat (8 * (n : Int) / 256).toNat, UInt8.ofNat (8 * (n : Int)).toNat] =
    [UInt8.ofNat (8 * n / 256 ^ 7), UInt8.ofNat (8 * n / 256 ^ 6), UInt8.ofNat (8 * n / 256 ^ 5), UInt8.ofNat (8 * n / 256 ^ 4), UInt8.ofNat (8 * n / 256 ^ 3), UInt8.ofNat (8 * n / 256 ^ 2), UInt8.ofNat (8 * n / 256 ^ 1), UInt8.ofNat (8 * n / 256 ^ 0)]
  rw [a1, a2, a3, a4, z7, z6, z5, z4]
theorem repeatL_one (c : UInt8) (n : Nat) : Lib.repeatL [c] n = List.replicate n c := by
  induction n with
  | zero => rfl
  | succ n ih => simp [Lib.repeatL, ih, List.replicate_succ]
theorem repeat_any (n : Nat) (q : ByteArray) (w : World) (h : n ≤ 63) (hq : List.replicate n (0 : UInt8) = q.data.toList) :
    Calls Try.prog 27 #[.string ⟨#[0]⟩, .int .i64 (n : Int)] w fun e w' => e = .returned (.string q) ∧ Below w.heap.size w w' := by
  refine (Try.strings_Repeat ⟨#[0]⟩ n w (by omega) (by show 1 * n ≤ _; omega)).mono ?_
  rintro e w' ⟨rfl, hb⟩
  exact ⟨by show Ending.returned (.string ⟨(Lib.repeatL [0] n).toArray⟩) = _; rw [repeatL_one, hq], hb⟩
theorem bytes_ext {a b : ByteArray} (h : a.data.toList = b.data.toList) : a = b := by
  cases a; cases b; simp at h; simp [h]
theorem data_app (a b : ByteArray) : (a ++ b).data.toList = a.data.toList ++ b.data.toList := by
  rw [ByteArray.data_append]; simp
theorem bigEndian_q (v : Value) (l : List Int) (q : ByteArray) (w : World) (h : RE encU w v l) (hl : l.length ≤ 100) (hw : ∀ x ∈ l, 0 ≤ x) (hq : beL l = q.data.toList) :
    Calls Try.prog 26 #[v] w fun e w' => e = .returned (.string q) ∧ Below w.heap.size w w' :=
  (bigEndian_any v l w h hl hw).mono fun e w' ⟨h1, h2⟩ => ⟨by rw [h1, hq], h2⟩
theorem re_two (w : World) (x y : Int) : RE encU (w.alloc (.cells #[.int .u32 x, .int .u32 y] 25)) (.slice (some ⟨w.heap.size, 0, none⟩) 2 2) [x, y] := by
  refine ⟨some ⟨w.heap.size, 0, none⟩, 2, rfl, Nat.le_refl _, by unfold maxLen; decide, .inr ⟨w.heap.size, rfl, by simp, fun j hj => ?_⟩⟩
  rw [cell_of_row _ _ j _ _ (0, 0) (row_new w _)]
  have hj' : j < 2 := hj
  match j, hj' with
  | 0, _ => rfl
  | 1, _ => rfl
set_option maxHeartbeats 4000000 in
theorem Pad_any (s : ByteArray) (w : World) (hs : s.size ≤ 4000) :
    Calls Try.prog 13 #[.string s] w fun e w' => e = .returned (.string ⟨(padL s.data.toList).toArray⟩) ∧ Below w.heap.size w w' := by
  obtain ⟨n, hn⟩ : ∃ n, s.size = n := ⟨_, rfl⟩
  have hlen : s.data.toList.length = n := by rw [← hn]; rfl
  obtain ⟨r, hr⟩ : ∃ r, n % 64 = r := ⟨_, rfl⟩
  obtain ⟨z, hz⟩ : ∃ z, padZ n = z := ⟨_, rfl⟩
  have hz2 : (119 - r) % 64 = z := by rw [← hz, ← hr]; rfl
  obtain ⟨Q1, hQ1⟩ : ∃ q : ByteArray, List.replicate z (0 : UInt8) = q.data.toList := ⟨⟨(List.replicate z 0).toArray⟩, by simp⟩
  obtain ⟨Q2, hQ2⟩ : ∃ q : ByteArray, lenB n = q.data.toList := ⟨⟨(lenB n).toArray⟩, by simp⟩
  have hq1' : Q1.size = z := by have h := congrArg List.length hQ1; rw [List.length_replicate] at h; exact h.symm
  have hq1 : Q1.size ≤ 63 := by omega
  have hq2 : Q2.size = 8 := by have h := congrArg List.length hQ2; rw [lenB_len] at h; exact h.symm
  clear hq1'
  have HP : Hid (padL s.data.toList = ((s.data.toList ++ [128]) ++ Q1.data.toList) ++ Q2.data.toList) := Lib.hid (by unfold padL; rw [hlen, hz, hQ1, hQ2])
  have HR := Lib.hid fun w0 => repeat_any z Q1 w0 (by omega) hQ1
  have HB := Lib.hid fun v w0 (h : RE encU w0 v [0, 8 * (n : Int)]) => bigEndian_q v [0, 8 * (n : Int)] Q2 w0 h (by simp) (by intro x hx; simp at hx; omega) ((lenB_be n (by omega)).trans hQ2)
  have m1 : (n : Int).tmod 64 = (r : Int) := by rw [Int.tmod_eq_emod_of_nonneg (by omega)]; omega
  have m2 : (n : Int) % 64 = (r : Int) := by omega
  have m3 : IntKind.i64.wrap (119 - (r : Int)) = 119 - (r : Int) := wrap_sm (by omega) (by omega)
  have m4 : (119 - (r : Int)).tmod 64 = (z : Int) := by rw [Int.tmod_eq_emod_of_nonneg (by omega)]; omega
  have m5 : (119 - (r : Int)) % 64 = (z : Int) := by omega
  have l1 : IntKind.u64.wrap (n : Int) = (n : Int) := wrap64u (by omega) (by omega)
  have l2 : IntKind.u64.wrap ((n : Int) * 8) = 8 * (n : Int) := by rw [wrap64u (by omega) (by omega)]; omega
  have l3 : (8 * (n : Int)) / 4294967296 = 0 := by omega
  have l4 : IntKind.u32.wrap (8 * (n : Int)) = 8 * (n : Int) := by rw [Sh.wrap32]; omega
  have l5 : (8 * (n : Int)) % 4294967296 = 8 * (n : Int) := by omega
  clear hz hz2 hr hQ1 hQ2 hlen
  go_enter Try.func13, Try.ntmps13
  go_wp2_with fail
  refine (HB.out _ _ (re_two w _ _)).mono ?_
  rintro e w1 ⟨rfl, hb1⟩
  go_wp2_with fail
  refine (HR.out _).mono ?_
  rintro e w2 ⟨rfl, hb2⟩
  have b2 : Below w.heap.size w w2 := (((Below.refl _ w).alloc (Nat.le_refl _) _).trans (hb1.mono (by simp))).trans (hb2.mono (by have := hb1.size; simp at this; omega))
  clear hb1 hb2
  go_wp2
  go_ret
  exact ⟨ret_s (bytes_ext (by rw [data_app, data_app, data_app]; show _ = padL s.data.toList; rw [HP.out])), b2⟩
end Go.Proofs.Ytefjdbgmakddjaa
