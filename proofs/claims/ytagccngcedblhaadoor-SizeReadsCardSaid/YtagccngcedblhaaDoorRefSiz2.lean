/- The contract of the document's own Parse. -/
import Derived.Test.YtagccngcedblhaaDoorRefSiz1
import Derived.Test.YtagccngcedblhaaDoorRefDig3
import Derived.Test.YtagccngcedblhaaDoorRefDig4
import Derived.Laws.Runes
namespace Go.Proofs.YtagccngcedblhaaDoor
open Go.RowKit
open Dg
set_option linter.unusedVariables false
theorem tl_head {l : List UInt8} {c : UInt8} {r : List UInt8} (h : tlD l = c :: r) : isDig c = false := by
  unfold tlD at h
  have := List.head?_dropWhile_not isDig l
  rw [h] at this
  simpa using this
theorem long_q (t : ByteArray) (u : Nat) (w : World) (hu : uz t.data.toList = u) :
    Calls Tryd.prog 16 #[.string t] w fun e w' => e = .returned (.int .i64 (u : Int)) ∧ w = w' := by
  subst hu; exact long_any t w
theorem whole_q (h : ByteArray) (b : Bool) (w : World) (hs : h.size ≤ maxLen) (hb : whole h.data.toList = b) :
    Calls Tryd.prog 17 #[.string h] w fun e w' => e = .returned (.bool b) ∧ w = w' := by
  subst hb; exact RWhole_any h w hs
theorem value_q (h : ByteArray) (v : Int) (w : World) (hs : h.size ≤ maxLen) (hw : whole h.data.toList = true) (hv : capN h.data.toList = v) :
    Calls Tryd.prog 18 #[.string h] w fun e w' => e = .returned (.int .i64 v) ∧ w = w' := by
  subst hv; exact RValue_any h w hs (digs_of_whole hw)
set_option maxHeartbeats 2000000 in
theorem RZP_b_0_z (s t h : ByteArray) (w : World) (hs : s.size ≤ maxLen) (hts : t.size ≤ maxLen) (hhs : h.size ≤ maxLen) (hle : h.size ≤ s.size) (hlt3 : h.size < s.size) (hg1 : (s[h.size].toNat : Int) < 48)
    (hx : s.extract 0 h.size = h) (hy : s.extract h.size s.size = t) (HDig : Hid (∀ (k : Nat) (h1 : k < h.size) (h2 : k < s.size), (48 : Int) ≤ (s[k].toNat : Int) ∧ (s[k].toNat : Int) ≤ 57)) (HU : Hid (uz t.data.toList = 0)) :
    Calls Tryd.prog 8 #[.string s] w fun e w' => e = .returned (.tuple #[.int .i64 0, .int .i64 3]) ∧ w = w' := by
  unfold maxLen at hs
  have hhs' := hhs
  unfold maxLen at hhs'
  go_enter Tryd.func8, Tryd.ntmps8
  go_wp2
  go_loop [4] (fun i => ∃ k : Nat, k ≤ h.size ∧ i = .int .i64 (k : Int)) (fun i => s.size - (intOf i).toNat)
  case atStart => exact ⟨0, Nat.zero_le _, rfl⟩
  case round =>
    obtain ⟨k, hk, rfl⟩ := hrel
    by_cases hlt : k < h.size
    · have hlt2 : k < s.size := by omega
      obtain ⟨g1, g2⟩ := HDig.out k hlt hlt2
      go_wp2
      go_round
      case rel => exact ⟨k + 1, by omega, by go_num⟩
      case measure => simp [intOf]; omega
    · obtain rfl : k = h.size := by omega
      go_wp2_with fail
      refine (long_q t 0 _ HU.out).mono ?_
      rintro e w1 ⟨rfl, rfl⟩
      go_wp2
      go_ret2
      exact ⟨rfl, rfl⟩
set_option maxHeartbeats 2000000 in
theorem RZP_c_0_z (s t h : ByteArray) (w : World) (hs : s.size ≤ maxLen) (hts : t.size ≤ maxLen) (hhs : h.size ≤ maxLen) (hle : h.size ≤ s.size) (hlt3 : h.size < s.size) (hg1 : (48 : Int) ≤ (s[h.size].toNat : Int)) (hg2 : (57 : Int) < (s[h.size].toNat : Int))
    (hx : s.extract 0 h.size = h) (hy : s.extract h.size s.size = t) (HDig : Hid (∀ (k : Nat) (h1 : k < h.size) (h2 : k < s.size), (48 : Int) ≤ (s[k].toNat : Int) ∧ (s[k].toNat : Int) ≤ 57)) (HU : Hid (uz t.data.toList = 0)) :
    Calls Tryd.prog 8 #[.string s] w fun e w' => e = .returned (.tuple #[.int .i64 0, .int .i64 3]) ∧ w = w' := by
  unfold maxLen at hs
  have hhs' := hhs
  unfold maxLen at hhs'
  go_enter Tryd.func8, Tryd.ntmps8
  go_wp2
  go_loop [4] (fun i => ∃ k : Nat, k ≤ h.size ∧ i = .int .i64 (k : Int)) (fun i => s.size - (intOf i).toNat)
  case atStart => exact ⟨0, Nat.zero_le _, rfl⟩
  case round =>
    obtain ⟨k, hk, rfl⟩ := hrel
    by_cases hlt : k < h.size
    · have hlt2 : k < s.size := by omega
      obtain ⟨g1, g2⟩ := HDig.out k hlt hlt2
      go_wp2
      go_round
      case rel => exact ⟨k + 1, by omega, by go_num⟩
      case measure => simp [intOf]; omega
    · obtain rfl : k = h.size := by omega
      go_wp2_with fail
      refine (long_q t 0 _ HU.out).mono ?_
      rintro e w1 ⟨rfl, rfl⟩
      go_wp2
      go_ret2
      exact ⟨rfl, rfl⟩
set_option maxHeartbeats 2000000 in
theorem RZP_a_1_n (s t h : ByteArray) (w : World) (hs : s.size ≤ maxLen) (hts : t.size ≤ maxLen) (hhs : h.size ≤ maxLen) (hle : h.size ≤ s.size) (hlt3 : ¬ h.size < s.size)
    (hx : s.extract 0 h.size = h) (hy : s.extract h.size s.size = t) (HDig : Hid (∀ (k : Nat) (h1 : k < h.size) (h2 : k < s.size), (48 : Int) ≤ (s[k].toNat : Int) ∧ (s[k].toNat : Int) ≤ 57)) (HU : Hid (uz t.data.toList = 1)) (HW : Hid (whole h.data.toList = false)) :
    Calls Tryd.prog 8 #[.string s] w fun e w' => e = .returned (.tuple #[.int .i64 0, .int .i64 3]) ∧ w = w' := by
  unfold maxLen at hs
  have hhs' := hhs
  unfold maxLen at hhs'
  go_enter Tryd.func8, Tryd.ntmps8
  go_wp2
  go_loop [4] (fun i => ∃ k : Nat, k ≤ h.size ∧ i = .int .i64 (k : Int)) (fun i => s.size - (intOf i).toNat)
  case atStart => exact ⟨0, Nat.zero_le _, rfl⟩
  case round =>
    obtain ⟨k, hk, rfl⟩ := hrel
    by_cases hlt : k < h.size
    · have hlt2 : k < s.size := by omega
      obtain ⟨g1, g2⟩ := HDig.out k hlt hlt2
      go_wp2
      go_round
      case rel => exact ⟨k + 1, by omega, by go_num⟩
      case measure => simp [intOf]; omega
    · obtain rfl : k = h.size := by omega
      go_wp2_with fail
      refine (long_q t 1 _ HU.out).mono ?_
      rintro e w1 ⟨rfl, rfl⟩
      go_wp2_with fail
      refine (whole_q h false _ hhs HW.out).mono ?_
      rintro e w1 ⟨rfl, rfl⟩
      go_wp2
      go_ret2
      exact ⟨rfl, rfl⟩
set_option maxHeartbeats 2000000 in
theorem RZP_a_1_big (s t h : ByteArray) (w : World) (hs : s.size ≤ maxLen) (hts : t.size ≤ maxLen) (hhs : h.size ≤ maxLen) (hle : h.size ≤ s.size) (hlt3 : ¬ h.size < s.size)
    (hx : s.extract 0 h.size = h) (hy : s.extract h.size s.size = t) (HDig : Hid (∀ (k : Nat) (h1 : k < h.size) (h2 : k < s.size), (48 : Int) ≤ (s[k].toNat : Int) ∧ (s[k].toNat : Int) ≤ 57)) (HU : Hid (uz t.data.toList = 1)) (HW : Hid (whole h.data.toList = true)) (V : Int) (HV : Hid (capN h.data.toList = V)) (hv0 : 0 ≤ V) (hv : (1125899906842624 : Int) < V) :
    Calls Tryd.prog 8 #[.string s] w fun e w' => e = .returned (.tuple #[.int .i64 0, .int .i64 9]) ∧ w = w' := by
  unfold maxLen at hs
  have hhs' := hhs
  unfold maxLen at hhs'
  go_enter Tryd.func8, Tryd.ntmps8
  go_wp2
  go_loop [4] (fun i => ∃ k : Nat, k ≤ h.size ∧ i = .int .i64 (k : Int)) (fun i => s.size - (intOf i).toNat)
  case atStart => exact ⟨0, Nat.zero_le _, rfl⟩
  case round =>
    obtain ⟨k, hk, rfl⟩ := hrel
    by_cases hlt : k < h.size
    · have hlt2 : k < s.size := by omega
      obtain ⟨g1, g2⟩ := HDig.out k hlt hlt2
      go_wp2
      go_round
      case rel => exact ⟨k + 1, by omega, by go_num⟩
      case measure => simp [intOf]; omega
    · obtain rfl : k = h.size := by omega
      go_wp2_with fail
      refine (long_q t 1 _ HU.out).mono ?_
      rintro e w1 ⟨rfl, rfl⟩
      go_wp2_with fail
      refine (whole_q h true _ hhs HW.out).mono ?_
      rintro e w1 ⟨rfl, rfl⟩
      go_wp2_with fail
      refine (value_q h V _ hhs HW.out HV.out).mono ?_
      rintro e w1 ⟨rfl, rfl⟩
      go_wp2
      go_ret2
      exact ⟨rfl, rfl⟩
set_option maxHeartbeats 2000000 in
theorem RZP_a_1_ok (s t h : ByteArray) (w : World) (hs : s.size ≤ maxLen) (hts : t.size ≤ maxLen) (hhs : h.size ≤ maxLen) (hle : h.size ≤ s.size) (hlt3 : ¬ h.size < s.size)
    (hx : s.extract 0 h.size = h) (hy : s.extract h.size s.size = t) (HDig : Hid (∀ (k : Nat) (h1 : k < h.size) (h2 : k < s.size), (48 : Int) ≤ (s[k].toNat : Int) ∧ (s[k].toNat : Int) ≤ 57)) (HU : Hid (uz t.data.toList = 1)) (HW : Hid (whole h.data.toList = true)) (V : Int) (HV : Hid (capN h.data.toList = V)) (hv0 : 0 ≤ V) (hv : ¬ (1125899906842624 : Int) < V) (hw2 : IntKind.i64.wrap (V * 1) = V * 1) :
    Calls Tryd.prog 8 #[.string s] w fun e w' => e = .returned (.tuple #[.int .i64 (V * 1), .int .i64 0]) ∧ w = w' := by
  unfold maxLen at hs
  have hhs' := hhs
  unfold maxLen at hhs'
  go_enter Tryd.func8, Tryd.ntmps8
  go_wp2
  go_loop [4] (fun i => ∃ k : Nat, k ≤ h.size ∧ i = .int .i64 (k : Int)) (fun i => s.size - (intOf i).toNat)
  case atStart => exact ⟨0, Nat.zero_le _, rfl⟩
  case round =>
    obtain ⟨k, hk, rfl⟩ := hrel
    by_cases hlt : k < h.size
    · have hlt2 : k < s.size := by omega
      obtain ⟨g1, g2⟩ := HDig.out k hlt hlt2
      go_wp2
      go_round
      case rel => exact ⟨k + 1, by omega, by go_num⟩
      case measure => simp [intOf]; omega
    · obtain rfl : k = h.size := by omega
      go_wp2_with fail
      refine (long_q t 1 _ HU.out).mono ?_
      rintro e w1 ⟨rfl, rfl⟩
      go_wp2_with fail
      refine (whole_q h true _ hhs HW.out).mono ?_
      rintro e w1 ⟨rfl, rfl⟩
      go_wp2_with fail
      refine (value_q h V _ hhs HW.out HV.out).mono ?_
      rintro e w1 ⟨rfl, rfl⟩
      go_wp2
      go_ret2
      exact ⟨by first | rfl | exact ret_ii (by omega) rfl, rfl⟩
set_option maxHeartbeats 2000000 in
theorem RZP_c_1_n (s t h : ByteArray) (w : World) (hs : s.size ≤ maxLen) (hts : t.size ≤ maxLen) (hhs : h.size ≤ maxLen) (hle : h.size ≤ s.size) (hlt3 : h.size < s.size) (hg1 : (48 : Int) ≤ (s[h.size].toNat : Int)) (hg2 : (57 : Int) < (s[h.size].toNat : Int))
    (hx : s.extract 0 h.size = h) (hy : s.extract h.size s.size = t) (HDig : Hid (∀ (k : Nat) (h1 : k < h.size) (h2 : k < s.size), (48 : Int) ≤ (s[k].toNat : Int) ∧ (s[k].toNat : Int) ≤ 57)) (HU : Hid (uz t.data.toList = 1)) (HW : Hid (whole h.data.toList = false)) :
    Calls Tryd.prog 8 #[.string s] w fun e w' => e = .returned (.tuple #[.int .i64 0, .int .i64 3]) ∧ w = w' := by
  unfold maxLen at hs
  have hhs' := hhs
  unfold maxLen at hhs'
  go_enter Tryd.func8, Tryd.ntmps8
  go_wp2
  go_loop [4] (fun i => ∃ k : Nat, k ≤ h.size ∧ i = .int .i64 (k : Int)) (fun i => s.size - (intOf i).toNat)
  case atStart => exact ⟨0, Nat.zero_le _, rfl⟩
  case round =>
    obtain ⟨k, hk, rfl⟩ := hrel
    by_cases hlt : k < h.size
    · have hlt2 : k < s.size := by omega
      obtain ⟨g1, g2⟩ := HDig.out k hlt hlt2
      go_wp2
      go_round
      case rel => exact ⟨k + 1, by omega, by go_num⟩
      case measure => simp [intOf]; omega
    · obtain rfl : k = h.size := by omega
      go_wp2_with fail
      refine (long_q t 1 _ HU.out).mono ?_
      rintro e w1 ⟨rfl, rfl⟩
      go_wp2_with fail
      refine (whole_q h false _ hhs HW.out).mono ?_
      rintro e w1 ⟨rfl, rfl⟩
      go_wp2
      go_ret2
      exact ⟨rfl, rfl⟩
set_option maxHeartbeats 2000000 in
theorem RZP_c_1_big (s t h : ByteArray) (w : World) (hs : s.size ≤ maxLen) (hts : t.size ≤ maxLen) (hhs : h.size ≤ maxLen) (hle : h.size ≤ s.size) (hlt3 : h.size < s.size) (hg1 : (48 : Int) ≤ (s[h.size].toNat : Int)) (hg2 : (57 : Int) < (s[h.size].toNat : Int))
    (hx : s.extract 0 h.size = h) (hy : s.extract h.size s.size = t) (HDig : Hid (∀ (k : Nat) (h1 : k < h.size) (h2 : k < s.size), (48 : Int) ≤ (s[k].toNat : Int) ∧ (s[k].toNat : Int) ≤ 57)) (HU : Hid (uz t.data.toList = 1)) (HW : Hid (whole h.data.toList = true)) (V : Int) (HV : Hid (capN h.data.toList = V)) (hv0 : 0 ≤ V) (hv : (1125899906842624 : Int) < V) :
    Calls Tryd.prog 8 #[.string s] w fun e w' => e = .returned (.tuple #[.int .i64 0, .int .i64 9]) ∧ w = w' := by
  unfold maxLen at hs
  have hhs' := hhs
  unfold maxLen at hhs'
  go_enter Tryd.func8, Tryd.ntmps8
  go_wp2
  go_loop [4] (fun i => ∃ k : Nat, k ≤ h.size ∧ i = .int .i64 (k : Int)) (fun i => s.size - (intOf i).toNat)
  case atStart => exact ⟨0, Nat.zero_le _, rfl⟩
  case round =>
    obtain ⟨k, hk, rfl⟩ := hrel
    by_cases hlt : k < h.size
    · have hlt2 : k < s.size := by omega
      obtain ⟨g1, g2⟩ := HDig.out k hlt hlt2
      go_wp2
      go_round
      case rel => exact ⟨k + 1, by omega, by go_num⟩
      case measure => simp [intOf]; omega
    · obtain rfl : k = h.size := by omega
      go_wp2_with fail
      refine (long_q t 1 _ HU.out).mono ?_
      rintro e w1 ⟨rfl, rfl⟩
      go_wp2_with fail
      refine (whole_q h true _ hhs HW.out).mono ?_
      rintro e w1 ⟨rfl, rfl⟩
      go_wp2_with fail
      refine (value_q h V _ hhs HW.out HV.out).mono ?_
      rintro e w1 ⟨rfl, rfl⟩
      go_wp2
      go_ret2
      exact ⟨rfl, rfl⟩
set_option maxHeartbeats 2000000 in
theorem RZP_c_1_ok (s t h : ByteArray) (w : World) (hs : s.size ≤ maxLen) (hts : t.size ≤ maxLen) (hhs : h.size ≤ maxLen) (hle : h.size ≤ s.size) (hlt3 : h.size < s.size) (hg1 : (48 : Int) ≤ (s[h.size].toNat : Int)) (hg2 : (57 : Int) < (s[h.size].toNat : Int))
    (hx : s.extract 0 h.size = h) (hy : s.extract h.size s.size = t) (HDig : Hid (∀ (k : Nat) (h1 : k < h.size) (h2 : k < s.size), (48 : Int) ≤ (s[k].toNat : Int) ∧ (s[k].toNat : Int) ≤ 57)) (HU : Hid (uz t.data.toList = 1)) (HW : Hid (whole h.data.toList = true)) (V : Int) (HV : Hid (capN h.data.toList = V)) (hv0 : 0 ≤ V) (hv : ¬ (1125899906842624 : Int) < V) (hw2 : IntKind.i64.wrap (V * 1) = V * 1) :
    Calls Tryd.prog 8 #[.string s] w fun e w' => e = .returned (.tuple #[.int .i64 (V * 1), .int .i64 0]) ∧ w = w' := by
  unfold maxLen at hs
  have hhs' := hhs
  unfold maxLen at hhs'
  go_enter Tryd.func8, Tryd.ntmps8
  go_wp2
  go_loop [4] (fun i => ∃ k : Nat, k ≤ h.size ∧ i = .int .i64 (k : Int)) (fun i => s.size - (intOf i).toNat)
  case atStart => exact ⟨0, Nat.zero_le _, rfl⟩
  case round =>
    obtain ⟨k, hk, rfl⟩ := hrel
    by_cases hlt : k < h.size
    · have hlt2 : k < s.size := by omega
      obtain ⟨g1, g2⟩ := HDig.out k hlt hlt2
      go_wp2
      go_round
      case rel => exact ⟨k + 1, by omega, by go_num⟩
      case measure => simp [intOf]; omega
    · obtain rfl : k = h.size := by omega
      go_wp2_with fail
      refine (long_q t 1 _ HU.out).mono ?_
      rintro e w1 ⟨rfl, rfl⟩
      go_wp2_with fail
      refine (whole_q h true _ hhs HW.out).mono ?_
      rintro e w1 ⟨rfl, rfl⟩
      go_wp2_with fail
      refine (value_q h V _ hhs HW.out HV.out).mono ?_
      rintro e w1 ⟨rfl, rfl⟩
      go_wp2
      go_ret2
      exact ⟨by first | rfl | exact ret_ii (by omega) rfl, rfl⟩
set_option maxHeartbeats 2000000 in
theorem RZP_c_1024_n (s t h : ByteArray) (w : World) (hs : s.size ≤ maxLen) (hts : t.size ≤ maxLen) (hhs : h.size ≤ maxLen) (hle : h.size ≤ s.size) (hlt3 : h.size < s.size) (hg1 : (48 : Int) ≤ (s[h.size].toNat : Int)) (hg2 : (57 : Int) < (s[h.size].toNat : Int))
    (hx : s.extract 0 h.size = h) (hy : s.extract h.size s.size = t) (HDig : Hid (∀ (k : Nat) (h1 : k < h.size) (h2 : k < s.size), (48 : Int) ≤ (s[k].toNat : Int) ∧ (s[k].toNat : Int) ≤ 57)) (HU : Hid (uz t.data.toList = 1024)) (HW : Hid (whole h.data.toList = false)) :
    Calls Tryd.prog 8 #[.string s] w fun e w' => e = .returned (.tuple #[.int .i64 0, .int .i64 3]) ∧ w = w' := by
  unfold maxLen at hs
  have hhs' := hhs
  unfold maxLen at hhs'
  go_enter Tryd.func8, Tryd.ntmps8
  go_wp2
  go_loop [4] (fun i => ∃ k : Nat, k ≤ h.size ∧ i = .int .i64 (k : Int)) (fun i => s.size - (intOf i).toNat)
  case atStart => exact ⟨0, Nat.zero_le _, rfl⟩
  case round =>
    obtain ⟨k, hk, rfl⟩ := hrel
    by_cases hlt : k < h.size
    · have hlt2 : k < s.size := by omega
      obtain ⟨g1, g2⟩ := HDig.out k hlt hlt2
      go_wp2
      go_round
      case rel => exact ⟨k + 1, by omega, by go_num⟩
      case measure => simp [intOf]; omega
    · obtain rfl : k = h.size := by omega
      go_wp2_with fail
      refine (long_q t 1024 _ HU.out).mono ?_
      rintro e w1 ⟨rfl, rfl⟩
      go_wp2_with fail
      refine (whole_q h false _ hhs HW.out).mono ?_
      rintro e w1 ⟨rfl, rfl⟩
      go_wp2
      go_ret2
      exact ⟨rfl, rfl⟩
set_option maxHeartbeats 2000000 in
theorem RZP_c_1024_big (s t h : ByteArray) (w : World) (hs : s.size ≤ maxLen) (hts : t.size ≤ maxLen) (hhs : h.size ≤ maxLen) (hle : h.size ≤ s.size) (hlt3 : h.size < s.size) (hg1 : (48 : Int) ≤ (s[h.size].toNat : Int)) (hg2 : (57 : Int) < (s[h.size].toNat : Int))
    (hx : s.extract 0 h.size = h) (hy : s.extract h.size s.size = t) (HDig : Hid (∀ (k : Nat) (h1 : k < h.size) (h2 : k < s.size), (48 : Int) ≤ (s[k].toNat : Int) ∧ (s[k].toNat : Int) ≤ 57)) (HU : Hid (uz t.data.toList = 1024)) (HW : Hid (whole h.data.toList = true)) (V : Int) (HV : Hid (capN h.data.toList = V)) (hv0 : 0 ≤ V) (hv : (1099511627776 : Int) < V) :
    Calls Tryd.prog 8 #[.string s] w fun e w' => e = .returned (.tuple #[.int .i64 0, .int .i64 9]) ∧ w = w' := by
  unfold maxLen at hs
  have hhs' := hhs
  unfold maxLen at hhs'
  go_enter Tryd.func8, Tryd.ntmps8
  go_wp2
  go_loop [4] (fun i => ∃ k : Nat, k ≤ h.size ∧ i = .int .i64 (k : Int)) (fun i => s.size - (intOf i).toNat)
  case atStart => exact ⟨0, Nat.zero_le _, rfl⟩
  case round =>
    obtain ⟨k, hk, rfl⟩ := hrel
    by_cases hlt : k < h.size
    · have hlt2 : k < s.size := by omega
      obtain ⟨g1, g2⟩ := HDig.out k hlt hlt2
      go_wp2
      go_round
      case rel => exact ⟨k + 1, by omega, by go_num⟩
      case measure => simp [intOf]; omega
    · obtain rfl : k = h.size := by omega
      go_wp2_with fail
      refine (long_q t 1024 _ HU.out).mono ?_
      rintro e w1 ⟨rfl, rfl⟩
      go_wp2_with fail
      refine (whole_q h true _ hhs HW.out).mono ?_
      rintro e w1 ⟨rfl, rfl⟩
      go_wp2_with fail
      refine (value_q h V _ hhs HW.out HV.out).mono ?_
      rintro e w1 ⟨rfl, rfl⟩
      go_wp2
      go_ret2
      exact ⟨rfl, rfl⟩
set_option maxHeartbeats 2000000 in
theorem RZP_c_1024_ok (s t h : ByteArray) (w : World) (hs : s.size ≤ maxLen) (hts : t.size ≤ maxLen) (hhs : h.size ≤ maxLen) (hle : h.size ≤ s.size) (hlt3 : h.size < s.size) (hg1 : (48 : Int) ≤ (s[h.size].toNat : Int)) (hg2 : (57 : Int) < (s[h.size].toNat : Int))
    (hx : s.extract 0 h.size = h) (hy : s.extract h.size s.size = t) (HDig : Hid (∀ (k : Nat) (h1 : k < h.size) (h2 : k < s.size), (48 : Int) ≤ (s[k].toNat : Int) ∧ (s[k].toNat : Int) ≤ 57)) (HU : Hid (uz t.data.toList = 1024)) (HW : Hid (whole h.data.toList = true)) (V : Int) (HV : Hid (capN h.data.toList = V)) (hv0 : 0 ≤ V) (hv : ¬ (1099511627776 : Int) < V) (hw2 : IntKind.i64.wrap (V * 1024) = V * 1024) :
    Calls Tryd.prog 8 #[.string s] w fun e w' => e = .returned (.tuple #[.int .i64 (V * 1024), .int .i64 0]) ∧ w = w' := by
  unfold maxLen at hs
  have hhs' := hhs
  unfold maxLen at hhs'
  go_enter Tryd.func8, Tryd.ntmps8
  go_wp2
  go_loop [4] (fun i => ∃ k : Nat, k ≤ h.size ∧ i = .int .i64 (k : Int)) (fun i => s.size - (intOf i).toNat)
  case atStart => exact ⟨0, Nat.zero_le _, rfl⟩
  case round =>
    obtain ⟨k, hk, rfl⟩ := hrel
    by_cases hlt : k < h.size
    · have hlt2 : k < s.size := by omega
      obtain ⟨g1, g2⟩ := HDig.out k hlt hlt2
      go_wp2
      go_round
      case rel => exact ⟨k + 1, by omega, by go_num⟩
      case measure => simp [intOf]; omega
    · obtain rfl : k = h.size := by omega
      go_wp2_with fail
      refine (long_q t 1024 _ HU.out).mono ?_
      rintro e w1 ⟨rfl, rfl⟩
      go_wp2_with fail
      refine (whole_q h true _ hhs HW.out).mono ?_
      rintro e w1 ⟨rfl, rfl⟩
      go_wp2_with fail
      refine (value_q h V _ hhs HW.out HV.out).mono ?_
      rintro e w1 ⟨rfl, rfl⟩
      go_wp2
      go_ret2
      exact ⟨by first | rfl | exact ret_ii (by omega) rfl, rfl⟩
set_option maxHeartbeats 2000000 in
theorem RZP_c_1048576_n (s t h : ByteArray) (w : World) (hs : s.size ≤ maxLen) (hts : t.size ≤ maxLen) (hhs : h.size ≤ maxLen) (hle : h.size ≤ s.size) (hlt3 : h.size < s.size) (hg1 : (48 : Int) ≤ (s[h.size].toNat : Int)) (hg2 : (57 : Int) < (s[h.size].toNat : Int))
    (hx : s.extract 0 h.size = h) (hy : s.extract h.size s.size = t) (HDig : Hid (∀ (k : Nat) (h1 : k < h.size) (h2 : k < s.size), (48 : Int) ≤ (s[k].toNat : Int) ∧ (s[k].toNat : Int) ≤ 57)) (HU : Hid (uz t.data.toList = 1048576)) (HW : Hid (whole h.data.toList = false)) :
    Calls Tryd.prog 8 #[.string s] w fun e w' => e = .returned (.tuple #[.int .i64 0, .int .i64 3]) ∧ w = w' := by
  unfold maxLen at hs
  have hhs' := hhs
  unfold maxLen at hhs'
  go_enter Tryd.func8, Tryd.ntmps8
  go_wp2
  go_loop [4] (fun i => ∃ k : Nat, k ≤ h.size ∧ i = .int .i64 (k : Int)) (fun i => s.size - (intOf i).toNat)
  case atStart => exact ⟨0, Nat.zero_le _, rfl⟩
  case round =>
    obtain ⟨k, hk, rfl⟩ := hrel
    by_cases hlt : k < h.size
    · have hlt2 : k < s.size := by omega
      obtain ⟨g1, g2⟩ := HDig.out k hlt hlt2
      go_wp2
      go_round
      case rel => exact ⟨k + 1, by omega, by go_num⟩
      case measure => simp [intOf]; omega
    · obtain rfl : k = h.size := by omega
      go_wp2_with fail
      refine (long_q t 1048576 _ HU.out).mono ?_
      rintro e w1 ⟨rfl, rfl⟩
      go_wp2_with fail
      refine (whole_q h false _ hhs HW.out).mono ?_
      rintro e w1 ⟨rfl, rfl⟩
      go_wp2
      go_ret2
      exact ⟨rfl, rfl⟩
set_option maxHeartbeats 2000000 in
theorem RZP_c_1048576_big (s t h : ByteArray) (w : World) (hs : s.size ≤ maxLen) (hts : t.size ≤ maxLen) (hhs : h.size ≤ maxLen) (hle : h.size ≤ s.size) (hlt3 : h.size < s.size) (hg1 : (48 : Int) ≤ (s[h.size].toNat : Int)) (hg2 : (57 : Int) < (s[h.size].toNat : Int))
    (hx : s.extract 0 h.size = h) (hy : s.extract h.size s.size = t) (HDig : Hid (∀ (k : Nat) (h1 : k < h.size) (h2 : k < s.size), (48 : Int) ≤ (s[k].toNat : Int) ∧ (s[k].toNat : Int) ≤ 57)) (HU : Hid (uz t.data.toList = 1048576)) (HW : Hid (whole h.data.toList = true)) (V : Int) (HV : Hid (capN h.data.toList = V)) (hv0 : 0 ≤ V) (hv : (1073741824 : Int) < V) :
    Calls Tryd.prog 8 #[.string s] w fun e w' => e = .returned (.tuple #[.int .i64 0, .int .i64 9]) ∧ w = w' := by
  unfold maxLen at hs
  have hhs' := hhs
  unfold maxLen at hhs'
  go_enter Tryd.func8, Tryd.ntmps8
  go_wp2
  go_loop [4] (fun i => ∃ k : Nat, k ≤ h.size ∧ i = .int .i64 (k : Int)) (fun i => s.size - (intOf i).toNat)
  case atStart => exact ⟨0, Nat.zero_le _, rfl⟩
  case round =>
    obtain ⟨k, hk, rfl⟩ := hrel
    by_cases hlt : k < h.size
    · have hlt2 : k < s.size := by omega
      obtain ⟨g1, g2⟩ := HDig.out k hlt hlt2
      go_wp2
      go_round
      case rel => exact ⟨k + 1, by omega, by go_num⟩
      case measure => simp [intOf]; omega
    · obtain rfl : k = h.size := by omega
      go_wp2_with fail
      refine (long_q t 1048576 _ HU.out).mono ?_
      rintro e w1 ⟨rfl, rfl⟩
      go_wp2_with fail
      refine (whole_q h true _ hhs HW.out).mono ?_
      rintro e w1 ⟨rfl, rfl⟩
      go_wp2_with fail
      refine (value_q h V _ hhs HW.out HV.out).mono ?_
      rintro e w1 ⟨rfl, rfl⟩
      go_wp2
      go_ret2
      exact ⟨rfl, rfl⟩
set_option maxHeartbeats 2000000 in
theorem RZP_c_1048576_ok (s t h : ByteArray) (w : World) (hs : s.size ≤ maxLen) (hts : t.size ≤ maxLen) (hhs : h.size ≤ maxLen) (hle : h.size ≤ s.size) (hlt3 : h.size < s.size) (hg1 : (48 : Int) ≤ (s[h.size].toNat : Int)) (hg2 : (57 : Int) < (s[h.size].toNat : Int))
    (hx : s.extract 0 h.size = h) (hy : s.extract h.size s.size = t) (HDig : Hid (∀ (k : Nat) (h1 : k < h.size) (h2 : k < s.size), (48 : Int) ≤ (s[k].toNat : Int) ∧ (s[k].toNat : Int) ≤ 57)) (HU : Hid (uz t.data.toList = 1048576)) (HW : Hid (whole h.data.toList = true)) (V : Int) (HV : Hid (capN h.data.toList = V)) (hv0 : 0 ≤ V) (hv : ¬ (1073741824 : Int) < V) (hw2 : IntKind.i64.wrap (V * 1048576) = V * 1048576) :
    Calls Tryd.prog 8 #[.string s] w fun e w' => e = .returned (.tuple #[.int .i64 (V * 1048576), .int .i64 0]) ∧ w = w' := by
  unfold maxLen at hs
  have hhs' := hhs
  unfold maxLen at hhs'
  go_enter Tryd.func8, Tryd.ntmps8
  go_wp2
  go_loop [4] (fun i => ∃ k : Nat, k ≤ h.size ∧ i = .int .i64 (k : Int)) (fun i => s.size - (intOf i).toNat)
  case atStart => exact ⟨0, Nat.zero_le _, rfl⟩
  case round =>
    obtain ⟨k, hk, rfl⟩ := hrel
    by_cases hlt : k < h.size
    · have hlt2 : k < s.size := by omega
      obtain ⟨g1, g2⟩ := HDig.out k hlt hlt2
      go_wp2
      go_round
      case rel => exact ⟨k + 1, by omega, by go_num⟩
      case measure => simp [intOf]; omega
    · obtain rfl : k = h.size := by omega
      go_wp2_with fail
      refine (long_q t 1048576 _ HU.out).mono ?_
      rintro e w1 ⟨rfl, rfl⟩
      go_wp2_with fail
      refine (whole_q h true _ hhs HW.out).mono ?_
      rintro e w1 ⟨rfl, rfl⟩
      go_wp2_with fail
      refine (value_q h V _ hhs HW.out HV.out).mono ?_
      rintro e w1 ⟨rfl, rfl⟩
      go_wp2
      go_ret2
      exact ⟨by first | rfl | exact ret_ii (by omega) rfl, rfl⟩
set_option maxHeartbeats 2000000 in
theorem RZP_c_1073741824_n (s t h : ByteArray) (w : World) (hs : s.size ≤ maxLen) (hts : t.size ≤ maxLen) (hhs : h.size ≤ maxLen) (hle : h.size ≤ s.size) (hlt3 : h.size < s.size) (hg1 : (48 : Int) ≤ (s[h.size].toNat : Int)) (hg2 : (57 : Int) < (s[h.size].toNat : Int))
    (hx : s.extract 0 h.size = h) (hy : s.extract h.size s.size = t) (HDig : Hid (∀ (k : Nat) (h1 : k < h.size) (h2 : k < s.size), (48 : Int) ≤ (s[k].toNat : Int) ∧ (s[k].toNat : Int) ≤ 57)) (HU : Hid (uz t.data.toList = 1073741824)) (HW : Hid (whole h.data.toList = false)) :
    Calls Tryd.prog 8 #[.string s] w fun e w' => e = .returned (.tuple #[.int .i64 0, .int .i64 3]) ∧ w = w' := by
  unfold maxLen at hs
  have hhs' := hhs
  unfold maxLen at hhs'
  go_enter Tryd.func8, Tryd.ntmps8
  go_wp2
  go_loop [4] (fun i => ∃ k : Nat, k ≤ h.size ∧ i = .int .i64 (k : Int)) (fun i => s.size - (intOf i).toNat)
  case atStart => exact ⟨0, Nat.zero_le _, rfl⟩
  case round =>
    obtain ⟨k, hk, rfl⟩ := hrel
    by_cases hlt : k < h.size
    · have hlt2 : k < s.size := by omega
      obtain ⟨g1, g2⟩ := HDig.out k hlt hlt2
      go_wp2
      go_round
      case rel => exact ⟨k + 1, by omega, by go_num⟩
      case measure => simp [intOf]; omega
    · obtain rfl : k = h.size := by omega
      go_wp2_with fail
      refine (long_q t 1073741824 _ HU.out).mono ?_
      rintro e w1 ⟨rfl, rfl⟩
      go_wp2_with fail
      refine (whole_q h false _ hhs HW.out).mono ?_
      rintro e w1 ⟨rfl, rfl⟩
      go_wp2
      go_ret2
      exact ⟨rfl, rfl⟩
set_option maxHeartbeats 2000000 in
theorem RZP_c_1073741824_big (s t h : ByteArray) (w : World) (hs : s.size ≤ maxLen) (hts : t.size ≤ maxLen) (hhs : h.size ≤ maxLen) (hle : h.size ≤ s.size) (hlt3 : h.size < s.size) (hg1 : (48 : Int) ≤ (s[h.size].toNat : Int)) (hg2 : (57 : Int) < (s[h.size].toNat : Int))
    (hx : s.extract 0 h.size = h) (hy : s.extract h.size s.size = t) (HDig : Hid (∀ (k : Nat) (h1 : k < h.size) (h2 : k < s.size), (48 : Int) ≤ (s[k].toNat : Int) ∧ (s[k].toNat : Int) ≤ 57)) (HU : Hid (uz t.data.toList = 1073741824)) (HW : Hid (whole h.data.toList = true)) (V : Int) (HV : Hid (capN h.data.toList = V)) (hv0 : 0 ≤ V) (hv : (1048576 : Int) < V) :
    Calls Tryd.prog 8 #[.string s] w fun e w' => e = .returned (.tuple #[.int .i64 0, .int .i64 9]) ∧ w = w' := by
  unfold maxLen at hs
  have hhs' := hhs
  unfold maxLen at hhs'
  go_enter Tryd.func8, Tryd.ntmps8
  go_wp2
  go_loop [4] (fun i => ∃ k : Nat, k ≤ h.size ∧ i = .int .i64 (k : Int)) (fun i => s.size - (intOf i).toNat)
  case atStart => exact ⟨0, Nat.zero_le _, rfl⟩
  case round =>
    obtain ⟨k, hk, rfl⟩ := hrel
    by_cases hlt : k < h.size
    · have hlt2 : k < s.size := by omega
      obtain ⟨g1, g2⟩ := HDig.out k hlt hlt2
      go_wp2
      go_round
      case rel => exact ⟨k + 1, by omega, by go_num⟩
      case measure => simp [intOf]; omega
    · obtain rfl : k = h.size := by omega
      go_wp2_with fail
      refine (long_q t 1073741824 _ HU.out).mono ?_
      rintro e w1 ⟨rfl, rfl⟩
      go_wp2_with fail
      refine (whole_q h true _ hhs HW.out).mono ?_
      rintro e w1 ⟨rfl, rfl⟩
      go_wp2_with fail
      refine (value_q h V _ hhs HW.out HV.out).mono ?_
      rintro e w1 ⟨rfl, rfl⟩
      go_wp2
      go_ret2
      exact ⟨rfl, rfl⟩
set_option maxHeartbeats 2000000 in
theorem RZP_c_1073741824_ok (s t h : ByteArray) (w : World) (hs : s.size ≤ maxLen) (hts : t.size ≤ maxLen) (hhs : h.size ≤ maxLen) (hle : h.size ≤ s.size) (hlt3 : h.size < s.size) (hg1 : (48 : Int) ≤ (s[h.size].toNat : Int)) (hg2 : (57 : Int) < (s[h.size].toNat : Int))
    (hx : s.extract 0 h.size = h) (hy : s.extract h.size s.size = t) (HDig : Hid (∀ (k : Nat) (h1 : k < h.size) (h2 : k < s.size), (48 : Int) ≤ (s[k].toNat : Int) ∧ (s[k].toNat : Int) ≤ 57)) (HU : Hid (uz t.data.toList = 1073741824)) (HW : Hid (whole h.data.toList = true)) (V : Int) (HV : Hid (capN h.data.toList = V)) (hv0 : 0 ≤ V) (hv : ¬ (1048576 : Int) < V) (hw2 : IntKind.i64.wrap (V * 1073741824) = V * 1073741824) :
    Calls Tryd.prog 8 #[.string s] w fun e w' => e = .returned (.tuple #[.int .i64 (V * 1073741824), .int .i64 0]) ∧ w = w' := by
  unfold maxLen at hs
  have hhs' := hhs
  unfold maxLen at hhs'
  go_enter Tryd.func8, Tryd.ntmps8
  go_wp2
  go_loop [4] (fun i => ∃ k : Nat, k ≤ h.size ∧ i = .int .i64 (k : Int)) (fun i => s.size - (intOf i).toNat)
  case atStart => exact ⟨0, Nat.zero_le _, rfl⟩
  case round =>
    obtain ⟨k, hk, rfl⟩ := hrel
    by_cases hlt : k < h.size
    · have hlt2 : k < s.size := by omega
      obtain ⟨g1, g2⟩ := HDig.out k hlt hlt2
      go_wp2
      go_round
      case rel => exact ⟨k + 1, by omega, by go_num⟩
      case measure => simp [intOf]; omega
    · obtain rfl : k = h.size := by omega
      go_wp2_with fail
      refine (long_q t 1073741824 _ HU.out).mono ?_
      rintro e w1 ⟨rfl, rfl⟩
      go_wp2_with fail
      refine (whole_q h true _ hhs HW.out).mono ?_
      rintro e w1 ⟨rfl, rfl⟩
      go_wp2_with fail
      refine (value_q h V _ hhs HW.out HV.out).mono ?_
      rintro e w1 ⟨rfl, rfl⟩
      go_wp2
      go_ret2
      exact ⟨by first | rfl | exact ret_ii (by omega) rfl, rfl⟩
theorem cap_big {l : List UInt8} {k : Nat} (hk : k ≤ 1125899906842624) (h : k < val l) : (k : Int) < capN l ∧ 0 ≤ capN l := by
  by_cases g : 72057594037927936 ≤ (val l : Int)
  · rw [capN_big g]; omega
  · rw [capN_ok g]; omega
theorem cap_ok {l : List UInt8} {k : Nat} (hk : k ≤ 1125899906842624) (h : val l ≤ k) : capN l = (val l : Int) := capN_ok (by omega)
theorem ret_two {e : Ending} {a b c d : Int} (h : e = .returned (.tuple #[.int .i64 a, .int .i64 b])) (ha : a = c) (hb : b = d) : e = .returned (.tuple #[.int .i64 c, .int .i64 d]) := by rw [h, ha, hb]
set_option maxHeartbeats 2000000 in
theorem RZParse_any (s : ByteArray) (w : World) (hs : s.size ≤ maxLen) :
    Calls Tryd.prog 8 #[.string s] w fun e w' => e = .returned (.tuple #[.int .i64 (zN s.data.toList), .int .i64 (zE s.data.toList)]) ∧ w = w' := by
  obtain ⟨t, ht⟩ : ∃ t : ByteArray, tlD s.data.toList = t.data.toList := ⟨⟨(tlD s.data.toList).toArray⟩, by simp⟩
  obtain ⟨h, hh⟩ : ∃ h : ByteArray, hdD s.data.toList = h.data.toList := ⟨⟨(hdD s.data.toList).toArray⟩, by simp⟩
  have hl : s.data.toList = h.data.toList ++ t.data.toList := by rw [← hh, ← ht, hd_tl]
  have hz : s.size = h.size + t.size := by rw [← len_eq s, hl, List.length_append, len_eq, len_eq]
  have hx : s.extract 0 h.size = h := bytes_ext (by rw [Lib.extract_data, hl]; exact List.take_left)
  have hy : s.extract h.size s.size = t := bytes_ext (by rw [Lib.extract_data, hl, hz, Nat.add_sub_cancel_left, ← len_eq h, List.drop_left, ← len_eq t, List.take_length])
  have hts : t.size ≤ maxLen := by omega
  have hhs : h.size ≤ maxLen := by omega
  have hle : h.size ≤ s.size := by omega
  have HDig : Hid (∀ (k : Nat) (h1 : k < h.size) (h2 : k < s.size), (48 : Int) ≤ (s[k].toNat : Int) ∧ (s[k].toNat : Int) ≤ 57) := Lib.hid (by
    intro k h1 h2
    have e1 : s.data.toList[k]? = h.data.toList[k]? := by rw [hl, List.getElem?_append_left (by rw [len_eq]; exact h1)]
    rw [List.getElem?_eq_getElem (by rw [len_eq]; exact h2), List.getElem?_eq_getElem (by rw [len_eq]; exact h1)] at e1
    have e2 : s[k] = h.data.toList[k]'(by rw [len_eq]; exact h1) := Option.some.inj e1
    have e3 := hdD_digs s.data.toList
    rw [hh] at e3
    have e4 := dv_le (digs_get e3 k (by rw [len_eq]; exact h1))
    rw [e2]; omega)
  have hstop : ∀ c r, t.data.toList = c :: r → ∃ hlt : h.size < s.size, s[h.size] = c ∧ isDig c = false := by
    intro c r hr
    have hlt : h.size < s.size := by
      have : t.size = r.length + 1 := by rw [← len_eq, hr, List.length_cons]
      omega
    refine ⟨hlt, ?_, tl_head (ht.trans hr)⟩
    have e1 : s.data.toList[h.size]? = some c := by rw [hl, ← len_eq h, hr]; simp
    rw [List.getElem?_eq_getElem (by rw [len_eq]; exact hlt)] at e1
    exact Option.some.inj e1
  rcases uz_cases t.data.toList with ⟨hu, hne, -⟩ | ⟨hu, ho⟩ | ⟨hu, ho⟩ | ⟨hu, ho⟩ | ⟨hu, ho⟩
  · have hg := z_no (l := s.data.toList) (by rw [ht]; exact hu)
    obtain ⟨c, r, hr⟩ := List.exists_cons_of_ne_nil hne
    obtain ⟨hlt, hc, hd⟩ := hstop c r hr
    by_cases h48 : (s[h.size].toNat : Int) < 48
    · exact (RZP_b_0_z s t h w hs hts hhs hle hlt h48 hx hy HDig (Lib.hid hu)).mono fun e w' ⟨g1, g2⟩ => ⟨ret_two g1 hg.1.symm hg.2.symm, g2⟩
    · have h57 : (57 : Int) < (s[h.size].toNat : Int) := by
        rw [hc] at h48 ⊢
        by_cases hh57 : (c.toNat : Int) ≤ 57
        · exact absurd (isDig_of (by omega) hh57) (by rw [hd]; decide)
        · omega
      exact (RZP_c_0_z s t h w hs hts hhs hle hlt (by omega) h57 hx hy HDig (Lib.hid hu)).mono fun e w' ⟨g1, g2⟩ => ⟨ret_two g1 hg.1.symm hg.2.symm, g2⟩
  · have hg := z_at (l := s.data.toList) (u := 1) (by rw [ht]; exact hu) (by decide)
    rw [hh] at hg
    have hg1 : zN s.data.toList = countN h.data.toList ((1125899906842624 : Nat) : Int) * ((1 : Nat) : Int) := hg.1
    have hg2 : zE s.data.toList = countE h.data.toList ((1125899906842624 : Nat) : Int) := hg.2
    have hg := And.intro hg1 hg2
    clear hg1 hg2
    rcases ho with ho | ho
    · have hn : ¬ h.size < s.size := by
        have : t.size = 0 := by rw [← len_eq, ho]; rfl
        omega
      rcases count_cases h.data.toList 1125899906842624 with ⟨hw, a1, a2⟩ | ⟨hw, hv, a1, a2⟩ | ⟨hw, hv, a1, a2⟩
      · exact (RZP_a_1_n s t h w hs hts hhs hle hn hx hy HDig (Lib.hid hu) (Lib.hid hw)).mono fun e w' ⟨g1, g2⟩ => ⟨ret_two g1 (by rw [hg.1, a1]; rfl) (by rw [hg.2, a2]), g2⟩
      · have e := cap_ok (l := h.data.toList) (k := 1125899906842624) (by decide) hv
        exact (RZP_a_1_ok s t h w hs hts hhs hle hn hx hy HDig (Lib.hid hu) (Lib.hid hw) _ (Lib.hid e) (by omega) (by omega) (wrap_small _ (by omega) (by omega))).mono fun e w' ⟨g1, g2⟩ => ⟨ret_two g1 (by rw [hg.1, a1]; rfl) (by rw [hg.2, a2]), g2⟩
      · have e := cap_big (l := h.data.toList) (k := 1125899906842624) (by decide) hv
        exact (RZP_a_1_big s t h w hs hts hhs hle hn hx hy HDig (Lib.hid hu) (Lib.hid hw) _ (Lib.hid rfl) e.2 e.1).mono fun e w' ⟨g1, g2⟩ => ⟨ret_two g1 (by rw [hg.1, a1]; rfl) (by rw [hg.2, a2]), g2⟩
    · obtain ⟨hlt, hc, -⟩ := hstop 98 [] ho
      have h57 : (57 : Int) < (s[h.size].toNat : Int) := by rw [hc]; decide
      rcases count_cases h.data.toList 1125899906842624 with ⟨hw, a1, a2⟩ | ⟨hw, hv, a1, a2⟩ | ⟨hw, hv, a1, a2⟩
      · exact (RZP_c_1_n s t h w hs hts hhs hle hlt (by omega) h57 hx hy HDig (Lib.hid hu) (Lib.hid hw)).mono fun e w' ⟨g1, g2⟩ => ⟨ret_two g1 (by rw [hg.1, a1]; rfl) (by rw [hg.2, a2]), g2⟩
      · have e := cap_ok (l := h.data.toList) (k := 1125899906842624) (by decide) hv
        exact (RZP_c_1_ok s t h w hs hts hhs hle hlt (by omega) h57 hx hy HDig (Lib.hid hu) (Lib.hid hw) _ (Lib.hid e) (by omega) (by omega) (wrap_small _ (by omega) (by omega))).mono fun e w' ⟨g1, g2⟩ => ⟨ret_two g1 (by rw [hg.1, a1]; rfl) (by rw [hg.2, a2]), g2⟩
      · have e := cap_big (l := h.data.toList) (k := 1125899906842624) (by decide) hv
        exact (RZP_c_1_big s t h w hs hts hhs hle hlt (by omega) h57 hx hy HDig (Lib.hid hu) (Lib.hid hw) _ (Lib.hid rfl) e.2 e.1).mono fun e w' ⟨g1, g2⟩ => ⟨ret_two g1 (by rw [hg.1, a1]; rfl) (by rw [hg.2, a2]), g2⟩
  · have hg := z_at (l := s.data.toList) (u := 1024) (by rw [ht]; exact hu) (by decide)
    rw [hh] at hg
    have hg1 : zN s.data.toList = countN h.data.toList ((1099511627776 : Nat) : Int) * ((1024 : Nat) : Int) := hg.1
    have hg2 : zE s.data.toList = countE h.data.toList ((1099511627776 : Nat) : Int) := hg.2
    have hg := And.intro hg1 hg2
    clear hg1 hg2
    obtain ⟨hlt, h57⟩ : ∃ hlt : h.size < s.size, (57 : Int) < (s[h.size].toNat : Int) := by
      rcases ho with ho | ho
      · obtain ⟨hlt, hc, -⟩ := hstop 107 [] ho
        exact ⟨hlt, by rw [hc]; decide⟩
      · obtain ⟨hlt, hc, -⟩ := hstop 107 [98] ho
        exact ⟨hlt, by rw [hc]; decide⟩
    rcases count_cases h.data.toList 1099511627776 with ⟨hw, a1, a2⟩ | ⟨hw, hv, a1, a2⟩ | ⟨hw, hv, a1, a2⟩
    · exact (RZP_c_1024_n s t h w hs hts hhs hle hlt (by omega) h57 hx hy HDig (Lib.hid hu) (Lib.hid hw)).mono fun e w' ⟨g1, g2⟩ => ⟨ret_two g1 (by rw [hg.1, a1]; rfl) (by rw [hg.2, a2]), g2⟩
    · have e := cap_ok (l := h.data.toList) (k := 1099511627776) (by decide) hv
      exact (RZP_c_1024_ok s t h w hs hts hhs hle hlt (by omega) h57 hx hy HDig (Lib.hid hu) (Lib.hid hw) _ (Lib.hid e) (by omega) (by omega) (wrap_small _ (by omega) (by omega))).mono fun e w' ⟨g1, g2⟩ => ⟨ret_two g1 (by rw [hg.1, a1]; rfl) (by rw [hg.2, a2]), g2⟩
    · have e := cap_big (l := h.data.toList) (k := 1099511627776) (by decide) hv
      exact (RZP_c_1024_big s t h w hs hts hhs hle hlt (by omega) h57 hx hy HDig (Lib.hid hu) (Lib.hid hw) _ (Lib.hid rfl) e.2 e.1).mono fun e w' ⟨g1, g2⟩ => ⟨ret_two g1 (by rw [hg.1, a1]; rfl) (by rw [hg.2, a2]), g2⟩
  · have hg := z_at (l := s.data.toList) (u := 1048576) (by rw [ht]; exact hu) (by decide)
    rw [hh] at hg
    have hg1 : zN s.data.toList = countN h.data.toList ((1073741824 : Nat) : Int) * ((1048576 : Nat) : Int) := hg.1
    have hg2 : zE s.data.toList = countE h.data.toList ((1073741824 : Nat) : Int) := hg.2
    have hg := And.intro hg1 hg2
    clear hg1 hg2
    obtain ⟨hlt, h57⟩ : ∃ hlt : h.size < s.size, (57 : Int) < (s[h.size].toNat : Int) := by
      rcases ho with ho | ho
      · obtain ⟨hlt, hc, -⟩ := hstop 109 [] ho
        exact ⟨hlt, by rw [hc]; decide⟩
      · obtain ⟨hlt, hc, -⟩ := hstop 109 [98] ho
        exact ⟨hlt, by rw [hc]; decide⟩
    rcases count_cases h.data.toList 1073741824 with ⟨hw, a1, a2⟩ | ⟨hw, hv, a1, a2⟩ | ⟨hw, hv, a1, a2⟩
    · exact (RZP_c_1048576_n s t h w hs hts hhs hle hlt (by omega) h57 hx hy HDig (Lib.hid hu) (Lib.hid hw)).mono fun e w' ⟨g1, g2⟩ => ⟨ret_two g1 (by rw [hg.1, a1]; rfl) (by rw [hg.2, a2]), g2⟩
    · have e := cap_ok (l := h.data.toList) (k := 1073741824) (by decide) hv
      exact (RZP_c_1048576_ok s t h w hs hts hhs hle hlt (by omega) h57 hx hy HDig (Lib.hid hu) (Lib.hid hw) _ (Lib.hid e) (by omega) (by omega) (wrap_small _ (by omega) (by omega))).mono fun e w' ⟨g1, g2⟩ => ⟨ret_two g1 (by rw [hg.1, a1]; rfl) (by rw [hg.2, a2]), g2⟩
    · have e := cap_big (l := h.data.toList) (k := 1073741824) (by decide) hv
      exact (RZP_c_1048576_big s t h w hs hts hhs hle hlt (by omega) h57 hx hy HDig (Lib.hid hu) (Lib.hid hw) _ (Lib.hid rfl) e.2 e.1).mono fun e w' ⟨g1, g2⟩ => ⟨ret_two g1 (by rw [hg.1, a1]; rfl) (by rw [hg.2, a2]), g2⟩
  · have hg := z_at (l := s.data.toList) (u := 1073741824) (by rw [ht]; exact hu) (by decide)
    rw [hh] at hg
    have hg1 : zN s.data.toList = countN h.data.toList ((1048576 : Nat) : Int) * ((1073741824 : Nat) : Int) := hg.1
    have hg2 : zE s.data.toList = countE h.data.toList ((1048576 : Nat) : Int) := hg.2
    have hg := And.intro hg1 hg2
    clear hg1 hg2
    obtain ⟨hlt, h57⟩ : ∃ hlt : h.size < s.size, (57 : Int) < (s[h.size].toNat : Int) := by
      rcases ho with ho | ho
      · obtain ⟨hlt, hc, -⟩ := hstop 103 [] ho
        exact ⟨hlt, by rw [hc]; decide⟩
      · obtain ⟨hlt, hc, -⟩ := hstop 103 [98] ho
        exact ⟨hlt, by rw [hc]; decide⟩
    rcases count_cases h.data.toList 1048576 with ⟨hw, a1, a2⟩ | ⟨hw, hv, a1, a2⟩ | ⟨hw, hv, a1, a2⟩
    · exact (RZP_c_1073741824_n s t h w hs hts hhs hle hlt (by omega) h57 hx hy HDig (Lib.hid hu) (Lib.hid hw)).mono fun e w' ⟨g1, g2⟩ => ⟨ret_two g1 (by rw [hg.1, a1]; rfl) (by rw [hg.2, a2]), g2⟩
    · have e := cap_ok (l := h.data.toList) (k := 1048576) (by decide) hv
      exact (RZP_c_1073741824_ok s t h w hs hts hhs hle hlt (by omega) h57 hx hy HDig (Lib.hid hu) (Lib.hid hw) _ (Lib.hid e) (by omega) (by omega) (wrap_small _ (by omega) (by omega))).mono fun e w' ⟨g1, g2⟩ => ⟨ret_two g1 (by rw [hg.1, a1]; rfl) (by rw [hg.2, a2]), g2⟩
    · have e := cap_big (l := h.data.toList) (k := 1048576) (by decide) hv
      exact (RZP_c_1073741824_big s t h w hs hts hhs hle hlt (by omega) h57 hx hy HDig (Lib.hid hu) (Lib.hid hw) _ (Lib.hid rfl) e.2 e.1).mono fun e w' ⟨g1, g2⟩ => ⟨ret_two g1 (by rw [hg.1, a1]; rfl) (by rw [hg.2, a2]), g2⟩
end Go.Proofs.YtagccngcedblhaaDoor
