/- Contracts of digit's functions that only read: isDigits, value. -/
import Derived.Test.YtkgfinhepbipeaaDoorRows
import Derived.Test.YtkgfinhepbipeaaDoorDigMath
import Derived.WalkKit
import Derived.ProofKit
import Derived.Lib.Hide
import Derived.Deep.QuietTactic
import Derived.BigQuiet
namespace Go.Proofs.YtkgfinhepbipeaaDoor
open Go.RowKit
open Dg
set_option linter.unusedVariables false

theorem ret_int {k : IntKind} {a b : Int} (h : a = b) : Ending.returned (.int k a) = .returned (.int k b) := by rw [h]
theorem ret_bool {a b : Bool} (h : a = b) : Ending.returned (.bool a) = .returned (.bool b) := by rw [h]
theorem ret_str {a b : ByteArray} (h : a = b) : Ending.returned (.string a) = .returned (.string b) := by rw [h]
theorem ret_ii {a b c d : Int} (h : a = b) (g : c = d) : Ending.returned (.tuple #[.int .i64 a, .int .i64 c]) = .returned (.tuple #[.int .i64 b, .int .i64 d]) := by rw [h, g]
theorem getl (s : ByteArray) (k : Nat) (h : k < s.size) (h' : k < s.data.toList.length) : s.data.toList[k] = s[k] := rfl
theorem len_eq (s : ByteArray) : s.data.toList.length = s.size := rfl

set_option maxHeartbeats 400000 in
theorem isDigits_any (s : ByteArray) (w : World) (hs : s.size ≤ maxLen) :
    Calls Tryd.prog 69 #[.string s] w fun e w' => e = .returned (.bool (digs s.data.toList)) ∧ w = w' := by
  unfold maxLen at hs
  go_enter Tryd.func69, Tryd.ntmps69
  go_wp2
  go_loop [6] (fun i => ∃ k : Nat, k ≤ s.size ∧ i = .int .i64 k ∧ digs (s.data.toList.take k) = true) (fun i => s.size - (intOf i).toNat)
  case atStart => exact ⟨0, Nat.zero_le _, rfl, rfl⟩
  case round =>
    obtain ⟨k, hk, rfl, hall⟩ := hrel
    have HA := Lib.hid hall; clear hall
    by_cases hlt : k < s.size
    · by_cases h1 : (s[k].toNat : Int) < 48
      · go_wp2
        go_ret
        exact ⟨ret_bool (digs_not (k := k) hlt (isDig_lo h1)).symm, rfl⟩
      · by_cases h2 : (57 : Int) < (s[k].toNat : Int)
        · go_wp2
          go_ret
          exact ⟨ret_bool (digs_not (k := k) hlt (isDig_hi h2)).symm, rfl⟩
        · go_wp2
          go_round
          case rel => exact ⟨k + 1, by omega, by go_num, digs_take_succ hlt HA.out (isDig_of (c := s[k]) (by omega) (by omega))⟩
          case measure => simp [intOf]; omega
    · go_wp2
      go_ret
      exact ⟨ret_bool (digs_all (k := k) (by rw [len_eq]; omega) HA.out).symm, rfl⟩

set_option maxHeartbeats 800000 in
theorem value_any (s : ByteArray) (most : Int) (w : World) (hs : s.size ≤ maxLen) (h0 : 0 ≤ most) (h1 : most ≤ 9223372036854775807) (hd : digs s.data.toList = true) :
    Calls Tryd.prog 52 #[.string s, .int .i64 most] w fun e w' => e = .returned (.tuple #[.int .i64 (valN s.data.toList most), .int .i64 (valE s.data.toList most)]) ∧ w = w' := by
  unfold maxLen at hs
  have HD := Lib.hid hd; clear hd
  go_enter Tryd.func52, Tryd.ntmps52
  go_wp2
  go_loop [6, 11] (fun n i => ∃ k : Nat, k ≤ s.size ∧ i = .int .i64 k ∧ n = .int .i64 (val (s.data.toList.take k)) ∧ (val (s.data.toList.take k) : Int) ≤ most) (fun _ i => s.size - (intOf i).toNat)
  case atStart => exact ⟨0, Nat.zero_le _, rfl, rfl, h0⟩
  case round =>
    obtain ⟨k, hk, rfl, rfl, hn⟩ := hrel
    have hn0 : (0 : Int) ≤ (val (s.data.toList.take k) : Int) := by omega
    by_cases hlt : k < s.size
    · have hg := digs_get HD.out k (by rw [len_eq]; exact hlt)
      rw [getl s k hlt] at hg
      obtain ⟨hdv, h48, h57⟩ := dv_le hg
      have h48' : (48 : Int) ≤ (s[k].toNat : Int) := by omega
      have h57' : (s[k].toNat : Int) ≤ 57 := by omega
      have HV := Lib.hid (val_take s.data.toList k (by rw [len_eq]; exact hlt))
      have HDv : Hid ((dv s[k] : Int) = (s[k].toNat : Int) - 48) := Lib.hid (by unfold dv; omega)
      clear hg h48 h57 hdv
      by_cases ha : most / 10 < (val (s.data.toList.take k) : Int)
      · go_wp2
        go_ret2
        have hbig : most < (val s.data.toList : Int) := val_big (k := k + 1) (by rw [HV.out]; omega)
        exact ⟨ret_ii (valN_big hbig).symm (valE_big hbig).symm, rfl⟩
      · by_cases hb : most - (val (s.data.toList.take k) : Int) * 10 < (s[k].toNat : Int) - 48
        · go_wp2
          go_ret2
          have hbig : most < (val s.data.toList : Int) := val_big (k := k + 1) (by have := HDv.out; have := HV.out; rw [getl s k hlt] at this; omega)
          exact ⟨ret_ii (valN_big hbig).symm (valE_big hbig).symm, rfl⟩
        · go_wp2
          go_round
          case rel => 
            have h3 := HDv.out
            have h4 := HV.out
            rw [getl s k hlt] at h4
            exact ⟨k + 1, by omega, by go_num, by rw [h4]; congr 1; omega, by omega⟩
          case measure => simp [intOf]; omega
    · go_wp2
      go_ret2
      have e : s.data.toList.take k = s.data.toList := List.take_of_length_le (by rw [len_eq]; omega)
      rw [e] at hn ⊢
      exact ⟨ret_ii (valN_ok hn).symm (valE_ok hn).symm, rfl⟩

set_option maxHeartbeats 800000 in
theorem isWhole_any (s : ByteArray) (w : World) (hs : s.size ≤ maxLen) :
    Calls Tryd.prog 51 #[.string s] w fun e w' => e = .returned (.bool (whole s.data.toList)) ∧ w = w' := by
  have hs' := hs
  unfold maxLen at hs
  by_cases h0 : s.data.toList = [48]
  · have HW : Hid (whole s.data.toList = true) := Lib.hid (by rw [h0]; exact whole_zero)
    obtain rfl : s = ⟨#[48]⟩ := by
      cases s; rename_i a; cases a; simp at h0; simp [h0]
    go_enter Tryd.func51, Tryd.ntmps51
    go_wp2
    go_ret
    exact ⟨ret_bool HW.out.symm, rfl⟩
  · by_cases h1 : s.data.toList = []
    · obtain rfl : s = ⟨#[]⟩ := by
        cases s; rename_i a; cases a; simp at h1; simp [h1]
      clear h0 h1 hs'
      go_enter Tryd.func51, Tryd.ntmps51
      go_wp2
      go_ret
      exact ⟨ret_bool whole_nil.symm, rfl⟩
    · have hpos : 0 < s.size := by
        rw [← len_eq]; exact List.length_pos_iff.2 h1
      have hhead : s.data.toList.headD 0 = s[0] := by
        rw [List.headD_eq_head?_getD, List.head?_eq_getElem?, List.getElem?_eq_getElem (by rw [len_eq]; exact hpos)]; rfl
      have b0 : (s.toList == [48]) = false := by rw [ByteArray.toList_eq]; exact beq_eq_false_iff_ne.2 h0
      have b1 : s.toList.isEmpty = false := by rw [ByteArray.toList_eq, List.isEmpty_eq_false_iff]; exact h1
      have b2 : ¬ s.toList = [] := by rw [ByteArray.toList_eq]; exact h1
      by_cases h2 : (s[0].toNat : Int) = 48
      · have HW : Hid (whole s.data.toList = false) := Lib.hid (whole_head h0 (by rw [hhead]; apply UInt8.toNat_inj.1; show _ = 48; omega))
        clear hhead h0 h1
        go_enter Tryd.func51, Tryd.ntmps51
        go_wp2
        go_ret
        exact ⟨ret_bool HW.out.symm, rfl⟩
      · have HW : Hid (whole s.data.toList = digs s.data.toList) := Lib.hid (whole_digs h0 h1 (by rw [hhead]; intro h; apply h2; rw [h]; rfl))
        have b3 : ((s[0].toNat : Int) == 48) = false := beq_eq_false_iff_ne.2 h2
        have b4 : ((s[0].toNat : Int) != 48) = true := by rw [bne_iff_ne]; exact h2
        clear hhead h0 h1
        go_enter Tryd.func51, Tryd.ntmps51
        go_wp2_with (go_at_call 69; refine (isDigits_any _ _ hs').mono ?_; rintro e w' ⟨rfl, rfl⟩)
        go_ret
        exact ⟨ret_bool HW.out.symm, rfl⟩

/-- A count: the number and the number of the error. -/
def countN (l : List UInt8) (most : Int) : Int := if most < 0 then 0 else if whole l then valN l most else 0
def countE (l : List UInt8) (most : Int) : Int := if most < 0 then 2 else if whole l then valE l most else 3

set_option maxHeartbeats 800000 in
theorem Count_any (s : ByteArray) (most : Int) (w : World) (hs : s.size ≤ maxLen) (h1 : most ≤ 9223372036854775807) (h2 : -9223372036854775808 ≤ most) :
    Calls Tryd.prog 37 #[.string s, .int .i64 most] w fun e w' => e = .returned (.tuple #[.int .i64 (countN s.data.toList most), .int .i64 (countE s.data.toList most)]) ∧ w = w' := by
  by_cases h0 : most < 0
  · have H : Hid (countN s.data.toList most = 0 ∧ countE s.data.toList most = 2) := Lib.hid ⟨if_pos h0, if_pos h0⟩
    go_enter Tryd.func37, Tryd.ntmps37
    go_wp2
    go_ret2
    exact ⟨ret_ii H.out.1.symm H.out.2.symm, rfl⟩
  · by_cases hw : whole s.data.toList = true
    · have H : Hid (countN s.data.toList most = valN s.data.toList most ∧ countE s.data.toList most = valE s.data.toList most) :=
        Lib.hid ⟨by unfold countN; rw [if_neg h0, if_pos hw], by unfold countE; rw [if_neg h0, if_pos hw]⟩
      have hd := Lib.hid (digs_of_whole hw)
      have hw' : whole s.data.toList = true := hw
      go_enter Tryd.func37, Tryd.ntmps37
      go_wp2_with (first | (go_at_call 51; refine (isWhole_any _ _ hs).mono ?_; rintro e w' ⟨rfl, rfl⟩) | (go_at_call 52; refine (value_any _ _ _ hs (by omega) h1 hd.out).mono ?_; rintro e w' ⟨rfl, rfl⟩))
      go_ret2
      exact ⟨ret_ii H.out.1.symm H.out.2.symm, rfl⟩
    · have hw' : whole s.data.toList = false := by simpa using hw
      have H : Hid (countN s.data.toList most = 0 ∧ countE s.data.toList most = 3) :=
        Lib.hid ⟨by unfold countN; rw [if_neg h0, if_neg hw], by unfold countE; rw [if_neg h0, if_neg hw]⟩
      clear hw
      go_enter Tryd.func37, Tryd.ntmps37
      go_wp2_with (go_at_call 51; refine (isWhole_any _ _ hs).mono ?_; rintro e w' ⟨rfl, rfl⟩)
      go_ret2
      exact ⟨ret_ii H.out.1.symm H.out.2.symm, rfl⟩

end Go.Proofs.YtkgfinhepbipeaaDoor
