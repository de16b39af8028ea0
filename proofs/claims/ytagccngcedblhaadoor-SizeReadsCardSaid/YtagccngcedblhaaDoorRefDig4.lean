/- Contracts of the document's own answers Value and Milli. -/
import Derived.Test.YtagccngcedblhaaDoorRefDig3
namespace Go.Proofs.YtagccngcedblhaaDoor
open Go.RowKit
open Dg
set_option linter.unusedVariables false
/-- The value of digits, or 2^60 where it is 2^56 or more. -/
def capN (l : List UInt8) : Int := if 72057594037927936 ≤ (val l : Int) then 1152921504606846976 else (val l : Int)
theorem capN_big {l : List UInt8} (h : 72057594037927936 ≤ (val l : Int)) : capN l = 1152921504606846976 := if_pos h
theorem capN_ok {l : List UInt8} (h : ¬ 72057594037927936 ≤ (val l : Int)) : capN l = (val l : Int) := if_neg h

set_option maxHeartbeats 1000000 in
theorem RValue_any (s : ByteArray) (w : World) (hs : s.size ≤ maxLen) (hd : digs s.data.toList = true) :
    Calls Tryd.prog 18 #[.string s] w fun e w' => e = .returned (.int .i64 (capN s.data.toList)) ∧ w = w' := by
  unfold maxLen at hs
  have HD := Lib.hid hd; clear hd
  go_enter Tryd.func18, Tryd.ntmps18
  go_wp2
  go_loop [3, 4] (fun n i => ∃ k : Nat, k ≤ s.size ∧ i = .int .i64 k ∧ n = .int .i64 (val (s.data.toList.take k)) ∧ (val (s.data.toList.take k) : Int) < 72057594037927936) (fun _ i => s.size - (intOf i).toNat)
  case atStart => exact ⟨0, Nat.zero_le _, rfl, rfl, by rw [List.take_zero]; decide⟩
  case round =>
    obtain ⟨k, hk, rfl, rfl, hn⟩ := hrel
    have hn0 : (0 : Int) ≤ (val (s.data.toList.take k) : Int) := by omega
    by_cases hlt : k < s.size
    · have hg := digs_get HD.out k (by rw [len_eq]; exact hlt)
      rw [getl s k hlt] at hg
      obtain ⟨hdv, h48, h57⟩ := dv_le hg
      have h48' : (48 : Int) ≤ (s[k].toNat : Int) := by omega
      have h57' : (s[k].toNat : Int) ≤ 57 := by omega
      have HV := Lib.hid (val_take s.data.toList k (by rw [len_eq]; exact hlt))
      have HDv : Hid ((dv s[k] : Int) = (s[k].toNat : Int) - 48) := Lib.hid (by unfold dv; omega)
      clear hg h48 h57 hdv
      by_cases hb : 72057594037927936 ≤ (val (s.data.toList.take k) : Int) * 10 + (s[k].toNat : Int) - 48
      · go_wp2
        go_ret
        refine ⟨ret_int (capN_big ?_).symm, rfl⟩
        have h3 := HDv.out
        have h4 := HV.out
        rw [getl s k hlt] at h4
        have := val_take_le s.data.toList (k + 1)
        omega
      · go_wp2
        go_round
        case rel =>
          have h3 := HDv.out
          have h4 := HV.out
          rw [getl s k hlt] at h4
          exact ⟨k + 1, by omega, by go_num, by rw [h4]; congr 1; omega, by omega⟩
        case measure => simp [intOf]; omega
    · have e : s.data.toList.take k = s.data.toList := List.take_of_length_le (by rw [len_eq]; omega)
      rw [e] at hn hn0 ⊢
      clear e
      go_wp2
      go_ret
      exact ⟨ret_int (capN_ok (by omega)).symm, rfl⟩

end Go.Proofs.YtagccngcedblhaaDoor
