/- Contracts of the document's own answers of layer 1: digits, Text, MilliText. -/
import Derived.Test.YtkgfinhepbipeaaDoorDigText
import Derived.Test.YtkgfinhepbipeaaDoorDigSmall
namespace Go.Proofs.YtkgfinhepbipeaaDoor
open Go.RowKit
open Dg
set_option linter.unusedVariables false
theorem dgw_01 {k : Nat} (h : 0 < k) : dgw 0 k = dgw 1 k := by
  rw [dgw_step (wd := 0) (by omega), dgw_step (wd := 1) (by omega)]
theorem dgw_big {m : Nat} (h : 10 ≤ m) : dgw 1 m = dgw 1 (m / 10) ++ [UInt8.ofNat (48 + m % 10)] := by
  rw [dgw_step (by omega), dgw_01 (by omega)]
theorem dgw_small {m : Nat} (h : m < 10) : dgw 1 m = [UInt8.ofNat (48 + m)] := by
  have : m / 10 = 0 := by omega
  rw [dgw_step (by omega), this, dgw_stop, Nat.mod_eq_of_lt h]; rfl

/-- string([]byte{c}) -/
theorem conv_one (wr : World) (x : Int) (c : UInt8) (hx : x = (c.toNat : Int)) :
    (convert 55 9 (.slice (some ⟨wr.heap.size, 0, none⟩) 1 1)).run Tryd.prog (wr.alloc (.cells #[.int .u8 x] 5)) = .ok (.string ⟨#[c]⟩) (wr.alloc (.cells #[.int .u8 x] 5)) := by
  subst hx
  refine conv_read (l := [c]) (fun i hi => ?_) rfl
  obtain rfl : i = 0 := by simpa using hi
  rw [World.cell?_alloc_at _ _ _ _ rfl]; rfl
/-- The byte of a digit. -/
def dch (k : Nat) : UInt8 := UInt8.ofNat (48 + k)
theorem digit_toNat (m : Nat) : (48 + (m : Int) % 10) = ((dch (m % 10)).toNat : Int) := by
  unfold dch; rw [UInt8.toNat_ofNat']; omega
theorem digit_toNat' (m : Nat) (h : m < 10) : (48 + (m : Int)) = ((dch m).toNat : Int) := by
  unfold dch; rw [UInt8.toNat_ofNat']; omega
theorem mk_cons (c : UInt8) (l : List UInt8) : (⟨#[c]⟩ : ByteArray) ++ ⟨l.toArray⟩ = ⟨(c :: l).toArray⟩ := by
  apply bytes_ext; rw [data_app]; simp

set_option maxRecDepth 100000
set_option maxHeartbeats 1000000 in
theorem rdigits_any (n : Nat) (w : World) (hn : n < 18446744073709551616) :
    Calls Tryd.prog 43 #[.int .u64 n] w fun e w' => e = .returned (.string ⟨(dgw 1 n).toArray⟩) ∧ Below w.heap.size w w' := by
  go_enter Tryd.func43, Tryd.ntmps43
  go_wp2
  go_loopw [0, 3] (fun sn ss w' => ∃ m : Nat, ∃ l : List UInt8, sn = .int .u64 m ∧ ss = .string ⟨l.toArray⟩ ∧ m < 18446744073709551616 ∧ dgw 1 m ++ l = dgw 1 n ∧ Below w.heap.size w w') (fun sn _ _ => (intOf sn).toNat)
  case atStart => exact ⟨n, [], rfl, rfl, hn, by simp, Below.refl _ _⟩
  case round =>
    obtain ⟨m, l, rfl, rfl, hm, hl, hb⟩ := hrel
    have hln : l.length ≤ 20 := by
      have h1 := dgw_len 1 n 20 (by omega) (by omega)
      rw [← hl, List.length_append] at h1; omega
    have HL := Lib.hid hl
    clear hl
    have hl1 : 1 + l.length ≤ 9223372036854775807 := by omega
    by_cases h10 : 10 ≤ m
    · have hcv := conv_one wr _ _ (digit_toNat m)
      have h10' : (10 : Int) ≤ (m : Int) := by omega
      go_wp2
      go_roundw
      case rel => exact ⟨m / 10, dch (m % 10) :: l, by go_num, by rw [mk_cons], by omega, by rw [← HL.out, dgw_big h10]; unfold dch; simp, hb.alloc hb.size _⟩
      case measure => simp [intOf]; omega
    · have hcv := conv_one wr _ _ (digit_toNat' m (by omega))
      go_wp2
      rw [mk_cons]
      go_ret
      exact ⟨ret_l (by rw [← HL.out, dgw_small (by omega)]; rfl), hb.alloc hb.size _⟩

set_option maxHeartbeats 1000000 in
theorem RText_any (n : Int) (w : World) (h1 : -9223372036854775808 ≤ n) (h2 : n ≤ 9223372036854775807) :
    Calls Tryd.prog 27 #[.int .i64 n] w fun e w' => e = .returned (.string ⟨(textL n).toArray⟩) ∧ Below w.heap.size w w' := by
  by_cases hneg : n < 0
  · obtain ⟨m, rfl⟩ : ∃ m : Nat, n = -(m : Int) := ⟨n.natAbs, by omega⟩
    have HT : Hid (textL (-(m : Int)) = 45 :: dgw 1 m) := Lib.hid (by unfold textL; rw [if_pos hneg]; congr 2; omega)
    have hl := dgw_len 1 m 20 (by omega) (by omega)
    have hw : IntKind.u64.wrap (-IntKind.u64.wrap (-(m : Int))) = (m : Int) := neg_wrap m (by omega) (by omega)
    go_enter Tryd.func27, Tryd.ntmps27
    go_wp2_with (go_at_call 43; refine (rdigits_any m _ (by omega)).mono ?_; rintro e w' ⟨rfl, hb⟩)
    rw [mk_cons]
    go_ret
    exact ⟨ret_l HT.out, hb⟩
  · obtain ⟨m, rfl⟩ := Int.eq_ofNat_of_zero_le (show 0 ≤ n by omega)
    have HT : Hid (textL (m : Int) = dgw 1 m) := Lib.hid (by unfold textL; rw [if_neg hneg]; rfl)
    go_enter Tryd.func27, Tryd.ntmps27
    go_wp2_with (go_at_call 43; refine (rdigits_any m _ (by omega)).mono ?_; rintro e w' ⟨rfl, hb⟩)
    go_ret
    exact ⟨ret_l HT.out, hb⟩
end Go.Proofs.YtkgfinhepbipeaaDoor
