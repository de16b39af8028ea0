/- NamKinds, NamNames -/
import Derived.Below
import Derived.BigQuiet
import Derived.Deep.QuietTactic
import Derived.Laws.EntriesVeiled
import Derived.Lib.Hide
import Derived.ProofKit
import Derived.Shelf.Abstract
import Derived.Test.YtkcilmmaggmmoaaDoorPT3
import Derived.Test.YtkcilmmaggmmoaaDoorRows
import Derived.WalkKit
set_option linter.unusedVariables false
set_option linter.unusedSimpArgs false
set_option maxRecDepth 100000
set_option maxHeartbeats 16000000
open Go.Lib (hid)
namespace Go.Proofs.YtkcilmmaggmmoaaDoor
namespace Nw
end Nw
end Go.Proofs.YtkcilmmaggmmoaaDoor
namespace Go.Proofs.YtkcilmmaggmmoaaDoor
section
open Go.RowKit
open Nw
theorem ret_bool {a b : Bool} (h : a = b) : Ending.returned (.bool a) = .returned (.bool b) := by rw [h]
theorem ret_int {k : IntKind} {a b : Int} (h : a = b) : Ending.returned (.int k a) = .returned (.int k b) := by rw [h]
theorem len_eq (s : ByteArray) : s.data.toList.length = s.size := rfl
theorem getd (s : ByteArray) (k : Nat) (h : k < s.size) : s.data.toList.getD k 0 = s[k] := by
 rw [List.getD_eq_getElem?_getD, List.getElem?_eq_getElem (by rw [len_eq]; exact h)]; rfl
theorem low_any (c : UInt8) (w : World) : Calls Tryd.prog 66 #[.int .u8 c.toNat] w fun e w' => e = .returned (.bool (low c)) ∧ w = w' := by
 by_cases h1 : (97 : Int) ≤ (c.toNat : Int) <;> by_cases h2 : (c.toNat : Int) ≤ 122
 all_goals
  have H : Hid (low c = (decide ((97 : Int) ≤ (c.toNat : Int)) && decide ((c.toNat : Int) ≤ 122))) := hid (by unfold low; congr 1 <;> exact decide_eq_decide.2 (by omega))
  go_enter Tryd.func66, Tryd.ntmps66
  go_wp2
  all_goals (go_ret; exact ⟨ret_bool (by rw [H.out]; simp [h1, h2]), rfl⟩)
theorem upp_any (c : UInt8) (w : World) : Calls Tryd.prog 67 #[.int .u8 c.toNat] w fun e w' => e = .returned (.bool (upp c)) ∧ w = w' := by
 by_cases h1 : (65 : Int) ≤ (c.toNat : Int) <;> by_cases h2 : (c.toNat : Int) ≤ 90
 all_goals
  have H : Hid (upp c = (decide ((65 : Int) ≤ (c.toNat : Int)) && decide ((c.toNat : Int) ≤ 90))) := hid (by unfold upp; congr 1 <;> exact decide_eq_decide.2 (by omega))
  go_enter Tryd.func67, Tryd.ntmps67
  go_wp2
  all_goals (go_ret; exact ⟨ret_bool (by rw [H.out]; simp [h1, h2]), rfl⟩)
theorem dig_any (c : UInt8) (w : World) : Calls Tryd.prog 70 #[.int .u8 c.toNat] w fun e w' => e = .returned (.bool (dig c)) ∧ w = w' := by
 by_cases h1 : (48 : Int) ≤ (c.toNat : Int) <;> by_cases h2 : (c.toNat : Int) ≤ 57
 all_goals
  have H : Hid (dig c = (decide ((48 : Int) ≤ (c.toNat : Int)) && decide ((c.toNat : Int) ≤ 57))) := hid (by unfold dig; congr 1 <;> exact decide_eq_decide.2 (by omega))
  go_enter Tryd.func70, Tryd.ntmps70
  go_wp2
  all_goals (go_ret; exact ⟨ret_bool (by rw [H.out]; simp [h1, h2]), rfl⟩)
theorem v1_any (c : UInt8) (w : World) : Calls Tryd.prog 65 #[.int .u8 c.toNat] w fun e w' => e = .returned (.bool (v1 c)) ∧ w = w' := by
 have H : Hid (v1 c = (low c || upp c || isC 95 c)) := hid rfl
 rcases Bool.eq_false_or_eq_true (low c) with h0 | h0 <;> rcases Bool.eq_false_or_eq_true (upp c) with h1 | h1 <;> rcases Bool.eq_false_or_eq_true (isC 95 c) with h2 | h2
 all_goals
  have m2 : ((c.toNat : Int) == 95) = isC 95 c := by unfold isC; rw [Bool.eq_iff_iff]; simp only [beq_iff_eq, decide_eq_true_eq]; omega
  rw [h2] at m2
  go_enter Tryd.func65, Tryd.ntmps65
  go_wp2_with (first | (go_at_call 66; refine (low_any _ _).mono ?_; rintro e w' ⟨rfl, rfl⟩) | (go_at_call 67; refine (upp_any _ _).mono ?_; rintro e w' ⟨rfl, rfl⟩))
  all_goals (first | (exfalso; simp_all; done) | (go_ret; exact ⟨ret_bool (by rw [H.out]; simp [h0, h1, h2]), rfl⟩))
theorem v2_any (c : UInt8) (B : Nat) (w : World) (hc : w.cell? ⟨B, 0, none⟩ = some (.func (.func 65) #[] #[])) : Calls Tryd.prog 69 #[.int .u8 c.toNat, .pointer (some ⟨B, 0, none⟩)] w fun e w' => e = .returned (.bool (v2 c)) ∧ w = w' := by
 have H : Hid (v2 c = (v1 c || dig c)) := hid rfl
 rcases Bool.eq_false_or_eq_true (v1 c) with h0 | h0 <;> rcases Bool.eq_false_or_eq_true (dig c) with h1 | h1
 all_goals
  go_enter Tryd.func69, Tryd.ntmps69
  go_wp2_with (first | (go_at_call 65; refine (v1_any _ _).mono ?_; rintro e w' ⟨rfl, rfl⟩) | (go_at_call 70; refine (dig_any _ _).mono ?_; rintro e w' ⟨rfl, rfl⟩))
  all_goals (first | (exfalso; simp_all; done) | (go_ret; exact ⟨ret_bool (by rw [H.out]; simp [h0, h1]), rfl⟩))
def Tells (g : Nat) (lb : Array Value) (p : UInt8 → Bool) (w : World) : Prop :=
 ∀ c : UInt8, Calls Tryd.prog g (#[.int .u8 c.toNat] ++ lb) w fun e w' => e = .returned (.bool (p c)) ∧ w = w'
theorem isName_any (s : ByteArray) (a b : UInt8 → Bool) (g1 g2 : Nat) (lb1 lb2 : Array Value) (w : World) (hs : s.size ≤ maxLen)
  (e1 : ∀ args w, (callFunc g1 args).run Tryd.prog w = .ok (.enter g1 args) w) (e2 : ∀ args w, (callFunc g2 args).run Tryd.prog w = .ok (.enter g2 args) w)
  (t1 : Tells g1 lb1 a w) (t2 : Tells g2 lb2 b w) :
  Calls Tryd.prog 68 #[.string s, .func (.func g1) #[] lb1, .func (.func g2) #[] lb2] w fun e w' => e = .returned (.bool (nm a b s.data.toList)) ∧ w = w' := by
 unfold maxLen at hs
 have T1 : Hid (Tells g1 lb1 a w) := hid t1
 have T2 : Hid (Tells g2 lb2 b w) := hid t2
 clear t1 t2
 by_cases h0 : s.data.toList = []
 ·obtain rfl : s = ⟨#[]⟩ := by
   cases s; rename_i x; cases x; simp at h0; simp [h0]
  clear h0
  go_enter Tryd.func68, Tryd.ntmps68
  go_wp2
  go_ret
  exact ⟨ret_bool (nm_nil rfl).symm, rfl⟩
 ·have hpos : 0 < s.size := by rw [← len_eq]; exact List.length_pos_iff.2 h0
  have b1 : s.toList.isEmpty = false := by rw [ByteArray.toList_eq, List.isEmpty_eq_false_iff]; exact h0
  have b2 : ¬ s.toList = [] := by rw [ByteArray.toList_eq]; exact h0
  clear h0
  by_cases h1 : 24 < s.size
  ·have H := hid (nm_long (a := a) (b := b) (l := s.data.toList) h1)
   have h1' : (24 : Int) < (s.size : Int) := by omega
   go_enter Tryd.func68, Tryd.ntmps68
   go_wp2
   go_ret
   exact ⟨ret_bool H.out.symm, rfl⟩
  ·have h1' : ¬ (24 : Int) < (s.size : Int) := by omega
   have hl : Hid (s.size ≤ 24) := hid (by omega)
   have hcall := T1.out s[0]
   have e1' := hid (getd s 0 hpos)
   rcases Bool.eq_false_or_eq_true (a s[0]) with h2 | h2
   ·rw [h2] at hcall
    go_enter Tryd.func68, Tryd.ntmps68
    go_wp2_with (go_at_fn g1; refine hcall.mono ?_; rintro e w' ⟨rfl, rfl⟩)
    have HA := hid h2
    clear h2 hcall
    go_loop [7] (fun i => ∃ k : Nat, 1 ≤ k ∧ k ≤ s.size ∧ i = .int .i64 k ∧ good a b s.data.toList k) (fun i => s.size - (intOf i).toNat)
    case atStart =>
     refine ⟨1, Nat.le_refl _, hpos, rfl, good_succ (good_zero _ _ _) ?_⟩
     rw [e1'.out]; exact HA.out
    case round =>
     obtain ⟨k, hk1, hk, rfl, hall⟩ := hrel
     have HG := hid hall; clear hall
     by_cases hlt : k < s.size
     ·have hcall := T2.out s[k]
      have e2' := hid (getd s k hlt)
      rcases Bool.eq_false_or_eq_true (b s[k]) with h3 | h3
      ·rw [h3] at hcall
       have HB := hid h3; clear h3
       go_wp2_with (go_at_fn g2; refine hcall.mono ?_; rintro e w' ⟨rfl, rfl⟩)
       go_round
       case rel => exact ⟨k + 1, by omega, by omega, by go_num, good_succ HG.out (by rw [e2'.out]; unfold okAt; rw [if_neg (by omega)]; exact HB.out)⟩
       case measure => simp [intOf]; omega
      ·rw [h3] at hcall
       have HB := hid h3; clear h3
       go_wp2_with (go_at_fn g2; refine hcall.mono ?_; rintro e w' ⟨rfl, rfl⟩)
       go_ret
       exact ⟨ret_bool (nm_not (k := k) (by rw [len_eq]; exact hlt) (by rw [e2'.out]; unfold okAt; rw [if_neg (by omega)]; exact HB.out)).symm, rfl⟩
     ·go_wp2
      go_ret
      obtain rfl : k = s.size := by omega
      exact ⟨ret_bool (nm_yes hpos hl.out HG.out).symm, rfl⟩
   ·rw [h2] at hcall
    go_enter Tryd.func68, Tryd.ntmps68
    go_wp2_with (go_at_fn g1; refine hcall.mono ?_; rintro e w' ⟨rfl, rfl⟩)
    go_ret
    exact ⟨ret_bool (nm_not (k := 0) (by rw [len_eq]; exact hpos) (by rw [e1'.out]; exact h2)).symm, rfl⟩
end
section
open Go.RowKit
open Nw
theorem Variable_any (s : ByteArray) (w : World) (hs : s.size ≤ maxLen) :
  Calls Tryd.prog 51 #[.string s] w fun e w' => e = .returned (.bool (nm v1 v2 s.data.toList)) ∧ Below w.heap.size w w' := by
 have HS := hid hs
 clear hs
 have e1 : ∀ args w, (callFunc 65 args).run Tryd.prog w = .ok (.enter 65 args) w := enters_of Tryd.func65 (by kernel_rfl) rfl
 have e2 : ∀ args w, (callFunc 69 args).run Tryd.prog w = .ok (.enter 69 args) w := enters_of Tryd.func69 (by kernel_rfl) rfl
 have HC := fun (W : World) (hc : W.cell? ⟨w.heap.size, 0, none⟩ = some (.func (.func 65) #[] #[])) =>
  isName_any s v1 v2 65 69 #[] #[.pointer (some ⟨w.heap.size, 0, none⟩)] W HS.out e1 e2 (fun c => v1_any c W) (fun c => v2_any c w.heap.size W hc)
 have HCC := hid HC
 clear HC e1 e2
 go_enter Tryd.func51, Tryd.ntmps51
 go_wp2_with (go_at_call 68; refine (HCC.out _ (by simp)).mono ?_; rintro e w' ⟨rfl, rfl⟩)
 go_ret
 refine ⟨rfl, ?_⟩
 first | exact ((Below.refl _ _).alloc (Nat.le_refl _) _).setCell (Nat.le_refl _) _ | exact (Below.refl _ _).alloc (Nat.le_refl _) _
end
end Go.Proofs.YtkcilmmaggmmoaaDoor
