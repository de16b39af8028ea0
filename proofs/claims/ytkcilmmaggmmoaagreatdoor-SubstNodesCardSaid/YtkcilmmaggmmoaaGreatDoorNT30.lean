/- RefTmp5 -/
import Derived.Test.YtkcilmmaggmmoaaGreatDoorNT5
import Derived.Test.YtkcilmmaggmmoaaGreatDoorNT6
set_option linter.unusedVariables false
set_option linter.unusedSimpArgs false
set_option maxRecDepth 100000
set_option maxHeartbeats 16000000
open Go.Lib (hid)
namespace Go.Proofs.YtkcilmmaggmmoaaGreatDoor
namespace Nw
end Nw
namespace T13
end T13
end Go.Proofs.YtkcilmmaggmmoaaGreatDoor
namespace Go.Proofs.YtkcilmmaggmmoaaGreatDoor
section
open Go.RowKit Go.Sort
open Nw T13
theorem drop_c13 (s : ByteArray) (k : Nat) (h : k < s.size) : s.data.toList.drop k = s[k]'h :: s.data.toList.drop (k + 1) := List.drop_eq_getElem_cons (show k < s.data.toList.length from h)
theorem drop_n13 (s : ByteArray) (k : Nat) (h : s.size ≤ k) : s.data.toList.drop k = [] := List.drop_eq_nil_of_le h
theorem u8_t {c d : UInt8} (h : c = d) : ((c.toNat : Int) == (d.toNat : Int)) = true := by rw [h]; exact beq_self_eq_true _
theorem u8_f {c d : UInt8} (h : ¬ c = d) : ((c.toNat : Int) == (d.toNat : Int)) = false := beq_eq_false_iff_ne.2 fun e => h (UInt8.toNat_inj.1 (by omega))
theorem Rletter_any (c : UInt8) (w : World) : Calls Tryz.prog 74 #[.int .u8 c.toNat] w fun e w' => e = .returned (.bool (v2 c)) ∧ w = w' := by
 have hcall := Kind_any c w
 have K := hid (k_v2 c)
 have hk6 := kind_le c
 generalize kind c = q at hcall K hk6
 by_cases z0 : (1 : Int) ≤ (q : Int) <;> by_cases g4 : (q : Int) ≤ 4
 all_goals try (exfalso; omega)
 all_goals
  go_enter Tryz.func74, Tryz.ntmps74
  go_wp2_with (go_at_call 46; refine hcall.mono ?_; rintro e w' ⟨rfl, rfl⟩)
  go_ret
  refine ⟨ret_bool ?_, rfl⟩
  rw [K.out]
  first
   | (rw [Bool.eq_iff_iff]; simp; omega)
   | (rw [Bool.eq_iff_iff]; simp; done)
theorem Rfound_any (s : ByteArray) (at0 : Nat) (w : World) (h0 : at0 ≤ s.size) (hs : s.size ≤ 1000000) :
  Calls Tryz.prog 58 #[.string s, .int .i64 (at0 : Int)] w fun e w' => e = .returned (.int .i64 (((at0 + lenN (s.data.toList.drop at0)) : Nat) : Int)) ∧ w = w' := by
 obtain ⟨R, hR⟩ : ∃ R, at0 + lenN (s.data.toList.drop at0) = R := ⟨_, rfl⟩
 rw [hR]
 have HR := hid hR
 clear hR
 go_enter Tryz.func58, Tryz.ntmps58
 go_wp2
 go_loop [1] (fun i => ∃ k : Nat, k ≤ s.size ∧ i = .int .i64 (k : Int) ∧ Hid (k + lenN (s.data.toList.drop k) = R)) (fun i => s.size - (intOf i).toNat)
 case atStart => exact ⟨at0, h0, rfl, HR⟩
 case round =>
  clear HR
  obtain ⟨k, hk, rfl, HR⟩ := hrel
  by_cases hlt : k < s.size
  ·have hlz : (k : Int) < (s.size : Int) := by omega
   have hst := drop_c13 s k hlt
   have hcall := Rletter_any s[k] w
   obtain ⟨c, hc⟩ : ∃ c, s[k]'hlt = c := ⟨_, rfl⟩
   rw [hc] at hcall hst
   have HST := hid hst
   clear hst
   cases hv : v2 c with
   | false =>
    rw [hv] at hcall
    have HF : Hid (k = R) := hid (by have := HR.out; rw [HST.out, lenN, hv] at this; simpa using this)
    clear hv
    go_wp2_with (go_at_call 74; refine hcall.mono ?_; rintro e w' ⟨rfl, rfl⟩)
    go_ret
    exact ⟨by rw [HF.out]; rfl, rfl⟩
   | true =>
    rw [hv] at hcall
    have HF : Hid (k + 1 + lenN (s.data.toList.drop (k + 1)) = R) := hid (by have := HR.out; rw [HST.out, lenN, hv, if_pos rfl] at this; omega)
    clear hv
    go_wp2_with (go_at_call 74; refine hcall.mono ?_; rintro e w' ⟨rfl, rfl⟩)
    go_round
    case rel => exact ⟨k + 1, by omega, by go_num, HF⟩
    case measure => simp [intOf]; omega
  ·obtain rfl : k = s.size := by omega
   have HF : Hid (s.size = R) := hid (by have := HR.out; rw [drop_n13 s s.size (Nat.le_refl _)] at this; simpa [lenN] using this)
   go_wp2
   go_ret
   exact ⟨by rw [HF.out]; rfl, rfl⟩
theorem getD_0 (c : UInt8) (t : L8) : (c :: t).getD 0 0 = c := rfl
theorem getD_1 (c d : UInt8) (t : L8) : (c :: d :: t).getD 1 0 = d := rfl
theorem Rop_any (s : ByteArray) (k : Nat) (w : World) (hs : s.size ≤ 1000000) (hk : k ≤ s.size) :
  Calls Tryz.prog 59 #[.string s, .int .i64 (k : Int)] w fun e w' => e = .returned (.tuple #[.int .i64 (opN (s.data.toList.drop k)).1, .int .i64 (((opN (s.data.toList.drop k)).2 : Nat) : Int)]) ∧ w = w' := by
 by_cases h1 : k < s.size
 ·have hlz : (k : Int) < (s.size : Int) := by omega
  have hst := drop_c13 s k h1
  obtain ⟨c, hc⟩ : ∃ c, s[k]'h1 = c := ⟨_, rfl⟩
  rw [hc] at hst
  have kw : IntKind.i64.wrap ((k : Int) + 1) = (k : Int) + 1 := IntWalk.i64_in _ (by omega)
  have e1 : (0 : Int) ≤ (k : Int) + 1 := by omega
  have e2 : ((k : Int) + 1).toNat = k + 1 := by omega
  by_cases h2 : k + 1 < s.size
  ·have hlz2 : (k : Int) + 1 < (s.size : Int) := by omega
   have hst2 := drop_c13 s (k + 1) h2
   obtain ⟨d, hd⟩ : ∃ d, s[k + 1]'h2 = d := ⟨_, rfl⟩
   rw [hd] at hst2
   rw [hst2] at hst
   clear hst2
   by_cases h_c_58 : c = 58
   ·subst h_c_58
    have t_c_58 : (((58 : UInt8).toNat : Int) == 58) = true := rfl
    by_cases h_d_45 : d = 45
    ·have HO : Hid ((opN (s.data.toList.drop k)).1 = 2 ∧ (opN (s.data.toList.drop k)).2 = 2) := hid (by rw [hst]; unfold opN; simp [getD_0, getD_1, h_d_45])
     have t_d_45 : ((d.toNat : Int) == 45) = true := u8_t (d := 45) h_d_45
     clear hst
     go_enter Tryz.func59, Tryz.ntmps59
     go_wp2
     go_ret2
     exact ⟨by rw [HO.out.1, HO.out.2]; rfl, rfl⟩
    by_cases h_d_63 : d = 63
    ·have HO : Hid ((opN (s.data.toList.drop k)).1 = 4 ∧ (opN (s.data.toList.drop k)).2 = 2) := hid (by rw [hst]; unfold opN; simp [getD_0, getD_1, h_d_45, h_d_63])
     have f_d_45 : ((d.toNat : Int) == 45) = false := u8_f (d := 45) h_d_45
     have t_d_63 : ((d.toNat : Int) == 63) = true := u8_t (d := 63) h_d_63
     clear hst
     go_enter Tryz.func59, Tryz.ntmps59
     go_wp2
     go_ret2
     exact ⟨by rw [HO.out.1, HO.out.2]; rfl, rfl⟩
    by_cases h_d_43 : d = 43
    ·have HO : Hid ((opN (s.data.toList.drop k)).1 = 6 ∧ (opN (s.data.toList.drop k)).2 = 2) := hid (by rw [hst]; unfold opN; simp [getD_0, getD_1, h_d_45, h_d_63, h_d_43])
     have f_d_45 : ((d.toNat : Int) == 45) = false := u8_f (d := 45) h_d_45
     have f_d_63 : ((d.toNat : Int) == 63) = false := u8_f (d := 63) h_d_63
     have t_d_43 : ((d.toNat : Int) == 43) = true := u8_t (d := 43) h_d_43
     clear hst
     go_enter Tryz.func59, Tryz.ntmps59
     go_wp2
     go_ret2
     exact ⟨by rw [HO.out.1, HO.out.2]; rfl, rfl⟩
    have f45 : (((58 : UInt8).toNat : Int) == 45) = false := rfl
    have f63 : (((58 : UInt8).toNat : Int) == 63) = false := rfl
    have f43 : (((58 : UInt8).toNat : Int) == 43) = false := rfl
    have HO : Hid ((opN (s.data.toList.drop k)).1 = 1 ∧ (opN (s.data.toList.drop k)).2 = 0) := hid (by rw [hst]; unfold opN; simp [getD_0, getD_1, h_d_45, h_d_63, h_d_43])
    have f_d_45 : ((d.toNat : Int) == 45) = false := u8_f (d := 45) h_d_45
    have f_d_63 : ((d.toNat : Int) == 63) = false := u8_f (d := 63) h_d_63
    have f_d_43 : ((d.toNat : Int) == 43) = false := u8_f (d := 43) h_d_43
    clear hst
    go_enter Tryz.func59, Tryz.ntmps59
    go_wp2
    go_ret2
    exact ⟨by rw [HO.out.1, HO.out.2]; rfl, rfl⟩
   ·by_cases h_c_45 : c = 45
    ·have HO : Hid ((opN (s.data.toList.drop k)).1 = 3 ∧ (opN (s.data.toList.drop k)).2 = 1) := hid (by rw [hst]; unfold opN; simp [getD_0, getD_1, h_c_58, h_c_45])
     have f_c_58 : ((c.toNat : Int) == 58) = false := u8_f (d := 58) h_c_58
     have t_c_45 : ((c.toNat : Int) == 45) = true := u8_t (d := 45) h_c_45
     clear hst
     go_enter Tryz.func59, Tryz.ntmps59
     go_wp2
     go_ret2
     exact ⟨by rw [HO.out.1, HO.out.2]; rfl, rfl⟩
    by_cases h_c_63 : c = 63
    ·have HO : Hid ((opN (s.data.toList.drop k)).1 = 5 ∧ (opN (s.data.toList.drop k)).2 = 1) := hid (by rw [hst]; unfold opN; simp [getD_0, getD_1, h_c_58, h_c_45, h_c_63])
     have f_c_58 : ((c.toNat : Int) == 58) = false := u8_f (d := 58) h_c_58
     have f_c_45 : ((c.toNat : Int) == 45) = false := u8_f (d := 45) h_c_45
     have t_c_63 : ((c.toNat : Int) == 63) = true := u8_t (d := 63) h_c_63
     clear hst
     go_enter Tryz.func59, Tryz.ntmps59
     go_wp2
     go_ret2
     exact ⟨by rw [HO.out.1, HO.out.2]; rfl, rfl⟩
    by_cases h_c_43 : c = 43
    ·have HO : Hid ((opN (s.data.toList.drop k)).1 = 7 ∧ (opN (s.data.toList.drop k)).2 = 1) := hid (by rw [hst]; unfold opN; simp [getD_0, getD_1, h_c_58, h_c_45, h_c_63, h_c_43])
     have f_c_58 : ((c.toNat : Int) == 58) = false := u8_f (d := 58) h_c_58
     have f_c_45 : ((c.toNat : Int) == 45) = false := u8_f (d := 45) h_c_45
     have f_c_63 : ((c.toNat : Int) == 63) = false := u8_f (d := 63) h_c_63
     have t_c_43 : ((c.toNat : Int) == 43) = true := u8_t (d := 43) h_c_43
     clear hst
     go_enter Tryz.func59, Tryz.ntmps59
     go_wp2
     go_ret2
     exact ⟨by rw [HO.out.1, HO.out.2]; rfl, rfl⟩
    have HO : Hid ((opN (s.data.toList.drop k)).1 = 1 ∧ (opN (s.data.toList.drop k)).2 = 0) := hid (by rw [hst]; unfold opN; simp [getD_0, getD_1, h_c_58, h_c_45, h_c_63, h_c_43])
    have f_c_58 : ((c.toNat : Int) == 58) = false := u8_f (d := 58) h_c_58
    have f_c_45 : ((c.toNat : Int) == 45) = false := u8_f (d := 45) h_c_45
    have f_c_63 : ((c.toNat : Int) == 63) = false := u8_f (d := 63) h_c_63
    have f_c_43 : ((c.toNat : Int) == 43) = false := u8_f (d := 43) h_c_43
    clear hst
    go_enter Tryz.func59, Tryz.ntmps59
    go_wp2
    go_ret2
    exact ⟨by rw [HO.out.1, HO.out.2]; rfl, rfl⟩
  ·have hlz2 : ¬ (k : Int) + 1 < (s.size : Int) := by omega
   have hlz3 : (s.size : Int) ≤ (k : Int) + 1 := by omega
   rw [drop_n13 s (k + 1) (by omega)] at hst
   by_cases h_c_45 : c = 45
   ·have HO : Hid ((opN (s.data.toList.drop k)).1 = 3 ∧ (opN (s.data.toList.drop k)).2 = 1) := hid (by rw [hst]; unfold opN; simp [getD_0, getD_1, h_c_45])
    have t_c_45 : ((c.toNat : Int) == 45) = true := u8_t (d := 45) h_c_45
    clear hst
    go_enter Tryz.func59, Tryz.ntmps59
    go_wp2
    go_ret2
    exact ⟨by rw [HO.out.1, HO.out.2]; rfl, rfl⟩
   by_cases h_c_63 : c = 63
   ·have HO : Hid ((opN (s.data.toList.drop k)).1 = 5 ∧ (opN (s.data.toList.drop k)).2 = 1) := hid (by rw [hst]; unfold opN; simp [getD_0, getD_1, h_c_45, h_c_63])
    have f_c_45 : ((c.toNat : Int) == 45) = false := u8_f (d := 45) h_c_45
    have t_c_63 : ((c.toNat : Int) == 63) = true := u8_t (d := 63) h_c_63
    clear hst
    go_enter Tryz.func59, Tryz.ntmps59
    go_wp2
    go_ret2
    exact ⟨by rw [HO.out.1, HO.out.2]; rfl, rfl⟩
   by_cases h_c_43 : c = 43
   ·have HO : Hid ((opN (s.data.toList.drop k)).1 = 7 ∧ (opN (s.data.toList.drop k)).2 = 1) := hid (by rw [hst]; unfold opN; simp [getD_0, getD_1, h_c_45, h_c_63, h_c_43])
    have f_c_45 : ((c.toNat : Int) == 45) = false := u8_f (d := 45) h_c_45
    have f_c_63 : ((c.toNat : Int) == 63) = false := u8_f (d := 63) h_c_63
    have t_c_43 : ((c.toNat : Int) == 43) = true := u8_t (d := 43) h_c_43
    clear hst
    go_enter Tryz.func59, Tryz.ntmps59
    go_wp2
    go_ret2
    exact ⟨by rw [HO.out.1, HO.out.2]; rfl, rfl⟩
   have HO : Hid ((opN (s.data.toList.drop k)).1 = 1 ∧ (opN (s.data.toList.drop k)).2 = 0) := hid (by rw [hst]; unfold opN; simp [getD_0, getD_1, h_c_45, h_c_63, h_c_43])
   have f_c_45 : ((c.toNat : Int) == 45) = false := u8_f (d := 45) h_c_45
   have f_c_63 : ((c.toNat : Int) == 63) = false := u8_f (d := 63) h_c_63
   have f_c_43 : ((c.toNat : Int) == 43) = false := u8_f (d := 43) h_c_43
   clear hst
   go_enter Tryz.func59, Tryz.ntmps59
   go_wp2
   go_ret2
   exact ⟨by rw [HO.out.1, HO.out.2]; rfl, rfl⟩
 ·have hlz : (s.size : Int) ≤ (k : Int) := by omega
  have hlz2 : (s.size : Int) ≤ (k : Int) + 1 := by omega
  have kw : IntKind.i64.wrap ((k : Int) + 1) = (k : Int) + 1 := IntWalk.i64_in _ (by omega)
  have hst := drop_n13 s k (by omega)
  have HO : Hid ((opN (s.data.toList.drop k)).1 = 1 ∧ (opN (s.data.toList.drop k)).2 = 0) := hid (by rw [hst]; unfold opN; simp)
  clear hst
  go_enter Tryz.func59, Tryz.ntmps59
  go_wp2
  go_ret2
  exact ⟨by rw [HO.out.1, HO.out.2]; rfl, rfl⟩
end
end Go.Proofs.YtkcilmmaggmmoaaGreatDoor
