/- The contract of Plain's closure: every way of its tests. -/
import Derived.Test.YtidagmecghbaeaaDoorQuoByte
namespace Go.Proofs.YtidagmecghbaeaaDoor
open Go.RowKit
open Q6
set_option linter.unusedVariables false
theorem p1_first (b c a : UInt8) (w : World) (hb10 : isC 10 b = true) (hf : has firsts c = true) :
    Calls Tryd.prog 23 #[.int .u8 b.toNat, .int .u8 c.toNat, .int .u8 a.toNat] w fun e w' => e = .returned (.bool (plainF b c a)) ∧ w = w' := by
  have H : Hid (plainF b c a = false) := Lib.hid (by unfold plainF; rw [hb10, hf]; rfl)
  have mb10 : ((b.toNat : Int) == 10) = true := (isC_beq 10 b 10 rfl).trans hb10
  have nb10 : ((b.toNat : Int) != 10) = false := (isC_bne 10 b 10 rfl).trans (by rw [hb10]; rfl)
  have HB := Lib.hid hb10
  clear hb10
  go_enter Tryd.func23, Tryd.ntmps23
  go_wp2_with (go_at_call 24; refine (has_first _ _).mono ?_; rintro e w' ⟨rfl, rfl⟩)
  go_ret
  exact ⟨ret_b H.out.symm, rfl⟩
theorem p1_b_a10_k32 (b c a : UInt8) (w : World) (hb10 : isC 10 b = true) (hf : has firsts c = false) (ha10 : isC 10 a = true) (ha32 : isC 32 a = false) (hc32 : isC 32 c = true) (hc45 : isC 45 c = false) (hc58 : isC 58 c = false) (hc35 : isC 35 c = false) :
    Calls Tryd.prog 23 #[.int .u8 b.toNat, .int .u8 c.toNat, .int .u8 a.toNat] w fun e w' => e = .returned (.bool (plainF b c a)) ∧ w = w' := by
  have H : Hid (plainF b c a = false) := Lib.hid (by unfold plainF loose; simp [*])
  have mb10 : ((b.toNat : Int) == 10) = true := (isC_beq 10 b 10 rfl).trans hb10
  have nb10 : ((b.toNat : Int) != 10) = false := (isC_bne 10 b 10 rfl).trans (by rw [hb10]; rfl)
  have ma10 : ((a.toNat : Int) == 10) = true := (isC_beq 10 a 10 rfl).trans ha10
  have na10 : ((a.toNat : Int) != 10) = false := (isC_bne 10 a 10 rfl).trans (by rw [ha10]; rfl)
  have ma32 : ((a.toNat : Int) == 32) = false := (isC_beq 32 a 32 rfl).trans ha32
  have na32 : ((a.toNat : Int) != 32) = true := (isC_bne 32 a 32 rfl).trans (by rw [ha32]; rfl)
  have mc32 : ((c.toNat : Int) == 32) = true := (isC_beq 32 c 32 rfl).trans hc32
  have nc32 : ((c.toNat : Int) != 32) = false := (isC_bne 32 c 32 rfl).trans (by rw [hc32]; rfl)
  have mc45 : ((c.toNat : Int) == 45) = false := (isC_beq 45 c 45 rfl).trans hc45
  have nc45 : ((c.toNat : Int) != 45) = true := (isC_bne 45 c 45 rfl).trans (by rw [hc45]; rfl)
  have mc58 : ((c.toNat : Int) == 58) = false := (isC_beq 58 c 58 rfl).trans hc58
  have nc58 : ((c.toNat : Int) != 58) = true := (isC_bne 58 c 58 rfl).trans (by rw [hc58]; rfl)
  have mc35 : ((c.toNat : Int) == 35) = false := (isC_beq 35 c 35 rfl).trans hc35
  have nc35 : ((c.toNat : Int) != 35) = true := (isC_bne 35 c 35 rfl).trans (by rw [hc35]; rfl)
  clear hb10 ha10 ha32 hc32 hc45 hc58 hc35
  go_enter Tryd.func23, Tryd.ntmps23
  go_wp2_with (first | (go_at_call 24; refine (has_first _ _).mono ?_; rintro e w' ⟨rfl, rfl⟩))
  go_ret
  exact ⟨ret_b H.out.symm, rfl⟩
theorem p1_b_a10_k45 (b c a : UInt8) (w : World) (hb10 : isC 10 b = true) (hf : has firsts c = false) (ha10 : isC 10 a = true) (ha32 : isC 32 a = false) (hc32 : isC 32 c = false) (hc45 : isC 45 c = true) (hc58 : isC 58 c = false) (hc35 : isC 35 c = false) :
    Calls Tryd.prog 23 #[.int .u8 b.toNat, .int .u8 c.toNat, .int .u8 a.toNat] w fun e w' => e = .returned (.bool (plainF b c a)) ∧ w = w' := by
  have H : Hid (plainF b c a = false) := Lib.hid (by unfold plainF loose; simp [*])
  have mb10 : ((b.toNat : Int) == 10) = true := (isC_beq 10 b 10 rfl).trans hb10
  have nb10 : ((b.toNat : Int) != 10) = false := (isC_bne 10 b 10 rfl).trans (by rw [hb10]; rfl)
  have ma10 : ((a.toNat : Int) == 10) = true := (isC_beq 10 a 10 rfl).trans ha10
  have na10 : ((a.toNat : Int) != 10) = false := (isC_bne 10 a 10 rfl).trans (by rw [ha10]; rfl)
  have ma32 : ((a.toNat : Int) == 32) = false := (isC_beq 32 a 32 rfl).trans ha32
  have na32 : ((a.toNat : Int) != 32) = true := (isC_bne 32 a 32 rfl).trans (by rw [ha32]; rfl)
  have mc32 : ((c.toNat : Int) == 32) = false := (isC_beq 32 c 32 rfl).trans hc32
  have nc32 : ((c.toNat : Int) != 32) = true := (isC_bne 32 c 32 rfl).trans (by rw [hc32]; rfl)
  have mc45 : ((c.toNat : Int) == 45) = true := (isC_beq 45 c 45 rfl).trans hc45
  have nc45 : ((c.toNat : Int) != 45) = false := (isC_bne 45 c 45 rfl).trans (by rw [hc45]; rfl)
  have mc58 : ((c.toNat : Int) == 58) = false := (isC_beq 58 c 58 rfl).trans hc58
  have nc58 : ((c.toNat : Int) != 58) = true := (isC_bne 58 c 58 rfl).trans (by rw [hc58]; rfl)
  have mc35 : ((c.toNat : Int) == 35) = false := (isC_beq 35 c 35 rfl).trans hc35
  have nc35 : ((c.toNat : Int) != 35) = true := (isC_bne 35 c 35 rfl).trans (by rw [hc35]; rfl)
  clear hb10 ha10 ha32 hc32 hc45 hc58 hc35
  go_enter Tryd.func23, Tryd.ntmps23
  go_wp2_with (first | (go_at_call 24; refine (has_first _ _).mono ?_; rintro e w' ⟨rfl, rfl⟩))
  go_ret
  exact ⟨ret_b H.out.symm, rfl⟩
theorem p1_b_a10_k58 (b c a : UInt8) (w : World) (hb10 : isC 10 b = true) (hf : has firsts c = false) (ha10 : isC 10 a = true) (ha32 : isC 32 a = false) (hc32 : isC 32 c = false) (hc45 : isC 45 c = false) (hc58 : isC 58 c = true) (hc35 : isC 35 c = false) :
    Calls Tryd.prog 23 #[.int .u8 b.toNat, .int .u8 c.toNat, .int .u8 a.toNat] w fun e w' => e = .returned (.bool (plainF b c a)) ∧ w = w' := by
  have H : Hid (plainF b c a = false) := Lib.hid (by unfold plainF loose; simp [*])
  have mb10 : ((b.toNat : Int) == 10) = true := (isC_beq 10 b 10 rfl).trans hb10
  have nb10 : ((b.toNat : Int) != 10) = false := (isC_bne 10 b 10 rfl).trans (by rw [hb10]; rfl)
  have ma10 : ((a.toNat : Int) == 10) = true := (isC_beq 10 a 10 rfl).trans ha10
  have na10 : ((a.toNat : Int) != 10) = false := (isC_bne 10 a 10 rfl).trans (by rw [ha10]; rfl)
  have ma32 : ((a.toNat : Int) == 32) = false := (isC_beq 32 a 32 rfl).trans ha32
  have na32 : ((a.toNat : Int) != 32) = true := (isC_bne 32 a 32 rfl).trans (by rw [ha32]; rfl)
  have mc32 : ((c.toNat : Int) == 32) = false := (isC_beq 32 c 32 rfl).trans hc32
  have nc32 : ((c.toNat : Int) != 32) = true := (isC_bne 32 c 32 rfl).trans (by rw [hc32]; rfl)
  have mc45 : ((c.toNat : Int) == 45) = false := (isC_beq 45 c 45 rfl).trans hc45
  have nc45 : ((c.toNat : Int) != 45) = true := (isC_bne 45 c 45 rfl).trans (by rw [hc45]; rfl)
  have mc58 : ((c.toNat : Int) == 58) = true := (isC_beq 58 c 58 rfl).trans hc58
  have nc58 : ((c.toNat : Int) != 58) = false := (isC_bne 58 c 58 rfl).trans (by rw [hc58]; rfl)
  have mc35 : ((c.toNat : Int) == 35) = false := (isC_beq 35 c 35 rfl).trans hc35
  have nc35 : ((c.toNat : Int) != 35) = true := (isC_bne 35 c 35 rfl).trans (by rw [hc35]; rfl)
  clear hb10 ha10 ha32 hc32 hc45 hc58 hc35
  go_enter Tryd.func23, Tryd.ntmps23
  go_wp2_with (first | (go_at_call 24; refine (has_first _ _).mono ?_; rintro e w' ⟨rfl, rfl⟩))
  go_ret
  exact ⟨ret_b H.out.symm, rfl⟩
theorem p1_b_a10_k35 (b c a : UInt8) (w : World) (hb10 : isC 10 b = true) (hf : has firsts c = false) (ha10 : isC 10 a = true) (ha32 : isC 32 a = false) (hc32 : isC 32 c = false) (hc45 : isC 45 c = false) (hc58 : isC 58 c = false) (hc35 : isC 35 c = true) :
    Calls Tryd.prog 23 #[.int .u8 b.toNat, .int .u8 c.toNat, .int .u8 a.toNat] w fun e w' => e = .returned (.bool (plainF b c a)) ∧ w = w' := by
  have H : Hid (plainF b c a = !isC 32 b) := Lib.hid (by unfold plainF loose; simp [*])
  have mb10 : ((b.toNat : Int) == 10) = true := (isC_beq 10 b 10 rfl).trans hb10
  have nb10 : ((b.toNat : Int) != 10) = false := (isC_bne 10 b 10 rfl).trans (by rw [hb10]; rfl)
  have ma10 : ((a.toNat : Int) == 10) = true := (isC_beq 10 a 10 rfl).trans ha10
  have na10 : ((a.toNat : Int) != 10) = false := (isC_bne 10 a 10 rfl).trans (by rw [ha10]; rfl)
  have ma32 : ((a.toNat : Int) == 32) = false := (isC_beq 32 a 32 rfl).trans ha32
  have na32 : ((a.toNat : Int) != 32) = true := (isC_bne 32 a 32 rfl).trans (by rw [ha32]; rfl)
  have mc32 : ((c.toNat : Int) == 32) = false := (isC_beq 32 c 32 rfl).trans hc32
  have nc32 : ((c.toNat : Int) != 32) = true := (isC_bne 32 c 32 rfl).trans (by rw [hc32]; rfl)
  have mc45 : ((c.toNat : Int) == 45) = false := (isC_beq 45 c 45 rfl).trans hc45
  have nc45 : ((c.toNat : Int) != 45) = true := (isC_bne 45 c 45 rfl).trans (by rw [hc45]; rfl)
  have mc58 : ((c.toNat : Int) == 58) = false := (isC_beq 58 c 58 rfl).trans hc58
  have nc58 : ((c.toNat : Int) != 58) = true := (isC_bne 58 c 58 rfl).trans (by rw [hc58]; rfl)
  have mc35 : ((c.toNat : Int) == 35) = true := (isC_beq 35 c 35 rfl).trans hc35
  have nc35 : ((c.toNat : Int) != 35) = false := (isC_bne 35 c 35 rfl).trans (by rw [hc35]; rfl)
  have nb32 : ((b.toNat : Int) != 32) = !isC 32 b := isC_bne 32 b 32 rfl
  clear hb10 ha10 ha32 hc32 hc45 hc58 hc35
  go_enter Tryd.func23, Tryd.ntmps23
  go_wp2_with (first | (go_at_call 24; refine (has_first _ _).mono ?_; rintro e w' ⟨rfl, rfl⟩))
  go_ret
  exact ⟨ret_b H.out.symm, rfl⟩
theorem p1_b_a10_k (b c a : UInt8) (w : World) (hb10 : isC 10 b = true) (hf : has firsts c = false) (ha10 : isC 10 a = true) (ha32 : isC 32 a = false) (hc32 : isC 32 c = false) (hc45 : isC 45 c = false) (hc58 : isC 58 c = false) (hc35 : isC 35 c = false) :
    Calls Tryd.prog 23 #[.int .u8 b.toNat, .int .u8 c.toNat, .int .u8 a.toNat] w fun e w' => e = .returned (.bool (plainF b c a)) ∧ w = w' := by
  have H : Hid (plainF b c a = good c) := Lib.hid (by unfold plainF loose; simp [*])
  have mb10 : ((b.toNat : Int) == 10) = true := (isC_beq 10 b 10 rfl).trans hb10
  have nb10 : ((b.toNat : Int) != 10) = false := (isC_bne 10 b 10 rfl).trans (by rw [hb10]; rfl)
  have ma10 : ((a.toNat : Int) == 10) = true := (isC_beq 10 a 10 rfl).trans ha10
  have na10 : ((a.toNat : Int) != 10) = false := (isC_bne 10 a 10 rfl).trans (by rw [ha10]; rfl)
  have ma32 : ((a.toNat : Int) == 32) = false := (isC_beq 32 a 32 rfl).trans ha32
  have na32 : ((a.toNat : Int) != 32) = true := (isC_bne 32 a 32 rfl).trans (by rw [ha32]; rfl)
  have mc32 : ((c.toNat : Int) == 32) = false := (isC_beq 32 c 32 rfl).trans hc32
  have nc32 : ((c.toNat : Int) != 32) = true := (isC_bne 32 c 32 rfl).trans (by rw [hc32]; rfl)
  have mc45 : ((c.toNat : Int) == 45) = false := (isC_beq 45 c 45 rfl).trans hc45
  have nc45 : ((c.toNat : Int) != 45) = true := (isC_bne 45 c 45 rfl).trans (by rw [hc45]; rfl)
  have mc58 : ((c.toNat : Int) == 58) = false := (isC_beq 58 c 58 rfl).trans hc58
  have nc58 : ((c.toNat : Int) != 58) = true := (isC_bne 58 c 58 rfl).trans (by rw [hc58]; rfl)
  have mc35 : ((c.toNat : Int) == 35) = false := (isC_beq 35 c 35 rfl).trans hc35
  have nc35 : ((c.toNat : Int) != 35) = true := (isC_bne 35 c 35 rfl).trans (by rw [hc35]; rfl)
  clear hb10 ha10 ha32 hc32 hc45 hc58 hc35
  go_enter Tryd.func23, Tryd.ntmps23
  go_wp2_with (first | (go_at_call 24; refine (has_first _ _).mono ?_; rintro e w' ⟨rfl, rfl⟩) | (go_at_call 21; refine (printable_any _ _).mono ?_; rintro e w' ⟨rfl, rfl⟩))
  go_ret
  exact ⟨ret_b H.out.symm, rfl⟩
theorem p1_b_a32_k32 (b c a : UInt8) (w : World) (hb10 : isC 10 b = true) (hf : has firsts c = false) (ha10 : isC 10 a = false) (ha32 : isC 32 a = true) (hc32 : isC 32 c = true) (hc45 : isC 45 c = false) (hc58 : isC 58 c = false) (hc35 : isC 35 c = false) :
    Calls Tryd.prog 23 #[.int .u8 b.toNat, .int .u8 c.toNat, .int .u8 a.toNat] w fun e w' => e = .returned (.bool (plainF b c a)) ∧ w = w' := by
  have H : Hid (plainF b c a = false) := Lib.hid (by unfold plainF loose; simp [*])
  have mb10 : ((b.toNat : Int) == 10) = true := (isC_beq 10 b 10 rfl).trans hb10
  have nb10 : ((b.toNat : Int) != 10) = false := (isC_bne 10 b 10 rfl).trans (by rw [hb10]; rfl)
  have ma10 : ((a.toNat : Int) == 10) = false := (isC_beq 10 a 10 rfl).trans ha10
  have na10 : ((a.toNat : Int) != 10) = true := (isC_bne 10 a 10 rfl).trans (by rw [ha10]; rfl)
  have ma32 : ((a.toNat : Int) == 32) = true := (isC_beq 32 a 32 rfl).trans ha32
  have na32 : ((a.toNat : Int) != 32) = false := (isC_bne 32 a 32 rfl).trans (by rw [ha32]; rfl)
  have mc32 : ((c.toNat : Int) == 32) = true := (isC_beq 32 c 32 rfl).trans hc32
  have nc32 : ((c.toNat : Int) != 32) = false := (isC_bne 32 c 32 rfl).trans (by rw [hc32]; rfl)
  have mc45 : ((c.toNat : Int) == 45) = false := (isC_beq 45 c 45 rfl).trans hc45
  have nc45 : ((c.toNat : Int) != 45) = true := (isC_bne 45 c 45 rfl).trans (by rw [hc45]; rfl)
  have mc58 : ((c.toNat : Int) == 58) = false := (isC_beq 58 c 58 rfl).trans hc58
  have nc58 : ((c.toNat : Int) != 58) = true := (isC_bne 58 c 58 rfl).trans (by rw [hc58]; rfl)
  have mc35 : ((c.toNat : Int) == 35) = false := (isC_beq 35 c 35 rfl).trans hc35
  have nc35 : ((c.toNat : Int) != 35) = true := (isC_bne 35 c 35 rfl).trans (by rw [hc35]; rfl)
  clear hb10 ha10 ha32 hc32 hc45 hc58 hc35
  go_enter Tryd.func23, Tryd.ntmps23
  go_wp2_with (first | (go_at_call 24; refine (has_first _ _).mono ?_; rintro e w' ⟨rfl, rfl⟩))
  go_ret
  exact ⟨ret_b H.out.symm, rfl⟩
theorem p1_b_a32_k45 (b c a : UInt8) (w : World) (hb10 : isC 10 b = true) (hf : has firsts c = false) (ha10 : isC 10 a = false) (ha32 : isC 32 a = true) (hc32 : isC 32 c = false) (hc45 : isC 45 c = true) (hc58 : isC 58 c = false) (hc35 : isC 35 c = false) :
    Calls Tryd.prog 23 #[.int .u8 b.toNat, .int .u8 c.toNat, .int .u8 a.toNat] w fun e w' => e = .returned (.bool (plainF b c a)) ∧ w = w' := by
  have H : Hid (plainF b c a = false) := Lib.hid (by unfold plainF loose; simp [*])
  have mb10 : ((b.toNat : Int) == 10) = true := (isC_beq 10 b 10 rfl).trans hb10
  have nb10 : ((b.toNat : Int) != 10) = false := (isC_bne 10 b 10 rfl).trans (by rw [hb10]; rfl)
  have ma10 : ((a.toNat : Int) == 10) = false := (isC_beq 10 a 10 rfl).trans ha10
  have na10 : ((a.toNat : Int) != 10) = true := (isC_bne 10 a 10 rfl).trans (by rw [ha10]; rfl)
  have ma32 : ((a.toNat : Int) == 32) = true := (isC_beq 32 a 32 rfl).trans ha32
  have na32 : ((a.toNat : Int) != 32) = false := (isC_bne 32 a 32 rfl).trans (by rw [ha32]; rfl)
  have mc32 : ((c.toNat : Int) == 32) = false := (isC_beq 32 c 32 rfl).trans hc32
  have nc32 : ((c.toNat : Int) != 32) = true := (isC_bne 32 c 32 rfl).trans (by rw [hc32]; rfl)
  have mc45 : ((c.toNat : Int) == 45) = true := (isC_beq 45 c 45 rfl).trans hc45
  have nc45 : ((c.toNat : Int) != 45) = false := (isC_bne 45 c 45 rfl).trans (by rw [hc45]; rfl)
  have mc58 : ((c.toNat : Int) == 58) = false := (isC_beq 58 c 58 rfl).trans hc58
  have nc58 : ((c.toNat : Int) != 58) = true := (isC_bne 58 c 58 rfl).trans (by rw [hc58]; rfl)
  have mc35 : ((c.toNat : Int) == 35) = false := (isC_beq 35 c 35 rfl).trans hc35
  have nc35 : ((c.toNat : Int) != 35) = true := (isC_bne 35 c 35 rfl).trans (by rw [hc35]; rfl)
  clear hb10 ha10 ha32 hc32 hc45 hc58 hc35
  go_enter Tryd.func23, Tryd.ntmps23
  go_wp2_with (first | (go_at_call 24; refine (has_first _ _).mono ?_; rintro e w' ⟨rfl, rfl⟩))
  go_ret
  exact ⟨ret_b H.out.symm, rfl⟩
theorem p1_b_a32_k58 (b c a : UInt8) (w : World) (hb10 : isC 10 b = true) (hf : has firsts c = false) (ha10 : isC 10 a = false) (ha32 : isC 32 a = true) (hc32 : isC 32 c = false) (hc45 : isC 45 c = false) (hc58 : isC 58 c = true) (hc35 : isC 35 c = false) :
    Calls Tryd.prog 23 #[.int .u8 b.toNat, .int .u8 c.toNat, .int .u8 a.toNat] w fun e w' => e = .returned (.bool (plainF b c a)) ∧ w = w' := by
  have H : Hid (plainF b c a = false) := Lib.hid (by unfold plainF loose; simp [*])
  have mb10 : ((b.toNat : Int) == 10) = true := (isC_beq 10 b 10 rfl).trans hb10
  have nb10 : ((b.toNat : Int) != 10) = false := (isC_bne 10 b 10 rfl).trans (by rw [hb10]; rfl)
  have ma10 : ((a.toNat : Int) == 10) = false := (isC_beq 10 a 10 rfl).trans ha10
  have na10 : ((a.toNat : Int) != 10) = true := (isC_bne 10 a 10 rfl).trans (by rw [ha10]; rfl)
  have ma32 : ((a.toNat : Int) == 32) = true := (isC_beq 32 a 32 rfl).trans ha32
  have na32 : ((a.toNat : Int) != 32) = false := (isC_bne 32 a 32 rfl).trans (by rw [ha32]; rfl)
  have mc32 : ((c.toNat : Int) == 32) = false := (isC_beq 32 c 32 rfl).trans hc32
  have nc32 : ((c.toNat : Int) != 32) = true := (isC_bne 32 c 32 rfl).trans (by rw [hc32]; rfl)
  have mc45 : ((c.toNat : Int) == 45) = false := (isC_beq 45 c 45 rfl).trans hc45
  have nc45 : ((c.toNat : Int) != 45) = true := (isC_bne 45 c 45 rfl).trans (by rw [hc45]; rfl)
  have mc58 : ((c.toNat : Int) == 58) = true := (isC_beq 58 c 58 rfl).trans hc58
  have nc58 : ((c.toNat : Int) != 58) = false := (isC_bne 58 c 58 rfl).trans (by rw [hc58]; rfl)
  have mc35 : ((c.toNat : Int) == 35) = false := (isC_beq 35 c 35 rfl).trans hc35
  have nc35 : ((c.toNat : Int) != 35) = true := (isC_bne 35 c 35 rfl).trans (by rw [hc35]; rfl)
  clear hb10 ha10 ha32 hc32 hc45 hc58 hc35
  go_enter Tryd.func23, Tryd.ntmps23
  go_wp2_with (first | (go_at_call 24; refine (has_first _ _).mono ?_; rintro e w' ⟨rfl, rfl⟩))
  go_ret
  exact ⟨ret_b H.out.symm, rfl⟩
theorem p1_b_a32_k35 (b c a : UInt8) (w : World) (hb10 : isC 10 b = true) (hf : has firsts c = false) (ha10 : isC 10 a = false) (ha32 : isC 32 a = true) (hc32 : isC 32 c = false) (hc45 : isC 45 c = false) (hc58 : isC 58 c = false) (hc35 : isC 35 c = true) :
    Calls Tryd.prog 23 #[.int .u8 b.toNat, .int .u8 c.toNat, .int .u8 a.toNat] w fun e w' => e = .returned (.bool (plainF b c a)) ∧ w = w' := by
  have H : Hid (plainF b c a = !isC 32 b) := Lib.hid (by unfold plainF loose; simp [*])
  have mb10 : ((b.toNat : Int) == 10) = true := (isC_beq 10 b 10 rfl).trans hb10
  have nb10 : ((b.toNat : Int) != 10) = false := (isC_bne 10 b 10 rfl).trans (by rw [hb10]; rfl)
  have ma10 : ((a.toNat : Int) == 10) = false := (isC_beq 10 a 10 rfl).trans ha10
  have na10 : ((a.toNat : Int) != 10) = true := (isC_bne 10 a 10 rfl).trans (by rw [ha10]; rfl)
  have ma32 : ((a.toNat : Int) == 32) = true := (isC_beq 32 a 32 rfl).trans ha32
  have na32 : ((a.toNat : Int) != 32) = false := (isC_bne 32 a 32 rfl).trans (by rw [ha32]; rfl)
  have mc32 : ((c.toNat : Int) == 32) = false := (isC_beq 32 c 32 rfl).trans hc32
  have nc32 : ((c.toNat : Int) != 32) = true := (isC_bne 32 c 32 rfl).trans (by rw [hc32]; rfl)
  have mc45 : ((c.toNat : Int) == 45) = false := (isC_beq 45 c 45 rfl).trans hc45
  have nc45 : ((c.toNat : Int) != 45) = true := (isC_bne 45 c 45 rfl).trans (by rw [hc45]; rfl)
  have mc58 : ((c.toNat : Int) == 58) = false := (isC_beq 58 c 58 rfl).trans hc58
  have nc58 : ((c.toNat : Int) != 58) = true := (isC_bne 58 c 58 rfl).trans (by rw [hc58]; rfl)
  have mc35 : ((c.toNat : Int) == 35) = true := (isC_beq 35 c 35 rfl).trans hc35
  have nc35 : ((c.toNat : Int) != 35) = false := (isC_bne 35 c 35 rfl).trans (by rw [hc35]; rfl)
  have nb32 : ((b.toNat : Int) != 32) = !isC 32 b := isC_bne 32 b 32 rfl
  clear hb10 ha10 ha32 hc32 hc45 hc58 hc35
  go_enter Tryd.func23, Tryd.ntmps23
  go_wp2_with (first | (go_at_call 24; refine (has_first _ _).mono ?_; rintro e w' ⟨rfl, rfl⟩))
  go_ret
  exact ⟨ret_b H.out.symm, rfl⟩
theorem p1_b_a32_k (b c a : UInt8) (w : World) (hb10 : isC 10 b = true) (hf : has firsts c = false) (ha10 : isC 10 a = false) (ha32 : isC 32 a = true) (hc32 : isC 32 c = false) (hc45 : isC 45 c = false) (hc58 : isC 58 c = false) (hc35 : isC 35 c = false) :
    Calls Tryd.prog 23 #[.int .u8 b.toNat, .int .u8 c.toNat, .int .u8 a.toNat] w fun e w' => e = .returned (.bool (plainF b c a)) ∧ w = w' := by
  have H : Hid (plainF b c a = good c) := Lib.hid (by unfold plainF loose; simp [*])
  have mb10 : ((b.toNat : Int) == 10) = true := (isC_beq 10 b 10 rfl).trans hb10
  have nb10 : ((b.toNat : Int) != 10) = false := (isC_bne 10 b 10 rfl).trans (by rw [hb10]; rfl)
  have ma10 : ((a.toNat : Int) == 10) = false := (isC_beq 10 a 10 rfl).trans ha10
  have na10 : ((a.toNat : Int) != 10) = true := (isC_bne 10 a 10 rfl).trans (by rw [ha10]; rfl)
  have ma32 : ((a.toNat : Int) == 32) = true := (isC_beq 32 a 32 rfl).trans ha32
  have na32 : ((a.toNat : Int) != 32) = false := (isC_bne 32 a 32 rfl).trans (by rw [ha32]; rfl)
  have mc32 : ((c.toNat : Int) == 32) = false := (isC_beq 32 c 32 rfl).trans hc32
  have nc32 : ((c.toNat : Int) != 32) = true := (isC_bne 32 c 32 rfl).trans (by rw [hc32]; rfl)
  have mc45 : ((c.toNat : Int) == 45) = false := (isC_beq 45 c 45 rfl).trans hc45
  have nc45 : ((c.toNat : Int) != 45) = true := (isC_bne 45 c 45 rfl).trans (by rw [hc45]; rfl)
  have mc58 : ((c.toNat : Int) == 58) = false := (isC_beq 58 c 58 rfl).trans hc58
  have nc58 : ((c.toNat : Int) != 58) = true := (isC_bne 58 c 58 rfl).trans (by rw [hc58]; rfl)
  have mc35 : ((c.toNat : Int) == 35) = false := (isC_beq 35 c 35 rfl).trans hc35
  have nc35 : ((c.toNat : Int) != 35) = true := (isC_bne 35 c 35 rfl).trans (by rw [hc35]; rfl)
  clear hb10 ha10 ha32 hc32 hc45 hc58 hc35
  go_enter Tryd.func23, Tryd.ntmps23
  go_wp2_with (first | (go_at_call 24; refine (has_first _ _).mono ?_; rintro e w' ⟨rfl, rfl⟩) | (go_at_call 21; refine (printable_any _ _).mono ?_; rintro e w' ⟨rfl, rfl⟩))
  go_ret
  exact ⟨ret_b H.out.symm, rfl⟩
theorem p1_b_ax_k32 (b c a : UInt8) (w : World) (hb10 : isC 10 b = true) (hf : has firsts c = false) (ha10 : isC 10 a = false) (ha32 : isC 32 a = false) (hc32 : isC 32 c = true) (hc45 : isC 45 c = false) (hc58 : isC 58 c = false) (hc35 : isC 35 c = false) :
    Calls Tryd.prog 23 #[.int .u8 b.toNat, .int .u8 c.toNat, .int .u8 a.toNat] w fun e w' => e = .returned (.bool (plainF b c a)) ∧ w = w' := by
  have H : Hid (plainF b c a = false) := Lib.hid (by unfold plainF loose; simp [*])
  have mb10 : ((b.toNat : Int) == 10) = true := (isC_beq 10 b 10 rfl).trans hb10
  have nb10 : ((b.toNat : Int) != 10) = false := (isC_bne 10 b 10 rfl).trans (by rw [hb10]; rfl)
  have ma10 : ((a.toNat : Int) == 10) = false := (isC_beq 10 a 10 rfl).trans ha10
  have na10 : ((a.toNat : Int) != 10) = true := (isC_bne 10 a 10 rfl).trans (by rw [ha10]; rfl)
  have ma32 : ((a.toNat : Int) == 32) = false := (isC_beq 32 a 32 rfl).trans ha32
  have na32 : ((a.toNat : Int) != 32) = true := (isC_bne 32 a 32 rfl).trans (by rw [ha32]; rfl)
  have mc32 : ((c.toNat : Int) == 32) = true := (isC_beq 32 c 32 rfl).trans hc32
  have nc32 : ((c.toNat : Int) != 32) = false := (isC_bne 32 c 32 rfl).trans (by rw [hc32]; rfl)
  have mc45 : ((c.toNat : Int) == 45) = false := (isC_beq 45 c 45 rfl).trans hc45
  have nc45 : ((c.toNat : Int) != 45) = true := (isC_bne 45 c 45 rfl).trans (by rw [hc45]; rfl)
  have mc58 : ((c.toNat : Int) == 58) = false := (isC_beq 58 c 58 rfl).trans hc58
  have nc58 : ((c.toNat : Int) != 58) = true := (isC_bne 58 c 58 rfl).trans (by rw [hc58]; rfl)
  have mc35 : ((c.toNat : Int) == 35) = false := (isC_beq 35 c 35 rfl).trans hc35
  have nc35 : ((c.toNat : Int) != 35) = true := (isC_bne 35 c 35 rfl).trans (by rw [hc35]; rfl)
  clear hb10 ha10 ha32 hc32 hc45 hc58 hc35
  go_enter Tryd.func23, Tryd.ntmps23
  go_wp2_with (first | (go_at_call 24; refine (has_first _ _).mono ?_; rintro e w' ⟨rfl, rfl⟩))
  go_ret
  exact ⟨ret_b H.out.symm, rfl⟩
theorem p1_b_ax_k45 (b c a : UInt8) (w : World) (hb10 : isC 10 b = true) (hf : has firsts c = false) (ha10 : isC 10 a = false) (ha32 : isC 32 a = false) (hc32 : isC 32 c = false) (hc45 : isC 45 c = true) (hc58 : isC 58 c = false) (hc35 : isC 35 c = false) :
    Calls Tryd.prog 23 #[.int .u8 b.toNat, .int .u8 c.toNat, .int .u8 a.toNat] w fun e w' => e = .returned (.bool (plainF b c a)) ∧ w = w' := by
  have H : Hid (plainF b c a = true) := Lib.hid (by unfold plainF loose; simp [*])
  have mb10 : ((b.toNat : Int) == 10) = true := (isC_beq 10 b 10 rfl).trans hb10
  have nb10 : ((b.toNat : Int) != 10) = false := (isC_bne 10 b 10 rfl).trans (by rw [hb10]; rfl)
  have ma10 : ((a.toNat : Int) == 10) = false := (isC_beq 10 a 10 rfl).trans ha10
  have na10 : ((a.toNat : Int) != 10) = true := (isC_bne 10 a 10 rfl).trans (by rw [ha10]; rfl)
  have ma32 : ((a.toNat : Int) == 32) = false := (isC_beq 32 a 32 rfl).trans ha32
  have na32 : ((a.toNat : Int) != 32) = true := (isC_bne 32 a 32 rfl).trans (by rw [ha32]; rfl)
  have mc32 : ((c.toNat : Int) == 32) = false := (isC_beq 32 c 32 rfl).trans hc32
  have nc32 : ((c.toNat : Int) != 32) = true := (isC_bne 32 c 32 rfl).trans (by rw [hc32]; rfl)
  have mc45 : ((c.toNat : Int) == 45) = true := (isC_beq 45 c 45 rfl).trans hc45
  have nc45 : ((c.toNat : Int) != 45) = false := (isC_bne 45 c 45 rfl).trans (by rw [hc45]; rfl)
  have mc58 : ((c.toNat : Int) == 58) = false := (isC_beq 58 c 58 rfl).trans hc58
  have nc58 : ((c.toNat : Int) != 58) = true := (isC_bne 58 c 58 rfl).trans (by rw [hc58]; rfl)
  have mc35 : ((c.toNat : Int) == 35) = false := (isC_beq 35 c 35 rfl).trans hc35
  have nc35 : ((c.toNat : Int) != 35) = true := (isC_bne 35 c 35 rfl).trans (by rw [hc35]; rfl)
  clear hb10 ha10 ha32 hc32 hc45 hc58 hc35
  go_enter Tryd.func23, Tryd.ntmps23
  go_wp2_with (first | (go_at_call 24; refine (has_first _ _).mono ?_; rintro e w' ⟨rfl, rfl⟩))
  go_ret
  exact ⟨ret_b H.out.symm, rfl⟩
theorem p1_b_ax_k58 (b c a : UInt8) (w : World) (hb10 : isC 10 b = true) (hf : has firsts c = false) (ha10 : isC 10 a = false) (ha32 : isC 32 a = false) (hc32 : isC 32 c = false) (hc45 : isC 45 c = false) (hc58 : isC 58 c = true) (hc35 : isC 35 c = false) :
    Calls Tryd.prog 23 #[.int .u8 b.toNat, .int .u8 c.toNat, .int .u8 a.toNat] w fun e w' => e = .returned (.bool (plainF b c a)) ∧ w = w' := by
  have H : Hid (plainF b c a = true) := Lib.hid (by unfold plainF loose; simp [*])
  have mb10 : ((b.toNat : Int) == 10) = true := (isC_beq 10 b 10 rfl).trans hb10
  have nb10 : ((b.toNat : Int) != 10) = false := (isC_bne 10 b 10 rfl).trans (by rw [hb10]; rfl)
  have ma10 : ((a.toNat : Int) == 10) = false := (isC_beq 10 a 10 rfl).trans ha10
  have na10 : ((a.toNat : Int) != 10) = true := (isC_bne 10 a 10 rfl).trans (by rw [ha10]; rfl)
  have ma32 : ((a.toNat : Int) == 32) = false := (isC_beq 32 a 32 rfl).trans ha32
  have na32 : ((a.toNat : Int) != 32) = true := (isC_bne 32 a 32 rfl).trans (by rw [ha32]; rfl)
  have mc32 : ((c.toNat : Int) == 32) = false := (isC_beq 32 c 32 rfl).trans hc32
  have nc32 : ((c.toNat : Int) != 32) = true := (isC_bne 32 c 32 rfl).trans (by rw [hc32]; rfl)
  have mc45 : ((c.toNat : Int) == 45) = false := (isC_beq 45 c 45 rfl).trans hc45
  have nc45 : ((c.toNat : Int) != 45) = true := (isC_bne 45 c 45 rfl).trans (by rw [hc45]; rfl)
  have mc58 : ((c.toNat : Int) == 58) = true := (isC_beq 58 c 58 rfl).trans hc58
  have nc58 : ((c.toNat : Int) != 58) = false := (isC_bne 58 c 58 rfl).trans (by rw [hc58]; rfl)
  have mc35 : ((c.toNat : Int) == 35) = false := (isC_beq 35 c 35 rfl).trans hc35
  have nc35 : ((c.toNat : Int) != 35) = true := (isC_bne 35 c 35 rfl).trans (by rw [hc35]; rfl)
  clear hb10 ha10 ha32 hc32 hc45 hc58 hc35
  go_enter Tryd.func23, Tryd.ntmps23
  go_wp2_with (first | (go_at_call 24; refine (has_first _ _).mono ?_; rintro e w' ⟨rfl, rfl⟩))
  go_ret
  exact ⟨ret_b H.out.symm, rfl⟩
theorem p1_b_ax_k35 (b c a : UInt8) (w : World) (hb10 : isC 10 b = true) (hf : has firsts c = false) (ha10 : isC 10 a = false) (ha32 : isC 32 a = false) (hc32 : isC 32 c = false) (hc45 : isC 45 c = false) (hc58 : isC 58 c = false) (hc35 : isC 35 c = true) :
    Calls Tryd.prog 23 #[.int .u8 b.toNat, .int .u8 c.toNat, .int .u8 a.toNat] w fun e w' => e = .returned (.bool (plainF b c a)) ∧ w = w' := by
  have H : Hid (plainF b c a = !isC 32 b) := Lib.hid (by unfold plainF loose; simp [*])
  have mb10 : ((b.toNat : Int) == 10) = true := (isC_beq 10 b 10 rfl).trans hb10
  have nb10 : ((b.toNat : Int) != 10) = false := (isC_bne 10 b 10 rfl).trans (by rw [hb10]; rfl)
  have ma10 : ((a.toNat : Int) == 10) = false := (isC_beq 10 a 10 rfl).trans ha10
  have na10 : ((a.toNat : Int) != 10) = true := (isC_bne 10 a 10 rfl).trans (by rw [ha10]; rfl)
  have ma32 : ((a.toNat : Int) == 32) = false := (isC_beq 32 a 32 rfl).trans ha32
  have na32 : ((a.toNat : Int) != 32) = true := (isC_bne 32 a 32 rfl).trans (by rw [ha32]; rfl)
  have mc32 : ((c.toNat : Int) == 32) = false := (isC_beq 32 c 32 rfl).trans hc32
  have nc32 : ((c.toNat : Int) != 32) = true := (isC_bne 32 c 32 rfl).trans (by rw [hc32]; rfl)
  have mc45 : ((c.toNat : Int) == 45) = false := (isC_beq 45 c 45 rfl).trans hc45
  have nc45 : ((c.toNat : Int) != 45) = true := (isC_bne 45 c 45 rfl).trans (by rw [hc45]; rfl)
  have mc58 : ((c.toNat : Int) == 58) = false := (isC_beq 58 c 58 rfl).trans hc58
  have nc58 : ((c.toNat : Int) != 58) = true := (isC_bne 58 c 58 rfl).trans (by rw [hc58]; rfl)
  have mc35 : ((c.toNat : Int) == 35) = true := (isC_beq 35 c 35 rfl).trans hc35
  have nc35 : ((c.toNat : Int) != 35) = false := (isC_bne 35 c 35 rfl).trans (by rw [hc35]; rfl)
  have nb32 : ((b.toNat : Int) != 32) = !isC 32 b := isC_bne 32 b 32 rfl
  clear hb10 ha10 ha32 hc32 hc45 hc58 hc35
  go_enter Tryd.func23, Tryd.ntmps23
  go_wp2_with (first | (go_at_call 24; refine (has_first _ _).mono ?_; rintro e w' ⟨rfl, rfl⟩))
  go_ret
  exact ⟨ret_b H.out.symm, rfl⟩
theorem p1_b_ax_k (b c a : UInt8) (w : World) (hb10 : isC 10 b = true) (hf : has firsts c = false) (ha10 : isC 10 a = false) (ha32 : isC 32 a = false) (hc32 : isC 32 c = false) (hc45 : isC 45 c = false) (hc58 : isC 58 c = false) (hc35 : isC 35 c = false) :
    Calls Tryd.prog 23 #[.int .u8 b.toNat, .int .u8 c.toNat, .int .u8 a.toNat] w fun e w' => e = .returned (.bool (plainF b c a)) ∧ w = w' := by
  have H : Hid (plainF b c a = good c) := Lib.hid (by unfold plainF loose; simp [*])
  have mb10 : ((b.toNat : Int) == 10) = true := (isC_beq 10 b 10 rfl).trans hb10
  have nb10 : ((b.toNat : Int) != 10) = false := (isC_bne 10 b 10 rfl).trans (by rw [hb10]; rfl)
  have ma10 : ((a.toNat : Int) == 10) = false := (isC_beq 10 a 10 rfl).trans ha10
  have na10 : ((a.toNat : Int) != 10) = true := (isC_bne 10 a 10 rfl).trans (by rw [ha10]; rfl)
  have ma32 : ((a.toNat : Int) == 32) = false := (isC_beq 32 a 32 rfl).trans ha32
  have na32 : ((a.toNat : Int) != 32) = true := (isC_bne 32 a 32 rfl).trans (by rw [ha32]; rfl)
  have mc32 : ((c.toNat : Int) == 32) = false := (isC_beq 32 c 32 rfl).trans hc32
  have nc32 : ((c.toNat : Int) != 32) = true := (isC_bne 32 c 32 rfl).trans (by rw [hc32]; rfl)
  have mc45 : ((c.toNat : Int) == 45) = false := (isC_beq 45 c 45 rfl).trans hc45
  have nc45 : ((c.toNat : Int) != 45) = true := (isC_bne 45 c 45 rfl).trans (by rw [hc45]; rfl)
  have mc58 : ((c.toNat : Int) == 58) = false := (isC_beq 58 c 58 rfl).trans hc58
  have nc58 : ((c.toNat : Int) != 58) = true := (isC_bne 58 c 58 rfl).trans (by rw [hc58]; rfl)
  have mc35 : ((c.toNat : Int) == 35) = false := (isC_beq 35 c 35 rfl).trans hc35
  have nc35 : ((c.toNat : Int) != 35) = true := (isC_bne 35 c 35 rfl).trans (by rw [hc35]; rfl)
  clear hb10 ha10 ha32 hc32 hc45 hc58 hc35
  go_enter Tryd.func23, Tryd.ntmps23
  go_wp2_with (first | (go_at_call 24; refine (has_first _ _).mono ?_; rintro e w' ⟨rfl, rfl⟩) | (go_at_call 21; refine (printable_any _ _).mono ?_; rintro e w' ⟨rfl, rfl⟩))
  go_ret
  exact ⟨ret_b H.out.symm, rfl⟩
theorem p1_n_a10_k32 (b c a : UInt8) (w : World) (hb10 : isC 10 b = false) (ha10 : isC 10 a = true) (ha32 : isC 32 a = false) (hc32 : isC 32 c = true) (hc45 : isC 45 c = false) (hc58 : isC 58 c = false) (hc35 : isC 35 c = false) :
    Calls Tryd.prog 23 #[.int .u8 b.toNat, .int .u8 c.toNat, .int .u8 a.toNat] w fun e w' => e = .returned (.bool (plainF b c a)) ∧ w = w' := by
  have H : Hid (plainF b c a = false) := Lib.hid (by unfold plainF loose; simp [*])
  have mb10 : ((b.toNat : Int) == 10) = false := (isC_beq 10 b 10 rfl).trans hb10
  have nb10 : ((b.toNat : Int) != 10) = true := (isC_bne 10 b 10 rfl).trans (by rw [hb10]; rfl)
  have ma10 : ((a.toNat : Int) == 10) = true := (isC_beq 10 a 10 rfl).trans ha10
  have na10 : ((a.toNat : Int) != 10) = false := (isC_bne 10 a 10 rfl).trans (by rw [ha10]; rfl)
  have ma32 : ((a.toNat : Int) == 32) = false := (isC_beq 32 a 32 rfl).trans ha32
  have na32 : ((a.toNat : Int) != 32) = true := (isC_bne 32 a 32 rfl).trans (by rw [ha32]; rfl)
  have mc32 : ((c.toNat : Int) == 32) = true := (isC_beq 32 c 32 rfl).trans hc32
  have nc32 : ((c.toNat : Int) != 32) = false := (isC_bne 32 c 32 rfl).trans (by rw [hc32]; rfl)
  have mc45 : ((c.toNat : Int) == 45) = false := (isC_beq 45 c 45 rfl).trans hc45
  have nc45 : ((c.toNat : Int) != 45) = true := (isC_bne 45 c 45 rfl).trans (by rw [hc45]; rfl)
  have mc58 : ((c.toNat : Int) == 58) = false := (isC_beq 58 c 58 rfl).trans hc58
  have nc58 : ((c.toNat : Int) != 58) = true := (isC_bne 58 c 58 rfl).trans (by rw [hc58]; rfl)
  have mc35 : ((c.toNat : Int) == 35) = false := (isC_beq 35 c 35 rfl).trans hc35
  have nc35 : ((c.toNat : Int) != 35) = true := (isC_bne 35 c 35 rfl).trans (by rw [hc35]; rfl)
  clear hb10 ha10 ha32 hc32 hc45 hc58 hc35
  go_enter Tryd.func23, Tryd.ntmps23
  go_wp2
  go_ret
  exact ⟨ret_b H.out.symm, rfl⟩
theorem p1_n_a10_k45 (b c a : UInt8) (w : World) (hb10 : isC 10 b = false) (ha10 : isC 10 a = true) (ha32 : isC 32 a = false) (hc32 : isC 32 c = false) (hc45 : isC 45 c = true) (hc58 : isC 58 c = false) (hc35 : isC 35 c = false) :
    Calls Tryd.prog 23 #[.int .u8 b.toNat, .int .u8 c.toNat, .int .u8 a.toNat] w fun e w' => e = .returned (.bool (plainF b c a)) ∧ w = w' := by
  have H : Hid (plainF b c a = true) := Lib.hid (by unfold plainF loose; simp [*])
  have mb10 : ((b.toNat : Int) == 10) = false := (isC_beq 10 b 10 rfl).trans hb10
  have nb10 : ((b.toNat : Int) != 10) = true := (isC_bne 10 b 10 rfl).trans (by rw [hb10]; rfl)
  have ma10 : ((a.toNat : Int) == 10) = true := (isC_beq 10 a 10 rfl).trans ha10
  have na10 : ((a.toNat : Int) != 10) = false := (isC_bne 10 a 10 rfl).trans (by rw [ha10]; rfl)
  have ma32 : ((a.toNat : Int) == 32) = false := (isC_beq 32 a 32 rfl).trans ha32
  have na32 : ((a.toNat : Int) != 32) = true := (isC_bne 32 a 32 rfl).trans (by rw [ha32]; rfl)
  have mc32 : ((c.toNat : Int) == 32) = false := (isC_beq 32 c 32 rfl).trans hc32
  have nc32 : ((c.toNat : Int) != 32) = true := (isC_bne 32 c 32 rfl).trans (by rw [hc32]; rfl)
  have mc45 : ((c.toNat : Int) == 45) = true := (isC_beq 45 c 45 rfl).trans hc45
  have nc45 : ((c.toNat : Int) != 45) = false := (isC_bne 45 c 45 rfl).trans (by rw [hc45]; rfl)
  have mc58 : ((c.toNat : Int) == 58) = false := (isC_beq 58 c 58 rfl).trans hc58
  have nc58 : ((c.toNat : Int) != 58) = true := (isC_bne 58 c 58 rfl).trans (by rw [hc58]; rfl)
  have mc35 : ((c.toNat : Int) == 35) = false := (isC_beq 35 c 35 rfl).trans hc35
  have nc35 : ((c.toNat : Int) != 35) = true := (isC_bne 35 c 35 rfl).trans (by rw [hc35]; rfl)
  clear hb10 ha10 ha32 hc32 hc45 hc58 hc35
  go_enter Tryd.func23, Tryd.ntmps23
  go_wp2
  go_ret
  exact ⟨ret_b H.out.symm, rfl⟩
theorem p1_n_a10_k58 (b c a : UInt8) (w : World) (hb10 : isC 10 b = false) (ha10 : isC 10 a = true) (ha32 : isC 32 a = false) (hc32 : isC 32 c = false) (hc45 : isC 45 c = false) (hc58 : isC 58 c = true) (hc35 : isC 35 c = false) :
    Calls Tryd.prog 23 #[.int .u8 b.toNat, .int .u8 c.toNat, .int .u8 a.toNat] w fun e w' => e = .returned (.bool (plainF b c a)) ∧ w = w' := by
  have H : Hid (plainF b c a = false) := Lib.hid (by unfold plainF loose; simp [*])
  have mb10 : ((b.toNat : Int) == 10) = false := (isC_beq 10 b 10 rfl).trans hb10
  have nb10 : ((b.toNat : Int) != 10) = true := (isC_bne 10 b 10 rfl).trans (by rw [hb10]; rfl)
  have ma10 : ((a.toNat : Int) == 10) = true := (isC_beq 10 a 10 rfl).trans ha10
  have na10 : ((a.toNat : Int) != 10) = false := (isC_bne 10 a 10 rfl).trans (by rw [ha10]; rfl)
  have ma32 : ((a.toNat : Int) == 32) = false := (isC_beq 32 a 32 rfl).trans ha32
  have na32 : ((a.toNat : Int) != 32) = true := (isC_bne 32 a 32 rfl).trans (by rw [ha32]; rfl)
  have mc32 : ((c.toNat : Int) == 32) = false := (isC_beq 32 c 32 rfl).trans hc32
  have nc32 : ((c.toNat : Int) != 32) = true := (isC_bne 32 c 32 rfl).trans (by rw [hc32]; rfl)
  have mc45 : ((c.toNat : Int) == 45) = false := (isC_beq 45 c 45 rfl).trans hc45
  have nc45 : ((c.toNat : Int) != 45) = true := (isC_bne 45 c 45 rfl).trans (by rw [hc45]; rfl)
  have mc58 : ((c.toNat : Int) == 58) = true := (isC_beq 58 c 58 rfl).trans hc58
  have nc58 : ((c.toNat : Int) != 58) = false := (isC_bne 58 c 58 rfl).trans (by rw [hc58]; rfl)
  have mc35 : ((c.toNat : Int) == 35) = false := (isC_beq 35 c 35 rfl).trans hc35
  have nc35 : ((c.toNat : Int) != 35) = true := (isC_bne 35 c 35 rfl).trans (by rw [hc35]; rfl)
  clear hb10 ha10 ha32 hc32 hc45 hc58 hc35
  go_enter Tryd.func23, Tryd.ntmps23
  go_wp2
  go_ret
  exact ⟨ret_b H.out.symm, rfl⟩
theorem p1_n_a10_k35 (b c a : UInt8) (w : World) (hb10 : isC 10 b = false) (ha10 : isC 10 a = true) (ha32 : isC 32 a = false) (hc32 : isC 32 c = false) (hc45 : isC 45 c = false) (hc58 : isC 58 c = false) (hc35 : isC 35 c = true) :
    Calls Tryd.prog 23 #[.int .u8 b.toNat, .int .u8 c.toNat, .int .u8 a.toNat] w fun e w' => e = .returned (.bool (plainF b c a)) ∧ w = w' := by
  have H : Hid (plainF b c a = !isC 32 b) := Lib.hid (by unfold plainF loose; simp [*])
  have mb10 : ((b.toNat : Int) == 10) = false := (isC_beq 10 b 10 rfl).trans hb10
  have nb10 : ((b.toNat : Int) != 10) = true := (isC_bne 10 b 10 rfl).trans (by rw [hb10]; rfl)
  have ma10 : ((a.toNat : Int) == 10) = true := (isC_beq 10 a 10 rfl).trans ha10
  have na10 : ((a.toNat : Int) != 10) = false := (isC_bne 10 a 10 rfl).trans (by rw [ha10]; rfl)
  have ma32 : ((a.toNat : Int) == 32) = false := (isC_beq 32 a 32 rfl).trans ha32
  have na32 : ((a.toNat : Int) != 32) = true := (isC_bne 32 a 32 rfl).trans (by rw [ha32]; rfl)
  have mc32 : ((c.toNat : Int) == 32) = false := (isC_beq 32 c 32 rfl).trans hc32
  have nc32 : ((c.toNat : Int) != 32) = true := (isC_bne 32 c 32 rfl).trans (by rw [hc32]; rfl)
  have mc45 : ((c.toNat : Int) == 45) = false := (isC_beq 45 c 45 rfl).trans hc45
  have nc45 : ((c.toNat : Int) != 45) = true := (isC_bne 45 c 45 rfl).trans (by rw [hc45]; rfl)
  have mc58 : ((c.toNat : Int) == 58) = false := (isC_beq 58 c 58 rfl).trans hc58
  have nc58 : ((c.toNat : Int) != 58) = true := (isC_bne 58 c 58 rfl).trans (by rw [hc58]; rfl)
  have mc35 : ((c.toNat : Int) == 35) = true := (isC_beq 35 c 35 rfl).trans hc35
  have nc35 : ((c.toNat : Int) != 35) = false := (isC_bne 35 c 35 rfl).trans (by rw [hc35]; rfl)
  have nb32 : ((b.toNat : Int) != 32) = !isC 32 b := isC_bne 32 b 32 rfl
  clear hb10 ha10 ha32 hc32 hc45 hc58 hc35
  go_enter Tryd.func23, Tryd.ntmps23
  go_wp2
  go_ret
  exact ⟨ret_b H.out.symm, rfl⟩
theorem p1_n_a10_k (b c a : UInt8) (w : World) (hb10 : isC 10 b = false) (ha10 : isC 10 a = true) (ha32 : isC 32 a = false) (hc32 : isC 32 c = false) (hc45 : isC 45 c = false) (hc58 : isC 58 c = false) (hc35 : isC 35 c = false) :
    Calls Tryd.prog 23 #[.int .u8 b.toNat, .int .u8 c.toNat, .int .u8 a.toNat] w fun e w' => e = .returned (.bool (plainF b c a)) ∧ w = w' := by
  have H : Hid (plainF b c a = good c) := Lib.hid (by unfold plainF loose; simp [*])
  have mb10 : ((b.toNat : Int) == 10) = false := (isC_beq 10 b 10 rfl).trans hb10
  have nb10 : ((b.toNat : Int) != 10) = true := (isC_bne 10 b 10 rfl).trans (by rw [hb10]; rfl)
  have ma10 : ((a.toNat : Int) == 10) = true := (isC_beq 10 a 10 rfl).trans ha10
  have na10 : ((a.toNat : Int) != 10) = false := (isC_bne 10 a 10 rfl).trans (by rw [ha10]; rfl)
  have ma32 : ((a.toNat : Int) == 32) = false := (isC_beq 32 a 32 rfl).trans ha32
  have na32 : ((a.toNat : Int) != 32) = true := (isC_bne 32 a 32 rfl).trans (by rw [ha32]; rfl)
  have mc32 : ((c.toNat : Int) == 32) = false := (isC_beq 32 c 32 rfl).trans hc32
  have nc32 : ((c.toNat : Int) != 32) = true := (isC_bne 32 c 32 rfl).trans (by rw [hc32]; rfl)
  have mc45 : ((c.toNat : Int) == 45) = false := (isC_beq 45 c 45 rfl).trans hc45
  have nc45 : ((c.toNat : Int) != 45) = true := (isC_bne 45 c 45 rfl).trans (by rw [hc45]; rfl)
  have mc58 : ((c.toNat : Int) == 58) = false := (isC_beq 58 c 58 rfl).trans hc58
  have nc58 : ((c.toNat : Int) != 58) = true := (isC_bne 58 c 58 rfl).trans (by rw [hc58]; rfl)
  have mc35 : ((c.toNat : Int) == 35) = false := (isC_beq 35 c 35 rfl).trans hc35
  have nc35 : ((c.toNat : Int) != 35) = true := (isC_bne 35 c 35 rfl).trans (by rw [hc35]; rfl)
  clear hb10 ha10 ha32 hc32 hc45 hc58 hc35
  go_enter Tryd.func23, Tryd.ntmps23
  go_wp2_with (first | (go_at_call 21; refine (printable_any _ _).mono ?_; rintro e w' ⟨rfl, rfl⟩))
  go_ret
  exact ⟨ret_b H.out.symm, rfl⟩
theorem p1_n_a32_k32 (b c a : UInt8) (w : World) (hb10 : isC 10 b = false) (ha10 : isC 10 a = false) (ha32 : isC 32 a = true) (hc32 : isC 32 c = true) (hc45 : isC 45 c = false) (hc58 : isC 58 c = false) (hc35 : isC 35 c = false) :
    Calls Tryd.prog 23 #[.int .u8 b.toNat, .int .u8 c.toNat, .int .u8 a.toNat] w fun e w' => e = .returned (.bool (plainF b c a)) ∧ w = w' := by
  have H : Hid (plainF b c a = true) := Lib.hid (by unfold plainF loose; simp [*])
  have mb10 : ((b.toNat : Int) == 10) = false := (isC_beq 10 b 10 rfl).trans hb10
  have nb10 : ((b.toNat : Int) != 10) = true := (isC_bne 10 b 10 rfl).trans (by rw [hb10]; rfl)
  have ma10 : ((a.toNat : Int) == 10) = false := (isC_beq 10 a 10 rfl).trans ha10
  have na10 : ((a.toNat : Int) != 10) = true := (isC_bne 10 a 10 rfl).trans (by rw [ha10]; rfl)
  have ma32 : ((a.toNat : Int) == 32) = true := (isC_beq 32 a 32 rfl).trans ha32
  have na32 : ((a.toNat : Int) != 32) = false := (isC_bne 32 a 32 rfl).trans (by rw [ha32]; rfl)
  have mc32 : ((c.toNat : Int) == 32) = true := (isC_beq 32 c 32 rfl).trans hc32
  have nc32 : ((c.toNat : Int) != 32) = false := (isC_bne 32 c 32 rfl).trans (by rw [hc32]; rfl)
  have mc45 : ((c.toNat : Int) == 45) = false := (isC_beq 45 c 45 rfl).trans hc45
  have nc45 : ((c.toNat : Int) != 45) = true := (isC_bne 45 c 45 rfl).trans (by rw [hc45]; rfl)
  have mc58 : ((c.toNat : Int) == 58) = false := (isC_beq 58 c 58 rfl).trans hc58
  have nc58 : ((c.toNat : Int) != 58) = true := (isC_bne 58 c 58 rfl).trans (by rw [hc58]; rfl)
  have mc35 : ((c.toNat : Int) == 35) = false := (isC_beq 35 c 35 rfl).trans hc35
  have nc35 : ((c.toNat : Int) != 35) = true := (isC_bne 35 c 35 rfl).trans (by rw [hc35]; rfl)
  clear hb10 ha10 ha32 hc32 hc45 hc58 hc35
  go_enter Tryd.func23, Tryd.ntmps23
  go_wp2
  go_ret
  exact ⟨ret_b H.out.symm, rfl⟩
theorem p1_n_a32_k45 (b c a : UInt8) (w : World) (hb10 : isC 10 b = false) (ha10 : isC 10 a = false) (ha32 : isC 32 a = true) (hc32 : isC 32 c = false) (hc45 : isC 45 c = true) (hc58 : isC 58 c = false) (hc35 : isC 35 c = false) :
    Calls Tryd.prog 23 #[.int .u8 b.toNat, .int .u8 c.toNat, .int .u8 a.toNat] w fun e w' => e = .returned (.bool (plainF b c a)) ∧ w = w' := by
  have H : Hid (plainF b c a = true) := Lib.hid (by unfold plainF loose; simp [*])
  have mb10 : ((b.toNat : Int) == 10) = false := (isC_beq 10 b 10 rfl).trans hb10
  have nb10 : ((b.toNat : Int) != 10) = true := (isC_bne 10 b 10 rfl).trans (by rw [hb10]; rfl)
  have ma10 : ((a.toNat : Int) == 10) = false := (isC_beq 10 a 10 rfl).trans ha10
  have na10 : ((a.toNat : Int) != 10) = true := (isC_bne 10 a 10 rfl).trans (by rw [ha10]; rfl)
  have ma32 : ((a.toNat : Int) == 32) = true := (isC_beq 32 a 32 rfl).trans ha32
  have na32 : ((a.toNat : Int) != 32) = false := (isC_bne 32 a 32 rfl).trans (by rw [ha32]; rfl)
  have mc32 : ((c.toNat : Int) == 32) = false := (isC_beq 32 c 32 rfl).trans hc32
  have nc32 : ((c.toNat : Int) != 32) = true := (isC_bne 32 c 32 rfl).trans (by rw [hc32]; rfl)
  have mc45 : ((c.toNat : Int) == 45) = true := (isC_beq 45 c 45 rfl).trans hc45
  have nc45 : ((c.toNat : Int) != 45) = false := (isC_bne 45 c 45 rfl).trans (by rw [hc45]; rfl)
  have mc58 : ((c.toNat : Int) == 58) = false := (isC_beq 58 c 58 rfl).trans hc58
  have nc58 : ((c.toNat : Int) != 58) = true := (isC_bne 58 c 58 rfl).trans (by rw [hc58]; rfl)
  have mc35 : ((c.toNat : Int) == 35) = false := (isC_beq 35 c 35 rfl).trans hc35
  have nc35 : ((c.toNat : Int) != 35) = true := (isC_bne 35 c 35 rfl).trans (by rw [hc35]; rfl)
  clear hb10 ha10 ha32 hc32 hc45 hc58 hc35
  go_enter Tryd.func23, Tryd.ntmps23
  go_wp2
  go_ret
  exact ⟨ret_b H.out.symm, rfl⟩
theorem p1_n_a32_k58 (b c a : UInt8) (w : World) (hb10 : isC 10 b = false) (ha10 : isC 10 a = false) (ha32 : isC 32 a = true) (hc32 : isC 32 c = false) (hc45 : isC 45 c = false) (hc58 : isC 58 c = true) (hc35 : isC 35 c = false) :
    Calls Tryd.prog 23 #[.int .u8 b.toNat, .int .u8 c.toNat, .int .u8 a.toNat] w fun e w' => e = .returned (.bool (plainF b c a)) ∧ w = w' := by
  have H : Hid (plainF b c a = false) := Lib.hid (by unfold plainF loose; simp [*])
  have mb10 : ((b.toNat : Int) == 10) = false := (isC_beq 10 b 10 rfl).trans hb10
  have nb10 : ((b.toNat : Int) != 10) = true := (isC_bne 10 b 10 rfl).trans (by rw [hb10]; rfl)
  have ma10 : ((a.toNat : Int) == 10) = false := (isC_beq 10 a 10 rfl).trans ha10
  have na10 : ((a.toNat : Int) != 10) = true := (isC_bne 10 a 10 rfl).trans (by rw [ha10]; rfl)
  have ma32 : ((a.toNat : Int) == 32) = true := (isC_beq 32 a 32 rfl).trans ha32
  have na32 : ((a.toNat : Int) != 32) = false := (isC_bne 32 a 32 rfl).trans (by rw [ha32]; rfl)
  have mc32 : ((c.toNat : Int) == 32) = false := (isC_beq 32 c 32 rfl).trans hc32
  have nc32 : ((c.toNat : Int) != 32) = true := (isC_bne 32 c 32 rfl).trans (by rw [hc32]; rfl)
  have mc45 : ((c.toNat : Int) == 45) = false := (isC_beq 45 c 45 rfl).trans hc45
  have nc45 : ((c.toNat : Int) != 45) = true := (isC_bne 45 c 45 rfl).trans (by rw [hc45]; rfl)
  have mc58 : ((c.toNat : Int) == 58) = true := (isC_beq 58 c 58 rfl).trans hc58
  have nc58 : ((c.toNat : Int) != 58) = false := (isC_bne 58 c 58 rfl).trans (by rw [hc58]; rfl)
  have mc35 : ((c.toNat : Int) == 35) = false := (isC_beq 35 c 35 rfl).trans hc35
  have nc35 : ((c.toNat : Int) != 35) = true := (isC_bne 35 c 35 rfl).trans (by rw [hc35]; rfl)
  clear hb10 ha10 ha32 hc32 hc45 hc58 hc35
  go_enter Tryd.func23, Tryd.ntmps23
  go_wp2
  go_ret
  exact ⟨ret_b H.out.symm, rfl⟩
theorem p1_n_a32_k35 (b c a : UInt8) (w : World) (hb10 : isC 10 b = false) (ha10 : isC 10 a = false) (ha32 : isC 32 a = true) (hc32 : isC 32 c = false) (hc45 : isC 45 c = false) (hc58 : isC 58 c = false) (hc35 : isC 35 c = true) :
    Calls Tryd.prog 23 #[.int .u8 b.toNat, .int .u8 c.toNat, .int .u8 a.toNat] w fun e w' => e = .returned (.bool (plainF b c a)) ∧ w = w' := by
  have H : Hid (plainF b c a = !isC 32 b) := Lib.hid (by unfold plainF loose; simp [*])
  have mb10 : ((b.toNat : Int) == 10) = false := (isC_beq 10 b 10 rfl).trans hb10
  have nb10 : ((b.toNat : Int) != 10) = true := (isC_bne 10 b 10 rfl).trans (by rw [hb10]; rfl)
  have ma10 : ((a.toNat : Int) == 10) = false := (isC_beq 10 a 10 rfl).trans ha10
  have na10 : ((a.toNat : Int) != 10) = true := (isC_bne 10 a 10 rfl).trans (by rw [ha10]; rfl)
  have ma32 : ((a.toNat : Int) == 32) = true := (isC_beq 32 a 32 rfl).trans ha32
  have na32 : ((a.toNat : Int) != 32) = false := (isC_bne 32 a 32 rfl).trans (by rw [ha32]; rfl)
  have mc32 : ((c.toNat : Int) == 32) = false := (isC_beq 32 c 32 rfl).trans hc32
  have nc32 : ((c.toNat : Int) != 32) = true := (isC_bne 32 c 32 rfl).trans (by rw [hc32]; rfl)
  have mc45 : ((c.toNat : Int) == 45) = false := (isC_beq 45 c 45 rfl).trans hc45
  have nc45 : ((c.toNat : Int) != 45) = true := (isC_bne 45 c 45 rfl).trans (by rw [hc45]; rfl)
  have mc58 : ((c.toNat : Int) == 58) = false := (isC_beq 58 c 58 rfl).trans hc58
  have nc58 : ((c.toNat : Int) != 58) = true := (isC_bne 58 c 58 rfl).trans (by rw [hc58]; rfl)
  have mc35 : ((c.toNat : Int) == 35) = true := (isC_beq 35 c 35 rfl).trans hc35
  have nc35 : ((c.toNat : Int) != 35) = false := (isC_bne 35 c 35 rfl).trans (by rw [hc35]; rfl)
  have nb32 : ((b.toNat : Int) != 32) = !isC 32 b := isC_bne 32 b 32 rfl
  clear hb10 ha10 ha32 hc32 hc45 hc58 hc35
  go_enter Tryd.func23, Tryd.ntmps23
  go_wp2
  go_ret
  exact ⟨ret_b H.out.symm, rfl⟩
theorem p1_n_a32_k (b c a : UInt8) (w : World) (hb10 : isC 10 b = false) (ha10 : isC 10 a = false) (ha32 : isC 32 a = true) (hc32 : isC 32 c = false) (hc45 : isC 45 c = false) (hc58 : isC 58 c = false) (hc35 : isC 35 c = false) :
    Calls Tryd.prog 23 #[.int .u8 b.toNat, .int .u8 c.toNat, .int .u8 a.toNat] w fun e w' => e = .returned (.bool (plainF b c a)) ∧ w = w' := by
  have H : Hid (plainF b c a = good c) := Lib.hid (by unfold plainF loose; simp [*])
  have mb10 : ((b.toNat : Int) == 10) = false := (isC_beq 10 b 10 rfl).trans hb10
  have nb10 : ((b.toNat : Int) != 10) = true := (isC_bne 10 b 10 rfl).trans (by rw [hb10]; rfl)
  have ma10 : ((a.toNat : Int) == 10) = false := (isC_beq 10 a 10 rfl).trans ha10
  have na10 : ((a.toNat : Int) != 10) = true := (isC_bne 10 a 10 rfl).trans (by rw [ha10]; rfl)
  have ma32 : ((a.toNat : Int) == 32) = true := (isC_beq 32 a 32 rfl).trans ha32
  have na32 : ((a.toNat : Int) != 32) = false := (isC_bne 32 a 32 rfl).trans (by rw [ha32]; rfl)
  have mc32 : ((c.toNat : Int) == 32) = false := (isC_beq 32 c 32 rfl).trans hc32
  have nc32 : ((c.toNat : Int) != 32) = true := (isC_bne 32 c 32 rfl).trans (by rw [hc32]; rfl)
  have mc45 : ((c.toNat : Int) == 45) = false := (isC_beq 45 c 45 rfl).trans hc45
  have nc45 : ((c.toNat : Int) != 45) = true := (isC_bne 45 c 45 rfl).trans (by rw [hc45]; rfl)
  have mc58 : ((c.toNat : Int) == 58) = false := (isC_beq 58 c 58 rfl).trans hc58
  have nc58 : ((c.toNat : Int) != 58) = true := (isC_bne 58 c 58 rfl).trans (by rw [hc58]; rfl)
  have mc35 : ((c.toNat : Int) == 35) = false := (isC_beq 35 c 35 rfl).trans hc35
  have nc35 : ((c.toNat : Int) != 35) = true := (isC_bne 35 c 35 rfl).trans (by rw [hc35]; rfl)
  clear hb10 ha10 ha32 hc32 hc45 hc58 hc35
  go_enter Tryd.func23, Tryd.ntmps23
  go_wp2_with (first | (go_at_call 21; refine (printable_any _ _).mono ?_; rintro e w' ⟨rfl, rfl⟩))
  go_ret
  exact ⟨ret_b H.out.symm, rfl⟩
theorem p1_n_ax_k32 (b c a : UInt8) (w : World) (hb10 : isC 10 b = false) (ha10 : isC 10 a = false) (ha32 : isC 32 a = false) (hc32 : isC 32 c = true) (hc45 : isC 45 c = false) (hc58 : isC 58 c = false) (hc35 : isC 35 c = false) :
    Calls Tryd.prog 23 #[.int .u8 b.toNat, .int .u8 c.toNat, .int .u8 a.toNat] w fun e w' => e = .returned (.bool (plainF b c a)) ∧ w = w' := by
  have H : Hid (plainF b c a = true) := Lib.hid (by unfold plainF loose; simp [*])
  have mb10 : ((b.toNat : Int) == 10) = false := (isC_beq 10 b 10 rfl).trans hb10
  have nb10 : ((b.toNat : Int) != 10) = true := (isC_bne 10 b 10 rfl).trans (by rw [hb10]; rfl)
  have ma10 : ((a.toNat : Int) == 10) = false := (isC_beq 10 a 10 rfl).trans ha10
  have na10 : ((a.toNat : Int) != 10) = true := (isC_bne 10 a 10 rfl).trans (by rw [ha10]; rfl)
  have ma32 : ((a.toNat : Int) == 32) = false := (isC_beq 32 a 32 rfl).trans ha32
  have na32 : ((a.toNat : Int) != 32) = true := (isC_bne 32 a 32 rfl).trans (by rw [ha32]; rfl)
  have mc32 : ((c.toNat : Int) == 32) = true := (isC_beq 32 c 32 rfl).trans hc32
  have nc32 : ((c.toNat : Int) != 32) = false := (isC_bne 32 c 32 rfl).trans (by rw [hc32]; rfl)
  have mc45 : ((c.toNat : Int) == 45) = false := (isC_beq 45 c 45 rfl).trans hc45
  have nc45 : ((c.toNat : Int) != 45) = true := (isC_bne 45 c 45 rfl).trans (by rw [hc45]; rfl)
  have mc58 : ((c.toNat : Int) == 58) = false := (isC_beq 58 c 58 rfl).trans hc58
  have nc58 : ((c.toNat : Int) != 58) = true := (isC_bne 58 c 58 rfl).trans (by rw [hc58]; rfl)
  have mc35 : ((c.toNat : Int) == 35) = false := (isC_beq 35 c 35 rfl).trans hc35
  have nc35 : ((c.toNat : Int) != 35) = true := (isC_bne 35 c 35 rfl).trans (by rw [hc35]; rfl)
  clear hb10 ha10 ha32 hc32 hc45 hc58 hc35
  go_enter Tryd.func23, Tryd.ntmps23
  go_wp2
  go_ret
  exact ⟨ret_b H.out.symm, rfl⟩
theorem p1_n_ax_k45 (b c a : UInt8) (w : World) (hb10 : isC 10 b = false) (ha10 : isC 10 a = false) (ha32 : isC 32 a = false) (hc32 : isC 32 c = false) (hc45 : isC 45 c = true) (hc58 : isC 58 c = false) (hc35 : isC 35 c = false) :
    Calls Tryd.prog 23 #[.int .u8 b.toNat, .int .u8 c.toNat, .int .u8 a.toNat] w fun e w' => e = .returned (.bool (plainF b c a)) ∧ w = w' := by
  have H : Hid (plainF b c a = true) := Lib.hid (by unfold plainF loose; simp [*])
  have mb10 : ((b.toNat : Int) == 10) = false := (isC_beq 10 b 10 rfl).trans hb10
  have nb10 : ((b.toNat : Int) != 10) = true := (isC_bne 10 b 10 rfl).trans (by rw [hb10]; rfl)
  have ma10 : ((a.toNat : Int) == 10) = false := (isC_beq 10 a 10 rfl).trans ha10
  have na10 : ((a.toNat : Int) != 10) = true := (isC_bne 10 a 10 rfl).trans (by rw [ha10]; rfl)
  have ma32 : ((a.toNat : Int) == 32) = false := (isC_beq 32 a 32 rfl).trans ha32
  have na32 : ((a.toNat : Int) != 32) = true := (isC_bne 32 a 32 rfl).trans (by rw [ha32]; rfl)
  have mc32 : ((c.toNat : Int) == 32) = false := (isC_beq 32 c 32 rfl).trans hc32
  have nc32 : ((c.toNat : Int) != 32) = true := (isC_bne 32 c 32 rfl).trans (by rw [hc32]; rfl)
  have mc45 : ((c.toNat : Int) == 45) = true := (isC_beq 45 c 45 rfl).trans hc45
  have nc45 : ((c.toNat : Int) != 45) = false := (isC_bne 45 c 45 rfl).trans (by rw [hc45]; rfl)
  have mc58 : ((c.toNat : Int) == 58) = false := (isC_beq 58 c 58 rfl).trans hc58
  have nc58 : ((c.toNat : Int) != 58) = true := (isC_bne 58 c 58 rfl).trans (by rw [hc58]; rfl)
  have mc35 : ((c.toNat : Int) == 35) = false := (isC_beq 35 c 35 rfl).trans hc35
  have nc35 : ((c.toNat : Int) != 35) = true := (isC_bne 35 c 35 rfl).trans (by rw [hc35]; rfl)
  clear hb10 ha10 ha32 hc32 hc45 hc58 hc35
  go_enter Tryd.func23, Tryd.ntmps23
  go_wp2
  go_ret
  exact ⟨ret_b H.out.symm, rfl⟩
theorem p1_n_ax_k58 (b c a : UInt8) (w : World) (hb10 : isC 10 b = false) (ha10 : isC 10 a = false) (ha32 : isC 32 a = false) (hc32 : isC 32 c = false) (hc45 : isC 45 c = false) (hc58 : isC 58 c = true) (hc35 : isC 35 c = false) :
    Calls Tryd.prog 23 #[.int .u8 b.toNat, .int .u8 c.toNat, .int .u8 a.toNat] w fun e w' => e = .returned (.bool (plainF b c a)) ∧ w = w' := by
  have H : Hid (plainF b c a = true) := Lib.hid (by unfold plainF loose; simp [*])
  have mb10 : ((b.toNat : Int) == 10) = false := (isC_beq 10 b 10 rfl).trans hb10
  have nb10 : ((b.toNat : Int) != 10) = true := (isC_bne 10 b 10 rfl).trans (by rw [hb10]; rfl)
  have ma10 : ((a.toNat : Int) == 10) = false := (isC_beq 10 a 10 rfl).trans ha10
  have na10 : ((a.toNat : Int) != 10) = true := (isC_bne 10 a 10 rfl).trans (by rw [ha10]; rfl)
  have ma32 : ((a.toNat : Int) == 32) = false := (isC_beq 32 a 32 rfl).trans ha32
  have na32 : ((a.toNat : Int) != 32) = true := (isC_bne 32 a 32 rfl).trans (by rw [ha32]; rfl)
  have mc32 : ((c.toNat : Int) == 32) = false := (isC_beq 32 c 32 rfl).trans hc32
  have nc32 : ((c.toNat : Int) != 32) = true := (isC_bne 32 c 32 rfl).trans (by rw [hc32]; rfl)
  have mc45 : ((c.toNat : Int) == 45) = false := (isC_beq 45 c 45 rfl).trans hc45
  have nc45 : ((c.toNat : Int) != 45) = true := (isC_bne 45 c 45 rfl).trans (by rw [hc45]; rfl)
  have mc58 : ((c.toNat : Int) == 58) = true := (isC_beq 58 c 58 rfl).trans hc58
  have nc58 : ((c.toNat : Int) != 58) = false := (isC_bne 58 c 58 rfl).trans (by rw [hc58]; rfl)
  have mc35 : ((c.toNat : Int) == 35) = false := (isC_beq 35 c 35 rfl).trans hc35
  have nc35 : ((c.toNat : Int) != 35) = true := (isC_bne 35 c 35 rfl).trans (by rw [hc35]; rfl)
  clear hb10 ha10 ha32 hc32 hc45 hc58 hc35
  go_enter Tryd.func23, Tryd.ntmps23
  go_wp2
  go_ret
  exact ⟨ret_b H.out.symm, rfl⟩
theorem p1_n_ax_k35 (b c a : UInt8) (w : World) (hb10 : isC 10 b = false) (ha10 : isC 10 a = false) (ha32 : isC 32 a = false) (hc32 : isC 32 c = false) (hc45 : isC 45 c = false) (hc58 : isC 58 c = false) (hc35 : isC 35 c = true) :
    Calls Tryd.prog 23 #[.int .u8 b.toNat, .int .u8 c.toNat, .int .u8 a.toNat] w fun e w' => e = .returned (.bool (plainF b c a)) ∧ w = w' := by
  have H : Hid (plainF b c a = !isC 32 b) := Lib.hid (by unfold plainF loose; simp [*])
  have mb10 : ((b.toNat : Int) == 10) = false := (isC_beq 10 b 10 rfl).trans hb10
  have nb10 : ((b.toNat : Int) != 10) = true := (isC_bne 10 b 10 rfl).trans (by rw [hb10]; rfl)
  have ma10 : ((a.toNat : Int) == 10) = false := (isC_beq 10 a 10 rfl).trans ha10
  have na10 : ((a.toNat : Int) != 10) = true := (isC_bne 10 a 10 rfl).trans (by rw [ha10]; rfl)
  have ma32 : ((a.toNat : Int) == 32) = false := (isC_beq 32 a 32 rfl).trans ha32
  have na32 : ((a.toNat : Int) != 32) = true := (isC_bne 32 a 32 rfl).trans (by rw [ha32]; rfl)
  have mc32 : ((c.toNat : Int) == 32) = false := (isC_beq 32 c 32 rfl).trans hc32
  have nc32 : ((c.toNat : Int) != 32) = true := (isC_bne 32 c 32 rfl).trans (by rw [hc32]; rfl)
  have mc45 : ((c.toNat : Int) == 45) = false := (isC_beq 45 c 45 rfl).trans hc45
  have nc45 : ((c.toNat : Int) != 45) = true := (isC_bne 45 c 45 rfl).trans (by rw [hc45]; rfl)
  have mc58 : ((c.toNat : Int) == 58) = false := (isC_beq 58 c 58 rfl).trans hc58
  have nc58 : ((c.toNat : Int) != 58) = true := (isC_bne 58 c 58 rfl).trans (by rw [hc58]; rfl)
  have mc35 : ((c.toNat : Int) == 35) = true := (isC_beq 35 c 35 rfl).trans hc35
  have nc35 : ((c.toNat : Int) != 35) = false := (isC_bne 35 c 35 rfl).trans (by rw [hc35]; rfl)
  have nb32 : ((b.toNat : Int) != 32) = !isC 32 b := isC_bne 32 b 32 rfl
  clear hb10 ha10 ha32 hc32 hc45 hc58 hc35
  go_enter Tryd.func23, Tryd.ntmps23
  go_wp2
  go_ret
  exact ⟨ret_b H.out.symm, rfl⟩
theorem p1_n_ax_k (b c a : UInt8) (w : World) (hb10 : isC 10 b = false) (ha10 : isC 10 a = false) (ha32 : isC 32 a = false) (hc32 : isC 32 c = false) (hc45 : isC 45 c = false) (hc58 : isC 58 c = false) (hc35 : isC 35 c = false) :
    Calls Tryd.prog 23 #[.int .u8 b.toNat, .int .u8 c.toNat, .int .u8 a.toNat] w fun e w' => e = .returned (.bool (plainF b c a)) ∧ w = w' := by
  have H : Hid (plainF b c a = good c) := Lib.hid (by unfold plainF loose; simp [*])
  have mb10 : ((b.toNat : Int) == 10) = false := (isC_beq 10 b 10 rfl).trans hb10
  have nb10 : ((b.toNat : Int) != 10) = true := (isC_bne 10 b 10 rfl).trans (by rw [hb10]; rfl)
  have ma10 : ((a.toNat : Int) == 10) = false := (isC_beq 10 a 10 rfl).trans ha10
  have na10 : ((a.toNat : Int) != 10) = true := (isC_bne 10 a 10 rfl).trans (by rw [ha10]; rfl)
  have ma32 : ((a.toNat : Int) == 32) = false := (isC_beq 32 a 32 rfl).trans ha32
  have na32 : ((a.toNat : Int) != 32) = true := (isC_bne 32 a 32 rfl).trans (by rw [ha32]; rfl)
  have mc32 : ((c.toNat : Int) == 32) = false := (isC_beq 32 c 32 rfl).trans hc32
  have nc32 : ((c.toNat : Int) != 32) = true := (isC_bne 32 c 32 rfl).trans (by rw [hc32]; rfl)
  have mc45 : ((c.toNat : Int) == 45) = false := (isC_beq 45 c 45 rfl).trans hc45
  have nc45 : ((c.toNat : Int) != 45) = true := (isC_bne 45 c 45 rfl).trans (by rw [hc45]; rfl)
  have mc58 : ((c.toNat : Int) == 58) = false := (isC_beq 58 c 58 rfl).trans hc58
  have nc58 : ((c.toNat : Int) != 58) = true := (isC_bne 58 c 58 rfl).trans (by rw [hc58]; rfl)
  have mc35 : ((c.toNat : Int) == 35) = false := (isC_beq 35 c 35 rfl).trans hc35
  have nc35 : ((c.toNat : Int) != 35) = true := (isC_bne 35 c 35 rfl).trans (by rw [hc35]; rfl)
  clear hb10 ha10 ha32 hc32 hc45 hc58 hc35
  go_enter Tryd.func23, Tryd.ntmps23
  go_wp2_with (first | (go_at_call 21; refine (printable_any _ _).mono ?_; rintro e w' ⟨rfl, rfl⟩))
  go_ret
  exact ⟨ret_b H.out.symm, rfl⟩
theorem plain1_any (b c a : UInt8) (w : World) : Calls Tryd.prog 23 #[.int .u8 b.toNat, .int .u8 c.toNat, .int .u8 a.toNat] w fun e w' => e = .returned (.bool (plainF b c a)) ∧ w = w' := by
  by_cases hb10 : isC 10 b = true
  · by_cases hf : has firsts c = true
    · exact p1_first b c a w hb10 hf
    · have hf := Bool.eq_false_iff.2 hf
      by_cases ha10 : isC 10 a = true
      · have ha32 := isC_ne ha10 (show (10 : UInt8) ≠ 32 by decide)
        by_cases hc32 : isC 32 c = true
        · have hc45 := isC_ne hc32 (show (32 : UInt8) ≠ 45 by decide); have hc58 := isC_ne hc32 (show (32 : UInt8) ≠ 58 by decide); have hc35 := isC_ne hc32 (show (32 : UInt8) ≠ 35 by decide); exact p1_b_a10_k32 b c a w hb10 hf ha10 ha32 hc32 hc45 hc58 hc35
        · have hc32 := Bool.eq_false_iff.2 hc32
          by_cases hc45 : isC 45 c = true
          · have hc58 := isC_ne hc45 (show (45 : UInt8) ≠ 58 by decide); have hc35 := isC_ne hc45 (show (45 : UInt8) ≠ 35 by decide); exact p1_b_a10_k45 b c a w hb10 hf ha10 ha32 hc32 hc45 hc58 hc35
          · have hc45 := Bool.eq_false_iff.2 hc45
            by_cases hc58 : isC 58 c = true
            · have hc35 := isC_ne hc58 (show (58 : UInt8) ≠ 35 by decide); exact p1_b_a10_k58 b c a w hb10 hf ha10 ha32 hc32 hc45 hc58 hc35
            · have hc58 := Bool.eq_false_iff.2 hc58
              by_cases hc35 : isC 35 c = true
              · exact p1_b_a10_k35 b c a w hb10 hf ha10 ha32 hc32 hc45 hc58 hc35
              · have hc35 := Bool.eq_false_iff.2 hc35
                exact p1_b_a10_k b c a w hb10 hf ha10 ha32 hc32 hc45 hc58 hc35
      · have ha10 := Bool.eq_false_iff.2 ha10
        by_cases ha32 : isC 32 a = true
        · by_cases hc32 : isC 32 c = true
          · have hc45 := isC_ne hc32 (show (32 : UInt8) ≠ 45 by decide); have hc58 := isC_ne hc32 (show (32 : UInt8) ≠ 58 by decide); have hc35 := isC_ne hc32 (show (32 : UInt8) ≠ 35 by decide); exact p1_b_a32_k32 b c a w hb10 hf ha10 ha32 hc32 hc45 hc58 hc35
          · have hc32 := Bool.eq_false_iff.2 hc32
            by_cases hc45 : isC 45 c = true
            · have hc58 := isC_ne hc45 (show (45 : UInt8) ≠ 58 by decide); have hc35 := isC_ne hc45 (show (45 : UInt8) ≠ 35 by decide); exact p1_b_a32_k45 b c a w hb10 hf ha10 ha32 hc32 hc45 hc58 hc35
            · have hc45 := Bool.eq_false_iff.2 hc45
              by_cases hc58 : isC 58 c = true
              · have hc35 := isC_ne hc58 (show (58 : UInt8) ≠ 35 by decide); exact p1_b_a32_k58 b c a w hb10 hf ha10 ha32 hc32 hc45 hc58 hc35
              · have hc58 := Bool.eq_false_iff.2 hc58
                by_cases hc35 : isC 35 c = true
                · exact p1_b_a32_k35 b c a w hb10 hf ha10 ha32 hc32 hc45 hc58 hc35
                · have hc35 := Bool.eq_false_iff.2 hc35
                  exact p1_b_a32_k b c a w hb10 hf ha10 ha32 hc32 hc45 hc58 hc35
        · have ha32 := Bool.eq_false_iff.2 ha32
          by_cases hc32 : isC 32 c = true
          · have hc45 := isC_ne hc32 (show (32 : UInt8) ≠ 45 by decide); have hc58 := isC_ne hc32 (show (32 : UInt8) ≠ 58 by decide); have hc35 := isC_ne hc32 (show (32 : UInt8) ≠ 35 by decide); exact p1_b_ax_k32 b c a w hb10 hf ha10 ha32 hc32 hc45 hc58 hc35
          · have hc32 := Bool.eq_false_iff.2 hc32
            by_cases hc45 : isC 45 c = true
            · have hc58 := isC_ne hc45 (show (45 : UInt8) ≠ 58 by decide); have hc35 := isC_ne hc45 (show (45 : UInt8) ≠ 35 by decide); exact p1_b_ax_k45 b c a w hb10 hf ha10 ha32 hc32 hc45 hc58 hc35
            · have hc45 := Bool.eq_false_iff.2 hc45
              by_cases hc58 : isC 58 c = true
              · have hc35 := isC_ne hc58 (show (58 : UInt8) ≠ 35 by decide); exact p1_b_ax_k58 b c a w hb10 hf ha10 ha32 hc32 hc45 hc58 hc35
              · have hc58 := Bool.eq_false_iff.2 hc58
                by_cases hc35 : isC 35 c = true
                · exact p1_b_ax_k35 b c a w hb10 hf ha10 ha32 hc32 hc45 hc58 hc35
                · have hc35 := Bool.eq_false_iff.2 hc35
                  exact p1_b_ax_k b c a w hb10 hf ha10 ha32 hc32 hc45 hc58 hc35
  · have hb10 := Bool.eq_false_iff.2 hb10
    by_cases ha10 : isC 10 a = true
    · have ha32 := isC_ne ha10 (show (10 : UInt8) ≠ 32 by decide)
      by_cases hc32 : isC 32 c = true
      · have hc45 := isC_ne hc32 (show (32 : UInt8) ≠ 45 by decide); have hc58 := isC_ne hc32 (show (32 : UInt8) ≠ 58 by decide); have hc35 := isC_ne hc32 (show (32 : UInt8) ≠ 35 by decide); exact p1_n_a10_k32 b c a w hb10 ha10 ha32 hc32 hc45 hc58 hc35
      · have hc32 := Bool.eq_false_iff.2 hc32
        by_cases hc45 : isC 45 c = true
        · have hc58 := isC_ne hc45 (show (45 : UInt8) ≠ 58 by decide); have hc35 := isC_ne hc45 (show (45 : UInt8) ≠ 35 by decide); exact p1_n_a10_k45 b c a w hb10 ha10 ha32 hc32 hc45 hc58 hc35
        · have hc45 := Bool.eq_false_iff.2 hc45
          by_cases hc58 : isC 58 c = true
          · have hc35 := isC_ne hc58 (show (58 : UInt8) ≠ 35 by decide); exact p1_n_a10_k58 b c a w hb10 ha10 ha32 hc32 hc45 hc58 hc35
          · have hc58 := Bool.eq_false_iff.2 hc58
            by_cases hc35 : isC 35 c = true
            · exact p1_n_a10_k35 b c a w hb10 ha10 ha32 hc32 hc45 hc58 hc35
            · have hc35 := Bool.eq_false_iff.2 hc35
              exact p1_n_a10_k b c a w hb10 ha10 ha32 hc32 hc45 hc58 hc35
    · have ha10 := Bool.eq_false_iff.2 ha10
      by_cases ha32 : isC 32 a = true
      · by_cases hc32 : isC 32 c = true
        · have hc45 := isC_ne hc32 (show (32 : UInt8) ≠ 45 by decide); have hc58 := isC_ne hc32 (show (32 : UInt8) ≠ 58 by decide); have hc35 := isC_ne hc32 (show (32 : UInt8) ≠ 35 by decide); exact p1_n_a32_k32 b c a w hb10 ha10 ha32 hc32 hc45 hc58 hc35
        · have hc32 := Bool.eq_false_iff.2 hc32
          by_cases hc45 : isC 45 c = true
          · have hc58 := isC_ne hc45 (show (45 : UInt8) ≠ 58 by decide); have hc35 := isC_ne hc45 (show (45 : UInt8) ≠ 35 by decide); exact p1_n_a32_k45 b c a w hb10 ha10 ha32 hc32 hc45 hc58 hc35
          · have hc45 := Bool.eq_false_iff.2 hc45
            by_cases hc58 : isC 58 c = true
            · have hc35 := isC_ne hc58 (show (58 : UInt8) ≠ 35 by decide); exact p1_n_a32_k58 b c a w hb10 ha10 ha32 hc32 hc45 hc58 hc35
            · have hc58 := Bool.eq_false_iff.2 hc58
              by_cases hc35 : isC 35 c = true
              · exact p1_n_a32_k35 b c a w hb10 ha10 ha32 hc32 hc45 hc58 hc35
              · have hc35 := Bool.eq_false_iff.2 hc35
                exact p1_n_a32_k b c a w hb10 ha10 ha32 hc32 hc45 hc58 hc35
      · have ha32 := Bool.eq_false_iff.2 ha32
        by_cases hc32 : isC 32 c = true
        · have hc45 := isC_ne hc32 (show (32 : UInt8) ≠ 45 by decide); have hc58 := isC_ne hc32 (show (32 : UInt8) ≠ 58 by decide); have hc35 := isC_ne hc32 (show (32 : UInt8) ≠ 35 by decide); exact p1_n_ax_k32 b c a w hb10 ha10 ha32 hc32 hc45 hc58 hc35
        · have hc32 := Bool.eq_false_iff.2 hc32
          by_cases hc45 : isC 45 c = true
          · have hc58 := isC_ne hc45 (show (45 : UInt8) ≠ 58 by decide); have hc35 := isC_ne hc45 (show (45 : UInt8) ≠ 35 by decide); exact p1_n_ax_k45 b c a w hb10 ha10 ha32 hc32 hc45 hc58 hc35
          · have hc45 := Bool.eq_false_iff.2 hc45
            by_cases hc58 : isC 58 c = true
            · have hc35 := isC_ne hc58 (show (58 : UInt8) ≠ 35 by decide); exact p1_n_ax_k58 b c a w hb10 ha10 ha32 hc32 hc45 hc58 hc35
            · have hc58 := Bool.eq_false_iff.2 hc58
              by_cases hc35 : isC 35 c = true
              · exact p1_n_ax_k35 b c a w hb10 ha10 ha32 hc32 hc45 hc58 hc35
              · have hc35 := Bool.eq_false_iff.2 hc35
                exact p1_n_ax_k b c a w hb10 ha10 ha32 hc32 hc45 hc58 hc35
end Go.Proofs.YtidagmecghbaeaaDoor
