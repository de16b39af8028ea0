/- QuoPlain1 -/
import Derived.Test.YtmdgpejedbkkdaaGreatDoorAT8
set_option linter.unusedVariables false
set_option linter.unusedSimpArgs false
set_option maxRecDepth 100000
set_option maxHeartbeats 16000000
open Go.Lib (hid)
namespace Go.Proofs.YtmdgpejedbkkdaaGreatDoor
section
open Go.RowKit
open Q6
theorem isC_t (k c : UInt8) (x : Int) (hx : (k.toNat : Int) = x) (h : isC k c = true) : ((c.toNat : Int) == x) = true ∧ ((c.toNat : Int) != x) = false := ⟨(isC_beq k c x hx).trans h, (isC_bne k c x hx).trans (by rw [h]; rfl)⟩
theorem isC_f (k c : UInt8) (x : Int) (hx : (k.toNat : Int) = x) (h : isC k c = false) : ((c.toNat : Int) == x) = false ∧ ((c.toNat : Int) != x) = true := ⟨(isC_beq k c x hx).trans h, (isC_bne k c x hx).trans (by rw [h]; rfl)⟩
theorem p1_first (b c a : UInt8) (w : World) (hb10 : isC 10 b = true) (hf : has firsts c = true) :
  Calls Tryz.prog 41 #[.int .u8 b.toNat, .int .u8 c.toNat, .int .u8 a.toNat] w fun e w' => e = .returned (.bool (plainF b c a)) ∧ w = w' := by
 have H : Hid (plainF b c a = false) := hid (by unfold plainF; rw [hb10, hf]; rfl)
 obtain ⟨mb10, nb10⟩ := isC_t 10 b 10 rfl hb10
 have HB := hid hb10
 clear hb10
 go_enter Tryz.func41, Tryz.ntmps41
 go_wp2_with (go_at_call 42; refine (has_first _ _).mono ?_; rintro e w' ⟨rfl, rfl⟩)
 go_ret
 exact ⟨ret_b H.out.symm, rfl⟩
theorem p1_b_a10_k32 (b c a : UInt8) (w : World) (hb10 : isC 10 b = true) (hf : has firsts c = false) (ha10 : isC 10 a = true) (ha32 : isC 32 a = false) (hc32 : isC 32 c = true) (hc45 : isC 45 c = false) (hc58 : isC 58 c = false) (hc35 : isC 35 c = false) :
  Calls Tryz.prog 41 #[.int .u8 b.toNat, .int .u8 c.toNat, .int .u8 a.toNat] w fun e w' => e = .returned (.bool (plainF b c a)) ∧ w = w' := by
 have H : Hid (plainF b c a = false) := hid (by unfold plainF loose; simp [*])
 obtain ⟨mb10, nb10⟩ := isC_t 10 b 10 rfl hb10
 obtain ⟨ma10, na10⟩ := isC_t 10 a 10 rfl ha10
 obtain ⟨ma32, na32⟩ := isC_f 32 a 32 rfl ha32
 obtain ⟨mc32, nc32⟩ := isC_t 32 c 32 rfl hc32
 obtain ⟨mc45, nc45⟩ := isC_f 45 c 45 rfl hc45
 obtain ⟨mc58, nc58⟩ := isC_f 58 c 58 rfl hc58
 obtain ⟨mc35, nc35⟩ := isC_f 35 c 35 rfl hc35
 clear hb10 ha10 ha32 hc32 hc45 hc58 hc35
 go_enter Tryz.func41, Tryz.ntmps41
 go_wp2_with (first | (go_at_call 42; refine (has_first _ _).mono ?_; rintro e w' ⟨rfl, rfl⟩))
 go_ret
 exact ⟨ret_b H.out.symm, rfl⟩
theorem p1_b_a10_k45 (b c a : UInt8) (w : World) (hb10 : isC 10 b = true) (hf : has firsts c = false) (ha10 : isC 10 a = true) (ha32 : isC 32 a = false) (hc32 : isC 32 c = false) (hc45 : isC 45 c = true) (hc58 : isC 58 c = false) (hc35 : isC 35 c = false) :
  Calls Tryz.prog 41 #[.int .u8 b.toNat, .int .u8 c.toNat, .int .u8 a.toNat] w fun e w' => e = .returned (.bool (plainF b c a)) ∧ w = w' := by
 have H : Hid (plainF b c a = false) := hid (by unfold plainF loose; simp [*])
 obtain ⟨mb10, nb10⟩ := isC_t 10 b 10 rfl hb10
 obtain ⟨ma10, na10⟩ := isC_t 10 a 10 rfl ha10
 obtain ⟨ma32, na32⟩ := isC_f 32 a 32 rfl ha32
 obtain ⟨mc32, nc32⟩ := isC_f 32 c 32 rfl hc32
 obtain ⟨mc45, nc45⟩ := isC_t 45 c 45 rfl hc45
 obtain ⟨mc58, nc58⟩ := isC_f 58 c 58 rfl hc58
 obtain ⟨mc35, nc35⟩ := isC_f 35 c 35 rfl hc35
 clear hb10 ha10 ha32 hc32 hc45 hc58 hc35
 go_enter Tryz.func41, Tryz.ntmps41
 go_wp2_with (first | (go_at_call 42; refine (has_first _ _).mono ?_; rintro e w' ⟨rfl, rfl⟩))
 go_ret
 exact ⟨ret_b H.out.symm, rfl⟩
theorem p1_b_a10_k58 (b c a : UInt8) (w : World) (hb10 : isC 10 b = true) (hf : has firsts c = false) (ha10 : isC 10 a = true) (ha32 : isC 32 a = false) (hc32 : isC 32 c = false) (hc45 : isC 45 c = false) (hc58 : isC 58 c = true) (hc35 : isC 35 c = false) :
  Calls Tryz.prog 41 #[.int .u8 b.toNat, .int .u8 c.toNat, .int .u8 a.toNat] w fun e w' => e = .returned (.bool (plainF b c a)) ∧ w = w' := by
 have H : Hid (plainF b c a = false) := hid (by unfold plainF loose; simp [*])
 obtain ⟨mb10, nb10⟩ := isC_t 10 b 10 rfl hb10
 obtain ⟨ma10, na10⟩ := isC_t 10 a 10 rfl ha10
 obtain ⟨ma32, na32⟩ := isC_f 32 a 32 rfl ha32
 obtain ⟨mc32, nc32⟩ := isC_f 32 c 32 rfl hc32
 obtain ⟨mc45, nc45⟩ := isC_f 45 c 45 rfl hc45
 obtain ⟨mc58, nc58⟩ := isC_t 58 c 58 rfl hc58
 obtain ⟨mc35, nc35⟩ := isC_f 35 c 35 rfl hc35
 clear hb10 ha10 ha32 hc32 hc45 hc58 hc35
 go_enter Tryz.func41, Tryz.ntmps41
 go_wp2_with (first | (go_at_call 42; refine (has_first _ _).mono ?_; rintro e w' ⟨rfl, rfl⟩))
 go_ret
 exact ⟨ret_b H.out.symm, rfl⟩
theorem p1_b_a10_k35 (b c a : UInt8) (w : World) (hb10 : isC 10 b = true) (hf : has firsts c = false) (ha10 : isC 10 a = true) (ha32 : isC 32 a = false) (hc32 : isC 32 c = false) (hc45 : isC 45 c = false) (hc58 : isC 58 c = false) (hc35 : isC 35 c = true) :
  Calls Tryz.prog 41 #[.int .u8 b.toNat, .int .u8 c.toNat, .int .u8 a.toNat] w fun e w' => e = .returned (.bool (plainF b c a)) ∧ w = w' := by
 have H : Hid (plainF b c a = !isC 32 b) := hid (by unfold plainF loose; simp [*])
 obtain ⟨mb10, nb10⟩ := isC_t 10 b 10 rfl hb10
 obtain ⟨ma10, na10⟩ := isC_t 10 a 10 rfl ha10
 obtain ⟨ma32, na32⟩ := isC_f 32 a 32 rfl ha32
 obtain ⟨mc32, nc32⟩ := isC_f 32 c 32 rfl hc32
 obtain ⟨mc45, nc45⟩ := isC_f 45 c 45 rfl hc45
 obtain ⟨mc58, nc58⟩ := isC_f 58 c 58 rfl hc58
 obtain ⟨mc35, nc35⟩ := isC_t 35 c 35 rfl hc35
 have nb32 : ((b.toNat : Int) != 32) = !isC 32 b := isC_bne 32 b 32 rfl
 clear hb10 ha10 ha32 hc32 hc45 hc58 hc35
 go_enter Tryz.func41, Tryz.ntmps41
 go_wp2_with (first | (go_at_call 42; refine (has_first _ _).mono ?_; rintro e w' ⟨rfl, rfl⟩))
 go_ret
 exact ⟨ret_b H.out.symm, rfl⟩
theorem p1_b_a10_k (b c a : UInt8) (w : World) (hb10 : isC 10 b = true) (hf : has firsts c = false) (ha10 : isC 10 a = true) (ha32 : isC 32 a = false) (hc32 : isC 32 c = false) (hc45 : isC 45 c = false) (hc58 : isC 58 c = false) (hc35 : isC 35 c = false) :
  Calls Tryz.prog 41 #[.int .u8 b.toNat, .int .u8 c.toNat, .int .u8 a.toNat] w fun e w' => e = .returned (.bool (plainF b c a)) ∧ w = w' := by
 have H : Hid (plainF b c a = good c) := hid (by unfold plainF loose; simp [*])
 obtain ⟨mb10, nb10⟩ := isC_t 10 b 10 rfl hb10
 obtain ⟨ma10, na10⟩ := isC_t 10 a 10 rfl ha10
 obtain ⟨ma32, na32⟩ := isC_f 32 a 32 rfl ha32
 obtain ⟨mc32, nc32⟩ := isC_f 32 c 32 rfl hc32
 obtain ⟨mc45, nc45⟩ := isC_f 45 c 45 rfl hc45
 obtain ⟨mc58, nc58⟩ := isC_f 58 c 58 rfl hc58
 obtain ⟨mc35, nc35⟩ := isC_f 35 c 35 rfl hc35
 clear hb10 ha10 ha32 hc32 hc45 hc58 hc35
 go_enter Tryz.func41, Tryz.ntmps41
 go_wp2_with (first | (go_at_call 42; refine (has_first _ _).mono ?_; rintro e w' ⟨rfl, rfl⟩) | (go_at_call 43; refine (printable_any _ _).mono ?_; rintro e w' ⟨rfl, rfl⟩))
 go_ret
 exact ⟨ret_b H.out.symm, rfl⟩
theorem p1_b_a32_k32 (b c a : UInt8) (w : World) (hb10 : isC 10 b = true) (hf : has firsts c = false) (ha10 : isC 10 a = false) (ha32 : isC 32 a = true) (hc32 : isC 32 c = true) (hc45 : isC 45 c = false) (hc58 : isC 58 c = false) (hc35 : isC 35 c = false) :
  Calls Tryz.prog 41 #[.int .u8 b.toNat, .int .u8 c.toNat, .int .u8 a.toNat] w fun e w' => e = .returned (.bool (plainF b c a)) ∧ w = w' := by
 have H : Hid (plainF b c a = false) := hid (by unfold plainF loose; simp [*])
 obtain ⟨mb10, nb10⟩ := isC_t 10 b 10 rfl hb10
 obtain ⟨ma10, na10⟩ := isC_f 10 a 10 rfl ha10
 obtain ⟨ma32, na32⟩ := isC_t 32 a 32 rfl ha32
 obtain ⟨mc32, nc32⟩ := isC_t 32 c 32 rfl hc32
 obtain ⟨mc45, nc45⟩ := isC_f 45 c 45 rfl hc45
 obtain ⟨mc58, nc58⟩ := isC_f 58 c 58 rfl hc58
 obtain ⟨mc35, nc35⟩ := isC_f 35 c 35 rfl hc35
 clear hb10 ha10 ha32 hc32 hc45 hc58 hc35
 go_enter Tryz.func41, Tryz.ntmps41
 go_wp2_with (first | (go_at_call 42; refine (has_first _ _).mono ?_; rintro e w' ⟨rfl, rfl⟩))
 go_ret
 exact ⟨ret_b H.out.symm, rfl⟩
theorem p1_b_a32_k45 (b c a : UInt8) (w : World) (hb10 : isC 10 b = true) (hf : has firsts c = false) (ha10 : isC 10 a = false) (ha32 : isC 32 a = true) (hc32 : isC 32 c = false) (hc45 : isC 45 c = true) (hc58 : isC 58 c = false) (hc35 : isC 35 c = false) :
  Calls Tryz.prog 41 #[.int .u8 b.toNat, .int .u8 c.toNat, .int .u8 a.toNat] w fun e w' => e = .returned (.bool (plainF b c a)) ∧ w = w' := by
 have H : Hid (plainF b c a = false) := hid (by unfold plainF loose; simp [*])
 obtain ⟨mb10, nb10⟩ := isC_t 10 b 10 rfl hb10
 obtain ⟨ma10, na10⟩ := isC_f 10 a 10 rfl ha10
 obtain ⟨ma32, na32⟩ := isC_t 32 a 32 rfl ha32
 obtain ⟨mc32, nc32⟩ := isC_f 32 c 32 rfl hc32
 obtain ⟨mc45, nc45⟩ := isC_t 45 c 45 rfl hc45
 obtain ⟨mc58, nc58⟩ := isC_f 58 c 58 rfl hc58
 obtain ⟨mc35, nc35⟩ := isC_f 35 c 35 rfl hc35
 clear hb10 ha10 ha32 hc32 hc45 hc58 hc35
 go_enter Tryz.func41, Tryz.ntmps41
 go_wp2_with (first | (go_at_call 42; refine (has_first _ _).mono ?_; rintro e w' ⟨rfl, rfl⟩))
 go_ret
 exact ⟨ret_b H.out.symm, rfl⟩
theorem p1_b_a32_k58 (b c a : UInt8) (w : World) (hb10 : isC 10 b = true) (hf : has firsts c = false) (ha10 : isC 10 a = false) (ha32 : isC 32 a = true) (hc32 : isC 32 c = false) (hc45 : isC 45 c = false) (hc58 : isC 58 c = true) (hc35 : isC 35 c = false) :
  Calls Tryz.prog 41 #[.int .u8 b.toNat, .int .u8 c.toNat, .int .u8 a.toNat] w fun e w' => e = .returned (.bool (plainF b c a)) ∧ w = w' := by
 have H : Hid (plainF b c a = false) := hid (by unfold plainF loose; simp [*])
 obtain ⟨mb10, nb10⟩ := isC_t 10 b 10 rfl hb10
 obtain ⟨ma10, na10⟩ := isC_f 10 a 10 rfl ha10
 obtain ⟨ma32, na32⟩ := isC_t 32 a 32 rfl ha32
 obtain ⟨mc32, nc32⟩ := isC_f 32 c 32 rfl hc32
 obtain ⟨mc45, nc45⟩ := isC_f 45 c 45 rfl hc45
 obtain ⟨mc58, nc58⟩ := isC_t 58 c 58 rfl hc58
 obtain ⟨mc35, nc35⟩ := isC_f 35 c 35 rfl hc35
 clear hb10 ha10 ha32 hc32 hc45 hc58 hc35
 go_enter Tryz.func41, Tryz.ntmps41
 go_wp2_with (first | (go_at_call 42; refine (has_first _ _).mono ?_; rintro e w' ⟨rfl, rfl⟩))
 go_ret
 exact ⟨ret_b H.out.symm, rfl⟩
theorem p1_b_a32_k35 (b c a : UInt8) (w : World) (hb10 : isC 10 b = true) (hf : has firsts c = false) (ha10 : isC 10 a = false) (ha32 : isC 32 a = true) (hc32 : isC 32 c = false) (hc45 : isC 45 c = false) (hc58 : isC 58 c = false) (hc35 : isC 35 c = true) :
  Calls Tryz.prog 41 #[.int .u8 b.toNat, .int .u8 c.toNat, .int .u8 a.toNat] w fun e w' => e = .returned (.bool (plainF b c a)) ∧ w = w' := by
 have H : Hid (plainF b c a = !isC 32 b) := hid (by unfold plainF loose; simp [*])
 obtain ⟨mb10, nb10⟩ := isC_t 10 b 10 rfl hb10
 obtain ⟨ma10, na10⟩ := isC_f 10 a 10 rfl ha10
 obtain ⟨ma32, na32⟩ := isC_t 32 a 32 rfl ha32
 obtain ⟨mc32, nc32⟩ := isC_f 32 c 32 rfl hc32
 obtain ⟨mc45, nc45⟩ := isC_f 45 c 45 rfl hc45
 obtain ⟨mc58, nc58⟩ := isC_f 58 c 58 rfl hc58
 obtain ⟨mc35, nc35⟩ := isC_t 35 c 35 rfl hc35
 have nb32 : ((b.toNat : Int) != 32) = !isC 32 b := isC_bne 32 b 32 rfl
 clear hb10 ha10 ha32 hc32 hc45 hc58 hc35
 go_enter Tryz.func41, Tryz.ntmps41
 go_wp2_with (first | (go_at_call 42; refine (has_first _ _).mono ?_; rintro e w' ⟨rfl, rfl⟩))
 go_ret
 exact ⟨ret_b H.out.symm, rfl⟩
theorem p1_b_a32_k (b c a : UInt8) (w : World) (hb10 : isC 10 b = true) (hf : has firsts c = false) (ha10 : isC 10 a = false) (ha32 : isC 32 a = true) (hc32 : isC 32 c = false) (hc45 : isC 45 c = false) (hc58 : isC 58 c = false) (hc35 : isC 35 c = false) :
  Calls Tryz.prog 41 #[.int .u8 b.toNat, .int .u8 c.toNat, .int .u8 a.toNat] w fun e w' => e = .returned (.bool (plainF b c a)) ∧ w = w' := by
 have H : Hid (plainF b c a = good c) := hid (by unfold plainF loose; simp [*])
 obtain ⟨mb10, nb10⟩ := isC_t 10 b 10 rfl hb10
 obtain ⟨ma10, na10⟩ := isC_f 10 a 10 rfl ha10
 obtain ⟨ma32, na32⟩ := isC_t 32 a 32 rfl ha32
 obtain ⟨mc32, nc32⟩ := isC_f 32 c 32 rfl hc32
 obtain ⟨mc45, nc45⟩ := isC_f 45 c 45 rfl hc45
 obtain ⟨mc58, nc58⟩ := isC_f 58 c 58 rfl hc58
 obtain ⟨mc35, nc35⟩ := isC_f 35 c 35 rfl hc35
 clear hb10 ha10 ha32 hc32 hc45 hc58 hc35
 go_enter Tryz.func41, Tryz.ntmps41
 go_wp2_with (first | (go_at_call 42; refine (has_first _ _).mono ?_; rintro e w' ⟨rfl, rfl⟩) | (go_at_call 43; refine (printable_any _ _).mono ?_; rintro e w' ⟨rfl, rfl⟩))
 go_ret
 exact ⟨ret_b H.out.symm, rfl⟩
theorem p1_b_ax_k32 (b c a : UInt8) (w : World) (hb10 : isC 10 b = true) (hf : has firsts c = false) (ha10 : isC 10 a = false) (ha32 : isC 32 a = false) (hc32 : isC 32 c = true) (hc45 : isC 45 c = false) (hc58 : isC 58 c = false) (hc35 : isC 35 c = false) :
  Calls Tryz.prog 41 #[.int .u8 b.toNat, .int .u8 c.toNat, .int .u8 a.toNat] w fun e w' => e = .returned (.bool (plainF b c a)) ∧ w = w' := by
 have H : Hid (plainF b c a = false) := hid (by unfold plainF loose; simp [*])
 obtain ⟨mb10, nb10⟩ := isC_t 10 b 10 rfl hb10
 obtain ⟨ma10, na10⟩ := isC_f 10 a 10 rfl ha10
 obtain ⟨ma32, na32⟩ := isC_f 32 a 32 rfl ha32
 obtain ⟨mc32, nc32⟩ := isC_t 32 c 32 rfl hc32
 obtain ⟨mc45, nc45⟩ := isC_f 45 c 45 rfl hc45
 obtain ⟨mc58, nc58⟩ := isC_f 58 c 58 rfl hc58
 obtain ⟨mc35, nc35⟩ := isC_f 35 c 35 rfl hc35
 clear hb10 ha10 ha32 hc32 hc45 hc58 hc35
 go_enter Tryz.func41, Tryz.ntmps41
 go_wp2_with (first | (go_at_call 42; refine (has_first _ _).mono ?_; rintro e w' ⟨rfl, rfl⟩))
 go_ret
 exact ⟨ret_b H.out.symm, rfl⟩
theorem p1_b_ax_k45 (b c a : UInt8) (w : World) (hb10 : isC 10 b = true) (hf : has firsts c = false) (ha10 : isC 10 a = false) (ha32 : isC 32 a = false) (hc32 : isC 32 c = false) (hc45 : isC 45 c = true) (hc58 : isC 58 c = false) (hc35 : isC 35 c = false) :
  Calls Tryz.prog 41 #[.int .u8 b.toNat, .int .u8 c.toNat, .int .u8 a.toNat] w fun e w' => e = .returned (.bool (plainF b c a)) ∧ w = w' := by
 have H : Hid (plainF b c a = true) := hid (by unfold plainF loose; simp [*])
 obtain ⟨mb10, nb10⟩ := isC_t 10 b 10 rfl hb10
 obtain ⟨ma10, na10⟩ := isC_f 10 a 10 rfl ha10
 obtain ⟨ma32, na32⟩ := isC_f 32 a 32 rfl ha32
 obtain ⟨mc32, nc32⟩ := isC_f 32 c 32 rfl hc32
 obtain ⟨mc45, nc45⟩ := isC_t 45 c 45 rfl hc45
 obtain ⟨mc58, nc58⟩ := isC_f 58 c 58 rfl hc58
 obtain ⟨mc35, nc35⟩ := isC_f 35 c 35 rfl hc35
 clear hb10 ha10 ha32 hc32 hc45 hc58 hc35
 go_enter Tryz.func41, Tryz.ntmps41
 go_wp2_with (first | (go_at_call 42; refine (has_first _ _).mono ?_; rintro e w' ⟨rfl, rfl⟩))
 go_ret
 exact ⟨ret_b H.out.symm, rfl⟩
theorem p1_b_ax_k58 (b c a : UInt8) (w : World) (hb10 : isC 10 b = true) (hf : has firsts c = false) (ha10 : isC 10 a = false) (ha32 : isC 32 a = false) (hc32 : isC 32 c = false) (hc45 : isC 45 c = false) (hc58 : isC 58 c = true) (hc35 : isC 35 c = false) :
  Calls Tryz.prog 41 #[.int .u8 b.toNat, .int .u8 c.toNat, .int .u8 a.toNat] w fun e w' => e = .returned (.bool (plainF b c a)) ∧ w = w' := by
 have H : Hid (plainF b c a = true) := hid (by unfold plainF loose; simp [*])
 obtain ⟨mb10, nb10⟩ := isC_t 10 b 10 rfl hb10
 obtain ⟨ma10, na10⟩ := isC_f 10 a 10 rfl ha10
 obtain ⟨ma32, na32⟩ := isC_f 32 a 32 rfl ha32
 obtain ⟨mc32, nc32⟩ := isC_f 32 c 32 rfl hc32
 obtain ⟨mc45, nc45⟩ := isC_f 45 c 45 rfl hc45
 obtain ⟨mc58, nc58⟩ := isC_t 58 c 58 rfl hc58
 obtain ⟨mc35, nc35⟩ := isC_f 35 c 35 rfl hc35
 clear hb10 ha10 ha32 hc32 hc45 hc58 hc35
 go_enter Tryz.func41, Tryz.ntmps41
 go_wp2_with (first | (go_at_call 42; refine (has_first _ _).mono ?_; rintro e w' ⟨rfl, rfl⟩))
 go_ret
 exact ⟨ret_b H.out.symm, rfl⟩
theorem p1_b_ax_k35 (b c a : UInt8) (w : World) (hb10 : isC 10 b = true) (hf : has firsts c = false) (ha10 : isC 10 a = false) (ha32 : isC 32 a = false) (hc32 : isC 32 c = false) (hc45 : isC 45 c = false) (hc58 : isC 58 c = false) (hc35 : isC 35 c = true) :
  Calls Tryz.prog 41 #[.int .u8 b.toNat, .int .u8 c.toNat, .int .u8 a.toNat] w fun e w' => e = .returned (.bool (plainF b c a)) ∧ w = w' := by
 have H : Hid (plainF b c a = !isC 32 b) := hid (by unfold plainF loose; simp [*])
 obtain ⟨mb10, nb10⟩ := isC_t 10 b 10 rfl hb10
 obtain ⟨ma10, na10⟩ := isC_f 10 a 10 rfl ha10
 obtain ⟨ma32, na32⟩ := isC_f 32 a 32 rfl ha32
 obtain ⟨mc32, nc32⟩ := isC_f 32 c 32 rfl hc32
 obtain ⟨mc45, nc45⟩ := isC_f 45 c 45 rfl hc45
 obtain ⟨mc58, nc58⟩ := isC_f 58 c 58 rfl hc58
 obtain ⟨mc35, nc35⟩ := isC_t 35 c 35 rfl hc35
 have nb32 : ((b.toNat : Int) != 32) = !isC 32 b := isC_bne 32 b 32 rfl
 clear hb10 ha10 ha32 hc32 hc45 hc58 hc35
 go_enter Tryz.func41, Tryz.ntmps41
 go_wp2_with (first | (go_at_call 42; refine (has_first _ _).mono ?_; rintro e w' ⟨rfl, rfl⟩))
 go_ret
 exact ⟨ret_b H.out.symm, rfl⟩
theorem p1_b_ax_k (b c a : UInt8) (w : World) (hb10 : isC 10 b = true) (hf : has firsts c = false) (ha10 : isC 10 a = false) (ha32 : isC 32 a = false) (hc32 : isC 32 c = false) (hc45 : isC 45 c = false) (hc58 : isC 58 c = false) (hc35 : isC 35 c = false) :
  Calls Tryz.prog 41 #[.int .u8 b.toNat, .int .u8 c.toNat, .int .u8 a.toNat] w fun e w' => e = .returned (.bool (plainF b c a)) ∧ w = w' := by
 have H : Hid (plainF b c a = good c) := hid (by unfold plainF loose; simp [*])
 obtain ⟨mb10, nb10⟩ := isC_t 10 b 10 rfl hb10
 obtain ⟨ma10, na10⟩ := isC_f 10 a 10 rfl ha10
 obtain ⟨ma32, na32⟩ := isC_f 32 a 32 rfl ha32
 obtain ⟨mc32, nc32⟩ := isC_f 32 c 32 rfl hc32
 obtain ⟨mc45, nc45⟩ := isC_f 45 c 45 rfl hc45
 obtain ⟨mc58, nc58⟩ := isC_f 58 c 58 rfl hc58
 obtain ⟨mc35, nc35⟩ := isC_f 35 c 35 rfl hc35
 clear hb10 ha10 ha32 hc32 hc45 hc58 hc35
 go_enter Tryz.func41, Tryz.ntmps41
 go_wp2_with (first | (go_at_call 42; refine (has_first _ _).mono ?_; rintro e w' ⟨rfl, rfl⟩) | (go_at_call 43; refine (printable_any _ _).mono ?_; rintro e w' ⟨rfl, rfl⟩))
 go_ret
 exact ⟨ret_b H.out.symm, rfl⟩
theorem p1_n_a10_k32 (b c a : UInt8) (w : World) (hb10 : isC 10 b = false) (ha10 : isC 10 a = true) (ha32 : isC 32 a = false) (hc32 : isC 32 c = true) (hc45 : isC 45 c = false) (hc58 : isC 58 c = false) (hc35 : isC 35 c = false) :
  Calls Tryz.prog 41 #[.int .u8 b.toNat, .int .u8 c.toNat, .int .u8 a.toNat] w fun e w' => e = .returned (.bool (plainF b c a)) ∧ w = w' := by
 have H : Hid (plainF b c a = false) := hid (by unfold plainF loose; simp [*])
 obtain ⟨mb10, nb10⟩ := isC_f 10 b 10 rfl hb10
 obtain ⟨ma10, na10⟩ := isC_t 10 a 10 rfl ha10
 obtain ⟨ma32, na32⟩ := isC_f 32 a 32 rfl ha32
 obtain ⟨mc32, nc32⟩ := isC_t 32 c 32 rfl hc32
 obtain ⟨mc45, nc45⟩ := isC_f 45 c 45 rfl hc45
 obtain ⟨mc58, nc58⟩ := isC_f 58 c 58 rfl hc58
 obtain ⟨mc35, nc35⟩ := isC_f 35 c 35 rfl hc35
 clear hb10 ha10 ha32 hc32 hc45 hc58 hc35
 go_enter Tryz.func41, Tryz.ntmps41
 go_wp2
 go_ret
 exact ⟨ret_b H.out.symm, rfl⟩
theorem p1_n_a10_k45 (b c a : UInt8) (w : World) (hb10 : isC 10 b = false) (ha10 : isC 10 a = true) (ha32 : isC 32 a = false) (hc32 : isC 32 c = false) (hc45 : isC 45 c = true) (hc58 : isC 58 c = false) (hc35 : isC 35 c = false) :
  Calls Tryz.prog 41 #[.int .u8 b.toNat, .int .u8 c.toNat, .int .u8 a.toNat] w fun e w' => e = .returned (.bool (plainF b c a)) ∧ w = w' := by
 have H : Hid (plainF b c a = true) := hid (by unfold plainF loose; simp [*])
 obtain ⟨mb10, nb10⟩ := isC_f 10 b 10 rfl hb10
 obtain ⟨ma10, na10⟩ := isC_t 10 a 10 rfl ha10
 obtain ⟨ma32, na32⟩ := isC_f 32 a 32 rfl ha32
 obtain ⟨mc32, nc32⟩ := isC_f 32 c 32 rfl hc32
 obtain ⟨mc45, nc45⟩ := isC_t 45 c 45 rfl hc45
 obtain ⟨mc58, nc58⟩ := isC_f 58 c 58 rfl hc58
 obtain ⟨mc35, nc35⟩ := isC_f 35 c 35 rfl hc35
 clear hb10 ha10 ha32 hc32 hc45 hc58 hc35
 go_enter Tryz.func41, Tryz.ntmps41
 go_wp2
 go_ret
 exact ⟨ret_b H.out.symm, rfl⟩
theorem p1_n_a10_k58 (b c a : UInt8) (w : World) (hb10 : isC 10 b = false) (ha10 : isC 10 a = true) (ha32 : isC 32 a = false) (hc32 : isC 32 c = false) (hc45 : isC 45 c = false) (hc58 : isC 58 c = true) (hc35 : isC 35 c = false) :
  Calls Tryz.prog 41 #[.int .u8 b.toNat, .int .u8 c.toNat, .int .u8 a.toNat] w fun e w' => e = .returned (.bool (plainF b c a)) ∧ w = w' := by
 have H : Hid (plainF b c a = false) := hid (by unfold plainF loose; simp [*])
 obtain ⟨mb10, nb10⟩ := isC_f 10 b 10 rfl hb10
 obtain ⟨ma10, na10⟩ := isC_t 10 a 10 rfl ha10
 obtain ⟨ma32, na32⟩ := isC_f 32 a 32 rfl ha32
 obtain ⟨mc32, nc32⟩ := isC_f 32 c 32 rfl hc32
 obtain ⟨mc45, nc45⟩ := isC_f 45 c 45 rfl hc45
 obtain ⟨mc58, nc58⟩ := isC_t 58 c 58 rfl hc58
 obtain ⟨mc35, nc35⟩ := isC_f 35 c 35 rfl hc35
 clear hb10 ha10 ha32 hc32 hc45 hc58 hc35
 go_enter Tryz.func41, Tryz.ntmps41
 go_wp2
 go_ret
 exact ⟨ret_b H.out.symm, rfl⟩
theorem p1_n_a10_k35 (b c a : UInt8) (w : World) (hb10 : isC 10 b = false) (ha10 : isC 10 a = true) (ha32 : isC 32 a = false) (hc32 : isC 32 c = false) (hc45 : isC 45 c = false) (hc58 : isC 58 c = false) (hc35 : isC 35 c = true) :
  Calls Tryz.prog 41 #[.int .u8 b.toNat, .int .u8 c.toNat, .int .u8 a.toNat] w fun e w' => e = .returned (.bool (plainF b c a)) ∧ w = w' := by
 have H : Hid (plainF b c a = !isC 32 b) := hid (by unfold plainF loose; simp [*])
 obtain ⟨mb10, nb10⟩ := isC_f 10 b 10 rfl hb10
 obtain ⟨ma10, na10⟩ := isC_t 10 a 10 rfl ha10
 obtain ⟨ma32, na32⟩ := isC_f 32 a 32 rfl ha32
 obtain ⟨mc32, nc32⟩ := isC_f 32 c 32 rfl hc32
 obtain ⟨mc45, nc45⟩ := isC_f 45 c 45 rfl hc45
 obtain ⟨mc58, nc58⟩ := isC_f 58 c 58 rfl hc58
 obtain ⟨mc35, nc35⟩ := isC_t 35 c 35 rfl hc35
 have nb32 : ((b.toNat : Int) != 32) = !isC 32 b := isC_bne 32 b 32 rfl
 clear hb10 ha10 ha32 hc32 hc45 hc58 hc35
 go_enter Tryz.func41, Tryz.ntmps41
 go_wp2
 go_ret
 exact ⟨ret_b H.out.symm, rfl⟩
theorem p1_n_a10_k (b c a : UInt8) (w : World) (hb10 : isC 10 b = false) (ha10 : isC 10 a = true) (ha32 : isC 32 a = false) (hc32 : isC 32 c = false) (hc45 : isC 45 c = false) (hc58 : isC 58 c = false) (hc35 : isC 35 c = false) :
  Calls Tryz.prog 41 #[.int .u8 b.toNat, .int .u8 c.toNat, .int .u8 a.toNat] w fun e w' => e = .returned (.bool (plainF b c a)) ∧ w = w' := by
 have H : Hid (plainF b c a = good c) := hid (by unfold plainF loose; simp [*])
 obtain ⟨mb10, nb10⟩ := isC_f 10 b 10 rfl hb10
 obtain ⟨ma10, na10⟩ := isC_t 10 a 10 rfl ha10
 obtain ⟨ma32, na32⟩ := isC_f 32 a 32 rfl ha32
 obtain ⟨mc32, nc32⟩ := isC_f 32 c 32 rfl hc32
 obtain ⟨mc45, nc45⟩ := isC_f 45 c 45 rfl hc45
 obtain ⟨mc58, nc58⟩ := isC_f 58 c 58 rfl hc58
 obtain ⟨mc35, nc35⟩ := isC_f 35 c 35 rfl hc35
 clear hb10 ha10 ha32 hc32 hc45 hc58 hc35
 go_enter Tryz.func41, Tryz.ntmps41
 go_wp2_with (first | (go_at_call 43; refine (printable_any _ _).mono ?_; rintro e w' ⟨rfl, rfl⟩))
 go_ret
 exact ⟨ret_b H.out.symm, rfl⟩
theorem p1_n_a32_k32 (b c a : UInt8) (w : World) (hb10 : isC 10 b = false) (ha10 : isC 10 a = false) (ha32 : isC 32 a = true) (hc32 : isC 32 c = true) (hc45 : isC 45 c = false) (hc58 : isC 58 c = false) (hc35 : isC 35 c = false) :
  Calls Tryz.prog 41 #[.int .u8 b.toNat, .int .u8 c.toNat, .int .u8 a.toNat] w fun e w' => e = .returned (.bool (plainF b c a)) ∧ w = w' := by
 have H : Hid (plainF b c a = true) := hid (by unfold plainF loose; simp [*])
 obtain ⟨mb10, nb10⟩ := isC_f 10 b 10 rfl hb10
 obtain ⟨ma10, na10⟩ := isC_f 10 a 10 rfl ha10
 obtain ⟨ma32, na32⟩ := isC_t 32 a 32 rfl ha32
 obtain ⟨mc32, nc32⟩ := isC_t 32 c 32 rfl hc32
 obtain ⟨mc45, nc45⟩ := isC_f 45 c 45 rfl hc45
 obtain ⟨mc58, nc58⟩ := isC_f 58 c 58 rfl hc58
 obtain ⟨mc35, nc35⟩ := isC_f 35 c 35 rfl hc35
 clear hb10 ha10 ha32 hc32 hc45 hc58 hc35
 go_enter Tryz.func41, Tryz.ntmps41
 go_wp2
 go_ret
 exact ⟨ret_b H.out.symm, rfl⟩
theorem p1_n_a32_k45 (b c a : UInt8) (w : World) (hb10 : isC 10 b = false) (ha10 : isC 10 a = false) (ha32 : isC 32 a = true) (hc32 : isC 32 c = false) (hc45 : isC 45 c = true) (hc58 : isC 58 c = false) (hc35 : isC 35 c = false) :
  Calls Tryz.prog 41 #[.int .u8 b.toNat, .int .u8 c.toNat, .int .u8 a.toNat] w fun e w' => e = .returned (.bool (plainF b c a)) ∧ w = w' := by
 have H : Hid (plainF b c a = true) := hid (by unfold plainF loose; simp [*])
 obtain ⟨mb10, nb10⟩ := isC_f 10 b 10 rfl hb10
 obtain ⟨ma10, na10⟩ := isC_f 10 a 10 rfl ha10
 obtain ⟨ma32, na32⟩ := isC_t 32 a 32 rfl ha32
 obtain ⟨mc32, nc32⟩ := isC_f 32 c 32 rfl hc32
 obtain ⟨mc45, nc45⟩ := isC_t 45 c 45 rfl hc45
 obtain ⟨mc58, nc58⟩ := isC_f 58 c 58 rfl hc58
 obtain ⟨mc35, nc35⟩ := isC_f 35 c 35 rfl hc35
 clear hb10 ha10 ha32 hc32 hc45 hc58 hc35
 go_enter Tryz.func41, Tryz.ntmps41
 go_wp2
 go_ret
 exact ⟨ret_b H.out.symm, rfl⟩
theorem p1_n_a32_k58 (b c a : UInt8) (w : World) (hb10 : isC 10 b = false) (ha10 : isC 10 a = false) (ha32 : isC 32 a = true) (hc32 : isC 32 c = false) (hc45 : isC 45 c = false) (hc58 : isC 58 c = true) (hc35 : isC 35 c = false) :
  Calls Tryz.prog 41 #[.int .u8 b.toNat, .int .u8 c.toNat, .int .u8 a.toNat] w fun e w' => e = .returned (.bool (plainF b c a)) ∧ w = w' := by
 have H : Hid (plainF b c a = false) := hid (by unfold plainF loose; simp [*])
 obtain ⟨mb10, nb10⟩ := isC_f 10 b 10 rfl hb10
 obtain ⟨ma10, na10⟩ := isC_f 10 a 10 rfl ha10
 obtain ⟨ma32, na32⟩ := isC_t 32 a 32 rfl ha32
 obtain ⟨mc32, nc32⟩ := isC_f 32 c 32 rfl hc32
 obtain ⟨mc45, nc45⟩ := isC_f 45 c 45 rfl hc45
 obtain ⟨mc58, nc58⟩ := isC_t 58 c 58 rfl hc58
 obtain ⟨mc35, nc35⟩ := isC_f 35 c 35 rfl hc35
 clear hb10 ha10 ha32 hc32 hc45 hc58 hc35
 go_enter Tryz.func41, Tryz.ntmps41
 go_wp2
 go_ret
 exact ⟨ret_b H.out.symm, rfl⟩
theorem p1_n_a32_k35 (b c a : UInt8) (w : World) (hb10 : isC 10 b = false) (ha10 : isC 10 a = false) (ha32 : isC 32 a = true) (hc32 : isC 32 c = false) (hc45 : isC 45 c = false) (hc58 : isC 58 c = false) (hc35 : isC 35 c = true) :
  Calls Tryz.prog 41 #[.int .u8 b.toNat, .int .u8 c.toNat, .int .u8 a.toNat] w fun e w' => e = .returned (.bool (plainF b c a)) ∧ w = w' := by
 have H : Hid (plainF b c a = !isC 32 b) := hid (by unfold plainF loose; simp [*])
 obtain ⟨mb10, nb10⟩ := isC_f 10 b 10 rfl hb10
 obtain ⟨ma10, na10⟩ := isC_f 10 a 10 rfl ha10
 obtain ⟨ma32, na32⟩ := isC_t 32 a 32 rfl ha32
 obtain ⟨mc32, nc32⟩ := isC_f 32 c 32 rfl hc32
 obtain ⟨mc45, nc45⟩ := isC_f 45 c 45 rfl hc45
 obtain ⟨mc58, nc58⟩ := isC_f 58 c 58 rfl hc58
 obtain ⟨mc35, nc35⟩ := isC_t 35 c 35 rfl hc35
 have nb32 : ((b.toNat : Int) != 32) = !isC 32 b := isC_bne 32 b 32 rfl
 clear hb10 ha10 ha32 hc32 hc45 hc58 hc35
 go_enter Tryz.func41, Tryz.ntmps41
 go_wp2
 go_ret
 exact ⟨ret_b H.out.symm, rfl⟩
theorem p1_n_a32_k (b c a : UInt8) (w : World) (hb10 : isC 10 b = false) (ha10 : isC 10 a = false) (ha32 : isC 32 a = true) (hc32 : isC 32 c = false) (hc45 : isC 45 c = false) (hc58 : isC 58 c = false) (hc35 : isC 35 c = false) :
  Calls Tryz.prog 41 #[.int .u8 b.toNat, .int .u8 c.toNat, .int .u8 a.toNat] w fun e w' => e = .returned (.bool (plainF b c a)) ∧ w = w' := by
 have H : Hid (plainF b c a = good c) := hid (by unfold plainF loose; simp [*])
 obtain ⟨mb10, nb10⟩ := isC_f 10 b 10 rfl hb10
 obtain ⟨ma10, na10⟩ := isC_f 10 a 10 rfl ha10
 obtain ⟨ma32, na32⟩ := isC_t 32 a 32 rfl ha32
 obtain ⟨mc32, nc32⟩ := isC_f 32 c 32 rfl hc32
 obtain ⟨mc45, nc45⟩ := isC_f 45 c 45 rfl hc45
 obtain ⟨mc58, nc58⟩ := isC_f 58 c 58 rfl hc58
 obtain ⟨mc35, nc35⟩ := isC_f 35 c 35 rfl hc35
 clear hb10 ha10 ha32 hc32 hc45 hc58 hc35
 go_enter Tryz.func41, Tryz.ntmps41
 go_wp2_with (first | (go_at_call 43; refine (printable_any _ _).mono ?_; rintro e w' ⟨rfl, rfl⟩))
 go_ret
 exact ⟨ret_b H.out.symm, rfl⟩
theorem p1_n_ax_k32 (b c a : UInt8) (w : World) (hb10 : isC 10 b = false) (ha10 : isC 10 a = false) (ha32 : isC 32 a = false) (hc32 : isC 32 c = true) (hc45 : isC 45 c = false) (hc58 : isC 58 c = false) (hc35 : isC 35 c = false) :
  Calls Tryz.prog 41 #[.int .u8 b.toNat, .int .u8 c.toNat, .int .u8 a.toNat] w fun e w' => e = .returned (.bool (plainF b c a)) ∧ w = w' := by
 have H : Hid (plainF b c a = true) := hid (by unfold plainF loose; simp [*])
 obtain ⟨mb10, nb10⟩ := isC_f 10 b 10 rfl hb10
 obtain ⟨ma10, na10⟩ := isC_f 10 a 10 rfl ha10
 obtain ⟨ma32, na32⟩ := isC_f 32 a 32 rfl ha32
 obtain ⟨mc32, nc32⟩ := isC_t 32 c 32 rfl hc32
 obtain ⟨mc45, nc45⟩ := isC_f 45 c 45 rfl hc45
 obtain ⟨mc58, nc58⟩ := isC_f 58 c 58 rfl hc58
 obtain ⟨mc35, nc35⟩ := isC_f 35 c 35 rfl hc35
 clear hb10 ha10 ha32 hc32 hc45 hc58 hc35
 go_enter Tryz.func41, Tryz.ntmps41
 go_wp2
 go_ret
 exact ⟨ret_b H.out.symm, rfl⟩
theorem p1_n_ax_k45 (b c a : UInt8) (w : World) (hb10 : isC 10 b = false) (ha10 : isC 10 a = false) (ha32 : isC 32 a = false) (hc32 : isC 32 c = false) (hc45 : isC 45 c = true) (hc58 : isC 58 c = false) (hc35 : isC 35 c = false) :
  Calls Tryz.prog 41 #[.int .u8 b.toNat, .int .u8 c.toNat, .int .u8 a.toNat] w fun e w' => e = .returned (.bool (plainF b c a)) ∧ w = w' := by
 have H : Hid (plainF b c a = true) := hid (by unfold plainF loose; simp [*])
 obtain ⟨mb10, nb10⟩ := isC_f 10 b 10 rfl hb10
 obtain ⟨ma10, na10⟩ := isC_f 10 a 10 rfl ha10
 obtain ⟨ma32, na32⟩ := isC_f 32 a 32 rfl ha32
 obtain ⟨mc32, nc32⟩ := isC_f 32 c 32 rfl hc32
 obtain ⟨mc45, nc45⟩ := isC_t 45 c 45 rfl hc45
 obtain ⟨mc58, nc58⟩ := isC_f 58 c 58 rfl hc58
 obtain ⟨mc35, nc35⟩ := isC_f 35 c 35 rfl hc35
 clear hb10 ha10 ha32 hc32 hc45 hc58 hc35
 go_enter Tryz.func41, Tryz.ntmps41
 go_wp2
 go_ret
 exact ⟨ret_b H.out.symm, rfl⟩
theorem p1_n_ax_k58 (b c a : UInt8) (w : World) (hb10 : isC 10 b = false) (ha10 : isC 10 a = false) (ha32 : isC 32 a = false) (hc32 : isC 32 c = false) (hc45 : isC 45 c = false) (hc58 : isC 58 c = true) (hc35 : isC 35 c = false) :
  Calls Tryz.prog 41 #[.int .u8 b.toNat, .int .u8 c.toNat, .int .u8 a.toNat] w fun e w' => e = .returned (.bool (plainF b c a)) ∧ w = w' := by
 have H : Hid (plainF b c a = true) := hid (by unfold plainF loose; simp [*])
 obtain ⟨mb10, nb10⟩ := isC_f 10 b 10 rfl hb10
 obtain ⟨ma10, na10⟩ := isC_f 10 a 10 rfl ha10
 obtain ⟨ma32, na32⟩ := isC_f 32 a 32 rfl ha32
 obtain ⟨mc32, nc32⟩ := isC_f 32 c 32 rfl hc32
 obtain ⟨mc45, nc45⟩ := isC_f 45 c 45 rfl hc45
 obtain ⟨mc58, nc58⟩ := isC_t 58 c 58 rfl hc58
 obtain ⟨mc35, nc35⟩ := isC_f 35 c 35 rfl hc35
 clear hb10 ha10 ha32 hc32 hc45 hc58 hc35
 go_enter Tryz.func41, Tryz.ntmps41
 go_wp2
 go_ret
 exact ⟨ret_b H.out.symm, rfl⟩
theorem p1_n_ax_k35 (b c a : UInt8) (w : World) (hb10 : isC 10 b = false) (ha10 : isC 10 a = false) (ha32 : isC 32 a = false) (hc32 : isC 32 c = false) (hc45 : isC 45 c = false) (hc58 : isC 58 c = false) (hc35 : isC 35 c = true) :
  Calls Tryz.prog 41 #[.int .u8 b.toNat, .int .u8 c.toNat, .int .u8 a.toNat] w fun e w' => e = .returned (.bool (plainF b c a)) ∧ w = w' := by
 have H : Hid (plainF b c a = !isC 32 b) := hid (by unfold plainF loose; simp [*])
 obtain ⟨mb10, nb10⟩ := isC_f 10 b 10 rfl hb10
 obtain ⟨ma10, na10⟩ := isC_f 10 a 10 rfl ha10
 obtain ⟨ma32, na32⟩ := isC_f 32 a 32 rfl ha32
 obtain ⟨mc32, nc32⟩ := isC_f 32 c 32 rfl hc32
 obtain ⟨mc45, nc45⟩ := isC_f 45 c 45 rfl hc45
 obtain ⟨mc58, nc58⟩ := isC_f 58 c 58 rfl hc58
 obtain ⟨mc35, nc35⟩ := isC_t 35 c 35 rfl hc35
 have nb32 : ((b.toNat : Int) != 32) = !isC 32 b := isC_bne 32 b 32 rfl
 clear hb10 ha10 ha32 hc32 hc45 hc58 hc35
 go_enter Tryz.func41, Tryz.ntmps41
 go_wp2
 go_ret
 exact ⟨ret_b H.out.symm, rfl⟩
theorem p1_n_ax_k (b c a : UInt8) (w : World) (hb10 : isC 10 b = false) (ha10 : isC 10 a = false) (ha32 : isC 32 a = false) (hc32 : isC 32 c = false) (hc45 : isC 45 c = false) (hc58 : isC 58 c = false) (hc35 : isC 35 c = false) :
  Calls Tryz.prog 41 #[.int .u8 b.toNat, .int .u8 c.toNat, .int .u8 a.toNat] w fun e w' => e = .returned (.bool (plainF b c a)) ∧ w = w' := by
 have H : Hid (plainF b c a = good c) := hid (by unfold plainF loose; simp [*])
 obtain ⟨mb10, nb10⟩ := isC_f 10 b 10 rfl hb10
 obtain ⟨ma10, na10⟩ := isC_f 10 a 10 rfl ha10
 obtain ⟨ma32, na32⟩ := isC_f 32 a 32 rfl ha32
 obtain ⟨mc32, nc32⟩ := isC_f 32 c 32 rfl hc32
 obtain ⟨mc45, nc45⟩ := isC_f 45 c 45 rfl hc45
 obtain ⟨mc58, nc58⟩ := isC_f 58 c 58 rfl hc58
 obtain ⟨mc35, nc35⟩ := isC_f 35 c 35 rfl hc35
 clear hb10 ha10 ha32 hc32 hc45 hc58 hc35
 go_enter Tryz.func41, Tryz.ntmps41
 go_wp2_with (first | (go_at_call 43; refine (printable_any _ _).mono ?_; rintro e w' ⟨rfl, rfl⟩))
 go_ret
 exact ⟨ret_b H.out.symm, rfl⟩
theorem plain1_any (b c a : UInt8) (w : World) : Calls Tryz.prog 41 #[.int .u8 b.toNat, .int .u8 c.toNat, .int .u8 a.toNat] w fun e w' => e = .returned (.bool (plainF b c a)) ∧ w = w' := by
 by_cases hb10 : isC 10 b = true
 ·by_cases hf : has firsts c = true
  ·exact p1_first b c a w hb10 hf
  ·have hf := Bool.eq_false_iff.2 hf
   by_cases ha10 : isC 10 a = true
   ·have ha32 := isC_ne ha10 (show (10 : UInt8) ≠ 32 by decide)
    by_cases hc32 : isC 32 c = true
    ·have hc45 := isC_ne hc32 (show (32 : UInt8) ≠ 45 by decide); have hc58 := isC_ne hc32 (show (32 : UInt8) ≠ 58 by decide); have hc35 := isC_ne hc32 (show (32 : UInt8) ≠ 35 by decide); exact p1_b_a10_k32 b c a w hb10 hf ha10 ha32 hc32 hc45 hc58 hc35
    ·have hc32 := Bool.eq_false_iff.2 hc32
     by_cases hc45 : isC 45 c = true
     ·have hc58 := isC_ne hc45 (show (45 : UInt8) ≠ 58 by decide); have hc35 := isC_ne hc45 (show (45 : UInt8) ≠ 35 by decide); exact p1_b_a10_k45 b c a w hb10 hf ha10 ha32 hc32 hc45 hc58 hc35
     ·have hc45 := Bool.eq_false_iff.2 hc45
      by_cases hc58 : isC 58 c = true
      ·have hc35 := isC_ne hc58 (show (58 : UInt8) ≠ 35 by decide); exact p1_b_a10_k58 b c a w hb10 hf ha10 ha32 hc32 hc45 hc58 hc35
      ·have hc58 := Bool.eq_false_iff.2 hc58
       by_cases hc35 : isC 35 c = true
       ·exact p1_b_a10_k35 b c a w hb10 hf ha10 ha32 hc32 hc45 hc58 hc35
       ·have hc35 := Bool.eq_false_iff.2 hc35
        exact p1_b_a10_k b c a w hb10 hf ha10 ha32 hc32 hc45 hc58 hc35
   ·have ha10 := Bool.eq_false_iff.2 ha10
    by_cases ha32 : isC 32 a = true
    ·by_cases hc32 : isC 32 c = true
     ·have hc45 := isC_ne hc32 (show (32 : UInt8) ≠ 45 by decide); have hc58 := isC_ne hc32 (show (32 : UInt8) ≠ 58 by decide); have hc35 := isC_ne hc32 (show (32 : UInt8) ≠ 35 by decide); exact p1_b_a32_k32 b c a w hb10 hf ha10 ha32 hc32 hc45 hc58 hc35
     ·have hc32 := Bool.eq_false_iff.2 hc32
      by_cases hc45 : isC 45 c = true
      ·have hc58 := isC_ne hc45 (show (45 : UInt8) ≠ 58 by decide); have hc35 := isC_ne hc45 (show (45 : UInt8) ≠ 35 by decide); exact p1_b_a32_k45 b c a w hb10 hf ha10 ha32 hc32 hc45 hc58 hc35
      ·have hc45 := Bool.eq_false_iff.2 hc45
       by_cases hc58 : isC 58 c = true
       ·have hc35 := isC_ne hc58 (show (58 : UInt8) ≠ 35 by decide); exact p1_b_a32_k58 b c a w hb10 hf ha10 ha32 hc32 hc45 hc58 hc35
       ·have hc58 := Bool.eq_false_iff.2 hc58
        by_cases hc35 : isC 35 c = true
        ·exact p1_b_a32_k35 b c a w hb10 hf ha10 ha32 hc32 hc45 hc58 hc35
        ·have hc35 := Bool.eq_false_iff.2 hc35
         exact p1_b_a32_k b c a w hb10 hf ha10 ha32 hc32 hc45 hc58 hc35
    ·have ha32 := Bool.eq_false_iff.2 ha32
     by_cases hc32 : isC 32 c = true
     ·have hc45 := isC_ne hc32 (show (32 : UInt8) ≠ 45 by decide); have hc58 := isC_ne hc32 (show (32 : UInt8) ≠ 58 by decide); have hc35 := isC_ne hc32 (show (32 : UInt8) ≠ 35 by decide); exact p1_b_ax_k32 b c a w hb10 hf ha10 ha32 hc32 hc45 hc58 hc35
     ·have hc32 := Bool.eq_false_iff.2 hc32
      by_cases hc45 : isC 45 c = true
      ·have hc58 := isC_ne hc45 (show (45 : UInt8) ≠ 58 by decide); have hc35 := isC_ne hc45 (show (45 : UInt8) ≠ 35 by decide); exact p1_b_ax_k45 b c a w hb10 hf ha10 ha32 hc32 hc45 hc58 hc35
      ·have hc45 := Bool.eq_false_iff.2 hc45
       by_cases hc58 : isC 58 c = true
       ·have hc35 := isC_ne hc58 (show (58 : UInt8) ≠ 35 by decide); exact p1_b_ax_k58 b c a w hb10 hf ha10 ha32 hc32 hc45 hc58 hc35
       ·have hc58 := Bool.eq_false_iff.2 hc58
        by_cases hc35 : isC 35 c = true
        ·exact p1_b_ax_k35 b c a w hb10 hf ha10 ha32 hc32 hc45 hc58 hc35
        ·have hc35 := Bool.eq_false_iff.2 hc35
         exact p1_b_ax_k b c a w hb10 hf ha10 ha32 hc32 hc45 hc58 hc35
 ·have hb10 := Bool.eq_false_iff.2 hb10
  by_cases ha10 : isC 10 a = true
  ·have ha32 := isC_ne ha10 (show (10 : UInt8) ≠ 32 by decide)
   by_cases hc32 : isC 32 c = true
   ·have hc45 := isC_ne hc32 (show (32 : UInt8) ≠ 45 by decide); have hc58 := isC_ne hc32 (show (32 : UInt8) ≠ 58 by decide); have hc35 := isC_ne hc32 (show (32 : UInt8) ≠ 35 by decide); exact p1_n_a10_k32 b c a w hb10 ha10 ha32 hc32 hc45 hc58 hc35
   ·have hc32 := Bool.eq_false_iff.2 hc32
    by_cases hc45 : isC 45 c = true
    ·have hc58 := isC_ne hc45 (show (45 : UInt8) ≠ 58 by decide); have hc35 := isC_ne hc45 (show (45 : UInt8) ≠ 35 by decide); exact p1_n_a10_k45 b c a w hb10 ha10 ha32 hc32 hc45 hc58 hc35
    ·have hc45 := Bool.eq_false_iff.2 hc45
     by_cases hc58 : isC 58 c = true
     ·have hc35 := isC_ne hc58 (show (58 : UInt8) ≠ 35 by decide); exact p1_n_a10_k58 b c a w hb10 ha10 ha32 hc32 hc45 hc58 hc35
     ·have hc58 := Bool.eq_false_iff.2 hc58
      by_cases hc35 : isC 35 c = true
      ·exact p1_n_a10_k35 b c a w hb10 ha10 ha32 hc32 hc45 hc58 hc35
      ·have hc35 := Bool.eq_false_iff.2 hc35
       exact p1_n_a10_k b c a w hb10 ha10 ha32 hc32 hc45 hc58 hc35
  ·have ha10 := Bool.eq_false_iff.2 ha10
   by_cases ha32 : isC 32 a = true
   ·by_cases hc32 : isC 32 c = true
    ·have hc45 := isC_ne hc32 (show (32 : UInt8) ≠ 45 by decide); have hc58 := isC_ne hc32 (show (32 : UInt8) ≠ 58 by decide); have hc35 := isC_ne hc32 (show (32 : UInt8) ≠ 35 by decide); exact p1_n_a32_k32 b c a w hb10 ha10 ha32 hc32 hc45 hc58 hc35
    ·have hc32 := Bool.eq_false_iff.2 hc32
     by_cases hc45 : isC 45 c = true
     ·have hc58 := isC_ne hc45 (show (45 : UInt8) ≠ 58 by decide); have hc35 := isC_ne hc45 (show (45 : UInt8) ≠ 35 by decide); exact p1_n_a32_k45 b c a w hb10 ha10 ha32 hc32 hc45 hc58 hc35
     ·have hc45 := Bool.eq_false_iff.2 hc45
      by_cases hc58 : isC 58 c = true
      ·have hc35 := isC_ne hc58 (show (58 : UInt8) ≠ 35 by decide); exact p1_n_a32_k58 b c a w hb10 ha10 ha32 hc32 hc45 hc58 hc35
      ·have hc58 := Bool.eq_false_iff.2 hc58
       by_cases hc35 : isC 35 c = true
       ·exact p1_n_a32_k35 b c a w hb10 ha10 ha32 hc32 hc45 hc58 hc35
       ·have hc35 := Bool.eq_false_iff.2 hc35
        exact p1_n_a32_k b c a w hb10 ha10 ha32 hc32 hc45 hc58 hc35
   ·have ha32 := Bool.eq_false_iff.2 ha32
    by_cases hc32 : isC 32 c = true
    ·have hc45 := isC_ne hc32 (show (32 : UInt8) ≠ 45 by decide); have hc58 := isC_ne hc32 (show (32 : UInt8) ≠ 58 by decide); have hc35 := isC_ne hc32 (show (32 : UInt8) ≠ 35 by decide); exact p1_n_ax_k32 b c a w hb10 ha10 ha32 hc32 hc45 hc58 hc35
    ·have hc32 := Bool.eq_false_iff.2 hc32
     by_cases hc45 : isC 45 c = true
     ·have hc58 := isC_ne hc45 (show (45 : UInt8) ≠ 58 by decide); have hc35 := isC_ne hc45 (show (45 : UInt8) ≠ 35 by decide); exact p1_n_ax_k45 b c a w hb10 ha10 ha32 hc32 hc45 hc58 hc35
     ·have hc45 := Bool.eq_false_iff.2 hc45
      by_cases hc58 : isC 58 c = true
      ·have hc35 := isC_ne hc58 (show (58 : UInt8) ≠ 35 by decide); exact p1_n_ax_k58 b c a w hb10 ha10 ha32 hc32 hc45 hc58 hc35
      ·have hc58 := Bool.eq_false_iff.2 hc58
       by_cases hc35 : isC 35 c = true
       ·exact p1_n_ax_k35 b c a w hb10 ha10 ha32 hc32 hc45 hc58 hc35
       ·have hc35 := Bool.eq_false_iff.2 hc35
        exact p1_n_ax_k b c a w hb10 ha10 ha32 hc32 hc45 hc58 hc35
end
end Go.Proofs.YtmdgpejedbkkdaaGreatDoor
