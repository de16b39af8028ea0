/- SubPart -/
import Derived.Test.YtkcilmmaggmmoaaGreatDoorNT25
set_option linter.unusedVariables false
set_option linter.unusedSimpArgs false
set_option maxRecDepth 100000
set_option maxHeartbeats 16000000
open Go.Lib (hid)
namespace Go.Proofs.YtkcilmmaggmmoaaGreatDoor
namespace Nw
end Nw
namespace S14
end S14
namespace T13
end T13
namespace V12
end V12
end Go.Proofs.YtkcilmmaggmmoaaGreatDoor
namespace Go.Proofs.YtkcilmmaggmmoaaGreatDoor
section
open Go.RowKit
open Nw V12 T13 S14
def PBx (W : World) (g : Nat) (a b c d : Value) : Prop := W.heap[g]? = some (.cells #[a, b, c, d] 73 (0, 0))
theorem PBx.cells {W : World} {g : Nat} {a b c d : Value} (h : PBx W g a b c d) : W.cell? ⟨g, 0, none⟩ = some a ∧ W.cell? ⟨g, 1, none⟩ = some b ∧ W.cell? ⟨g, 2, none⟩ = some c ∧ W.cell? ⟨g, 3, none⟩ = some d :=
 ⟨cell_of_row W g 0 _ _ (0, 0) h, cell_of_row W g 1 _ _ (0, 0) h, cell_of_row W g 2 _ _ (0, 0) h, cell_of_row W g 3 _ _ (0, 0) h⟩
theorem PBx.go {W W' : World} {g : Nat} {a b c d : Value} (h : PBx W g a b c d) (hb : Below W.heap.size W W') : PBx W' g a b c d := (hb.block g (Array.getElem?_eq_some_iff.1 h).1).trans h
theorem isB_1 (w : World) : Calls Tryz.prog 76 #[.int .i64 1] w fun e w' => e = .returned (.bool false) ∧ w' = w := by
 go_enter Tryz.func76, Tryz.ntmps76
 go_wp2
 go_ret
 exact ⟨rfl, rfl⟩
theorem isB_2 (w : World) : Calls Tryz.prog 76 #[.int .i64 2] w fun e w' => e = .returned (.bool true) ∧ w' = w := by
 go_enter Tryz.func76, Tryz.ntmps76
 go_wp2
 go_ret
 exact ⟨rfl, rfl⟩
theorem isB_3 (w : World) : Calls Tryz.prog 76 #[.int .i64 3] w fun e w' => e = .returned (.bool false) ∧ w' = w := by
 go_enter Tryz.func76, Tryz.ntmps76
 go_wp2
 go_ret
 exact ⟨rfl, rfl⟩
theorem isB_4 (w : World) : Calls Tryz.prog 76 #[.int .i64 4] w fun e w' => e = .returned (.bool true) ∧ w' = w := by
 go_enter Tryz.func76, Tryz.ntmps76
 go_wp2
 go_ret
 exact ⟨rfl, rfl⟩
theorem isB_5 (w : World) : Calls Tryz.prog 76 #[.int .i64 5] w fun e w' => e = .returned (.bool false) ∧ w' = w := by
 go_enter Tryz.func76, Tryz.ntmps76
 go_wp2
 go_ret
 exact ⟨rfl, rfl⟩
theorem isB_6 (w : World) : Calls Tryz.prog 76 #[.int .i64 6] w fun e w' => e = .returned (.bool true) ∧ w' = w := by
 go_enter Tryz.func76, Tryz.ntmps76
 go_wp2
 go_ret
 exact ⟨rfl, rfl⟩
theorem isB_7 (w : World) : Calls Tryz.prog 76 #[.int .i64 7] w fun e w' => e = .returned (.bool false) ∧ w' = w := by
 go_enter Tryz.func76, Tryz.ntmps76
 go_wp2
 go_ret
 exact ⟨rfl, rfl⟩
theorem pv_1_n (M B0 : Nat) (X Y : ByteArray) (B : Option Addr) (m c : Nat) (v : Value) (D : Int) (hD : 0 ≤ D ∧ D < 8) (w : World)
  (HGet : ∀ W, Below w.heap.size w W → Calls Tryz.prog 75 #[v, .string X] W fun e w' => e = .returned (.tuple #[.string ⟨#[]⟩, .bool false]) ∧ Below W.heap.size W w') :
  Calls Tryz.prog 60 #[.agg #[.string X, .string Y, .int .i64 1, .slice B m c], v, .int .i64 D] w (VOut M B0 (.ok (⟨#[]⟩ : ByteArray).data.toList) w) := by
 have hb0 : Below w.heap.size w (w.alloc (.cells #[.string X, .string Y, .int .i64 1, .slice B m c] 73)) := (Below.refl _ _).alloc (Nat.le_refl _) _
 have hx0 : PBx (w.alloc (.cells #[.string X, .string Y, .int .i64 1, .slice B m c] 73)) w.heap.size (.string X) (.string Y) (.int .i64 1) (.slice B m c) := heap_alloc_new w _
 have HG := hid (HGet _ hb0)
 have HB0 := hid hb0
 have HX0 := hid hx0
 obtain ⟨x0, x1, x2, x3⟩ := hx0.cells
 obtain ⟨hD0, hD8⟩ := hD
 have hDe : (D == 8) = false := beq_eq_false_iff_ne.2 (by omega)
 clear hb0 hx0 HGet
 go_enter Tryz.func60, Tryz.ntmps60
 go_wp2_with first
  | (go_at_call 75; refine HG.out.mono ?_; rintro e w2 ⟨rfl, hb2⟩; have HX2 := hid (HX0.out.go hb2); have HB2 := hid (HB0.out.trans (hb2.mono HB0.out.size)); clear hb2 x0 x1 x2 x3; obtain ⟨x0, x1, x2, x3⟩ := HX2.out.cells)
  | (go_at_call 76; refine (isB_1 _).mono ?_; rintro e w2 ⟨rfl, rfl⟩)
 go_ret
 refine ⟨HB2.out, ?_⟩
 show Ending.returned _ = Ending.returned (.string (ba (⟨#[]⟩ : ByteArray).data.toList))
 rw [ba_of]
 rfl
theorem pv_1_b (M B0 : Nat) (X Y : ByteArray) (B : Option Addr) (m c : Nat) (v : Value) (D : Int) (hD : 0 ≤ D ∧ D < 8) (w : World)
  (HGet : ∀ W, Below w.heap.size w W → Calls Tryz.prog 75 #[v, .string X] W fun e w' => e = .returned (.tuple #[.string ⟨#[]⟩, .bool true]) ∧ Below W.heap.size W w') :
  Calls Tryz.prog 60 #[.agg #[.string X, .string Y, .int .i64 1, .slice B m c], v, .int .i64 D] w (VOut M B0 (.ok (⟨#[]⟩ : ByteArray).data.toList) w) := by
 have hb0 : Below w.heap.size w (w.alloc (.cells #[.string X, .string Y, .int .i64 1, .slice B m c] 73)) := (Below.refl _ _).alloc (Nat.le_refl _) _
 have hx0 : PBx (w.alloc (.cells #[.string X, .string Y, .int .i64 1, .slice B m c] 73)) w.heap.size (.string X) (.string Y) (.int .i64 1) (.slice B m c) := heap_alloc_new w _
 have HG := hid (HGet _ hb0)
 have HB0 := hid hb0
 have HX0 := hid hx0
 obtain ⟨x0, x1, x2, x3⟩ := hx0.cells
 obtain ⟨hD0, hD8⟩ := hD
 have hDe : (D == 8) = false := beq_eq_false_iff_ne.2 (by omega)
 clear hb0 hx0 HGet
 have hV : ((⟨#[]⟩ : ByteArray).toList != ByteArray.toList ⟨#[]⟩) = false := by simp
 have hV2 : ((⟨#[]⟩ : ByteArray).toList == ByteArray.toList ⟨#[]⟩) = true := beq_self_eq_true _
 go_enter Tryz.func60, Tryz.ntmps60
 go_wp2_with first
  | (go_at_call 75; refine HG.out.mono ?_; rintro e w2 ⟨rfl, hb2⟩; have HX2 := hid (HX0.out.go hb2); have HB2 := hid (HB0.out.trans (hb2.mono HB0.out.size)); clear hb2 x0 x1 x2 x3; obtain ⟨x0, x1, x2, x3⟩ := HX2.out.cells)
  | (go_at_call 76; refine (isB_1 _).mono ?_; rintro e w2 ⟨rfl, rfl⟩)
 go_ret
 refine ⟨HB2.out, ?_⟩
 show Ending.returned _ = Ending.returned (.string (ba (⟨#[]⟩ : ByteArray).data.toList))
 rw [ba_of]
 rfl
theorem pv_1_f (M B0 : Nat) (X Y : ByteArray) (B : Option Addr) (m c : Nat) (v : Value) (D : Int) (hD : 0 ≤ D ∧ D < 8) (w : World) (V : ByteArray) (hV : V.toList.isEmpty = false)
  (HGet : ∀ W, Below w.heap.size w W → Calls Tryz.prog 75 #[v, .string X] W fun e w' => e = .returned (.tuple #[.string V, .bool true]) ∧ Below W.heap.size W w') :
  Calls Tryz.prog 60 #[.agg #[.string X, .string Y, .int .i64 1, .slice B m c], v, .int .i64 D] w (VOut M B0 (.ok V.data.toList) w) := by
 have hb0 : Below w.heap.size w (w.alloc (.cells #[.string X, .string Y, .int .i64 1, .slice B m c] 73)) := (Below.refl _ _).alloc (Nat.le_refl _) _
 have hx0 : PBx (w.alloc (.cells #[.string X, .string Y, .int .i64 1, .slice B m c] 73)) w.heap.size (.string X) (.string Y) (.int .i64 1) (.slice B m c) := heap_alloc_new w _
 have HG := hid (HGet _ hb0)
 have HB0 := hid hb0
 have HX0 := hid hx0
 obtain ⟨x0, x1, x2, x3⟩ := hx0.cells
 obtain ⟨hD0, hD8⟩ := hD
 have hDe : (D == 8) = false := beq_eq_false_iff_ne.2 (by omega)
 clear hb0 hx0 HGet
 go_enter Tryz.func60, Tryz.ntmps60
 go_wp2_with first
  | (go_at_call 75; refine HG.out.mono ?_; rintro e w2 ⟨rfl, hb2⟩; have HX2 := hid (HX0.out.go hb2); have HB2 := hid (HB0.out.trans (hb2.mono HB0.out.size)); clear hb2 x0 x1 x2 x3; obtain ⟨x0, x1, x2, x3⟩ := HX2.out.cells)
  | (go_at_call 76; refine (isB_1 _).mono ?_; rintro e w2 ⟨rfl, rfl⟩)
 go_ret
 refine ⟨HB2.out, ?_⟩
 show Ending.returned _ = Ending.returned (.string (ba V.data.toList))
 rw [ba_of]
 rfl
theorem pv_2_n (M B0 : Nat) (X Y : ByteArray) (B : Option Addr) (m c : Nat) (v : Value) (D : Int) (hD : 0 ≤ D ∧ D < 8) (w : World) (R : SR) (HSub : ∀ W, Below w.heap.size w W → Calls Tryz.prog 45 #[.slice B m c, v, .int .i64 (D + 1)] W (VOut M B0 R W))
  (HGet : ∀ W, Below w.heap.size w W → Calls Tryz.prog 75 #[v, .string X] W fun e w' => e = .returned (.tuple #[.string ⟨#[]⟩, .bool false]) ∧ Below W.heap.size W w') :
  Calls Tryz.prog 60 #[.agg #[.string X, .string Y, .int .i64 2, .slice B m c], v, .int .i64 D] w (VOut M B0 R w) := by
 have hb0 : Below w.heap.size w (w.alloc (.cells #[.string X, .string Y, .int .i64 2, .slice B m c] 73)) := (Below.refl _ _).alloc (Nat.le_refl _) _
 have hx0 : PBx (w.alloc (.cells #[.string X, .string Y, .int .i64 2, .slice B m c] 73)) w.heap.size (.string X) (.string Y) (.int .i64 2) (.slice B m c) := heap_alloc_new w _
 have HG := hid (HGet _ hb0)
 have HB0 := hid hb0
 have HX0 := hid hx0
 obtain ⟨x0, x1, x2, x3⟩ := hx0.cells
 obtain ⟨hD0, hD8⟩ := hD
 have hDe : (D == 8) = false := beq_eq_false_iff_ne.2 (by omega)
 clear hb0 hx0 HGet
 have hDw : IntKind.i64.wrap (D + 1) = D + 1 := IntWalk.i64_in _ (by omega)
 go_enter Tryz.func60, Tryz.ntmps60
 cases R with
 | ok t =>
  go_wp2_with first
   | (go_at_call 75; refine HG.out.mono ?_; rintro e w2 ⟨rfl, hb2⟩; have HX2 := hid (HX0.out.go hb2); have HB2 := hid (HB0.out.trans (hb2.mono HB0.out.size)); clear hb2 x0 x1 x2 x3; obtain ⟨x0, x1, x2, x3⟩ := HX2.out.cells)
   | (go_at_call 76; refine (isB_2 _).mono ?_; rintro e w2 ⟨rfl, rfl⟩)
   | (go_at_call 45; refine (HSub _ HB2.out).mono ?_; rintro e w3 ⟨hb3, rfl⟩)
  go_ret
  exact ⟨HB2.out.trans (hb3.mono HB2.out.size), rfl⟩
 | err er ky y =>
  go_wp2_with first
   | (go_at_call 75; refine HG.out.mono ?_; rintro e w2 ⟨rfl, hb2⟩; have HX2 := hid (HX0.out.go hb2); have HB2 := hid (HB0.out.trans (hb2.mono HB0.out.size)); clear hb2 x0 x1 x2 x3; obtain ⟨x0, x1, x2, x3⟩ := HX2.out.cells)
   | (go_at_call 76; refine (isB_2 _).mono ?_; rintro e w2 ⟨rfl, rfl⟩)
   | (go_at_call 45; refine (HSub _ HB2.out).mono ?_; rintro e w3 ⟨hb3, k', t', op', A', n', c', s', rfl, hk, hs, ht⟩)
  refine ⟨rfl, HB2.out.trans (hb3.mono HB2.out.size), _, t', op', A', n', c', s', rfl, by first | rfl | exact hk, hs, ht⟩
theorem pv_2_b (M B0 : Nat) (X Y : ByteArray) (B : Option Addr) (m c : Nat) (v : Value) (D : Int) (hD : 0 ≤ D ∧ D < 8) (w : World) (R : SR) (HSub : ∀ W, Below w.heap.size w W → Calls Tryz.prog 45 #[.slice B m c, v, .int .i64 (D + 1)] W (VOut M B0 R W))
  (HGet : ∀ W, Below w.heap.size w W → Calls Tryz.prog 75 #[v, .string X] W fun e w' => e = .returned (.tuple #[.string ⟨#[]⟩, .bool true]) ∧ Below W.heap.size W w') :
  Calls Tryz.prog 60 #[.agg #[.string X, .string Y, .int .i64 2, .slice B m c], v, .int .i64 D] w (VOut M B0 R w) := by
 have hb0 : Below w.heap.size w (w.alloc (.cells #[.string X, .string Y, .int .i64 2, .slice B m c] 73)) := (Below.refl _ _).alloc (Nat.le_refl _) _
 have hx0 : PBx (w.alloc (.cells #[.string X, .string Y, .int .i64 2, .slice B m c] 73)) w.heap.size (.string X) (.string Y) (.int .i64 2) (.slice B m c) := heap_alloc_new w _
 have HG := hid (HGet _ hb0)
 have HB0 := hid hb0
 have HX0 := hid hx0
 obtain ⟨x0, x1, x2, x3⟩ := hx0.cells
 obtain ⟨hD0, hD8⟩ := hD
 have hDe : (D == 8) = false := beq_eq_false_iff_ne.2 (by omega)
 clear hb0 hx0 HGet
 have hV : ((⟨#[]⟩ : ByteArray).toList != ByteArray.toList ⟨#[]⟩) = false := by simp
 have hV2 : ((⟨#[]⟩ : ByteArray).toList == ByteArray.toList ⟨#[]⟩) = true := beq_self_eq_true _
 have hDw : IntKind.i64.wrap (D + 1) = D + 1 := IntWalk.i64_in _ (by omega)
 go_enter Tryz.func60, Tryz.ntmps60
 cases R with
 | ok t =>
  go_wp2_with first
   | (go_at_call 75; refine HG.out.mono ?_; rintro e w2 ⟨rfl, hb2⟩; have HX2 := hid (HX0.out.go hb2); have HB2 := hid (HB0.out.trans (hb2.mono HB0.out.size)); clear hb2 x0 x1 x2 x3; obtain ⟨x0, x1, x2, x3⟩ := HX2.out.cells)
   | (go_at_call 76; refine (isB_2 _).mono ?_; rintro e w2 ⟨rfl, rfl⟩)
   | (go_at_call 45; refine (HSub _ HB2.out).mono ?_; rintro e w3 ⟨hb3, rfl⟩)
  go_ret
  exact ⟨HB2.out.trans (hb3.mono HB2.out.size), rfl⟩
 | err er ky y =>
  go_wp2_with first
   | (go_at_call 75; refine HG.out.mono ?_; rintro e w2 ⟨rfl, hb2⟩; have HX2 := hid (HX0.out.go hb2); have HB2 := hid (HB0.out.trans (hb2.mono HB0.out.size)); clear hb2 x0 x1 x2 x3; obtain ⟨x0, x1, x2, x3⟩ := HX2.out.cells)
   | (go_at_call 76; refine (isB_2 _).mono ?_; rintro e w2 ⟨rfl, rfl⟩)
   | (go_at_call 45; refine (HSub _ HB2.out).mono ?_; rintro e w3 ⟨hb3, k', t', op', A', n', c', s', rfl, hk, hs, ht⟩)
  refine ⟨rfl, HB2.out.trans (hb3.mono HB2.out.size), _, t', op', A', n', c', s', rfl, by first | rfl | exact hk, hs, ht⟩
theorem pv_2_f (M B0 : Nat) (X Y : ByteArray) (B : Option Addr) (m c : Nat) (v : Value) (D : Int) (hD : 0 ≤ D ∧ D < 8) (w : World) (V : ByteArray) (hV : V.toList.isEmpty = false)
  (HGet : ∀ W, Below w.heap.size w W → Calls Tryz.prog 75 #[v, .string X] W fun e w' => e = .returned (.tuple #[.string V, .bool true]) ∧ Below W.heap.size W w') :
  Calls Tryz.prog 60 #[.agg #[.string X, .string Y, .int .i64 2, .slice B m c], v, .int .i64 D] w (VOut M B0 (.ok V.data.toList) w) := by
 have hb0 : Below w.heap.size w (w.alloc (.cells #[.string X, .string Y, .int .i64 2, .slice B m c] 73)) := (Below.refl _ _).alloc (Nat.le_refl _) _
 have hx0 : PBx (w.alloc (.cells #[.string X, .string Y, .int .i64 2, .slice B m c] 73)) w.heap.size (.string X) (.string Y) (.int .i64 2) (.slice B m c) := heap_alloc_new w _
 have HG := hid (HGet _ hb0)
 have HB0 := hid hb0
 have HX0 := hid hx0
 obtain ⟨x0, x1, x2, x3⟩ := hx0.cells
 obtain ⟨hD0, hD8⟩ := hD
 have hDe : (D == 8) = false := beq_eq_false_iff_ne.2 (by omega)
 clear hb0 hx0 HGet
 go_enter Tryz.func60, Tryz.ntmps60
 go_wp2_with first
  | (go_at_call 75; refine HG.out.mono ?_; rintro e w2 ⟨rfl, hb2⟩; have HX2 := hid (HX0.out.go hb2); have HB2 := hid (HB0.out.trans (hb2.mono HB0.out.size)); clear hb2 x0 x1 x2 x3; obtain ⟨x0, x1, x2, x3⟩ := HX2.out.cells)
  | (go_at_call 76; refine (isB_2 _).mono ?_; rintro e w2 ⟨rfl, rfl⟩)
 go_ret
 refine ⟨HB2.out, ?_⟩
 show Ending.returned _ = Ending.returned (.string (ba V.data.toList))
 rw [ba_of]
 rfl
theorem pv_3_n (M B0 : Nat) (X Y : ByteArray) (B : Option Addr) (m c : Nat) (v : Value) (D : Int) (hD : 0 ≤ D ∧ D < 8) (w : World) (R : SR) (HSub : ∀ W, Below w.heap.size w W → Calls Tryz.prog 45 #[.slice B m c, v, .int .i64 (D + 1)] W (VOut M B0 R W))
  (HGet : ∀ W, Below w.heap.size w W → Calls Tryz.prog 75 #[v, .string X] W fun e w' => e = .returned (.tuple #[.string ⟨#[]⟩, .bool false]) ∧ Below W.heap.size W w') :
  Calls Tryz.prog 60 #[.agg #[.string X, .string Y, .int .i64 3, .slice B m c], v, .int .i64 D] w (VOut M B0 R w) := by
 have hb0 : Below w.heap.size w (w.alloc (.cells #[.string X, .string Y, .int .i64 3, .slice B m c] 73)) := (Below.refl _ _).alloc (Nat.le_refl _) _
 have hx0 : PBx (w.alloc (.cells #[.string X, .string Y, .int .i64 3, .slice B m c] 73)) w.heap.size (.string X) (.string Y) (.int .i64 3) (.slice B m c) := heap_alloc_new w _
 have HG := hid (HGet _ hb0)
 have HB0 := hid hb0
 have HX0 := hid hx0
 obtain ⟨x0, x1, x2, x3⟩ := hx0.cells
 obtain ⟨hD0, hD8⟩ := hD
 have hDe : (D == 8) = false := beq_eq_false_iff_ne.2 (by omega)
 clear hb0 hx0 HGet
 have hDw : IntKind.i64.wrap (D + 1) = D + 1 := IntWalk.i64_in _ (by omega)
 go_enter Tryz.func60, Tryz.ntmps60
 cases R with
 | ok t =>
  go_wp2_with first
   | (go_at_call 75; refine HG.out.mono ?_; rintro e w2 ⟨rfl, hb2⟩; have HX2 := hid (HX0.out.go hb2); have HB2 := hid (HB0.out.trans (hb2.mono HB0.out.size)); clear hb2 x0 x1 x2 x3; obtain ⟨x0, x1, x2, x3⟩ := HX2.out.cells)
   | (go_at_call 76; refine (isB_3 _).mono ?_; rintro e w2 ⟨rfl, rfl⟩)
   | (go_at_call 45; refine (HSub _ HB2.out).mono ?_; rintro e w3 ⟨hb3, rfl⟩)
  go_ret
  exact ⟨HB2.out.trans (hb3.mono HB2.out.size), rfl⟩
 | err er ky y =>
  go_wp2_with first
   | (go_at_call 75; refine HG.out.mono ?_; rintro e w2 ⟨rfl, hb2⟩; have HX2 := hid (HX0.out.go hb2); have HB2 := hid (HB0.out.trans (hb2.mono HB0.out.size)); clear hb2 x0 x1 x2 x3; obtain ⟨x0, x1, x2, x3⟩ := HX2.out.cells)
   | (go_at_call 76; refine (isB_3 _).mono ?_; rintro e w2 ⟨rfl, rfl⟩)
   | (go_at_call 45; refine (HSub _ HB2.out).mono ?_; rintro e w3 ⟨hb3, k', t', op', A', n', c', s', rfl, hk, hs, ht⟩)
  refine ⟨rfl, HB2.out.trans (hb3.mono HB2.out.size), _, t', op', A', n', c', s', rfl, by first | rfl | exact hk, hs, ht⟩
theorem pv_3_b (M B0 : Nat) (X Y : ByteArray) (B : Option Addr) (m c : Nat) (v : Value) (D : Int) (hD : 0 ≤ D ∧ D < 8) (w : World)
  (HGet : ∀ W, Below w.heap.size w W → Calls Tryz.prog 75 #[v, .string X] W fun e w' => e = .returned (.tuple #[.string ⟨#[]⟩, .bool true]) ∧ Below W.heap.size W w') :
  Calls Tryz.prog 60 #[.agg #[.string X, .string Y, .int .i64 3, .slice B m c], v, .int .i64 D] w (VOut M B0 (.ok (⟨#[]⟩ : ByteArray).data.toList) w) := by
 have hb0 : Below w.heap.size w (w.alloc (.cells #[.string X, .string Y, .int .i64 3, .slice B m c] 73)) := (Below.refl _ _).alloc (Nat.le_refl _) _
 have hx0 : PBx (w.alloc (.cells #[.string X, .string Y, .int .i64 3, .slice B m c] 73)) w.heap.size (.string X) (.string Y) (.int .i64 3) (.slice B m c) := heap_alloc_new w _
 have HG := hid (HGet _ hb0)
 have HB0 := hid hb0
 have HX0 := hid hx0
 obtain ⟨x0, x1, x2, x3⟩ := hx0.cells
 obtain ⟨hD0, hD8⟩ := hD
 have hDe : (D == 8) = false := beq_eq_false_iff_ne.2 (by omega)
 clear hb0 hx0 HGet
 have hV : ((⟨#[]⟩ : ByteArray).toList != ByteArray.toList ⟨#[]⟩) = false := by simp
 have hV2 : ((⟨#[]⟩ : ByteArray).toList == ByteArray.toList ⟨#[]⟩) = true := beq_self_eq_true _
 go_enter Tryz.func60, Tryz.ntmps60
 go_wp2_with first
  | (go_at_call 75; refine HG.out.mono ?_; rintro e w2 ⟨rfl, hb2⟩; have HX2 := hid (HX0.out.go hb2); have HB2 := hid (HB0.out.trans (hb2.mono HB0.out.size)); clear hb2 x0 x1 x2 x3; obtain ⟨x0, x1, x2, x3⟩ := HX2.out.cells)
  | (go_at_call 76; refine (isB_3 _).mono ?_; rintro e w2 ⟨rfl, rfl⟩)
 go_ret
 refine ⟨HB2.out, ?_⟩
 show Ending.returned _ = Ending.returned (.string (ba (⟨#[]⟩ : ByteArray).data.toList))
 rw [ba_of]
 rfl
theorem pv_3_f (M B0 : Nat) (X Y : ByteArray) (B : Option Addr) (m c : Nat) (v : Value) (D : Int) (hD : 0 ≤ D ∧ D < 8) (w : World) (V : ByteArray) (hV : V.toList.isEmpty = false)
  (HGet : ∀ W, Below w.heap.size w W → Calls Tryz.prog 75 #[v, .string X] W fun e w' => e = .returned (.tuple #[.string V, .bool true]) ∧ Below W.heap.size W w') :
  Calls Tryz.prog 60 #[.agg #[.string X, .string Y, .int .i64 3, .slice B m c], v, .int .i64 D] w (VOut M B0 (.ok V.data.toList) w) := by
 have hb0 : Below w.heap.size w (w.alloc (.cells #[.string X, .string Y, .int .i64 3, .slice B m c] 73)) := (Below.refl _ _).alloc (Nat.le_refl _) _
 have hx0 : PBx (w.alloc (.cells #[.string X, .string Y, .int .i64 3, .slice B m c] 73)) w.heap.size (.string X) (.string Y) (.int .i64 3) (.slice B m c) := heap_alloc_new w _
 have HG := hid (HGet _ hb0)
 have HB0 := hid hb0
 have HX0 := hid hx0
 obtain ⟨x0, x1, x2, x3⟩ := hx0.cells
 obtain ⟨hD0, hD8⟩ := hD
 have hDe : (D == 8) = false := beq_eq_false_iff_ne.2 (by omega)
 clear hb0 hx0 HGet
 go_enter Tryz.func60, Tryz.ntmps60
 go_wp2_with first
  | (go_at_call 75; refine HG.out.mono ?_; rintro e w2 ⟨rfl, hb2⟩; have HX2 := hid (HX0.out.go hb2); have HB2 := hid (HB0.out.trans (hb2.mono HB0.out.size)); clear hb2 x0 x1 x2 x3; obtain ⟨x0, x1, x2, x3⟩ := HX2.out.cells)
  | (go_at_call 76; refine (isB_3 _).mono ?_; rintro e w2 ⟨rfl, rfl⟩)
 go_ret
 refine ⟨HB2.out, ?_⟩
 show Ending.returned _ = Ending.returned (.string (ba V.data.toList))
 rw [ba_of]
 rfl
theorem pv_4_n (M B0 : Nat) (X Y : ByteArray) (B : Option Addr) (m c : Nat) (v : Value) (D : Int) (hD : 0 ≤ D ∧ D < 8) (w : World) (s : List Pt) (hB0 : B0 ≤ w.heap.size) (hs : PtL (· < B0) w (.slice B m c) s) (hwf : WfL 1 s) (hln : (txtL s).length ≤ M)
  (HGet : ∀ W, Below w.heap.size w W → Calls Tryz.prog 75 #[v, .string X] W fun e w' => e = .returned (.tuple #[.string ⟨#[]⟩, .bool false]) ∧ Below W.heap.size W w') :
  Calls Tryz.prog 60 #[.agg #[.string X, .string Y, .int .i64 4, .slice B m c], v, .int .i64 D] w (VOut M B0 (.err 4 X.data.toList (txtL s)) w) := by
 have hb0 : Below w.heap.size w (w.alloc (.cells #[.string X, .string Y, .int .i64 4, .slice B m c] 73)) := (Below.refl _ _).alloc (Nat.le_refl _) _
 have hx0 : PBx (w.alloc (.cells #[.string X, .string Y, .int .i64 4, .slice B m c] 73)) w.heap.size (.string X) (.string Y) (.int .i64 4) (.slice B m c) := heap_alloc_new w _
 have HG := hid (HGet _ hb0)
 have HB0 := hid hb0
 have HX0 := hid hx0
 obtain ⟨x0, x1, x2, x3⟩ := hx0.cells
 obtain ⟨hD0, hD8⟩ := hD
 have hDe : (D == 8) = false := beq_eq_false_iff_ne.2 (by omega)
 clear hb0 hx0 HGet
 have HS := hid (And.intro hs (And.intro hwf hln))
 clear hs hwf hln
 go_enter Tryz.func60, Tryz.ntmps60
 go_wp2_with first
  | (go_at_call 75; refine HG.out.mono ?_; rintro e w2 ⟨rfl, hb2⟩; have HX2 := hid (HX0.out.go hb2); have HB2 := hid (HB0.out.trans (hb2.mono HB0.out.size)); clear hb2 x0 x1 x2 x3; obtain ⟨x0, x1, x2, x3⟩ := HX2.out.cells)
  | (go_at_call 76; refine (isB_4 _).mono ?_; rintro e w2 ⟨rfl, rfl⟩)
 refine ⟨rfl, HB2.out, X, Y, 4, B, m, c, s, rfl, by rw [ba_of], ?_, rfl, HS.out.2⟩
 exact HS.out.1.keep fun b hb => ⟨hb, HB2.out.block b (Nat.lt_of_lt_of_le hb hB0)⟩
theorem pv_4_b (M B0 : Nat) (X Y : ByteArray) (B : Option Addr) (m c : Nat) (v : Value) (D : Int) (hD : 0 ≤ D ∧ D < 8) (w : World) (s : List Pt) (hB0 : B0 ≤ w.heap.size) (hs : PtL (· < B0) w (.slice B m c) s) (hwf : WfL 1 s) (hln : (txtL s).length ≤ M)
  (HGet : ∀ W, Below w.heap.size w W → Calls Tryz.prog 75 #[v, .string X] W fun e w' => e = .returned (.tuple #[.string ⟨#[]⟩, .bool true]) ∧ Below W.heap.size W w') :
  Calls Tryz.prog 60 #[.agg #[.string X, .string Y, .int .i64 4, .slice B m c], v, .int .i64 D] w (VOut M B0 (.err 4 X.data.toList (txtL s)) w) := by
 have hb0 : Below w.heap.size w (w.alloc (.cells #[.string X, .string Y, .int .i64 4, .slice B m c] 73)) := (Below.refl _ _).alloc (Nat.le_refl _) _
 have hx0 : PBx (w.alloc (.cells #[.string X, .string Y, .int .i64 4, .slice B m c] 73)) w.heap.size (.string X) (.string Y) (.int .i64 4) (.slice B m c) := heap_alloc_new w _
 have HG := hid (HGet _ hb0)
 have HB0 := hid hb0
 have HX0 := hid hx0
 obtain ⟨x0, x1, x2, x3⟩ := hx0.cells
 obtain ⟨hD0, hD8⟩ := hD
 have hDe : (D == 8) = false := beq_eq_false_iff_ne.2 (by omega)
 clear hb0 hx0 HGet
 have HS := hid (And.intro hs (And.intro hwf hln))
 clear hs hwf hln
 have hV : ((⟨#[]⟩ : ByteArray).toList != ByteArray.toList ⟨#[]⟩) = false := by simp
 have hV2 : ((⟨#[]⟩ : ByteArray).toList == ByteArray.toList ⟨#[]⟩) = true := beq_self_eq_true _
 go_enter Tryz.func60, Tryz.ntmps60
 go_wp2_with first
  | (go_at_call 75; refine HG.out.mono ?_; rintro e w2 ⟨rfl, hb2⟩; have HX2 := hid (HX0.out.go hb2); have HB2 := hid (HB0.out.trans (hb2.mono HB0.out.size)); clear hb2 x0 x1 x2 x3; obtain ⟨x0, x1, x2, x3⟩ := HX2.out.cells)
  | (go_at_call 76; refine (isB_4 _).mono ?_; rintro e w2 ⟨rfl, rfl⟩)
 refine ⟨rfl, HB2.out, X, Y, 4, B, m, c, s, rfl, by rw [ba_of], ?_, rfl, HS.out.2⟩
 exact HS.out.1.keep fun b hb => ⟨hb, HB2.out.block b (Nat.lt_of_lt_of_le hb hB0)⟩
theorem pv_4_f (M B0 : Nat) (X Y : ByteArray) (B : Option Addr) (m c : Nat) (v : Value) (D : Int) (hD : 0 ≤ D ∧ D < 8) (w : World) (V : ByteArray) (hV : V.toList.isEmpty = false)
  (HGet : ∀ W, Below w.heap.size w W → Calls Tryz.prog 75 #[v, .string X] W fun e w' => e = .returned (.tuple #[.string V, .bool true]) ∧ Below W.heap.size W w') :
  Calls Tryz.prog 60 #[.agg #[.string X, .string Y, .int .i64 4, .slice B m c], v, .int .i64 D] w (VOut M B0 (.ok V.data.toList) w) := by
 have hb0 : Below w.heap.size w (w.alloc (.cells #[.string X, .string Y, .int .i64 4, .slice B m c] 73)) := (Below.refl _ _).alloc (Nat.le_refl _) _
 have hx0 : PBx (w.alloc (.cells #[.string X, .string Y, .int .i64 4, .slice B m c] 73)) w.heap.size (.string X) (.string Y) (.int .i64 4) (.slice B m c) := heap_alloc_new w _
 have HG := hid (HGet _ hb0)
 have HB0 := hid hb0
 have HX0 := hid hx0
 obtain ⟨x0, x1, x2, x3⟩ := hx0.cells
 obtain ⟨hD0, hD8⟩ := hD
 have hDe : (D == 8) = false := beq_eq_false_iff_ne.2 (by omega)
 clear hb0 hx0 HGet
 go_enter Tryz.func60, Tryz.ntmps60
 go_wp2_with first
  | (go_at_call 75; refine HG.out.mono ?_; rintro e w2 ⟨rfl, hb2⟩; have HX2 := hid (HX0.out.go hb2); have HB2 := hid (HB0.out.trans (hb2.mono HB0.out.size)); clear hb2 x0 x1 x2 x3; obtain ⟨x0, x1, x2, x3⟩ := HX2.out.cells)
  | (go_at_call 76; refine (isB_4 _).mono ?_; rintro e w2 ⟨rfl, rfl⟩)
 go_ret
 refine ⟨HB2.out, ?_⟩
 show Ending.returned _ = Ending.returned (.string (ba V.data.toList))
 rw [ba_of]
 rfl
theorem pv_5_n (M B0 : Nat) (X Y : ByteArray) (B : Option Addr) (m c : Nat) (v : Value) (D : Int) (hD : 0 ≤ D ∧ D < 8) (w : World) (s : List Pt) (hB0 : B0 ≤ w.heap.size) (hs : PtL (· < B0) w (.slice B m c) s) (hwf : WfL 1 s) (hln : (txtL s).length ≤ M)
  (HGet : ∀ W, Below w.heap.size w W → Calls Tryz.prog 75 #[v, .string X] W fun e w' => e = .returned (.tuple #[.string ⟨#[]⟩, .bool false]) ∧ Below W.heap.size W w') :
  Calls Tryz.prog 60 #[.agg #[.string X, .string Y, .int .i64 5, .slice B m c], v, .int .i64 D] w (VOut M B0 (.err 4 X.data.toList (txtL s)) w) := by
 have hb0 : Below w.heap.size w (w.alloc (.cells #[.string X, .string Y, .int .i64 5, .slice B m c] 73)) := (Below.refl _ _).alloc (Nat.le_refl _) _
 have hx0 : PBx (w.alloc (.cells #[.string X, .string Y, .int .i64 5, .slice B m c] 73)) w.heap.size (.string X) (.string Y) (.int .i64 5) (.slice B m c) := heap_alloc_new w _
 have HG := hid (HGet _ hb0)
 have HB0 := hid hb0
 have HX0 := hid hx0
 obtain ⟨x0, x1, x2, x3⟩ := hx0.cells
 obtain ⟨hD0, hD8⟩ := hD
 have hDe : (D == 8) = false := beq_eq_false_iff_ne.2 (by omega)
 clear hb0 hx0 HGet
 have HS := hid (And.intro hs (And.intro hwf hln))
 clear hs hwf hln
 go_enter Tryz.func60, Tryz.ntmps60
 go_wp2_with first
  | (go_at_call 75; refine HG.out.mono ?_; rintro e w2 ⟨rfl, hb2⟩; have HX2 := hid (HX0.out.go hb2); have HB2 := hid (HB0.out.trans (hb2.mono HB0.out.size)); clear hb2 x0 x1 x2 x3; obtain ⟨x0, x1, x2, x3⟩ := HX2.out.cells)
  | (go_at_call 76; refine (isB_5 _).mono ?_; rintro e w2 ⟨rfl, rfl⟩)
 refine ⟨rfl, HB2.out, X, Y, 5, B, m, c, s, rfl, by rw [ba_of], ?_, rfl, HS.out.2⟩
 exact HS.out.1.keep fun b hb => ⟨hb, HB2.out.block b (Nat.lt_of_lt_of_le hb hB0)⟩
theorem pv_5_b (M B0 : Nat) (X Y : ByteArray) (B : Option Addr) (m c : Nat) (v : Value) (D : Int) (hD : 0 ≤ D ∧ D < 8) (w : World)
  (HGet : ∀ W, Below w.heap.size w W → Calls Tryz.prog 75 #[v, .string X] W fun e w' => e = .returned (.tuple #[.string ⟨#[]⟩, .bool true]) ∧ Below W.heap.size W w') :
  Calls Tryz.prog 60 #[.agg #[.string X, .string Y, .int .i64 5, .slice B m c], v, .int .i64 D] w (VOut M B0 (.ok (⟨#[]⟩ : ByteArray).data.toList) w) := by
 have hb0 : Below w.heap.size w (w.alloc (.cells #[.string X, .string Y, .int .i64 5, .slice B m c] 73)) := (Below.refl _ _).alloc (Nat.le_refl _) _
 have hx0 : PBx (w.alloc (.cells #[.string X, .string Y, .int .i64 5, .slice B m c] 73)) w.heap.size (.string X) (.string Y) (.int .i64 5) (.slice B m c) := heap_alloc_new w _
 have HG := hid (HGet _ hb0)
 have HB0 := hid hb0
 have HX0 := hid hx0
 obtain ⟨x0, x1, x2, x3⟩ := hx0.cells
 obtain ⟨hD0, hD8⟩ := hD
 have hDe : (D == 8) = false := beq_eq_false_iff_ne.2 (by omega)
 clear hb0 hx0 HGet
 have hV : ((⟨#[]⟩ : ByteArray).toList != ByteArray.toList ⟨#[]⟩) = false := by simp
 have hV2 : ((⟨#[]⟩ : ByteArray).toList == ByteArray.toList ⟨#[]⟩) = true := beq_self_eq_true _
 go_enter Tryz.func60, Tryz.ntmps60
 go_wp2_with first
  | (go_at_call 75; refine HG.out.mono ?_; rintro e w2 ⟨rfl, hb2⟩; have HX2 := hid (HX0.out.go hb2); have HB2 := hid (HB0.out.trans (hb2.mono HB0.out.size)); clear hb2 x0 x1 x2 x3; obtain ⟨x0, x1, x2, x3⟩ := HX2.out.cells)
  | (go_at_call 76; refine (isB_5 _).mono ?_; rintro e w2 ⟨rfl, rfl⟩)
 go_ret
 refine ⟨HB2.out, ?_⟩
 show Ending.returned _ = Ending.returned (.string (ba (⟨#[]⟩ : ByteArray).data.toList))
 rw [ba_of]
 rfl
theorem pv_5_f (M B0 : Nat) (X Y : ByteArray) (B : Option Addr) (m c : Nat) (v : Value) (D : Int) (hD : 0 ≤ D ∧ D < 8) (w : World) (V : ByteArray) (hV : V.toList.isEmpty = false)
  (HGet : ∀ W, Below w.heap.size w W → Calls Tryz.prog 75 #[v, .string X] W fun e w' => e = .returned (.tuple #[.string V, .bool true]) ∧ Below W.heap.size W w') :
  Calls Tryz.prog 60 #[.agg #[.string X, .string Y, .int .i64 5, .slice B m c], v, .int .i64 D] w (VOut M B0 (.ok V.data.toList) w) := by
 have hb0 : Below w.heap.size w (w.alloc (.cells #[.string X, .string Y, .int .i64 5, .slice B m c] 73)) := (Below.refl _ _).alloc (Nat.le_refl _) _
 have hx0 : PBx (w.alloc (.cells #[.string X, .string Y, .int .i64 5, .slice B m c] 73)) w.heap.size (.string X) (.string Y) (.int .i64 5) (.slice B m c) := heap_alloc_new w _
 have HG := hid (HGet _ hb0)
 have HB0 := hid hb0
 have HX0 := hid hx0
 obtain ⟨x0, x1, x2, x3⟩ := hx0.cells
 obtain ⟨hD0, hD8⟩ := hD
 have hDe : (D == 8) = false := beq_eq_false_iff_ne.2 (by omega)
 clear hb0 hx0 HGet
 go_enter Tryz.func60, Tryz.ntmps60
 go_wp2_with first
  | (go_at_call 75; refine HG.out.mono ?_; rintro e w2 ⟨rfl, hb2⟩; have HX2 := hid (HX0.out.go hb2); have HB2 := hid (HB0.out.trans (hb2.mono HB0.out.size)); clear hb2 x0 x1 x2 x3; obtain ⟨x0, x1, x2, x3⟩ := HX2.out.cells)
  | (go_at_call 76; refine (isB_5 _).mono ?_; rintro e w2 ⟨rfl, rfl⟩)
 go_ret
 refine ⟨HB2.out, ?_⟩
 show Ending.returned _ = Ending.returned (.string (ba V.data.toList))
 rw [ba_of]
 rfl
theorem pv_6_n (M B0 : Nat) (X Y : ByteArray) (B : Option Addr) (m c : Nat) (v : Value) (D : Int) (hD : 0 ≤ D ∧ D < 8) (w : World)
  (HGet : ∀ W, Below w.heap.size w W → Calls Tryz.prog 75 #[v, .string X] W fun e w' => e = .returned (.tuple #[.string ⟨#[]⟩, .bool false]) ∧ Below W.heap.size W w') :
  Calls Tryz.prog 60 #[.agg #[.string X, .string Y, .int .i64 6, .slice B m c], v, .int .i64 D] w (VOut M B0 (.ok []) w) := by
 have hb0 : Below w.heap.size w (w.alloc (.cells #[.string X, .string Y, .int .i64 6, .slice B m c] 73)) := (Below.refl _ _).alloc (Nat.le_refl _) _
 have hx0 : PBx (w.alloc (.cells #[.string X, .string Y, .int .i64 6, .slice B m c] 73)) w.heap.size (.string X) (.string Y) (.int .i64 6) (.slice B m c) := heap_alloc_new w _
 have HG := hid (HGet _ hb0)
 have HB0 := hid hb0
 have HX0 := hid hx0
 obtain ⟨x0, x1, x2, x3⟩ := hx0.cells
 obtain ⟨hD0, hD8⟩ := hD
 have hDe : (D == 8) = false := beq_eq_false_iff_ne.2 (by omega)
 clear hb0 hx0 HGet
 go_enter Tryz.func60, Tryz.ntmps60
 go_wp2_with first
  | (go_at_call 75; refine HG.out.mono ?_; rintro e w2 ⟨rfl, hb2⟩; have HX2 := hid (HX0.out.go hb2); have HB2 := hid (HB0.out.trans (hb2.mono HB0.out.size)); clear hb2 x0 x1 x2 x3; obtain ⟨x0, x1, x2, x3⟩ := HX2.out.cells)
  | (go_at_call 76; refine (isB_6 _).mono ?_; rintro e w2 ⟨rfl, rfl⟩)
 go_ret
 refine ⟨HB2.out, ?_⟩
 rfl
theorem pv_6_b (M B0 : Nat) (X Y : ByteArray) (B : Option Addr) (m c : Nat) (v : Value) (D : Int) (hD : 0 ≤ D ∧ D < 8) (w : World)
  (HGet : ∀ W, Below w.heap.size w W → Calls Tryz.prog 75 #[v, .string X] W fun e w' => e = .returned (.tuple #[.string ⟨#[]⟩, .bool true]) ∧ Below W.heap.size W w') :
  Calls Tryz.prog 60 #[.agg #[.string X, .string Y, .int .i64 6, .slice B m c], v, .int .i64 D] w (VOut M B0 (.ok []) w) := by
 have hb0 : Below w.heap.size w (w.alloc (.cells #[.string X, .string Y, .int .i64 6, .slice B m c] 73)) := (Below.refl _ _).alloc (Nat.le_refl _) _
 have hx0 : PBx (w.alloc (.cells #[.string X, .string Y, .int .i64 6, .slice B m c] 73)) w.heap.size (.string X) (.string Y) (.int .i64 6) (.slice B m c) := heap_alloc_new w _
 have HG := hid (HGet _ hb0)
 have HB0 := hid hb0
 have HX0 := hid hx0
 obtain ⟨x0, x1, x2, x3⟩ := hx0.cells
 obtain ⟨hD0, hD8⟩ := hD
 have hDe : (D == 8) = false := beq_eq_false_iff_ne.2 (by omega)
 clear hb0 hx0 HGet
 have hV : ((⟨#[]⟩ : ByteArray).toList != ByteArray.toList ⟨#[]⟩) = false := by simp
 have hV2 : ((⟨#[]⟩ : ByteArray).toList == ByteArray.toList ⟨#[]⟩) = true := beq_self_eq_true _
 go_enter Tryz.func60, Tryz.ntmps60
 go_wp2_with first
  | (go_at_call 75; refine HG.out.mono ?_; rintro e w2 ⟨rfl, hb2⟩; have HX2 := hid (HX0.out.go hb2); have HB2 := hid (HB0.out.trans (hb2.mono HB0.out.size)); clear hb2 x0 x1 x2 x3; obtain ⟨x0, x1, x2, x3⟩ := HX2.out.cells)
  | (go_at_call 76; refine (isB_6 _).mono ?_; rintro e w2 ⟨rfl, rfl⟩)
 go_ret
 refine ⟨HB2.out, ?_⟩
 rfl
theorem pv_6_f (M B0 : Nat) (X Y : ByteArray) (B : Option Addr) (m c : Nat) (v : Value) (D : Int) (hD : 0 ≤ D ∧ D < 8) (w : World) (V : ByteArray) (hV : V.toList.isEmpty = false) (R : SR) (HSub : ∀ W, Below w.heap.size w W → Calls Tryz.prog 45 #[.slice B m c, v, .int .i64 (D + 1)] W (VOut M B0 R W))
  (HGet : ∀ W, Below w.heap.size w W → Calls Tryz.prog 75 #[v, .string X] W fun e w' => e = .returned (.tuple #[.string V, .bool true]) ∧ Below W.heap.size W w') :
  Calls Tryz.prog 60 #[.agg #[.string X, .string Y, .int .i64 6, .slice B m c], v, .int .i64 D] w (VOut M B0 R w) := by
 have hb0 : Below w.heap.size w (w.alloc (.cells #[.string X, .string Y, .int .i64 6, .slice B m c] 73)) := (Below.refl _ _).alloc (Nat.le_refl _) _
 have hx0 : PBx (w.alloc (.cells #[.string X, .string Y, .int .i64 6, .slice B m c] 73)) w.heap.size (.string X) (.string Y) (.int .i64 6) (.slice B m c) := heap_alloc_new w _
 have HG := hid (HGet _ hb0)
 have HB0 := hid hb0
 have HX0 := hid hx0
 obtain ⟨x0, x1, x2, x3⟩ := hx0.cells
 obtain ⟨hD0, hD8⟩ := hD
 have hDe : (D == 8) = false := beq_eq_false_iff_ne.2 (by omega)
 clear hb0 hx0 HGet
 have hDw : IntKind.i64.wrap (D + 1) = D + 1 := IntWalk.i64_in _ (by omega)
 go_enter Tryz.func60, Tryz.ntmps60
 cases R with
 | ok t =>
  go_wp2_with first
   | (go_at_call 75; refine HG.out.mono ?_; rintro e w2 ⟨rfl, hb2⟩; have HX2 := hid (HX0.out.go hb2); have HB2 := hid (HB0.out.trans (hb2.mono HB0.out.size)); clear hb2 x0 x1 x2 x3; obtain ⟨x0, x1, x2, x3⟩ := HX2.out.cells)
   | (go_at_call 76; refine (isB_6 _).mono ?_; rintro e w2 ⟨rfl, rfl⟩)
   | (go_at_call 45; refine (HSub _ HB2.out).mono ?_; rintro e w3 ⟨hb3, rfl⟩)
  go_ret
  exact ⟨HB2.out.trans (hb3.mono HB2.out.size), rfl⟩
 | err er ky y =>
  go_wp2_with first
   | (go_at_call 75; refine HG.out.mono ?_; rintro e w2 ⟨rfl, hb2⟩; have HX2 := hid (HX0.out.go hb2); have HB2 := hid (HB0.out.trans (hb2.mono HB0.out.size)); clear hb2 x0 x1 x2 x3; obtain ⟨x0, x1, x2, x3⟩ := HX2.out.cells)
   | (go_at_call 76; refine (isB_6 _).mono ?_; rintro e w2 ⟨rfl, rfl⟩)
   | (go_at_call 45; refine (HSub _ HB2.out).mono ?_; rintro e w3 ⟨hb3, k', t', op', A', n', c', s', rfl, hk, hs, ht⟩)
  refine ⟨rfl, HB2.out.trans (hb3.mono HB2.out.size), _, t', op', A', n', c', s', rfl, by first | rfl | exact hk, hs, ht⟩
theorem pv_7_n (M B0 : Nat) (X Y : ByteArray) (B : Option Addr) (m c : Nat) (v : Value) (D : Int) (hD : 0 ≤ D ∧ D < 8) (w : World)
  (HGet : ∀ W, Below w.heap.size w W → Calls Tryz.prog 75 #[v, .string X] W fun e w' => e = .returned (.tuple #[.string ⟨#[]⟩, .bool false]) ∧ Below W.heap.size W w') :
  Calls Tryz.prog 60 #[.agg #[.string X, .string Y, .int .i64 7, .slice B m c], v, .int .i64 D] w (VOut M B0 (.ok []) w) := by
 have hb0 : Below w.heap.size w (w.alloc (.cells #[.string X, .string Y, .int .i64 7, .slice B m c] 73)) := (Below.refl _ _).alloc (Nat.le_refl _) _
 have hx0 : PBx (w.alloc (.cells #[.string X, .string Y, .int .i64 7, .slice B m c] 73)) w.heap.size (.string X) (.string Y) (.int .i64 7) (.slice B m c) := heap_alloc_new w _
 have HG := hid (HGet _ hb0)
 have HB0 := hid hb0
 have HX0 := hid hx0
 obtain ⟨x0, x1, x2, x3⟩ := hx0.cells
 obtain ⟨hD0, hD8⟩ := hD
 have hDe : (D == 8) = false := beq_eq_false_iff_ne.2 (by omega)
 clear hb0 hx0 HGet
 go_enter Tryz.func60, Tryz.ntmps60
 go_wp2_with first
  | (go_at_call 75; refine HG.out.mono ?_; rintro e w2 ⟨rfl, hb2⟩; have HX2 := hid (HX0.out.go hb2); have HB2 := hid (HB0.out.trans (hb2.mono HB0.out.size)); clear hb2 x0 x1 x2 x3; obtain ⟨x0, x1, x2, x3⟩ := HX2.out.cells)
  | (go_at_call 76; refine (isB_7 _).mono ?_; rintro e w2 ⟨rfl, rfl⟩)
 go_ret
 refine ⟨HB2.out, ?_⟩
 rfl
theorem pv_7_b (M B0 : Nat) (X Y : ByteArray) (B : Option Addr) (m c : Nat) (v : Value) (D : Int) (hD : 0 ≤ D ∧ D < 8) (w : World) (R : SR) (HSub : ∀ W, Below w.heap.size w W → Calls Tryz.prog 45 #[.slice B m c, v, .int .i64 (D + 1)] W (VOut M B0 R W))
  (HGet : ∀ W, Below w.heap.size w W → Calls Tryz.prog 75 #[v, .string X] W fun e w' => e = .returned (.tuple #[.string ⟨#[]⟩, .bool true]) ∧ Below W.heap.size W w') :
  Calls Tryz.prog 60 #[.agg #[.string X, .string Y, .int .i64 7, .slice B m c], v, .int .i64 D] w (VOut M B0 R w) := by
 have hb0 : Below w.heap.size w (w.alloc (.cells #[.string X, .string Y, .int .i64 7, .slice B m c] 73)) := (Below.refl _ _).alloc (Nat.le_refl _) _
 have hx0 : PBx (w.alloc (.cells #[.string X, .string Y, .int .i64 7, .slice B m c] 73)) w.heap.size (.string X) (.string Y) (.int .i64 7) (.slice B m c) := heap_alloc_new w _
 have HG := hid (HGet _ hb0)
 have HB0 := hid hb0
 have HX0 := hid hx0
 obtain ⟨x0, x1, x2, x3⟩ := hx0.cells
 obtain ⟨hD0, hD8⟩ := hD
 have hDe : (D == 8) = false := beq_eq_false_iff_ne.2 (by omega)
 clear hb0 hx0 HGet
 have hV : ((⟨#[]⟩ : ByteArray).toList != ByteArray.toList ⟨#[]⟩) = false := by simp
 have hV2 : ((⟨#[]⟩ : ByteArray).toList == ByteArray.toList ⟨#[]⟩) = true := beq_self_eq_true _
 have hDw : IntKind.i64.wrap (D + 1) = D + 1 := IntWalk.i64_in _ (by omega)
 go_enter Tryz.func60, Tryz.ntmps60
 cases R with
 | ok t =>
  go_wp2_with first
   | (go_at_call 75; refine HG.out.mono ?_; rintro e w2 ⟨rfl, hb2⟩; have HX2 := hid (HX0.out.go hb2); have HB2 := hid (HB0.out.trans (hb2.mono HB0.out.size)); clear hb2 x0 x1 x2 x3; obtain ⟨x0, x1, x2, x3⟩ := HX2.out.cells)
   | (go_at_call 76; refine (isB_7 _).mono ?_; rintro e w2 ⟨rfl, rfl⟩)
   | (go_at_call 45; refine (HSub _ HB2.out).mono ?_; rintro e w3 ⟨hb3, rfl⟩)
  go_ret
  exact ⟨HB2.out.trans (hb3.mono HB2.out.size), rfl⟩
 | err er ky y =>
  go_wp2_with first
   | (go_at_call 75; refine HG.out.mono ?_; rintro e w2 ⟨rfl, hb2⟩; have HX2 := hid (HX0.out.go hb2); have HB2 := hid (HB0.out.trans (hb2.mono HB0.out.size)); clear hb2 x0 x1 x2 x3; obtain ⟨x0, x1, x2, x3⟩ := HX2.out.cells)
   | (go_at_call 76; refine (isB_7 _).mono ?_; rintro e w2 ⟨rfl, rfl⟩)
   | (go_at_call 45; refine (HSub _ HB2.out).mono ?_; rintro e w3 ⟨hb3, k', t', op', A', n', c', s', rfl, hk, hs, ht⟩)
  refine ⟨rfl, HB2.out.trans (hb3.mono HB2.out.size), _, t', op', A', n', c', s', rfl, by first | rfl | exact hk, hs, ht⟩
theorem pv_7_f (M B0 : Nat) (X Y : ByteArray) (B : Option Addr) (m c : Nat) (v : Value) (D : Int) (hD : 0 ≤ D ∧ D < 8) (w : World) (V : ByteArray) (hV : V.toList.isEmpty = false) (R : SR) (HSub : ∀ W, Below w.heap.size w W → Calls Tryz.prog 45 #[.slice B m c, v, .int .i64 (D + 1)] W (VOut M B0 R W))
  (HGet : ∀ W, Below w.heap.size w W → Calls Tryz.prog 75 #[v, .string X] W fun e w' => e = .returned (.tuple #[.string V, .bool true]) ∧ Below W.heap.size W w') :
  Calls Tryz.prog 60 #[.agg #[.string X, .string Y, .int .i64 7, .slice B m c], v, .int .i64 D] w (VOut M B0 R w) := by
 have hb0 : Below w.heap.size w (w.alloc (.cells #[.string X, .string Y, .int .i64 7, .slice B m c] 73)) := (Below.refl _ _).alloc (Nat.le_refl _) _
 have hx0 : PBx (w.alloc (.cells #[.string X, .string Y, .int .i64 7, .slice B m c] 73)) w.heap.size (.string X) (.string Y) (.int .i64 7) (.slice B m c) := heap_alloc_new w _
 have HG := hid (HGet _ hb0)
 have HB0 := hid hb0
 have HX0 := hid hx0
 obtain ⟨x0, x1, x2, x3⟩ := hx0.cells
 obtain ⟨hD0, hD8⟩ := hD
 have hDe : (D == 8) = false := beq_eq_false_iff_ne.2 (by omega)
 clear hb0 hx0 HGet
 have hDw : IntKind.i64.wrap (D + 1) = D + 1 := IntWalk.i64_in _ (by omega)
 go_enter Tryz.func60, Tryz.ntmps60
 cases R with
 | ok t =>
  go_wp2_with first
   | (go_at_call 75; refine HG.out.mono ?_; rintro e w2 ⟨rfl, hb2⟩; have HX2 := hid (HX0.out.go hb2); have HB2 := hid (HB0.out.trans (hb2.mono HB0.out.size)); clear hb2 x0 x1 x2 x3; obtain ⟨x0, x1, x2, x3⟩ := HX2.out.cells)
   | (go_at_call 76; refine (isB_7 _).mono ?_; rintro e w2 ⟨rfl, rfl⟩)
   | (go_at_call 45; refine (HSub _ HB2.out).mono ?_; rintro e w3 ⟨hb3, rfl⟩)
  go_ret
  exact ⟨HB2.out.trans (hb3.mono HB2.out.size), rfl⟩
 | err er ky y =>
  go_wp2_with first
   | (go_at_call 75; refine HG.out.mono ?_; rintro e w2 ⟨rfl, hb2⟩; have HX2 := hid (HX0.out.go hb2); have HB2 := hid (HB0.out.trans (hb2.mono HB0.out.size)); clear hb2 x0 x1 x2 x3; obtain ⟨x0, x1, x2, x3⟩ := HX2.out.cells)
   | (go_at_call 76; refine (isB_7 _).mono ?_; rintro e w2 ⟨rfl, rfl⟩)
   | (go_at_call 45; refine (HSub _ HB2.out).mono ?_; rintro e w3 ⟨hb3, k', t', op', A', n', c', s', rfl, hk, hs, ht⟩)
  refine ⟨rfl, HB2.out.trans (hb3.mono HB2.out.size), _, t', op', A', n', c', s', rfl, by first | rfl | exact hk, hs, ht⟩
end
end Go.Proofs.YtkcilmmaggmmoaaGreatDoor
