/- SubExp -/
import Derived.Test.YtkcilmmaggmmoaaDoorPT1
set_option linter.unusedVariables false
set_option linter.unusedSimpArgs false
set_option maxRecDepth 100000
set_option maxHeartbeats 16000000
open Go.Lib (hid)
namespace Go.Proofs.YtkcilmmaggmmoaaDoor
section
open Go.RowKit Go.Lib
theorem ecatch_idle (p0 p1 : Value) (w : World) :
  CallsD Tryd.prog 20 #[p0, p1] .returning w fun e u' w' => e = .returned (.tuple #[]) ∧ u' = .returning ∧ Below w.heap.size w w' := by
 have hb : Below w.heap.size w (w.alloc (.cells #[.int .i64 0, .string ⟨#[]⟩, .string ⟨#[]⟩, .int .i64 0, .slice none 0 0] 56)) := (Below.refl _ _).alloc (Nat.le_refl _) _
 have HB := hid hb
 clear hb
 have hfr : ∀ (a b : Value), #[a, b] ++ Array.replicate (Tryd.f20.ntmps - #[a, b].size) undef = #[a, b, undef, undef, undef, undef, undef, undef, undef, undef, undef, undef] := fun a b => by kernel_rfl
 refine callsD_of_wpS Tryd.func20 rfl fun c₀ cs hu => ?_
 rw [hfr]
 apply wpS_seq
 refine wpS_region_rec rfl rfl (.inr ⟨by cases cs <;> simp [recoverD, hu], rfl, rfl⟩) ?_
 have hta := ta_nil
 go_wp2
 refine wpS_of_wp ?_
 go_wp2
 try simp only [Exit.inBlock, Exit.then]
 refine ⟨rfl, _, rfl, .tuple #[], by simp [results, Tryd.results20, go_sem], rfl, hu, HB.out⟩
theorem boxes2 (w : World) (t0 t1 : TypeId) (a b : Value) : Bx2 ((w.alloc (.cells #[a] t0)).alloc (.cells #[b] t1)) w.heap.size t0 t1 a b ∧ Below w.heap.size w ((w.alloc (.cells #[a] t0)).alloc (.cells #[b] t1)) := by
 refine ⟨⟨?_, ?_⟩, ((Below.refl _ w).alloc (Nat.le_refl _) _).alloc (by simp) _⟩
 ·exact (Below.heap_alloc _ _ _ (by simp)).trans (heap_alloc_new w _)
 ·have h9 := heap_alloc_new (w.alloc (.cells #[a] t0)) (.cells #[b] t1)
  rw [show (w.alloc (.cells #[a] t0)).heap.size = w.heap.size + 1 by simp] at h9
  exact h9
section
variable (l e : Value) (w : World)
theorem Expand_fail (er : Int)
  (HV : ∀ W, Below w.heap.size w W → Calls Tryd.prog 21 #[l, e, .int .i64 0] W fun x W' => (∃ k t op A n c, x = .panicked [{ v := AbV er k t op (.slice A n c), recovered := false }]) ∧ Below W.heap.size W W') :
  Calls Tryd.prog 11 #[l, e] w fun x w' => x = .returned (.tuple #[.string ⟨#[]⟩, .int .i64 er]) ∧ Below w.heap.size w w' := by
 have hmf : ∀ (fn : Fn) (first cap : Array Value) (w : World), (Instr.makeFunc fn first cap).run Tryd.prog w = .ok (.func fn first cap) w := fun _ _ _ _ => rfl
 have HB := hid (boxes2 w 9 26 (.string ⟨#[]⟩) (.int .i64 0))
 go_enter_defers Tryd.func11, Tryd.ntmps11
 go_wp2_with fail
 refine (HV _ HB.out.2).mono ?_
 rintro x w4 ⟨⟨k, t, op, A, n, c, rfl⟩, hb4⟩
 have hB4 := HB.out.1.go hb4
 have HW4 := hid (HB.out.2.trans (hb4.mono HB.out.2.size))
 refine leaves_cons (f := 20) (args := #[.pointer (some ⟨w.heap.size, 0, none⟩), .pointer (some ⟨w.heap.size + 1, 0, none⟩)]) (by simp) (by simp [go_sem]) ?_
 refine (ecatch_fail w.heap.size _ _ k t op A n c er [] w4 hB4).mono ?_
 rintro x u' w5 ⟨rfl, rfl, hb5, hB5⟩
 obtain ⟨y0, y1⟩ := hB5.cells
 simp [Leaves, settle, results, Tryd.results11, go_sem, y0, y1]
 exact HW4.out.trans hb5
theorem Expand_ok (q : ByteArray)
  (HV : ∀ W, Below w.heap.size w W → Calls Tryd.prog 21 #[l, e, .int .i64 0] W fun x W' => x = .returned (.string q) ∧ Below W.heap.size W W') :
  Calls Tryd.prog 11 #[l, e] w fun x w' => x = .returned (.tuple #[.string q, .int .i64 0]) ∧ Below w.heap.size w w' := by
 have hmf : ∀ (fn : Fn) (first cap : Array Value) (w : World), (Instr.makeFunc fn first cap).run Tryd.prog w = .ok (.func fn first cap) w := fun _ _ _ _ => rfl
 have HB := hid (boxes2 w 9 26 (.string ⟨#[]⟩) (.int .i64 0))
 go_enter_defers Tryd.func11, Tryd.ntmps11
 go_wp2_with fail
 refine (HV _ HB.out.2).mono ?_
 rintro x w4 ⟨rfl, hb4⟩
 have hB4 := HB.out.1.go hb4
 have HW4 := hid (HB.out.2.trans (hb4.mono HB.out.2.size))
 have HB4 := hid hB4
 obtain ⟨y0, y1⟩ := hB4.cells
 obtain ⟨f0, f1⟩ := hB4.frozen
 clear hB4 hb4
 go_wp2
 have h8 := put2'_bx HB4.out (.string q) (.int .i64 0)
 have h9 := put2'_below HW4.out (Nat.le_refl w.heap.size) (.string q) (.int .i64 0)
 obtain ⟨W5, hW5⟩ : ∃ W5, put2' w4 w.heap.size (.string q) (.int .i64 0) = W5 := ⟨_, rfl⟩
 rw [hW5] at h8 h9
 unfold put2' at hW5
 rw [hW5]
 clear hW5 y0 y1 f0 f1
 refine leaves_cons (f := 20) (args := #[.pointer (some ⟨w.heap.size, 0, none⟩), .pointer (some ⟨w.heap.size + 1, 0, none⟩)]) (by simp) (by simp [go_sem]) ?_
 refine (ecatch_idle _ _ W5).mono ?_
 rintro x u' w6 ⟨rfl, rfl, hb6⟩
 obtain ⟨y0, y1⟩ := (h8.go hb6).cells
 simp [Leaves, settle, results, Tryd.results11, go_sem, y0, y1]
 exact h9.trans (hb6.mono h9.size)
end
end
end Go.Proofs.YtkcilmmaggmmoaaDoor
