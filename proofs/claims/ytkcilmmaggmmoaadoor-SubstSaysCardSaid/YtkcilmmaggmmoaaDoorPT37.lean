/- SubNds -/
import Derived.Deep.Cut
import Derived.Deep.RegionHeld3
import Derived.Test.YtkcilmmaggmmoaaDoorPT17
set_option linter.unusedVariables false
set_option linter.unusedSimpArgs false
set_option maxRecDepth 100000
set_option maxHeartbeats 16000000
open Go.Lib (hid)
namespace Go.Proofs.YtkcilmmaggmmoaaDoor
section
open Go.RowKit Go.Lib
def CauC (X : Nat) (k : ByteArray) (A : Option Addr) (n c : Nat) (W : World) : Prop := W.cell? ⟨X, 1, none⟩ = some (.string k) ∧ W.cell? ⟨X, 4, none⟩ = some (.slice A n c)
theorem CauC.set {X g i : Nat} {k : ByteArray} {A : Option Addr} {n c : Nat} {W : World} {v : Value} (h : CauC X k A n c W) (hn : X ≠ g) : CauC X k A n c (W.setCell ⟨g, i, none⟩ v) := by
 have hh : (W.setCell ⟨g, i, none⟩ v).heap[X]? = W.heap[X]? := Below.heap_setCell _ _ _ _ hn
 have e : ∀ j, (W.setCell ⟨g, i, none⟩ v).cell? ⟨X, j, none⟩ = W.cell? ⟨X, j, none⟩ := fun j => by unfold World.cell?; rw [hh]
 exact ⟨(e 1).trans h.1, (e 4).trans h.2⟩
theorem ncatch_fail (g : Nat) (s0 e0 : Value) (k t : ByteArray) (op : Int) (A : Option Addr) (n c : Nat) (er : Int) (older : List PanicEntry) (w : World) (h : Bx2 w g 9 9 s0 e0) (y : ByteArray)
  (HT : ∀ W, Below w.heap.size w W → Calls Tryd.prog 15 #[.slice A n c] W fun e W' => e = .returned (.string y) ∧ Below W.heap.size W W') :
  CallsD Tryd.prog 22 #[.pointer (some ⟨g, 0, none⟩), .pointer (some ⟨g + 1, 0, none⟩)]
   (.panicking ({ v := AbV er k t op (.slice A n c), recovered := false } :: older)) w fun e u' w' =>
   e = .returned (.tuple #[]) ∧ u' = .panicking ({ v := AbV er k t op (.slice A n c), recovered := true } :: older) ∧ Below g w w' ∧ Bx2 w' g 9 9 (.string k) (.string y) := by
 have hlt := h.lt
 obtain ⟨W1, hW1⟩ : ∃ W1, w.alloc (.cells #[.int .i64 er, .string k, .string t, .int .i64 op, .slice A n c] 56) = W1 := ⟨_, rfl⟩
 have hb1 : Below w.heap.size w W1 := by rw [← hW1]; exact (Below.refl _ _).alloc (Nat.le_refl _) _
 have hr : W1.heap[w.heap.size]? = some (.cells #[.int .i64 er, .string k, .string t, .int .i64 op, .slice A n c] 56 (0, 0)) := by rw [← hW1]; exact abox w er k t op _
 have h1 := h.go hb1
 have hX : w.heap.size < W1.heap.size := (Array.getElem?_eq_some_iff.1 hr).1
 have hS0 : CauC w.heap.size k A n c W1.drew := ⟨cell_of_row W1 _ 1 _ _ (0, 0) hr, cell_of_row W1 _ 4 _ _ (0, 0) hr⟩
 have HT1 : Hid (∀ W, Below W1.heap.size W1 W → Calls Tryd.prog 15 #[.slice A n c] W fun e W' => e = .returned (.string y) ∧ Below W1.heap.size W1 W' ∧ Bx2 W' g 9 9 s0 e0 ∧ CauC w.heap.size k A n c W') := hid (fun W hW =>
  (HT W (hb1.trans (hW.mono hb1.size))).mono (by
   rintro e W' ⟨he, hb⟩
   have hb9 := hW.trans (hb.mono hW.size)
   exact ⟨he, hb9, h1.go hb9, (hb9.cell (p := ⟨w.heap.size, 1, none⟩) hX).trans hS0.1, (hb9.cell (p := ⟨w.heap.size, 4, none⟩) hX).trans hS0.2⟩))
 have HB := hid (And.intro h1 (And.intro hb1 hlt))
 have HW1 := hid hW1
 have HSZ : Hid (w.heap.size ≤ W1.heap.size) := hid hb1.size
 have hbd : Below W1.heap.size W1 W1.drew := ⟨rfl, rfl, rfl, Nat.le_refl _, fun _ _ => rfl⟩
 have n0 : ¬ g = w.heap.size := by omega
 have n1 : ¬ g + 1 = w.heap.size := by omega
 have m0 : w.heap.size ≠ g := by omega
 have m1 : w.heap.size ≠ g + 1 := by omega
 clear h h1 hr hb1 hlt hW1 HT hX
 have hfr : ∀ (a b : Value), #[a, b] ++ Array.replicate (Tryd.f22.ntmps - #[a, b].size) undef = #[a, b, undef, undef, undef, undef, undef, undef, undef, undef, undef, undef, undef, undef, undef, undef, undef] := fun a b => by kernel_rfl
 refine callsD_of_wpS Tryd.func22 rfl fun c₀ cs hu => ?_
 rw [hfr]
 apply wpS_seq
 refine wpS_region_rec rfl rfl (.inl (by simp [recoverD, hu]; exact ⟨rfl, rfl⟩)) ?_
 have hta := ta_ab
 simp only [AbV]
 go_wp2
 refine wpS_of_wp ?_
 rw [HW1.out]
 go_upto_region 2 with fail
 generalize w.heap.size = X at *
 go_region_held3 (fun W => W.cell? ⟨X, 1, none⟩ = some (.string k) ∧ W.cell? ⟨X, 4, none⟩ = some (.slice A n c)) (first | exact hS0 | exact hS2 | exact hS2.set m0 | exact (hS2.set m0).set m1 | assumption) (first | (go_at_call 15; refine (HT1.out _ hbd).mono ?_; rintro e w2 ⟨rfl, hb2, hB2, hS2⟩; have HB2 := hid (And.intro hB2 hb2); obtain ⟨y0, y1⟩ := hB2.cells; obtain ⟨f0, f1⟩ := hB2.frozen; have y1' := (hB2.s (.string k)).cells.2; have f1' := (hB2.s (.string k)).frozen.2; clear hb2 hB2))
 all_goals
  refine ⟨rfl, _, rfl, .tuple #[], by simp [results, Tryd.results22, go_sem], rfl, rfl, ?_, ?_⟩
  ·exact put2'_below ((HB.out.2.1.trans (HB2.out.2.mono HSZ.out)).mono (by have := HB.out.2.2; omega)) (Nat.le_refl g) (.string k) (.string y)
  ·exact put2'_bx HB2.out.1 (.string k) (.string y)
theorem ncatch_idle (p0 p1 : Value) (w : World) :
  CallsD Tryd.prog 22 #[p0, p1] .returning w fun e u' w' => e = .returned (.tuple #[]) ∧ u' = .returning ∧ Below w.heap.size w w' := by
 have hb : Below w.heap.size w (w.alloc (.cells #[.int .i64 0, .string ⟨#[]⟩, .string ⟨#[]⟩, .int .i64 0, .slice none 0 0] 56)) := (Below.refl _ _).alloc (Nat.le_refl _) _
 have HB := hid hb
 clear hb
 have hfr : ∀ (a b : Value), #[a, b] ++ Array.replicate (Tryd.f22.ntmps - #[a, b].size) undef = #[a, b, undef, undef, undef, undef, undef, undef, undef, undef, undef, undef, undef, undef, undef, undef, undef] := fun a b => by kernel_rfl
 refine callsD_of_wpS Tryd.func22 rfl fun c₀ cs hu => ?_
 rw [hfr]
 apply wpS_seq
 refine wpS_region_rec rfl rfl (.inr ⟨by cases cs <;> simp [recoverD, hu], rfl, rfl⟩) ?_
 have hta := ta_nil
 go_wp2
 refine wpS_of_wp ?_
 go_wp2
 try simp only [Exit.inBlock, Exit.then]
 refine ⟨rfl, _, rfl, .tuple #[], by simp [results, Tryd.results22, go_sem], rfl, hu, HB.out⟩
section
variable (l e : Value) (w : World)
theorem Needs_fail (er : Int) (k y : ByteArray)
  (HV : ∀ W, Below w.heap.size w W → Calls Tryd.prog 21 #[l, e, .int .i64 0] W fun x W' => (∃ t op A n c, x = .panicked [{ v := AbV er k t op (.slice A n c), recovered := false }] ∧
   ∀ W2, Below W'.heap.size W' W2 → Calls Tryd.prog 15 #[.slice A n c] W2 fun e W3 => e = .returned (.string y) ∧ Below W2.heap.size W2 W3) ∧ Below W.heap.size W W') :
  Calls Tryd.prog 12 #[l, e] w fun x w' => x = .returned (.tuple #[.string k, .string y]) ∧ Below w.heap.size w w' := by
 have hmf : ∀ (fn : Fn) (first cap : Array Value) (w : World), (Instr.makeFunc fn first cap).run Tryd.prog w = .ok (.func fn first cap) w := fun _ _ _ _ => rfl
 have HB := hid (boxes2 w 9 9 (.string ⟨#[]⟩) (.string ⟨#[]⟩))
 go_enter_defers Tryd.func12, Tryd.ntmps12
 go_wp2_with fail
 refine (HV _ HB.out.2).mono ?_
 rintro x w4 ⟨⟨t, op, A, n, c, rfl, hT⟩, hb4⟩
 have hB4 := HB.out.1.go hb4
 have HW4 := hid (HB.out.2.trans (hb4.mono HB.out.2.size))
 refine leaves_cons (f := 22) (args := #[.pointer (some ⟨w.heap.size, 0, none⟩), .pointer (some ⟨w.heap.size + 1, 0, none⟩)]) (by simp) (by simp [go_sem]) ?_
 refine (ncatch_fail w.heap.size _ _ k t op A n c er [] w4 hB4 y hT).mono ?_
 rintro x u' w5 ⟨rfl, rfl, hb5, hB5⟩
 obtain ⟨y0, y1⟩ := hB5.cells
 simp [Leaves, settle, results, Tryd.results12, go_sem, y0, y1]
 exact HW4.out.trans hb5
theorem Needs_ok (q : ByteArray)
  (HV : ∀ W, Below w.heap.size w W → Calls Tryd.prog 21 #[l, e, .int .i64 0] W fun x W' => x = .returned (.string q) ∧ Below W.heap.size W W') :
  Calls Tryd.prog 12 #[l, e] w fun x w' => x = .returned (.tuple #[.string ⟨#[]⟩, .string ⟨#[]⟩]) ∧ Below w.heap.size w w' := by
 have hmf : ∀ (fn : Fn) (first cap : Array Value) (w : World), (Instr.makeFunc fn first cap).run Tryd.prog w = .ok (.func fn first cap) w := fun _ _ _ _ => rfl
 have HB := hid (boxes2 w 9 9 (.string ⟨#[]⟩) (.string ⟨#[]⟩))
 go_enter_defers Tryd.func12, Tryd.ntmps12
 go_wp2_with fail
 refine (HV _ HB.out.2).mono ?_
 rintro x w4 ⟨rfl, hb4⟩
 have hB4 := HB.out.1.go hb4
 have HW4 := hid (HB.out.2.trans (hb4.mono HB.out.2.size))
 have HB4 := hid hB4
 obtain ⟨y0, y1⟩ := hB4.cells
 obtain ⟨f0, f1⟩ := hB4.frozen
 clear hB4 hb4
 go_wp2
 have h8 := put2'_bx HB4.out (.string ⟨#[]⟩) (.string ⟨#[]⟩)
 have h9 := put2'_below HW4.out (Nat.le_refl w.heap.size) (.string ⟨#[]⟩) (.string ⟨#[]⟩)
 obtain ⟨W5, hW5⟩ : ∃ W5, put2' w4 w.heap.size (.string ⟨#[]⟩) (.string ⟨#[]⟩) = W5 := ⟨_, rfl⟩
 rw [hW5] at h8 h9
 unfold put2' at hW5
 rw [hW5]
 clear hW5 y0 y1 f0 f1
 refine leaves_cons (f := 22) (args := #[.pointer (some ⟨w.heap.size, 0, none⟩), .pointer (some ⟨w.heap.size + 1, 0, none⟩)]) (by simp) (by simp [go_sem]) ?_
 refine (ncatch_idle _ _ W5).mono ?_
 rintro x u' w6 ⟨rfl, rfl, hb6⟩
 obtain ⟨y0, y1⟩ := (h8.go hb6).cells
 simp [Leaves, settle, results, Tryd.results12, go_sem, y0, y1]
 exact h9.trans (hb6.mono h9.size)
end
end
end Go.Proofs.YtkcilmmaggmmoaaDoor
