/- SubCat, SubExp -/
import Derived.Below
import Derived.BigQuiet
import Derived.BigRegion
import Derived.Deep.QuietTactic
import Derived.Defers
import Derived.Lib.BufferMore
import Derived.Lib.Hide
import Derived.Lib.OwnBridge
import Derived.Recover
import Derived.RegionTactic
import Derived.Test.YtkcilmmaggmmoaaGreatDoorProg
import Derived.WalkKit
import Derived.WalkLawsBesides
set_option linter.unusedVariables false
set_option linter.unusedSimpArgs false
set_option maxRecDepth 100000
set_option maxHeartbeats 16000000
open Go.Lib (hid)
namespace Go.Proofs.YtkcilmmaggmmoaaGreatDoor
section
open Go.RowKit Go.Lib
theorem wpS_region_rec {P : Program} {Q : Exit → Act → List Frame → World → Prop} {a : Act} {cs cs' : List Frame} {w : World} {id : Nat} {o : Oper} {l : List Oper} {v : Value}
  (hw : Region.wanted o (yielded (o :: l).toArray a.tmps) = true) (hr : (execOp a.eval o).run P w = .ok .recover w)
  (hs : recoverD cs = some (v, cs') ∨ (recoverD cs = none ∧ v = .nilIface ∧ cs' = cs))
  (h : wpList P (o :: l).toArray (fun e a' w' => Q e a' cs' w') l (a.put o.dst v) w) : (Code.region id (o :: l).toArray false).wpS P Q a cs w := by
 intro b k hb hro
 have ho : (o :: l).toArray[0]? = some o := by simp
 have hl := wpOps_eq_wpList (P := P) (ops := (o :: l).toArray) (Q := fun e a' w' => Q e a' cs' w') l 1 (fun j => by simp [Nat.add_comm 1 j])
 obtain ⟨e, a', w'', hq, harr⟩ := wp_ops (P := P) (ops := (o :: l).toArray) (Q := fun e a' w' => Q e a' cs' w') (List.range' 1 l.length) (a.put o.dst v) w (by rw [hl]; exact h) b k cs'
 have hg := stepG_op (P := P) (b := b) (k := k) (cs := cs) (w := w) (rest := List.range' 1 l.length) ho hw
 have hfin : ∀ v, (b.at a (.inRegion (o :: l).toArray (0 :: List.range' 1 l.length) :: k)).finish v = b.at (a.put o.dst v) (.inRegion (o :: l).toArray (List.range' 1 l.length) :: k) := by
  intro v; rw [Frame.finish_at, ho]; rfl
 have hk : (b.at a (.inRegion (o :: l).toArray (0 :: List.range' 1 l.length) :: k)).kind = .deferred := hb
 have htr := tryRecover_deferred hk cs
 have hrng : List.range (o :: l).toArray.size = 0 :: List.range' 1 l.length := by
  rw [List.range_eq_range']; simp [List.range'_succ]
 refine ⟨e, a', cs', w'', hq, .of_steps (.one step_region) ?_⟩
 rw [hrng]
 rcases hs with hs | ⟨hs, rfl, rfl⟩
 ·refine .of_steps (.one (step_lone_go ?_)) harr
  rw [hg, ← hfin]
  simp only [Frame.at] at htr ⊢
  simp [stepG.apply, hr, htr, hs]
 ·refine .of_steps (.one (step_lone_go ?_)) harr
  rw [hg, ← hfin]
  simp only [Frame.at] at htr ⊢
  simp [stepG.apply, hr, htr, hs]
def AbV (er : Int) (k t : ByteArray) (op : Int) (sub : Value) : Value := .iface 75 (.agg #[.int .i64 er, .string k, .string t, .int .i64 op, sub])
def Bx2 (W : World) (g : Nat) (t0 t1 : TypeId) (a b : Value) : Prop := W.heap[g]? = some (.cells #[a] t0 (0, 0)) ∧ W.heap[g + 1]? = some (.cells #[b] t1 (0, 0))
section
variable {W : World} {g : Nat} {t0 t1 : TypeId} {a b : Value}
theorem Bx2.s (h : Bx2 W g t0 t1 a b) (v : Value) : Bx2 (W.setCell ⟨g, 0, none⟩ v) g t0 t1 v b :=
 ⟨Lib.heap_setCell_same (i := 0) h.1 v, (Below.heap_setCell _ _ _ _ (by show g + 1 ≠ g; omega)).trans h.2⟩
theorem Bx2.e (h : Bx2 W g t0 t1 a b) (v : Value) : Bx2 (W.setCell ⟨g + 1, 0, none⟩ v) g t0 t1 a v :=
 ⟨(Below.heap_setCell _ _ _ _ (by show g ≠ g + 1; omega)).trans h.1, Lib.heap_setCell_same (i := 0) h.2 v⟩
theorem Bx2.cells (h : Bx2 W g t0 t1 a b) : W.cell? ⟨g, 0, none⟩ = some a ∧ W.cell? ⟨g + 1, 0, none⟩ = some b := ⟨cell_of_row W g 0 _ _ (0, 0) h.1, cell_of_row W (g + 1) 0 _ _ (0, 0) h.2⟩
theorem Bx2.frozen (h : Bx2 W g t0 t1 a b) : W.frozen? ⟨g, 0, none⟩ = false ∧ W.frozen? ⟨g + 1, 0, none⟩ = false := ⟨frozen_of_row W g 0 _ _ h.1, frozen_of_row W (g + 1) 0 _ _ h.2⟩
theorem Bx2.lt (h : Bx2 W g t0 t1 a b) : g + 1 < W.heap.size := (Array.getElem?_eq_some_iff.1 h.2).1
theorem Bx2.go (h : Bx2 W g t0 t1 a b) {W' : World} (hb : Below W.heap.size W W') : Bx2 W' g t0 t1 a b := by
 have hlt := h.lt
 exact ⟨(hb.block _ (by omega)).trans h.1, (hb.block _ (by omega)).trans h.2⟩
theorem Bx2.drew (h : Bx2 W g t0 t1 a b) : Bx2 W.drew g t0 t1 a b := h
end
def put2' (W : World) (g : Nat) (s e : Value) : World := (W.setCell ⟨g, 0, none⟩ s).setCell ⟨g + 1, 0, none⟩ e
section
variable {W w : World} {g B : Nat} {t0 t1 : TypeId} {a b : Value}
theorem put2'_bx (h : Bx2 W g t0 t1 a b) (s e : Value) : Bx2 (put2' W g s e) g t0 t1 s e := (h.s s).e e
theorem put2'_below (h : Below B w W) (hg : B ≤ g) (s e : Value) : Below B w (put2' W g s e) := (h.setCell (p := ⟨g, 0, none⟩) hg s).setCell (p := ⟨g + 1, 0, none⟩) (by show B ≤ g + 1; omega) e
end
theorem abox (w : World) (er : Int) (k t : ByteArray) (op : Int) (sub : Value) :
  (w.alloc (.cells #[.int .i64 er, .string k, .string t, .int .i64 op, sub] 75)).heap[w.heap.size]? = some (.cells #[.int .i64 er, .string k, .string t, .int .i64 op, sub] 75 (0, 0)) := heap_alloc_new w _
theorem ta_ab (v : Value) (x : TypeId) (w : World) : (Instr.typeAssert (.iface 75 v) x 75 true).run Tryz.prog w = .ok (.tuple #[v, .bool true]) w := by kernel_rfl
theorem ta_nil (x : TypeId) (w : World) : (Instr.typeAssert .nilIface x 75 true).run Tryz.prog w = .ok (.tuple #[.agg #[.int .i64 0, .string ⟨#[]⟩, .string ⟨#[]⟩, .int .i64 0, .slice none 0 0], .bool false]) w := by kernel_rfl
theorem ecatch_fail (g : Nat) (s0 e0 : Value) (k t : ByteArray) (op : Int) (A : Option Addr) (n c : Nat) (er : Int) (older : List PanicEntry) (w : World) (h : Bx2 w g 9 31 s0 e0) :
  CallsD Tryz.prog 44 #[.pointer (some ⟨g, 0, none⟩), .pointer (some ⟨g + 1, 0, none⟩)]
   (.panicking ({ v := AbV er k t op (.slice A n c), recovered := false } :: older)) w fun e u' w' =>
   e = .returned (.tuple #[]) ∧ u' = .panicking ({ v := AbV er k t op (.slice A n c), recovered := true } :: older) ∧ Below g w w' ∧ Bx2 w' g 9 31 (.string ⟨#[]⟩) (.int .i64 er) := by
 have hlt := h.lt
 obtain ⟨W1, hW1⟩ : ∃ W1, w.alloc (.cells #[.int .i64 er, .string k, .string t, .int .i64 op, .slice A n c] 75) = W1 := ⟨_, rfl⟩
 have hb1 : Below w.heap.size w W1 := by rw [← hW1]; exact (Below.refl _ _).alloc (Nat.le_refl _) _
 have hr : W1.heap[w.heap.size]? = some (.cells #[.int .i64 er, .string k, .string t, .int .i64 op, .slice A n c] 75 (0, 0)) := by rw [← hW1]; exact abox w er k t op _
 have h1 := h.go hb1
 obtain ⟨y0, y1⟩ := h1.cells
 obtain ⟨f0, f1⟩ := h1.frozen
 have x0 : W1.cell? ⟨w.heap.size, 0, none⟩ = some (.int .i64 er) := cell_of_row W1 _ 0 _ _ (0, 0) hr
 have HB := hid (And.intro h1 (And.intro hb1 hlt))
 have HW1 := hid hW1
 have n0 : ¬ g = w.heap.size := by omega
 have n1 : ¬ g + 1 = w.heap.size := by omega
 have m0 : ¬ w.heap.size = g := by omega
 have m1 : ¬ w.heap.size = g + 1 := by omega
 clear h h1 hr hb1 hlt hW1
 have hfr : ∀ (a b : Value), #[a, b] ++ Array.replicate (Tryz.f44.ntmps - #[a, b].size) undef = #[a, b, undef, undef, undef, undef, undef, undef, undef, undef, undef, undef] := fun a b => by kernel_rfl
 refine callsD_of_wpS Tryz.func44 rfl fun c₀ cs hu => ?_
 rw [hfr]
 apply wpS_seq
 refine wpS_region_rec rfl rfl (.inl (by simp [recoverD, hu]; exact ⟨rfl, rfl⟩)) ?_
 have hta := ta_ab
 simp only [AbV]
 go_wp2
 refine wpS_of_wp ?_
 rw [HW1.out]
 go_wp2
 go_region
 refine ⟨rfl, _, rfl, .tuple #[], by simp [results, Tryz.results44, go_sem], rfl, rfl, ?_, ?_⟩
 ·exact (put2'_below (HB.out.2.1.mono (show g ≤ w.heap.size by have := HB.out.2.2; omega)) (Nat.le_refl g) (.string ⟨#[]⟩) (.int .i64 er)).drew
 ·exact (put2'_bx HB.out.1 (.string ⟨#[]⟩) (.int .i64 er)).drew
end
section
open Go.RowKit Go.Lib
theorem ecatch_idle (p0 p1 : Value) (w : World) :
  CallsD Tryz.prog 44 #[p0, p1] .returning w fun e u' w' => e = .returned (.tuple #[]) ∧ u' = .returning ∧ Below w.heap.size w w' := by
 have hb : Below w.heap.size w (w.alloc (.cells #[.int .i64 0, .string ⟨#[]⟩, .string ⟨#[]⟩, .int .i64 0, .slice none 0 0] 75)) := (Below.refl _ _).alloc (Nat.le_refl _) _
 have HB := hid hb
 clear hb
 have hfr : ∀ (a b : Value), #[a, b] ++ Array.replicate (Tryz.f44.ntmps - #[a, b].size) undef = #[a, b, undef, undef, undef, undef, undef, undef, undef, undef, undef, undef] := fun a b => by kernel_rfl
 refine callsD_of_wpS Tryz.func44 rfl fun c₀ cs hu => ?_
 rw [hfr]
 apply wpS_seq
 refine wpS_region_rec rfl rfl (.inr ⟨by cases cs <;> simp [recoverD, hu], rfl, rfl⟩) ?_
 have hta := ta_nil
 go_wp2
 refine wpS_of_wp ?_
 go_wp2
 try simp only [Exit.inBlock, Exit.then]
 refine ⟨rfl, _, rfl, .tuple #[], by simp [results, Tryz.results44, go_sem], rfl, hu, HB.out⟩
theorem boxes2 (w : World) (t0 t1 : TypeId) (a b : Value) : Bx2 ((w.alloc (.cells #[a] t0)).alloc (.cells #[b] t1)) w.heap.size t0 t1 a b ∧ Below w.heap.size w ((w.alloc (.cells #[a] t0)).alloc (.cells #[b] t1)) := by
 refine ⟨⟨?_, ?_⟩, ((Below.refl _ w).alloc (Nat.le_refl _) _).alloc (by simp) _⟩
 ·exact (Below.heap_alloc _ _ _ (by simp)).trans (heap_alloc_new w _)
 ·have h9 := heap_alloc_new (w.alloc (.cells #[a] t0)) (.cells #[b] t1)
  rw [show (w.alloc (.cells #[a] t0)).heap.size = w.heap.size + 1 by simp] at h9
  exact h9
section
variable (l e : Value) (w : World)
theorem Expand_fail (er : Int)
  (HV : ∀ W, Below w.heap.size w W → Calls Tryz.prog 45 #[l, e, .int .i64 0] W fun x W' => (∃ k t op A n c, x = .panicked [{ v := AbV er k t op (.slice A n c), recovered := false }]) ∧ Below W.heap.size W W') :
  Calls Tryz.prog 30 #[l, e] w fun x w' => x = .returned (.tuple #[.string ⟨#[]⟩, .int .i64 er]) ∧ Below w.heap.size w w' := by
 have hmf : ∀ (fn : Fn) (first cap : Array Value) (w : World), (Instr.makeFunc fn first cap).run Tryz.prog w = .ok (.func fn first cap) w := fun _ _ _ _ => rfl
 have HB := hid (boxes2 w 9 31 (.string ⟨#[]⟩) (.int .i64 0))
 go_enter_defers Tryz.func30, Tryz.ntmps30
 go_wp2_with fail
 refine (HV _ HB.out.2).mono ?_
 rintro x w4 ⟨⟨k, t, op, A, n, c, rfl⟩, hb4⟩
 have hB4 := HB.out.1.go hb4
 have HW4 := hid (HB.out.2.trans (hb4.mono HB.out.2.size))
 refine leaves_cons (f := 44) (args := #[.pointer (some ⟨w.heap.size, 0, none⟩), .pointer (some ⟨w.heap.size + 1, 0, none⟩)]) (by simp) (by simp [go_sem]) ?_
 refine (ecatch_fail w.heap.size _ _ k t op A n c er [] w4 hB4).mono ?_
 rintro x u' w5 ⟨rfl, rfl, hb5, hB5⟩
 obtain ⟨y0, y1⟩ := hB5.cells
 simp [Leaves, settle, results, Tryz.results30, go_sem, y0, y1]
 exact HW4.out.trans hb5
theorem Expand_ok (q : ByteArray)
  (HV : ∀ W, Below w.heap.size w W → Calls Tryz.prog 45 #[l, e, .int .i64 0] W fun x W' => x = .returned (.string q) ∧ Below W.heap.size W W') :
  Calls Tryz.prog 30 #[l, e] w fun x w' => x = .returned (.tuple #[.string q, .int .i64 0]) ∧ Below w.heap.size w w' := by
 have hmf : ∀ (fn : Fn) (first cap : Array Value) (w : World), (Instr.makeFunc fn first cap).run Tryz.prog w = .ok (.func fn first cap) w := fun _ _ _ _ => rfl
 have HB := hid (boxes2 w 9 31 (.string ⟨#[]⟩) (.int .i64 0))
 go_enter_defers Tryz.func30, Tryz.ntmps30
 go_wp2_with fail
 refine (HV _ HB.out.2).mono ?_
 rintro x w4 ⟨rfl, hb4⟩
 have hB4 := HB.out.1.go hb4
 have HW4 := hid (HB.out.2.trans (hb4.mono HB.out.2.size))
 have HB4 := hid hB4
 obtain ⟨y0, y1⟩ := hB4.cells
 obtain ⟨f0, f1⟩ := hB4.frozen
 clear hB4 hb4
 go_wp2
 have h8 := put2'_bx HB4.out (.string q) (.int .i64 0)
 have h9 := put2'_below HW4.out (Nat.le_refl w.heap.size) (.string q) (.int .i64 0)
 obtain ⟨W5, hW5⟩ : ∃ W5, put2' w4 w.heap.size (.string q) (.int .i64 0) = W5 := ⟨_, rfl⟩
 rw [hW5] at h8 h9
 unfold put2' at hW5
 rw [hW5]
 clear hW5 y0 y1 f0 f1
 refine leaves_cons (f := 44) (args := #[.pointer (some ⟨w.heap.size, 0, none⟩), .pointer (some ⟨w.heap.size + 1, 0, none⟩)]) (by simp) (by simp [go_sem]) ?_
 refine (ecatch_idle _ _ W5).mono ?_
 rintro x u' w6 ⟨rfl, rfl, hb6⟩
 obtain ⟨y0, y1⟩ := (h8.go hb6).cells
 simp [Leaves, settle, results, Tryz.results30, go_sem, y0, y1]
 exact h9.trans (hb6.mono h9.size)
end
end
end Go.Proofs.YtkcilmmaggmmoaaGreatDoor
