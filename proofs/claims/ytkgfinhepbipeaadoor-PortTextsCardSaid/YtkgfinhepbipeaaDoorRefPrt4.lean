/- Memory words for the reference's Parse: two boxes of a port, a short list of strings. -/
import Derived.Test.YtkgfinhepbipeaaDoorRefPrt3
import Derived.Lib.BufferMore
namespace Go.Proofs.YtkgfinhepbipeaaDoor
open Go.RowKit Go.Sort
open Nw Dg P16
set_option linter.unusedVariables false
def Rw4 (w : World) (g : Nat) (t : TypeId) (a b c d : Value) : Prop := w.heap[g]? = some (.cells #[a, b, c, d] t (0, 0))
section
variable {w w' : World} {g : Nat} {t : TypeId} {a b c d : Value}
theorem Rw4.make (w : World) (t : TypeId) (a b c d : Value) : Rw4 (w.alloc (.cells #[a, b, c, d] t)) w.heap.size t a b c d := by
  show (w.heap.push _)[w.heap.size]? = _
  simp
theorem Rw4.lt (h : Rw4 w g t a b c d) : g < w.heap.size := by
  rcases Nat.lt_or_ge g w.heap.size with hl | hl
  · exact hl
  · unfold Rw4 at h; rw [Array.getElem?_eq_none hl] at h; cases h
theorem Rw4.alloc (h : Rw4 w g t a b c d) (o : Obj) : Rw4 (w.alloc o) g t a b c d := (Below.heap_alloc w o g h.lt).trans h
theorem Rw4.cells (h : Rw4 w g t a b c d) : w.cell? ⟨g, 0, none⟩ = some a ∧ w.cell? ⟨g, 1, none⟩ = some b ∧ w.cell? ⟨g, 2, none⟩ = some c ∧ w.cell? ⟨g, 3, none⟩ = some d := by
  unfold Rw4 at h
  refine ⟨?_, ?_, ?_, ?_⟩ <;> simp [World.cell?, h]
theorem Rw4.frozen (h : Rw4 w g t a b c d) : w.frozen? ⟨g, 0, none⟩ = false ∧ w.frozen? ⟨g, 1, none⟩ = false ∧ w.frozen? ⟨g, 2, none⟩ = false ∧ w.frozen? ⟨g, 3, none⟩ = false := by
  unfold Rw4 at h
  simp [World.frozen?, h]
theorem Rw4.below (h : Rw4 w g t a b c d) (hb : Below w.heap.size w w') : Rw4 w' g t a b c d := (hb.block g h.lt).trans h
theorem Rw4.set0 (h : Rw4 w g t a b c d) (v : Value) : Rw4 (w.setCell ⟨g, 0, none⟩ v) g t v b c d := Lib.heap_setCell_same (i := 0) h _
theorem Rw4.set1 (h : Rw4 w g t a b c d) (v : Value) : Rw4 (w.setCell ⟨g, 1, none⟩ v) g t a v c d := Lib.heap_setCell_same (i := 1) h _
theorem Rw4.set2 (h : Rw4 w g t a b c d) (v : Value) : Rw4 (w.setCell ⟨g, 2, none⟩ v) g t a b v d := Lib.heap_setCell_same (i := 2) h _
theorem Rw4.set3 (h : Rw4 w g t a b c d) (v : Value) : Rw4 (w.setCell ⟨g, 3, none⟩ v) g t a b c v := Lib.heap_setCell_same (i := 3) h _
theorem Rw4.oth (h : Rw4 w g t a b c d) {q : Addr} (hq : g ≠ q.block) (v : Value) : Rw4 (w.setCell q v) g t a b c d := (Below.heap_setCell _ _ _ g hq).trans h
end
/-- The result's box at g, the port's own at g + 1. -/
def PB (w0 W : World) (h : ByteArray) (o i : Int) (pr : ByteArray) : Prop :=
  Below w0.heap.size w0 W ∧ Rw4 W w0.heap.size 24 (.string ⟨#[]⟩) (.int .i64 0) (.int .i64 0) (.string ⟨#[]⟩) ∧ Rw4 W (w0.heap.size + 1) 24 (.string h) (.int .i64 o) (.int .i64 i) (.string pr)
section
variable {w0 W W' : World} {h pr : ByteArray} {o i : Int}
theorem pb_new (w0 : World) (h pr : ByteArray) (o i : Int) : PB w0 ((w0.alloc (.cells #[.string ⟨#[]⟩, .int .i64 0, .int .i64 0, .string ⟨#[]⟩] 24)).alloc (.cells #[.string h, .int .i64 o, .int .i64 i, .string pr] 24)) h o i pr := by
  refine ⟨((Below.refl _ _).alloc (Nat.le_refl _) _).alloc (by simp) _, (Rw4.make w0 _ _ _ _ _).alloc _, ?_⟩
  have := Rw4.make (w0.alloc (.cells #[.string ⟨#[]⟩, .int .i64 0, .int .i64 0, .string ⟨#[]⟩] 24)) 24 (.string h) (.int .i64 o) (.int .i64 i) (.string pr)
  simpa using this
theorem PB.below (k : PB w0 W h o i pr) (hb : Below W.heap.size W W') : PB w0 W' h o i pr := ⟨k.1.trans (hb.mono k.1.size), k.2.1.below hb, k.2.2.below hb⟩
theorem PB.host (k : PB w0 W h o i pr) (v : ByteArray) : PB w0 (W.setCell ⟨w0.heap.size + 1, 0, none⟩ (.string v)) v o i pr := ⟨k.1.setCell (p := ⟨w0.heap.size + 1, 0, none⟩) (Nat.le_succ _) _, k.2.1.oth (by show w0.heap.size ≠ w0.heap.size + 1; omega) _, k.2.2.set0 _⟩
theorem PB.out (k : PB w0 W h o i pr) (v : Int) : PB w0 (W.setCell ⟨w0.heap.size + 1, 1, none⟩ (.int .i64 v)) h v i pr := ⟨k.1.setCell (p := ⟨w0.heap.size + 1, 1, none⟩) (Nat.le_succ _) _, k.2.1.oth (by show w0.heap.size ≠ w0.heap.size + 1; omega) _, k.2.2.set1 _⟩
theorem PB.inn (k : PB w0 W h o i pr) (v : Int) : PB w0 (W.setCell ⟨w0.heap.size + 1, 2, none⟩ (.int .i64 v)) h o v pr := ⟨k.1.setCell (p := ⟨w0.heap.size + 1, 2, none⟩) (Nat.le_succ _) _, k.2.1.oth (by show w0.heap.size ≠ w0.heap.size + 1; omega) _, k.2.2.set2 _⟩
theorem PB.proto (k : PB w0 W h o i pr) (v : ByteArray) : PB w0 (W.setCell ⟨w0.heap.size + 1, 3, none⟩ (.string v)) h o i v := ⟨k.1.setCell (p := ⟨w0.heap.size + 1, 3, none⟩) (Nat.le_succ _) _, k.2.1.oth (by show w0.heap.size ≠ w0.heap.size + 1; omega) _, k.2.2.set3 _⟩
theorem PB.size (k : PB w0 W h o i pr) : w0.heap.size + 2 ≤ W.heap.size := k.2.2.lt
end
theorem pb_end {w0 W : World} {h pr : ByteArray} {o i : Int} (k : PB w0 W h o i pr) (a b c d : Value) :
    Below w0.heap.size w0 ((((W.setCell ⟨w0.heap.size, 0, none⟩ a).setCell ⟨w0.heap.size, 1, none⟩ b).setCell ⟨w0.heap.size, 2, none⟩ c).setCell ⟨w0.heap.size, 3, none⟩ d) ∧
      Rw4 ((((W.setCell ⟨w0.heap.size, 0, none⟩ a).setCell ⟨w0.heap.size, 1, none⟩ b).setCell ⟨w0.heap.size, 2, none⟩ c).setCell ⟨w0.heap.size, 3, none⟩ d) w0.heap.size 24 a b c d :=
  ⟨(((k.1.setCell (p := ⟨w0.heap.size, 0, none⟩) (Nat.le_refl _) _).setCell (p := ⟨w0.heap.size, 1, none⟩) (Nat.le_refl _) _).setCell (p := ⟨w0.heap.size, 2, none⟩) (Nat.le_refl _) _).setCell (p := ⟨w0.heap.size, 3, none⟩) (Nat.le_refl _) _, (((k.2.1.set0 a).set1 b).set2 c).set3 d⟩
theorem cell_othP {W : World} {p q : Addr} (hq : q.block ≠ p.block) (v : Value) : (W.setCell p v).cell? q = W.cell? q := by
  unfold World.cell?; rw [Below.heap_setCell _ _ _ _ hq]
/-- A short list in memory: its block, its cells. -/
theorem rd_open {w : World} {v : Value} {l : List L8} {m : Nat} (k : Rd w v l) (hm : l.length = m + 1) : ∃ b o cap, v = .slice (some ⟨b, o, none⟩) (m + 1) cap ∧ m + 1 ≤ cap ∧ cap ≤ maxLen ∧ b < w.heap.size ∧ ∀ j (h : j < l.length), w.cell? ⟨b, o + j, none⟩ = some (.string (ba l[j])) := by
  rcases k.cases with ⟨a, cap, _, rfl, _⟩ | ⟨b, o, cap, h1, h2, h3, h4, h5⟩
  · cases hm
  · rw [hm] at h1 h2
    exact ⟨b, o, cap, h1, h2, h3, h4, h5⟩
end Go.Proofs.YtkgfinhepbipeaaDoor
