/- The contracts of the document's own Count and Deep. -/
import Derived.Test.YtemndagaicamiaaGreatDoorNodMem
import Derived.WalkKit
import Derived.ProofKit
import Derived.IntWalk
import Derived.Deep.LoopGhost
import Derived.Below
namespace Go.Proofs.YtemndagaicamiaaGreatDoor
open Go.RowKit Go.Sort
open Nw N8
set_option linter.unusedVariables false
/-- A block of four cells, known whole. -/
def Row4 (w : World) (g : Nat) (t : TypeId) (a b c d : Value) : Prop := w.heap[g]? = some (.cells #[a, b, c, d] t (0, 0))
section
variable {w w' : World} {g B : Nat} {t : TypeId} {a b c d : Value}
theorem Row4.make (w : World) (t : TypeId) (a b c d : Value) : Row4 (w.alloc (.cells #[a, b, c, d] t)) w.heap.size t a b c d := by
  show (w.heap.push _)[w.heap.size]? = _
  simp
theorem Row4.below (h : Row4 w g t a b c d) (hb : Below B w w') (hg : g < B) : Row4 w' g t a b c d := (hb.block g hg).trans h
theorem Row4.lt (h : Row4 w g t a b c d) : g < w.heap.size := by
  rcases Nat.lt_or_ge g w.heap.size with hl | hl
  · exact hl
  · unfold Row4 at h; rw [Array.getElem?_eq_none hl] at h; cases h
theorem Row4.alloc (h : Row4 w g t a b c d) (o : Obj) : Row4 (w.alloc o) g t a b c d := (Below.heap_alloc w o g h.lt).trans h
theorem Row4.cells (h : Row4 w g t a b c d) : w.cell? ⟨g, 0, none⟩ = some a ∧ w.cell? ⟨g, 1, none⟩ = some b ∧ w.cell? ⟨g, 2, none⟩ = some c ∧ w.cell? ⟨g, 3, none⟩ = some d :=
  ⟨cell_of_row w g 0 _ t (0, 0) h, cell_of_row w g 1 _ t (0, 0) h, cell_of_row w g 2 _ t (0, 0) h, cell_of_row w g 3 _ t (0, 0) h⟩
theorem Row4.frozen (h : Row4 w g t a b c d) : w.frozen? ⟨g, 0, none⟩ = false ∧ w.frozen? ⟨g, 1, none⟩ = false ∧ w.frozen? ⟨g, 2, none⟩ = false ∧ w.frozen? ⟨g, 3, none⟩ = false := by
  unfold Row4 at h
  simp [World.frozen?, h]
end
theorem belowNext {w w1 w2 : World} (h : Below w.heap.size w w1) (g : Below w1.heap.size w1 w2) : Below w.heap.size w w2 := h.trans (g.mono h.size)
theorem NdW.kid {w : World} {k : Int} {t : L8} {ks : List L8} {ds : List Nd} {c0 c1 c2 : Value} {A : Option Addr} {n cap : Nat} (h : NdW w (.mk k t ks ds) c0 c1 c2 (.slice A n cap)) (j : Nat) (hj : j < ds.length) :
    ∃ (b o : Nat) (e0 e1 e2 e3 : Value), A = some ⟨b, o, none⟩ ∧ b < w.heap.size ∧ w.cell? ⟨b, o + j * 4, none⟩ = some e0 ∧ w.cell? ⟨b, o + j * 4 + 1, none⟩ = some e1 ∧
        w.cell? ⟨b, o + j * 4 + 2, none⟩ = some e2 ∧ w.cell? ⟨b, o + j * 4 + 3, none⟩ = some e3 ∧ NdW w (ds[j]'hj) e0 e1 e2 e3 := by
  obtain ⟨_, _, _, A', cap', hA', _, _, _, hkid⟩ := h.parts
  have hAe : A = A' := by injection hA'
  subst hAe
  exact hkid j hj
/-- A box with a node in it, and the node. -/
def Boxed (w0 w : World) (d : Nd) (c0 c1 c2 c3 : Value) : Prop := Below w0.heap.size w0 w ∧ Row4 w w0.heap.size 25 c0 c1 c2 c3 ∧ NdW w d c0 c1 c2 c3
theorem Boxed.make {w : World} {d : Nd} {c0 c1 c2 c3 : Value} (h : NdW w d c0 c1 c2 c3) : Boxed w (w.alloc (.cells #[c0, c1, c2, c3] 25)) d c0 c1 c2 c3 :=
  ⟨(Below.refl _ _).alloc (Nat.le_refl _) _, Row4.make w _ _ _ _ _, h.below ((Below.refl _ _).alloc (Nat.le_refl _) _)⟩
theorem Boxed.go {w0 w w' : World} {d : Nd} {c0 c1 c2 c3 : Value} (h : Boxed w0 w d c0 c1 c2 c3) (hb : Below w.heap.size w w') : Boxed w0 w' d c0 c1 c2 c3 :=
  ⟨belowNext h.1 hb, h.2.1.below hb h.2.1.lt, h.2.2.below hb⟩
end Go.Proofs.YtemndagaicamiaaGreatDoor
