/- What the row's condition says of the list of letters: its four cells. -/
import Derived.Test.YtagccngcedblhaaDoorRows
import Derived.Test.YtagccngcedblhaaDoorDigSmall
import Derived.Laws.IdiomArrays
import Derived.LaidLaws
import Derived.LaidMore
import Derived.OpenShut
import Derived.Below
import Derived.MakeChecks
namespace Go.Proofs.YtagccngcedblhaaDoor
open Go.RowKit Go.ChangeShapes
open Dg
set_option linter.unusedVariables false
/-- The four letters stand where the program's text lays them. -/
def Let4 (w : World) : Prop := w.cell? ⟨0, 0, none⟩ = some (.string ⟨#[]⟩) ∧ w.cell? ⟨0, 1, none⟩ = some (.string ⟨#[107]⟩) ∧
  w.cell? ⟨0, 2, none⟩ = some (.string ⟨#[109]⟩) ∧ w.cell? ⟨0, 3, none⟩ = some (.string ⟨#[103]⟩)
theorem gLet : Tryd.prog.globalNamed "longshore/size.letters" = some 0 := by kernel_rfl
theorem tLet : (Tryd.prog.globals[0]?).map (·.type) = some 36 := by kernel_rfl
theorem cStr : Tryd.prog.cellsOf 9 = 1 := by kernel_rfl
theorem cLet : Tryd.prog.cellsOf 36 = 4 := by kernel_rfl
theorem str_cell {H : Type} {enc : TypeId × Value → H} {w : World} {base : Nat} {sp : Nat → Bool} {held : Bool} {fuel : Nat} {v : Value} {y : DataW H × List MemPlace} {l : List UInt8}
    (h : DataW.trod enc Tryd.prog w base sp held fuel 9 [v] = some y) (hy : y.1 = .lit (.string l)) : v = .string ⟨l.toArray⟩ := by
  obtain ⟨s, hs, rfl, -⟩ := DataW.trod_string Tryd.underlying9 h
  simp only [List.cons.injEq, and_true] at hs
  simp only [DataW.lit.injEq, Lit.string.injEq] at hy
  rw [hs, ← hy]
theorem let4_of_laid {a b : String × DataW Unit} {W : World}
    (h : laidMet Tryd.prog [a, ("longshore/size.letters", Rows.laid_longshore_size_letters), b] W) : Let4 W := by
  obtain ⟨ps, ⟨g0, t0, cs0, f0, p0, q0, hg0, ht0, hv0, hd0, ⟨g1, t1, cs1, f1, p1, q1, hg1, ht1, hv1, hd1, _, _⟩, _⟩, _, _⟩ := h
  obtain rfl := Option.some.inj (gLet.symm.trans hg1)
  obtain rfl := Option.some.inj (tLet.symm.trans ht1)
  have hlen : cs1.toList.length = 4 := by
    obtain ⟨xs, m, _, _, hl, _⟩ := DataW.trod_array Tryd.underlying36 hd1
    rw [hl, cLet]
  obtain ⟨l1⟩ := cs1
  match l1, hlen, hd1, hv1 with
  | [c0, c1, c2, c3], _, hd1, hv1 =>
    obtain ⟨y0, y1, y2, y3, n, hx, h0, h1, h2, h3⟩ := trod_array4 Tryd.underlying36 cStr hd1
    have hx1 := congrArg Prod.fst hx
    simp only [Rows.laid_longshore_size_letters, DataW.agg.injEq, List.cons.injEq, and_true] at hx1
    obtain ⟨x0, x1, x2, x3⟩ := hx1
    have e0 := str_cell h0 x0.symm
    have e1 := str_cell h1 x1.symm
    have e2 := str_cell h2 x2.symm
    have e3 := str_cell h3 x3.symm
    subst e0; subst e1; subst e2; subst e3
    exact ⟨World.var?_cell hg1 hv1 0, World.var?_cell hg1 hv1 1, World.var?_cell hg1 hv1 2, World.var?_cell hg1 hv1 3⟩
theorem Let4.keep {w w' : World} (h : Let4 w) (hb : Below w.heap.size w w') : Let4 w' :=
  ⟨(hb.cell (World.block_lt_of_cell? _ _ h.1)).trans h.1, (hb.cell (World.block_lt_of_cell? _ _ h.2.1)).trans h.2.1, (hb.cell (World.block_lt_of_cell? _ _ h.2.2.1)).trans h.2.2.1, (hb.cell (World.block_lt_of_cell? _ _ h.2.2.2)).trans h.2.2.2⟩
theorem Let4.drewN {w : World} (h : Let4 w) (n : Nat) : Let4 (w.drewN n) := h.keep ⟨rfl, rfl, rfl, Nat.le_refl _, fun _ _ => rfl⟩
end Go.Proofs.YtagccngcedblhaaDoor
