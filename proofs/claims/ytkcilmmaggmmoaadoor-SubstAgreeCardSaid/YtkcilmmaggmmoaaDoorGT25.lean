/- TmpLaid -/
import Derived.Below
import Derived.LaidLaws
import Derived.LaidMore
import Derived.Laws.IdiomArrays
import Derived.MakeChecks
import Derived.OpenShut
import Derived.Shelf.Vars
import Derived.Test.YtkcilmmaggmmoaaDoorGT6
import Derived.Test.YtkcilmmaggmmoaaDoorRows
set_option linter.unusedVariables false
set_option linter.unusedSimpArgs false
set_option maxRecDepth 100000
set_option maxHeartbeats 16000000
namespace Go.Proofs.YtkcilmmaggmmoaaDoor
namespace Nw
end Nw
namespace T13
end T13
end Go.Proofs.YtkcilmmaggmmoaaDoor
namespace Go.Proofs.YtkcilmmaggmmoaaDoor
section
open Go.RowKit Go.ChangeShapes
open Nw T13
def SomeMax (w : World) : Prop := ∃ m, w.cell? ⟨1, 0, none⟩ = some (.int .i64 m)
theorem SomeMax.keep {w w' : World} (h : SomeMax w) (hb : Below w.heap.size w w') : SomeMax w' := by
 obtain ⟨m, hm⟩ := h
 exact ⟨m, (hb.cell (World.block_lt_of_cell? _ _ hm)).trans hm⟩
theorem someMax_of_shape {w : World} (h : w.ShapedOpen Tryd.prog) : SomeMax w :=
 cell_of_shapedOpen_int (zero := #[.int .i64 0]) (t := 3) h (of_decide_eq_true (by kernel_rfl)) (by kernel_rfl) rfl (by kernel_rfl) (by kernel_rfl) Tryd.underlying3
def Ops8 (w : World) : Prop := ∀ k, k < 8 → w.cell? ⟨0, k, none⟩ = some (.string (ba (markL (k : Int))))
theorem gOps : Tryd.prog.globalNamed "longshore/tmpl.operators" = some 0 := by kernel_rfl
theorem tOps : (Tryd.prog.globals[0]?).map (·.type) = some 102 := by kernel_rfl
theorem cStr : Tryd.prog.cellsOf 9 = 1 := by kernel_rfl
theorem cOps : Tryd.prog.cellsOf 102 = 8 := by kernel_rfl
theorem str_cell {H : Type} {enc : TypeId × Value → H} {w : World} {base : Nat} {sp : Nat → Bool} {held : Bool} {fuel : Nat} {v : Value} {y : DataW H × List MemPlace} {l : List UInt8}
  (h : DataW.trod enc Tryd.prog w base sp held fuel 9 [v] = some y) (hy : y.1 = .lit (.string l)) : v = .string ⟨l.toArray⟩ := by
 obtain ⟨s, hs, rfl, -⟩ := DataW.trod_string Tryd.underlying9 h
 simp only [List.cons.injEq, and_true] at hs
 simp only [DataW.lit.injEq, Lit.string.injEq] at hy
 rw [hs, ← hy]
theorem ops8_of_laid {a b : String × DataW Unit} {W : World}
  (h : laidMet Tryd.prog [a, ("longshore/tmpl.operators", Rows.laid_longshore_tmpl_operators), b] W) : Ops8 W := by
 obtain ⟨ps, ⟨g0, t0, cs0, f0, p0, q0, hg0, ht0, hv0, hd0, ⟨g1, t1, cs1, f1, p1, q1, hg1, ht1, hv1, hd1, _, _⟩, _⟩, _, _⟩ := h
 obtain rfl := Option.some.inj (gOps.symm.trans hg1)
 obtain rfl := Option.some.inj (tOps.symm.trans ht1)
 obtain ⟨xs, m, _, hx, hl, hn, hi⟩ := DataW.trod_array Tryd.underlying102 hd1
 have hx1 := congrArg Prod.fst hx
 simp only [Rows.laid_longshore_tmpl_operators, DataW.agg.injEq] at hx1
 rw [cOps] at hl
 intro k hk
 have hik := hi k hk
 rw [cStr, Nat.mul_one] at hik
 have hkc : k < cs1.toList.length := by omega
 rw [List.drop_eq_getElem_cons hkc] at hik
 have hkx : k < xs.length := by omega
 rw [List.getElem?_eq_getElem hkx] at hik
 have hy : (xs.map (·.1))[k]? = some (.lit (.string (markL (k : Int)))) := by
  rw [← hx1]
  match k, hk with
  | 0, _ => rfl
  | 1, _ => rfl
  | 2, _ => rfl
  | 3, _ => rfl
  | 4, _ => rfl
  | 5, _ => rfl
  | 6, _ => rfl
  | 7, _ => rfl
 rw [List.getElem?_map, List.getElem?_eq_getElem hkx, Option.map_some] at hy
 have he := str_cell hik (Option.some.inj hy)
 rw [World.var?_cell hg1 hv1 k]
 have h2 : cs1[k]? = some (cs1.toList[k]'hkc) := by rw [← Array.getElem?_toList, List.getElem?_eq_getElem hkc]
 rw [h2, he]
 rfl
theorem Ops8.keep {w w' : World} (h : Ops8 w) (hb : Below w.heap.size w w') : Ops8 w' := fun k hk => (hb.cell (World.block_lt_of_cell? _ _ (h k hk))).trans (h k hk)
def Pw13 (w : World) : Prop := Ops8 w ∧ SomeMax w
theorem Pw13.keep {w w' : World} (h : Pw13 w) (hb : Below w.heap.size w w') : Pw13 w' := ⟨h.1.keep hb, h.2.keep hb⟩
end
end Go.Proofs.YtkcilmmaggmmoaaDoor
