/- An array of words in memory, as a row of the heap. -/
import Derived.Test.YtefjdbgmakddjaaShaRound
import Derived.Sort.Row
import Derived.StillTailTactics
namespace Go.Proofs.Ytefjdbgmakddjaa
open Go.RowKit
open Sh
set_option linter.unusedVariables false
def encU (x : Int) : Value := .int .u32 x
/-- The block g is an array variable that holds d. -/
def Arr (w : World) (g : Nat) (ty : TypeId) (d : Array Int) : Prop := w.heap[g]? = some (.cells (d.map encU) ty (0, 0))
theorem Arr.cell {w : World} {g : Nat} {ty : TypeId} {d : Array Int} (h : Arr w g ty d) (j : Nat) (hj : j < d.size) : w.cell? ⟨g, j, none⟩ = some (.int .u32 d[j]!) := by
  rw [cell_of_row w g j _ ty (0, 0) h, Array.getElem?_map, Array.getElem?_eq_getElem hj, getElem!_pos d j hj]; rfl
theorem Arr.frozen {w : World} {g : Nat} {ty : TypeId} {d : Array Int} (h : Arr w g ty d) (j : Nat) : w.frozen? ⟨g, j, none⟩ = false := frozen_of_row w g j _ ty h
theorem Arr.set {w : World} {g : Nat} {ty : TypeId} {d : Array Int} (h : Arr w g ty d) (j : Nat) (x : Int) : Arr (w.setCell ⟨g, j, none⟩ (.int .u32 x)) g ty (d.setIfInBounds j x) := by
  have := heap_setCell_same w g j _ ty (.int .u32 x) h
  unfold Arr
  rw [this]
  congr 2
  apply Array.ext_getElem?
  intro i
  rw [Array.getElem?_setIfInBounds, Array.getElem?_map, Array.getElem?_map, Array.getElem?_setIfInBounds]
  by_cases e : j = i
  · subst e
    by_cases hj : j < d.size
    · simp [hj, encU]
    · simp [hj]
  · simp [e]
theorem row_other {w : World} {g : Nat} {o : Option Obj} (h : w.heap[g]? = o) (p : Addr) (v : Value) (hne : g ≠ p.block) : (w.setCell p v).heap[g]? = o := by
  rw [heap_setCell_other w p g v hne]; exact h
theorem row_below {w w' : World} {B g : Nat} {o : Option Obj} (h : w.heap[g]? = o) (hb : Below B w w') (hg : g < B) : w'.heap[g]? = o := by
  rw [hb.block g hg]; exact h
theorem get_set_same (d : Array Int) (i : Nat) (x : Int) (hi : i < d.size) : (d.setIfInBounds i x)[i]! = x := Sort.getElem!_set_same d i x hi
theorem get_set_other (d : Array Int) (i j : Nat) (x : Int) (h : j ≠ i) : (d.setIfInBounds i x)[j]! = d[j]! := Sort.getElem!_set_other d i j x h
theorem cells_one (d : Array Int) : (d.map encU).all (·.oneCell') = true := by
  rw [Array.all_eq_true]
  intro i hi
  rw [Array.getElem_map]; rfl
def zeros (n : Nat) : Array Int := Array.replicate n 0
theorem zeros_map (n : Nat) : (zeros n).map encU = Array.replicate n (.int .u32 0) := by simp [zeros, encU]
theorem zeros_size (n : Nat) : (zeros n).size = n := by simp [zeros]
/-- Byte i of a text; 0 behind its end. -/
def gb (s : ByteArray) (i : Nat) : UInt8 := s.data.toList.getD i 0
theorem gb_eq (s : ByteArray) (i : Nat) (h : i < s.size) : gb s i = s[i] := by
  unfold gb
  have h' : i < s.data.size := h
  rw [List.getD_eq_getElem?_getD, Array.getElem?_toList, Array.getElem?_eq_getElem h']
  rfl
theorem gb_ext (s : ByteArray) (a b i : Nat) (hb : b ≤ s.size) (h : a + i < b) : gb (s.extract a b) i = gb s (a + i) := by
  have h1 : i < (s.extract a b).size := by rw [ByteArray.size_extract]; omega
  rw [gb_eq _ i h1, gb_eq s (a + i) (by omega)]
  simp [ByteArray.getElem_extract]
theorem word_gb (s : ByteArray) (w : World) (hs : 4 ≤ s.size) :
    Calls Try.prog 49 #[.string s] w fun e w' => e = .returned (.int .u32 (be (gb s 0) (gb s 1) (gb s 2) (gb s 3))) ∧ Below w.heap.size w w' := by
  rw [gb_eq s 0 (by omega), gb_eq s 1 (by omega), gb_eq s 2 (by omega), gb_eq s 3 (by omega)]
  exact word_any s w hs
/-- Word t of a block. -/
def wd (s : ByteArray) (t : Nat) : Int := be (gb s (4 * t)) (gb s (4 * t + 1)) (gb s (4 * t + 2)) (gb s (4 * t + 3))
theorem wd_ext (s : ByteArray) (t : Nat) (ht : 4 * t + 4 ≤ s.size) :
    be (gb (s.extract (4 * t) s.size) 0) (gb (s.extract (4 * t) s.size) 1) (gb (s.extract (4 * t) s.size) 2) (gb (s.extract (4 * t) s.size) 3) = wd s t := by
  rw [gb_ext s _ _ 0 (Nat.le_refl _) (by omega), gb_ext s _ _ 1 (Nat.le_refl _) (by omega), gb_ext s _ _ 2 (Nat.le_refl _) (by omega), gb_ext s _ _ 3 (Nat.le_refl _) (by omega)]
  rfl
/-- The words of the rounds. -/
def ws (m : Nat → Int) (t : Nat) : Int := if t < 16 then m t else (s1 (ws m (t - 2)) + ws m (t - 7) + s0 (ws m (t - 15)) + ws m (t - 16)) % 4294967296
termination_by t
theorem ws_low (m : Nat → Int) {t : Nat} (h : t < 16) : ws m t = m t := by rw [ws, if_pos h]
theorem ws_high (m : Nat → Int) {t : Nat} (h : 16 ≤ t) : ws m t = (s1 (ws m (t - 2)) + ws m (t - 7) + s0 (ws m (t - 15)) + ws m (t - 16)) % 4294967296 := by rw [ws, if_neg (by omega)]
theorem info64 : (Try.prog.info? 49).map (·.size) = some 64 := by kernel_rfl
theorem info8 : (Try.prog.info? 32).map (·.size) = some 8 := by kernel_rfl
theorem _root_.Go.RowKit.Below.setRow {B : Nat} {a w : World} (h : Below B a w) {g : Nat} (hg : B ≤ g) (cs : Array Value) : Below B a (w.setRow g cs) :=
  ⟨h.os, h.tape, h.output, by rw [setRow_size]; exact h.size, fun k hk => by rw [setRow_other w g k cs (by omega)]; exact h.block k hk⟩
theorem row_lt {w : World} {g : Nat} {o : Obj} (h : w.heap[g]? = some o) : g < w.heap.size := by
  rcases Nat.lt_or_ge g w.heap.size with h1 | h1
  · exact h1
  · rw [Array.getElem?_eq_none h1] at h; cases h
theorem row_alloc {w : World} {g : Nat} {o : Obj} (h : w.heap[g]? = some o) (o' : Obj) : (w.alloc o').heap[g]? = some o := by
  show (w.heap.push o')[g]? = some o
  rw [Array.getElem?_push, if_neg (Nat.ne_of_lt (row_lt h))]; exact h
theorem row_new (w : World) (o : Obj) : (w.alloc o).heap[w.heap.size]? = some o := by
  show (w.heap.push o)[w.heap.size]? = some o
  simp
theorem row_new1 (w : World) (o1 o : Obj) : ((w.alloc o1).alloc o).heap[w.heap.size + 1]? = some o := by
  have := row_new (w.alloc o1) o
  rwa [show (w.alloc o1).heap.size = w.heap.size + 1 by simp] at this
theorem row_new2 (w : World) (o1 o2 o : Obj) : (((w.alloc o1).alloc o2).alloc o).heap[w.heap.size + 1 + 1]? = some o := by
  have := row_new ((w.alloc o1).alloc o2) o
  rwa [show ((w.alloc o1).alloc o2).heap.size = w.heap.size + 1 + 1 by simp] at this
theorem row_set {w : World} {g : Nat} {o : Option Obj} (h : w.heap[g]? = o) {g' : Nat} (cs : Array Value) (hne : g ≠ g') : (w.setRow g' cs).heap[g]? = o := by
  rw [setRow_other w g' g cs hne]; exact h
/-- A whole array stored: the world behind it is a letter. -/
theorem store_rowE {P : Program} {w : World} {ops : Array Oper} {rest : List Oper} {o : Oper} {a : Act} {Q : Exit → Act → World → Prop} (hgd : o.guard = none) (ty : TypeId) (x y : Operand) (ho : o.op = .store ty x y)
    (g : Nat) (cells : Array Value) (hx : a.eval x = .pointer (some ⟨g, 0, none⟩)) (hy : a.eval y = .agg cells)
    (t : TypeId) (old : Array Value) (hg : w.heap[g]? = some (.cells old t (0, 0))) (hi : (P.info? ty).map (·.size) = some cells.size)
    (hold : old.size = cells.size) (h1 : cells.all (·.oneCell') = true)
    (h : ∀ w', w' = w.setRow g cells → wpList P ops Q rest (a.put o.dst undef) w') : wpList P ops Q (o :: rest) a w :=
  wpList_store_row hgd ty x y ho g cells hx hy t old hg hi hold h1 (h _ rfl)
theorem row_self {w w' : World} {g : Nat} {t : TypeId} {old cs : Array Value} (hg : w.heap[g]? = some (.cells old t (0, 0))) (hw : w' = w.setRow g cs) : w'.heap[g]? = some (.cells cs t (0, 0)) := by
  subst hw; exact setRow_heap w g old cs t _ hg
theorem row_oth {w w' : World} {g g' : Nat} {o : Option Obj} {cs : Array Value} (h : w.heap[g]? = o) (hw : w' = w.setRow g' cs) (hne : g ≠ g') : w'.heap[g]? = o := by
  subst hw; exact row_set h cs hne
theorem below_set {B : Nat} {a w w' : World} {g : Nat} {cs : Array Value} (h : Below B a w) (hw : w' = w.setRow g cs) (hg : B ≤ g) : Below B a w' := by
  subst hw; exact h.setRow hg cs
theorem size_set {w w' : World} {g : Nat} {cs : Array Value} (hw : w' = w.setRow g cs) : w'.heap.size = w.heap.size := by
  subst hw; exact setRow_size w g cs
/-- A whole array loaded, in a region's part that only reads. -/
theorem still_load_row {P : Program} {w : World} {ops : Array Oper} {rest : List Oper} {o : Oper} {a : Act} {Q : Act → Prop} (hgd : o.guard = none) (ty : TypeId) (x : Operand) (ho : o.op = .load ty x)
    (g : Nat) (hx : a.eval x = .pointer (some ⟨g, 0, none⟩)) (t : TypeId) (cs : Array Value) (fr : Nat × Nat) (d : TypeDesc) (hg : w.heap[g]? = some (.cells cs t fr))
    (hu : P.underlying ty = some d) (hd : (match d with | .struct _ | .array _ _ => true | _ => false) = true) (hi : (P.info? ty).map (·.size) = some cs.size)
    (h : wpStill P ops w Q rest (a.put o.dst (.agg cs))) : wpStill P ops w Q (o :: rest) a := by
  refine wpStill_step (fun K hK => ?_)
  have hw : Region.wanted o (yielded ops a.tmps) = true := by simp [Region.wanted, hgd]
  rw [if_pos hw]
  unfold Oper.still execOp
  simp only [ho, hx, Instr.loadAt, Instr.sureAddr, Sem.run_bind, Sem.run_pure, Result.andThen_ok, run_loadVar_row w g t ty cs fr d hg hu hd hi]
  exact ⟨rfl, hK _ h⟩
/-- A region that draws, whose operations but for the tail only read: the world behind the draw is a letter. -/
theorem region_tail {P : Program} {id : Nat} {Q : Exit → Act → World → Prop} {a : Act} {w : World} {l : List Oper} (n : Nat) (hm : P.follows .mixedOrders = true) (hB : Region.lexTailB .any l.toArray n = true)
    (h : ∀ w9 : World, w9 = w.drew → wpStill P l.toArray w9 (fun a' => wpList P l.toArray Q (l.drop n) a' w9) (l.take n) a) : (Code.region id l.toArray true).wp P Q a w :=
  wp_region_still_tail n hm hB (h w.drew rfl)
end Go.Proofs.Ytefjdbgmakddjaa
