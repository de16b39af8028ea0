/- RefTmp1, RefTmp2, RefTmp3, LawTmp0 -/
import Derived.Below
import Derived.Deep.AppendLies
import Derived.Deep.Cut
import Derived.Deep.LoopGhost
import Derived.Deep.RegionHeld3
import Derived.IntWalk
import Derived.Laws.AppendOwnNone
import Derived.Maps.AppendAt
import Derived.OwnWalk
import Derived.ProofKit
import Derived.Test.YtkcilmmaggmmoaaDoorGT11
import Derived.Test.YtkcilmmaggmmoaaDoorGT6
import Derived.Test.YtkcilmmaggmmoaaDoorGT7
import Derived.WalkKit
set_option linter.unusedVariables false
set_option linter.unusedSimpArgs false
set_option maxRecDepth 100000
set_option maxHeartbeats 16000000
namespace Go.Proofs.YtkcilmmaggmmoaaDoor
namespace Nw
end Nw
namespace T13
end T13
end Go.Proofs.YtkcilmmaggmmoaaDoor
namespace Go.Proofs.YtkcilmmaggmmoaaDoor
section
open Go.RowKit Go.Sort
open Nw T13
theorem depL_snoc : ∀ (a : List Pt) (p : Pt), depL (a ++ [p]) = max (depL a) (depP p)
 | [], p => by rw [List.nil_append, depL, depL, depL]; omega
 | q :: a, p => by rw [List.cons_append, depL, depL, depL_snoc a p]; omega
theorem depL_take {ps : List Pt} {j : Nat} (h : j < ps.length) : depL (ps.take (j + 1)) = max (depL (ps.take j)) (depP (ps[j]'h)) := by rw [List.take_succ_eq_append_getElem h, depL_snoc]
theorem cntL_mem13 : ∀ {ps : List Pt} {p : Pt}, p ∈ ps → cntP p ≤ cntL ps
 | q :: ps, p, h => by
  rw [cntL]
  rcases List.mem_cons.1 h with rfl | h
  ·omega
  ·have := cntL_mem13 h; omega
theorem cntL_len13 : ∀ (ps : List Pt), ps.length ≤ cntL ps
 | [] => Nat.zero_le _
 | .mk n t o s :: ps => by
  have := cntL_len13 ps
  rw [cntL, cntP, List.length_cons]; omega
theorem cnt_sub {ps : List Pt} {j : Nat} (h : j < ps.length) {n t : L8} {o : Int} {s : List Pt} (e : ps[j]'h = .mk n t o s) : cntL s + 1 ≤ cntL ps := by
 have := cntL_mem13 (List.getElem_mem h)
 rw [e, cntP] at this
 omega
end
section
open Go.RowKit Go.Sort
open Nw T13
theorem infoS13a : (Tryd.prog.info? 9).map (fun i => (i.zero, i.size, i.bytes)) = some (some (.string ByteArray.empty), 1, 16) := by kernel_rfl
theorem infoS13 : ∃ i, Tryd.prog.info? 9 = some i ∧ i.zero = some (.string ByteArray.empty) ∧ i.size = 1 ∧ i.bytes = 16 := by
 have h := infoS13a
 cases hi : Tryd.prog.info? 9 with
 | none => rw [hi] at h; cases h
 | some i =>
  rw [hi] at h
  simp only [Option.map_some, Option.some.injEq, Prod.mk.injEq] at h
  exact ⟨i, rfl, h.1, h.2.1, h.2.2⟩
theorem namL_snoc : ∀ (a : List Pt) (p : Pt), namL (a ++ [p]) = namL a ++ namP p
 | [], p => by rw [List.nil_append, namL, namL, namL, List.append_nil]; rfl
 | q :: a, p => by rw [List.cons_append, namL, namL, namL_snoc a p, List.append_assoc]
theorem namL_take {ps : List Pt} {j : Nat} (h : j < ps.length) : namL (ps.take (j + 1)) = namL (ps.take j) ++ namP (ps[j]'h) := by rw [List.take_succ_eq_append_getElem h, namL_snoc]
theorem map_snoc13 (l : List L8) (x : L8) : (l ++ [x]).map encStr = l.map encStr ++ [.string (ba x)] := by rw [List.map_append]; rfl
end
section
open Go.RowKit Go.Sort
open Nw T13
attribute [local go_sem] Oper.semAt_some
theorem txtL_snoc (a : List Pt) (p : Pt) : txtL (a ++ [p]) = txtL a ++ txtP p := by rw [txtL_app, txtL, txtL, List.append_nil]
theorem txtL_take {ps : List Pt} {j : Nat} (h : j < ps.length) : txtL (ps.take (j + 1)) = txtL (ps.take j) ++ txtP (ps[j]'h) := by rw [List.take_succ_eq_append_getElem h, txtL_snoc]
theorem txtL_pre (ps : List Pt) (j : Nat) : (txtL (ps.take j)).length ≤ (txtL ps).length := by
 conv => rhs; rw [← List.take_append_drop j ps, txtL_app, List.length_append]
 omega
theorem escD_ge : ∀ t : L8, t.length ≤ (escD t).length
 | [] => Nat.le_refl _
 | c :: t => by
  have := escD_ge t
  unfold escD
  split <;> simp only [List.length_cons] <;> omega
theorem data_app13 (a b : ByteArray) : (a ++ b).data.toList = a.data.toList ++ b.data.toList := by rw [ByteArray.data_append, Array.toList_append]
theorem len_eq13 (s : ByteArray) : s.data.toList.length = s.size := rfl
theorem bytes_ext13 {a b : ByteArray} (h : a.data.toList = b.data.toList) : a = b := by
 cases a; cases b
 congr 1
 exact Array.toList_inj.1 h
end
section
open Go.RowKit Go.Sort
open Nw T13
attribute [local go_sem] Oper.semAt_some
theorem news13 (w : World) (c : Array Value) (t : TypeId) : ∀ j u, c.toList[j]? = some u → (w.alloc (.cells c t)).cell? ((⟨w.heap.size, 0, none⟩ : Addr).add j) = some u := by
 intro j u h
 rw [Go.WideShapes.add_plain, Nat.zero_add]
 have e : (w.alloc (.cells c t)).heap[w.heap.size]? = some (.cells c t (0, 0)) := Array.getElem?_push_size (xs := w.heap)
 rw [cell_of_row _ _ j c t (0, 0) e]
 simpa using h
theorem four13 (x y : ByteArray) (o : Int) (A : Option Addr) (n c : Nat) : ∀ u ∈ [Value.string x, .string y, .int .i64 o, .slice A n c], u.oneCell' = true := by
 intro u hu
 simp only [List.mem_cons, List.not_mem_nil, or_false] at hu
 rcases hu with rfl | rfl | rfl | rfl <;> rfl
theorem PtO.go {e : TypeId} {w W W' : World} {v : Value} {qs : List Qp} {ps : List Pt} (h : PtO e (Mine w W v) w.heap.size W v qs ps) (hb : Below W.heap.size W W') : PtO e (Mine w W' v) w.heap.size W' v qs ps :=
 h.keep (fun b hs => ⟨⟨hs.1, Nat.lt_of_lt_of_le hs.2.1 hb.size, hs.2.2⟩, hb.block b hs.2.1⟩) fun g hg => hb.block g (h.1.lt g hg).2
end
end Go.Proofs.YtkcilmmaggmmoaaDoor
