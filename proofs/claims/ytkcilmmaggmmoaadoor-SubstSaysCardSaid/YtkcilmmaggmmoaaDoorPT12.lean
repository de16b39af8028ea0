/- RefTmp1, RefTmp2, LawTmp0 -/
import Derived.Below
import Derived.Deep.AppendLies
import Derived.Deep.Cut
import Derived.Deep.LoopGhost
import Derived.Deep.RegionHeld3
import Derived.IntWalk
import Derived.Laws.AppendOwnNone
import Derived.Maps.AppendAt
import Derived.OwnWalk
import Derived.ProofKit
import Derived.Test.YtkcilmmaggmmoaaDoorPT5
import Derived.WalkKit
set_option linter.unusedVariables false
set_option linter.unusedSimpArgs false
set_option maxRecDepth 100000
set_option maxHeartbeats 16000000
open Go.Lib (hid)
namespace Go.Proofs.YtkcilmmaggmmoaaDoor
namespace Nw
end Nw
namespace T13
end T13
end Go.Proofs.YtkcilmmaggmmoaaDoor
namespace Go.Proofs.YtkcilmmaggmmoaaDoor
section
open Go.RowKit Go.Sort
open Nw T13
theorem ret_s13 {a b : ByteArray} (h : a = b) : Ending.returned (.string a) = .returned (.string b) := by rw [h]
theorem depL_snoc : ∀ (a : List Pt) (p : Pt), depL (a ++ [p]) = max (depL a) (depP p)
 | [], p => by rw [List.nil_append, depL, depL, depL]; omega
 | q :: a, p => by rw [List.cons_append, depL, depL, depL_snoc a p]; omega
theorem depL_take {ps : List Pt} {j : Nat} (h : j < ps.length) : depL (ps.take (j + 1)) = max (depL (ps.take j)) (depP (ps[j]'h)) := by rw [List.take_succ_eq_append_getElem h, depL_snoc]
theorem cntL_mem13 : ∀ {ps : List Pt} {p : Pt}, p ∈ ps → cntP p ≤ cntL ps
 | q :: ps, p, h => by
  rw [cntL]
  rcases List.mem_cons.1 h with rfl | h
  ·omega
  ·have := cntL_mem13 h; omega
theorem cntL_len13 : ∀ (ps : List Pt), ps.length ≤ cntL ps
 | [] => Nat.zero_le _
 | .mk n t o s :: ps => by
  have := cntL_len13 ps
  rw [cntL, cntP, List.length_cons]; omega
theorem cnt_sub {ps : List Pt} {j : Nat} (h : j < ps.length) {n t : L8} {o : Int} {s : List Pt} (e : ps[j]'h = .mk n t o s) : cntL s + 1 ≤ cntL ps := by
 have := cntL_mem13 (List.getElem_mem h)
 rw [e, cntP] at this
 omega
end
section
open Go.RowKit Go.Sort
open Nw T13
theorem mark_any (o : Int) (w : World) :
  Calls Tryd.prog 61 #[.int .i64 o] w fun e w' => e = .returned (.string (ba (markL o))) ∧ Below w.heap.size w w' := by
 by_cases h0 : o < 0
 ·have HE : Hid (ba (markL o) = ⟨#[]⟩) := hid (by
   unfold markL
   rw [if_neg (by omega), if_neg (by omega), if_neg (by omega), if_neg (by omega), if_neg (by omega), if_neg (by omega)]; rfl)
  go_enter Tryd.func61, Tryd.ntmps61
  go_wp2
  go_ret
  exact ⟨by rw [HE.out]; rfl, (Below.refl _ _).alloc (Nat.le_refl _) _⟩
 by_cases h7 : 7 < o
 ·have HE : Hid (ba (markL o) = ⟨#[]⟩) := hid (by
   unfold markL
   rw [if_neg (by omega), if_neg (by omega), if_neg (by omega), if_neg (by omega), if_neg (by omega), if_neg (by omega)]; rfl)
  go_enter Tryd.func61, Tryd.ntmps61
  go_wp2
  go_ret
  exact ⟨by rw [HE.out]; rfl, (Below.refl _ _).alloc (Nat.le_refl _) _⟩
 have ho : o = 0 ∨ o = 1 ∨ o = 2 ∨ o = 3 ∨ o = 4 ∨ o = 5 ∨ o = 6 ∨ o = 7 := by omega
 rcases ho with rfl | rfl | rfl | rfl | rfl | rfl | rfl | rfl
 all_goals
  go_enter Tryd.func61, Tryd.ntmps61
  go_wp2
  go_ret
  exact ⟨rfl, (Below.refl _ _).alloc (Nat.le_refl _) _⟩
end
section
open Go.RowKit Go.Sort
open Nw T13
attribute [local go_sem] Oper.semAt_some
theorem infoP13a : (Tryd.prog.info? 71).map (fun i => (i.zero, i.size, i.bytes)) = some (some (.agg #[.string ⟨#[]⟩, .string ⟨#[]⟩, .int .i64 0, .slice none 0 0]), 4, 64) := by kernel_rfl
theorem infoP13 : ∃ i, Tryd.prog.info? 71 = some i ∧ i.zero = some (.agg #[.string ⟨#[]⟩, .string ⟨#[]⟩, .int .i64 0, .slice none 0 0]) ∧ i.size = 4 ∧ i.bytes = 64 := by
 have h := infoP13a
 cases hi : Tryd.prog.info? 71 with
 | none => rw [hi] at h; cases h
 | some i =>
  rw [hi] at h
  simp only [Option.map_some, Option.some.injEq, Prod.mk.injEq] at h
  exact ⟨i, rfl, h.1, h.2.1, h.2.2⟩
theorem news13 (w : World) (c : Array Value) (t : TypeId) : ∀ j u, c.toList[j]? = some u → (w.alloc (.cells c t)).cell? ((⟨w.heap.size, 0, none⟩ : Addr).add j) = some u := by
 intro j u h
 rw [Go.WideShapes.add_plain, Nat.zero_add]
 have e : (w.alloc (.cells c t)).heap[w.heap.size]? = some (.cells c t (0, 0)) := Array.getElem?_push_size (xs := w.heap)
 rw [cell_of_row _ _ j c t (0, 0) e]
 simpa using h
theorem four13 (x y : ByteArray) (o : Int) (A : Option Addr) (n c : Nat) : ∀ u ∈ [Value.string x, .string y, .int .i64 o, .slice A n c], u.oneCell' = true := by
 intro u hu
 simp only [List.mem_cons, List.not_mem_nil, or_false] at hu
 rcases hu with rfl | rfl | rfl | rfl <;> rfl
theorem PtN.of_lit (e : TypeId) (w : World) : PtN e w (w.alloc (.cells #[] e)) (.slice (some ⟨w.heap.size, 0, none⟩) 0 0) [] := ⟨[], ptO_lit e _ w⟩
theorem PtC.mk_ {S : Nat → Prop} {w : World} {n t : L8} {o : Int} {s : List Pt} {c3 : Value} (h : PtL S w c3 s) : PtC S w (.mk n t o s) (.string (ba n)) (.string (ba t)) (.int .i64 o) c3 := by
 rw [PtC]
 exact ⟨rfl, rfl, rfl, h⟩
theorem PtO.go {e : TypeId} {w W W' : World} {v : Value} {qs : List Qp} {ps : List Pt} (h : PtO e (Mine w W v) w.heap.size W v qs ps) (hb : Below W.heap.size W W') : PtO e (Mine w W' v) w.heap.size W' v qs ps :=
 h.keep (fun b hs => ⟨⟨hs.1, Nat.lt_of_lt_of_le hs.2.1 hb.size, hs.2.2⟩, hb.block b hs.2.1⟩) fun g hg => hb.block g (h.1.lt g hg).2
end
end Go.Proofs.YtkcilmmaggmmoaaDoor
