/- TmpMem, RefTmp1, LawTmp0 -/
import Derived.Below
import Derived.Deep.AppendLies
import Derived.Deep.LoopGhost
import Derived.Deep.RegionHeld3
import Derived.IntWalk
import Derived.Laws.OwnMore
import Derived.Lib.OwnBridge
import Derived.Maps.AppendAt
import Derived.ProofKit
import Derived.SliceStrings
import Derived.Test.YtkcilmmaggmmoaaGreatDoorNT2
import Derived.Test.YtkcilmmaggmmoaaGreatDoorNT5
import Derived.WalkKit
set_option linter.unusedVariables false
set_option linter.unusedSimpArgs false
set_option maxRecDepth 100000
set_option maxHeartbeats 16000000
namespace Go.Proofs.YtkcilmmaggmmoaaGreatDoor
namespace Nw
end Nw
namespace T13
end T13
end Go.Proofs.YtkcilmmaggmmoaaGreatDoor
namespace Go.Proofs.YtkcilmmaggmmoaaGreatDoor
section
open Go.RowKit Go.Sort
open Nw T13 Go.ChangeShapes Go.WideShapes
mutual
def PtC (S : Nat → Prop) (w : World) : Pt → Value → Value → Value → Value → Prop
 | .mk n t o s, c0, c1, c2, c3 => c0 = .string (ba n) ∧ c1 = .string (ba t) ∧ c2 = .int .i64 o ∧
   ∃ (A : Option Addr) (cap : Nat), c3 = .slice A s.length cap ∧ s.length ≤ cap ∧ cap ≤ maxLen ∧ (A = none → cap = 0) ∧ PtK S w s A 0
def PtK (S : Nat → Prop) (w : World) : List Pt → Option Addr → Nat → Prop
 | [], _, _ => True
 | p :: ps, A, i => (∃ (b o : Nat) (c0 c1 c2 c3 : Value), A = some ⟨b, o, none⟩ ∧ S b ∧ w.cell? ⟨b, o + i * 4, none⟩ = some c0 ∧ w.cell? ⟨b, o + i * 4 + 1, none⟩ = some c1 ∧
   w.cell? ⟨b, o + i * 4 + 2, none⟩ = some c2 ∧ w.cell? ⟨b, o + i * 4 + 3, none⟩ = some c3 ∧ PtC S w p c0 c1 c2 c3) ∧ PtK S w ps A (i + 1)
end
mutual
theorem PtC.keep {S T : Nat → Prop} {w w' : World} (hk : ∀ b, S b → T b ∧ w'.heap[b]? = w.heap[b]?) : ∀ (p : Pt) {c0 c1 c2 c3 : Value}, PtC S w p c0 c1 c2 c3 → PtC T w' p c0 c1 c2 c3
 | .mk n t o s, c0, c1, c2, c3, h => by
  rw [PtC] at h ⊢
  obtain ⟨h0, h1, h2, A, cap, h3, h4, h5, h6, h7⟩ := h
  exact ⟨h0, h1, h2, A, cap, h3, h4, h5, h6, PtK.keep hk s h7⟩
theorem PtK.keep {S T : Nat → Prop} {w w' : World} (hk : ∀ b, S b → T b ∧ w'.heap[b]? = w.heap[b]?) : ∀ (ps : List Pt) {A : Option Addr} {i : Nat}, PtK S w ps A i → PtK T w' ps A i
 | [], A, i, _ => by rw [PtK]; trivial
 | p :: ps, A, i, h => by
  rw [PtK] at h ⊢
  obtain ⟨⟨b, o, c0, c1, c2, c3, hA, hS, e0, e1, e2, e3, hd⟩, hds⟩ := h
  exact ⟨⟨b, o, c0, c1, c2, c3, hA, (hk b hS).1, (World.cell?_of_block (hk b hS).2).trans e0, (World.cell?_of_block (hk b hS).2).trans e1, (World.cell?_of_block (hk b hS).2).trans e2, (World.cell?_of_block (hk b hS).2).trans e3, PtC.keep hk p hd⟩, PtK.keep hk ps hds⟩
end
theorem PtK.at_ {S : Nat → Prop} {w : World} : ∀ {ps : List Pt} {A : Option Addr} {i : Nat}, PtK S w ps A i → ∀ (j : Nat) (h : j < ps.length),
  ∃ (b o : Nat) (c0 c1 c2 c3 : Value), A = some ⟨b, o, none⟩ ∧ S b ∧ w.cell? ⟨b, o + (i + j) * 4, none⟩ = some c0 ∧ w.cell? ⟨b, o + (i + j) * 4 + 1, none⟩ = some c1 ∧
   w.cell? ⟨b, o + (i + j) * 4 + 2, none⟩ = some c2 ∧ w.cell? ⟨b, o + (i + j) * 4 + 3, none⟩ = some c3 ∧ PtC S w (ps[j]'h) c0 c1 c2 c3
 | p :: ps, A, i, h, 0, _ => by rw [PtK] at h; exact h.1
 | p :: ps, A, i, h, j + 1, hj => by
  rw [PtK] at h
  have := PtK.at_ h.2 j (Nat.lt_of_succ_lt_succ hj)
  rw [show i + (j + 1) = i + 1 + j by omega]
  exact this
theorem ptK_of {S : Nat → Prop} {w : World} {A : Option Addr} : ∀ (ps : List Pt) (i : Nat), (∀ (j : Nat) (h : j < ps.length),
  ∃ (b o : Nat) (c0 c1 c2 c3 : Value), A = some ⟨b, o, none⟩ ∧ S b ∧ w.cell? ⟨b, o + (i + j) * 4, none⟩ = some c0 ∧ w.cell? ⟨b, o + (i + j) * 4 + 1, none⟩ = some c1 ∧
   w.cell? ⟨b, o + (i + j) * 4 + 2, none⟩ = some c2 ∧ w.cell? ⟨b, o + (i + j) * 4 + 3, none⟩ = some c3 ∧ PtC S w (ps[j]'h) c0 c1 c2 c3) → PtK S w ps A i
 | [], i, _ => by rw [PtK]; trivial
 | p :: ps, i, h => by
  rw [PtK]
  refine ⟨h 0 (Nat.succ_pos _), ptK_of ps (i + 1) fun j hj => ?_⟩
  have := h (j + 1) (Nat.succ_lt_succ hj)
  rw [show i + 1 + j = i + (j + 1) by omega]
  exact this
def PtL (S : Nat → Prop) (w : World) (v : Value) (ps : List Pt) : Prop :=
 ∃ (A : Option Addr) (cap : Nat), v = .slice A ps.length cap ∧ ps.length ≤ cap ∧ cap ≤ maxLen ∧ (A = none → cap = 0) ∧ PtK S w ps A 0
def PtW (w : World) (v : Value) (ps : List Pt) : Prop := PtL (· < w.heap.size) w v ps
theorem PtL.keep {S T : Nat → Prop} {w w' : World} {v : Value} {ps : List Pt} (h : PtL S w v ps) (hk : ∀ b, S b → T b ∧ w'.heap[b]? = w.heap[b]?) : PtL T w' v ps := by
 obtain ⟨A, cap, h1, h2, h3, h4, h5⟩ := h
 exact ⟨A, cap, h1, h2, h3, h4, PtK.keep hk ps h5⟩
theorem PtL.more {S T : Nat → Prop} {w : World} {v : Value} {ps : List Pt} (h : PtL S w v ps) (hk : ∀ b, S b → T b) : PtL T w v ps := h.keep fun b hb => ⟨hk b hb, rfl⟩
theorem PtW.below {w w' : World} {v : Value} {ps : List Pt} (h : PtW w v ps) (hb : Below w.heap.size w w') : PtW w' v ps := PtL.keep h fun b hlt => ⟨Nat.lt_of_lt_of_le hlt hb.size, hb.block b hlt⟩
theorem ptL_nil (S : Nat → Prop) (w : World) : PtL S w (.slice none 0 0) [] := ⟨none, 0, rfl, Nat.le_refl _, Nat.zero_le _, fun _ => rfl, by rw [PtK]; trivial⟩
theorem PtL.at_ {S : Nat → Prop} {w : World} {A : Option Addr} {n cap : Nat} {ps : List Pt} (h : PtL S w (.slice A n cap) ps) (j : Nat) (hj : j < ps.length) :
  ∃ (b o : Nat) (e0 e1 e2 e3 : Value), A = some ⟨b, o, none⟩ ∧ S b ∧ w.cell? ⟨b, o + j * 4, none⟩ = some e0 ∧ w.cell? ⟨b, o + j * 4 + 1, none⟩ = some e1 ∧
    w.cell? ⟨b, o + j * 4 + 2, none⟩ = some e2 ∧ w.cell? ⟨b, o + j * 4 + 3, none⟩ = some e3 ∧ PtC S w (ps[j]'hj) e0 e1 e2 e3 := by
 obtain ⟨A', cap', h1, -, -, -, h5⟩ := h
 have hAe : A = A' := by injection h1
 subst hAe
 have := PtK.at_ h5 j hj
 rw [Nat.zero_add] at this
 exact this
theorem PtC.sub {S : Nat → Prop} {w : World} {n t : L8} {o : Int} {s : List Pt} {c0 c1 c2 c3 : Value} (h : PtC S w (.mk n t o s) c0 c1 c2 c3) : c0 = .string (ba n) ∧ c1 = .string (ba t) ∧ c2 = .int .i64 o ∧ PtL S w c3 s := by
 rw [PtC] at h
 exact h
structure Qp where
 a : Value
 b : Value
 c : Value
 d : Value
def flatQ : List Qp → List Value
 | [] => []
 | q :: l => q.a :: q.b :: q.c :: q.d :: flatQ l
theorem flatQ_len : ∀ (l : List Qp), (flatQ l).length = l.length * 4
 | [] => rfl
 | q :: l => by
  rw [flatQ]
  simp only [List.length_cons, flatQ_len l]; omega
theorem flatQ_app : ∀ (l m : List Qp), flatQ (l ++ m) = flatQ l ++ flatQ m
 | [], m => rfl
 | q :: l, m => by rw [List.cons_append, flatQ, flatQ, flatQ_app l m]; rfl
theorem flatQ_get : ∀ (l : List Qp) (j : Nat) (h : j < l.length), (flatQ l)[j * 4]? = some (l[j]'h).a ∧ (flatQ l)[j * 4 + 1]? = some (l[j]'h).b ∧ (flatQ l)[j * 4 + 2]? = some (l[j]'h).c ∧ (flatQ l)[j * 4 + 3]? = some (l[j]'h).d
 | q :: l, 0, _ => ⟨rfl, rfl, rfl, rfl⟩
 | q :: l, j + 1, h => by
  have := flatQ_get l j (Nat.lt_of_succ_lt_succ h)
  rw [flatQ, show (j + 1) * 4 = j * 4 + 4 by omega]
  exact this
def PtQ (S : Nat → Prop) (w : World) (p : Pt) (q : Qp) : Prop := PtC S w p q.a q.b q.c q.d
def PtO (e : TypeId) (S : Nat → Prop) (base : Nat) (w : World) (v : Value) (qs : List Qp) (ps : List Pt) : Prop :=
 w.ownsRow base e 4 v ps.length (flatQ qs) ∧ qs.length = ps.length ∧ ∀ (j : Nat) (h : j < qs.length) (g : j < ps.length), PtQ S w (ps[j]'g) (qs[j]'h)
theorem owns_keep13 {w w' : World} {base n size : Nat} {e : TypeId} {v : Value} {xs : List Value} (h : w.ownsRow base e size v n xs) (hr : ∀ g, v.ownBlock = some g → w'.heap[g]? = w.heap[g]?) : w'.ownsRow base e size v n xs := by
 refine ⟨h.1, ?_⟩
 rcases h.2 with h0 | ⟨g, cap, cur, h1, h2, h3, h4⟩
 ·exact .inl h0
 ·exact .inr ⟨g, cap, cur, h1, h2, (hr g (by rw [h1]; rfl)).trans h3, h4⟩
theorem PtO.keep {e : TypeId} {S T : Nat → Prop} {base : Nat} {w w' : World} {v : Value} {qs : List Qp} {ps : List Pt} (h : PtO e S base w v qs ps) (hk : ∀ b, S b → T b ∧ w'.heap[b]? = w.heap[b]?) (hr : ∀ g, v.ownBlock = some g → w'.heap[g]? = w.heap[g]?) : PtO e T base w' v qs ps :=
 ⟨owns_keep13 h.1 hr, h.2.1, fun j hj g => PtC.keep hk _ (h.2.2 j hj g)⟩
theorem ptO_nil (e : TypeId) (S : Nat → Prop) (base : Nat) (w : World) : PtO e S base w (.slice none 0 0) [] [] := ⟨World.ownsRow_nil _ _ _ _, rfl, fun j h => absurd h (Nat.not_lt_zero _)⟩
theorem ptO_lit (e : TypeId) (S : Nat → Prop) (w : World) : PtO e S w.heap.size (w.alloc (.cells #[] e)) (.slice (some ⟨w.heap.size, 0, none⟩) 0 0) [] [] :=
 ⟨⟨rfl, .inr ⟨w.heap.size, 0, #[], rfl, Nat.le_refl _, Array.getElem?_push_size (xs := w.heap), Nat.le_refl _, Nat.zero_le _, rfl, rfl⟩⟩, rfl, fun j h => absurd h (Nat.not_lt_zero _)⟩
theorem ptL_of_own {e : TypeId} {S T : Nat → Prop} {base : Nat} {w : World} {v : Value} {qs : List Qp} {ps : List Pt} (h : PtO e S base w v qs ps) (hT : ∀ b, S b → T b) (hv : ∀ b, v.ownBlock = some b → T b) : PtL T w v ps := by
 rcases h.1.2 with ⟨h0, hn⟩ | ⟨g, cap, cur, h1, h2, h3, h4, h5, h6, h7⟩
 ·obtain rfl : ps = [] := List.length_eq_zero_iff.1 hn
  rw [h0]
  exact ptL_nil _ _
 ·subst h1
  refine ⟨some ⟨g, 0, none⟩, cap, rfl, h4, h5, fun h => (by cases h), ptK_of ps 0 fun j hj => ?_⟩
  have hq : j < qs.length := by rw [h.2.1]; exact hj
  obtain ⟨f0, f1, f2, f3⟩ := flatQ_get qs j hq
  refine ⟨g, 0, _, _, _, _, rfl, hv g rfl, ?_, ?_, ?_, ?_, PtC.keep (fun b hs => ⟨hT b hs, rfl⟩) _ (h.2.2 j hq hj)⟩
  ·rw [Nat.zero_add, Nat.zero_add]; exact (h.1.cellAt (j * 4) (by omega)).trans f0
  ·rw [Nat.zero_add, Nat.zero_add]; exact (h.1.cellAt (j * 4 + 1) (by omega)).trans f1
  ·rw [Nat.zero_add, Nat.zero_add]; exact (h.1.cellAt (j * 4 + 2) (by omega)).trans f2
  ·rw [Nat.zero_add, Nat.zero_add]; exact (h.1.cellAt (j * 4 + 3) (by omega)).trans f3
def Mine (w W : World) (v : Value) (b : Nat) : Prop := w.heap.size ≤ b ∧ b < W.heap.size ∧ v.ownBlock ≠ some b
def Since (w W : World) (b : Nat) : Prop := w.heap.size ≤ b ∧ b < W.heap.size
def PtN (e : TypeId) (w W : World) (v : Value) (ps : List Pt) : Prop := ∃ qs, PtO e (Mine w W v) w.heap.size W v qs ps
theorem PtN.below {e : TypeId} {w W W' : World} {v : Value} {ps : List Pt} (h : PtN e w W v ps) (hb : Below W.heap.size W W') : PtN e w W' v ps := by
 obtain ⟨qs, h⟩ := h
 exact ⟨qs, h.keep (fun b hs => ⟨⟨hs.1, Nat.lt_of_lt_of_le hs.2.1 hb.size, hs.2.2⟩, hb.block b hs.2.1⟩) fun g hg => hb.block g (h.1.lt g hg).2⟩
theorem PtN.done {e : TypeId} {w W : World} {v : Value} {ps : List Pt} (h : PtN e w W v ps) : PtL (Since w W) W v ps := by
 obtain ⟨qs, h⟩ := h
 exact ptL_of_own h (fun b hs => ⟨hs.1, hs.2.1⟩) fun b hb => h.1.lt b hb
theorem PtN.grow {e : TypeId} {w W W' : World} {v v' : Value} {ps : List Pt} {p : Pt} {qs : List Qp} {q : Qp} (h : PtO e (Mine w W v) w.heap.size W v qs ps) (hp : PtQ (Mine w W v) W p q)
  (ho : W'.ownsRow w.heap.size e 4 v' (ps.length + 1) (flatQ qs ++ [q.a, q.b, q.c, q.d])) (hg : W.grownBy W' v.ownBlock) (hl : v'.ownBlock = v.ownBlock ∨ v'.ownBlock = some W.heap.size) : PtN e w W' v' (ps ++ [p]) := by
 have hk : ∀ b, Mine w W v b → Mine w W' v' b ∧ W'.heap[b]? = W.heap[b]? := fun b hs =>
  ⟨⟨hs.1, Nat.lt_of_lt_of_le hs.2.1 hg.size, by
   rcases hl with hl | hl
   ·rw [hl]; exact hs.2.2
   ·rw [hl]; intro e; injection e with e; have := hs.2.1; omega⟩, hg.block b hs.2.1 fun e => hs.2.2 e.symm⟩
 refine ⟨qs ++ [q], ?_, ?_, fun j hj g => ?_⟩
 ·rw [List.length_append, flatQ_app]; exact ho
 ·rw [List.length_append, List.length_append, h.2.1]; rfl
 ·by_cases hlt : j < qs.length
  ·have h2 : j < ps.length := by rw [← h.2.1]; exact hlt
   rw [List.getElem_append_left hlt, List.getElem_append_left h2]
   exact PtC.keep hk _ (h.2.2 j hlt h2)
  ·have hj2 : j = qs.length := by rw [List.length_append] at hj; have : j < qs.length + 1 := hj; omega
   subst hj2
   have h2 : ps.length ≤ qs.length := by rw [h.2.1]; exact Nat.le_refl _
   rw [List.getElem_append_right (Nat.le_refl _), List.getElem_append_right h2]
   have e1 : qs.length - ps.length = 0 := by rw [h.2.1, Nat.sub_self]
   simp only [e1, Nat.sub_self, List.getElem_cons_zero]
   exact PtC.keep hk _ hp
end
section
open Go.RowKit Go.Sort
open Nw T13
theorem ret_s13 {a b : ByteArray} (h : a = b) : Ending.returned (.string a) = .returned (.string b) := by rw [h]
theorem depL_snoc : ∀ (a : List Pt) (p : Pt), depL (a ++ [p]) = max (depL a) (depP p)
 | [], p => by rw [List.nil_append, depL, depL, depL]; omega
 | q :: a, p => by rw [List.cons_append, depL, depL, depL_snoc a p]; omega
theorem depL_take {ps : List Pt} {j : Nat} (h : j < ps.length) : depL (ps.take (j + 1)) = max (depL (ps.take j)) (depP (ps[j]'h)) := by rw [List.take_succ_eq_append_getElem h, depL_snoc]
theorem cntL_mem13 : ∀ {ps : List Pt} {p : Pt}, p ∈ ps → cntP p ≤ cntL ps
 | q :: ps, p, h => by
  rw [cntL]
  rcases List.mem_cons.1 h with rfl | h
  ·omega
  ·have := cntL_mem13 h; omega
theorem cntL_len13 : ∀ (ps : List Pt), ps.length ≤ cntL ps
 | [] => Nat.zero_le _
 | .mk n t o s :: ps => by
  have := cntL_len13 ps
  rw [cntL, cntP, List.length_cons]; omega
theorem cnt_sub {ps : List Pt} {j : Nat} (h : j < ps.length) {n t : L8} {o : Int} {s : List Pt} (e : ps[j]'h = .mk n t o s) : cntL s + 1 ≤ cntL ps := by
 have := cntL_mem13 (List.getElem_mem h)
 rw [e, cntP] at this
 omega
end
section
open Go.RowKit Go.Sort
open Nw T13
attribute [local go_sem] Oper.semAt_some
theorem infoP13a : (Tryz.prog.info? 84).map (fun i => (i.zero, i.size, i.bytes)) = some (some (.agg #[.string ⟨#[]⟩, .string ⟨#[]⟩, .int .i64 0, .slice none 0 0]), 4, 64) := by kernel_rfl
theorem infoP13 : ∃ i, Tryz.prog.info? 84 = some i ∧ i.zero = some (.agg #[.string ⟨#[]⟩, .string ⟨#[]⟩, .int .i64 0, .slice none 0 0]) ∧ i.size = 4 ∧ i.bytes = 64 := by
 have h := infoP13a
 cases hi : Tryz.prog.info? 84 with
 | none => rw [hi] at h; cases h
 | some i =>
  rw [hi] at h
  simp only [Option.map_some, Option.some.injEq, Prod.mk.injEq] at h
  exact ⟨i, rfl, h.1, h.2.1, h.2.2⟩
theorem news13 (w : World) (c : Array Value) (t : TypeId) : ∀ j u, c.toList[j]? = some u → (w.alloc (.cells c t)).cell? ((⟨w.heap.size, 0, none⟩ : Addr).add j) = some u := by
 intro j u h
 rw [Go.WideShapes.add_plain, Nat.zero_add]
 have e : (w.alloc (.cells c t)).heap[w.heap.size]? = some (.cells c t (0, 0)) := Array.getElem?_push_size (xs := w.heap)
 rw [cell_of_row _ _ j c t (0, 0) e]
 simpa using h
theorem four13 (x y : ByteArray) (o : Int) (A : Option Addr) (n c : Nat) : ∀ u ∈ [Value.string x, .string y, .int .i64 o, .slice A n c], u.oneCell' = true := by
 intro u hu
 simp only [List.mem_cons, List.not_mem_nil, or_false] at hu
 rcases hu with rfl | rfl | rfl | rfl <;> rfl
theorem PtN.of_lit (e : TypeId) (w : World) : PtN e w (w.alloc (.cells #[] e)) (.slice (some ⟨w.heap.size, 0, none⟩) 0 0) [] := ⟨[], ptO_lit e _ w⟩
theorem PtC.mk_ {S : Nat → Prop} {w : World} {n t : L8} {o : Int} {s : List Pt} {c3 : Value} (h : PtL S w c3 s) : PtC S w (.mk n t o s) (.string (ba n)) (.string (ba t)) (.int .i64 o) c3 := by
 rw [PtC]
 exact ⟨rfl, rfl, rfl, h⟩
theorem PtO.go {e : TypeId} {w W W' : World} {v : Value} {qs : List Qp} {ps : List Pt} (h : PtO e (Mine w W v) w.heap.size W v qs ps) (hb : Below W.heap.size W W') : PtO e (Mine w W' v) w.heap.size W' v qs ps :=
 h.keep (fun b hs => ⟨⟨hs.1, Nat.lt_of_lt_of_le hs.2.1 hb.size, hs.2.2⟩, hb.block b hs.2.1⟩) fun g hg => hb.block g (h.1.lt g hg).2
end
end Go.Proofs.YtkcilmmaggmmoaaGreatDoor
