/- RefNod6, NdRow -/
import Derived.Deep.CutRange
import Derived.Deep.LoopGhost
import Derived.Deep.RegionHeld3
import Derived.Deep.RegionLaw
import Derived.Laws.AppendOwnNone
import Derived.Lib.BufferMore
import Derived.Lib.OwnBridge
import Derived.Lib.SliceRun
import Derived.Maps.AppendAt
import Derived.Test.YtkcilmmaggmmoaaGreatDoorNT1
import Derived.Test.YtkcilmmaggmmoaaGreatDoorNT10
set_option linter.unusedVariables false
set_option linter.unusedSimpArgs false
set_option maxRecDepth 100000
set_option maxHeartbeats 16000000
open Go.Lib (hid)
namespace Go.Proofs.YtkcilmmaggmmoaaGreatDoor
namespace N8
end N8
namespace Nw
end Nw
end Go.Proofs.YtkcilmmaggmmoaaGreatDoor
namespace Go.Proofs.YtkcilmmaggmmoaaGreatDoor
section
open Go.RowKit Go.Sort
open Nw N8
theorem short_cnt (d : Nd) (h : cntT d ≤ 1099511627776) (r : Bool) (hr : shortT d = r) (c0 c1 c2 c3 : Value) (w : World) (hd : NdW w d c0 c1 c2 c3) :
  Calls Tryz.prog 15 #[.agg #[c0, c1, c2, c3]] w fun e w' => e = .returned (.bool r) ∧ Below w.heap.size w w' :=
 Rshort_any (cntT d) d (Nat.le_refl _) h r hr c0 c1 c2 c3 w hd
theorem RSmall_any (d : Nd) (most : Int) (h0 : 0 ≤ most) (h1 : most ≤ 100000) (r : Bool) (hr : smallT d most = r) (c0 c1 c2 c3 : Value) (w : World) (hd : NdW w d c0 c1 c2 c3) :
  Calls Tryz.prog 4 #[.agg #[c0, c1, c2, c3], .int .i64 most] w fun e w' => e = .returned (.bool r) ∧ Below w.heap.size w w' := by
 have HB0 := hid (Boxed.make hd)
 have HC := hid (fun W r hW => RLeft_any (cntT d) d (Nat.le_refl _) 1 most r (by decide) (by decide) h0 h1 hW c0 c1 c2 c3 W)
 obtain ⟨x, hx⟩ : ∃ x, leftT d 1 most = x := ⟨_, rfl⟩
 have HX := hid hx
 have HR : Hid ((decide (0 ≤ x) && shortT d) = r) := hid (by rw [← hr, smallT, okT, hx])
 obtain ⟨x0, x1, x2, x3⟩ := HB0.out.2.1.cells
 by_cases hx0 : 0 ≤ x
 ·have hcnt : cntT d ≤ 1099511627776 := by have := leftT_cnt d 1 most (by rw [hx]; exact hx0); omega
  have HS := hid (fun W hW => short_cnt d hcnt (shortT d) rfl c0 c1 c2 c3 W hW)
  have HE : Hid (shortT d = r) := hid (by rw [← HR.out, decide_eq_true hx0, Bool.true_and])
  have hp : decide (0 ≤ x) = true := decide_eq_true hx0
  clear hx hr hd hcnt
  obtain ⟨q, hq⟩ : ∃ q, shortT d = q := ⟨_, rfl⟩
  rw [hq] at HS HE
  clear hq
  go_enter Tryz.func4, Tryz.ntmps4
  go_wp2_with fail
  refine (HC.out _ x HX.out HB0.out.2.2).mono ?_
  rintro e w1 ⟨rfl, hb1⟩
  have HB1 := hid (HB0.out.go hb1)
  clear hb1 x0 x1 x2 x3
  obtain ⟨x0, x1, x2, x3⟩ := HB1.out.2.1.cells
  go_wp2_with fail
  refine (HS.out _ HB1.out.2.2).mono ?_
  rintro e w2 ⟨rfl, hb2⟩
  have HB2 := hid (HB1.out.go hb2)
  clear hb2
  go_wp2
  go_ret
  exact ⟨ret_b HE.out, HB2.out.1⟩
 ·have HE : Hid (r = false) := hid (by rw [← HR.out, decide_eq_false hx0, Bool.false_and])
  have hp : decide (0 ≤ x) = false := decide_eq_false hx0
  clear hx hr hd
  go_enter Tryz.func4, Tryz.ntmps4
  go_wp2_with fail
  refine (HC.out _ x HX.out HB0.out.2.2).mono ?_
  rintro e w1 ⟨rfl, hb1⟩
  have HB1 := hid (HB0.out.go hb1)
  clear hb1 x0 x1 x2 x3
  obtain ⟨x0, x1, x2, x3⟩ := HB1.out.2.1.cells
  go_wp2
  go_ret
  exact ⟨ret_b HE.out.symm, HB1.out.1⟩
theorem nd_nul (S : Nat → Prop) (w : World) : NdC S w nul (.int .i64 0) (.string ⟨#[]⟩) (.slice none 0 0) (.slice none 0 0) := by
 unfold nul
 rw [NdC]
 refine ⟨rfl, rfl, ?_, none, 0, rfl, Nat.zero_le _, Nat.zero_le _, fun _ => rfl, ?_⟩
 ·exact ⟨none, 0, rfl, Nat.zero_le _, Nat.zero_le _, .inl ⟨rfl, fun _ => rfl⟩⟩
 ·rw [NdK]; trivial
theorem NdC.old {S : Nat → Prop} {w w' : World} {d : Nd} {c0 c1 c2 c3 : Value} (h : NdC S w d c0 c1 c2 c3) (hS : ∀ b, S b → b < w.heap.size) (hb : Below w.heap.size w w') : NdC S w' d c0 c1 c2 c3 :=
 NdC.keep (fun b h => ⟨h, hb.block b (hS b h)⟩) d h
theorem NdC.all {S : Nat → Prop} {w : World} {d : Nd} {c0 c1 c2 c3 : Value} (h : NdC S w d c0 c1 c2 c3) (hS : ∀ b, S b → b < w.heap.size) : NdW w d c0 c1 c2 c3 :=
 NdC.keep (fun b h => ⟨hS b h, rfl⟩) d h
theorem NdW.shape {w : World} {d : Nd} {c0 c1 c2 c3 : Value} (h : NdW w d c0 c1 c2 c3) :
  ∃ (k : Int) (s : ByteArray) (a : Option Addr) (n c : Nat) (A : Option Addr) (m q : Nat), c0 = .int .i64 k ∧ c1 = .string s ∧ c2 = .slice a n c ∧ c3 = .slice A m q := by
 cases d with
 | mk k t ks ds =>
  obtain ⟨h0, h1, h2, A, cap, h3, _⟩ := h.parts
  obtain ⟨a, c, h4, _⟩ := rd_slice h2
  exact ⟨k, _, a, _, c, A, _, cap, h0, h1, h4, h3⟩
end
section
open Go.RowKit Go.Sort
open Nw N8 Go.ChangeShapes Go.WideShapes
structure Q4 where
 a : Value
 b : Value
 c : Value
 d : Value
def flat4 : List Q4 → List Value
 | [] => []
 | q :: l => q.a :: q.b :: q.c :: q.d :: flat4 l
theorem flat4_len : ∀ (l : List Q4), (flat4 l).length = l.length * 4
 | [] => rfl
 | q :: l => by
  rw [flat4]
  simp only [List.length_cons, flat4_len l]; omega
theorem flat4_app : ∀ (l m : List Q4), flat4 (l ++ m) = flat4 l ++ flat4 m
 | [], m => rfl
 | q :: l, m => by rw [List.cons_append, flat4, flat4, flat4_app l m]; rfl
theorem flat4_get : ∀ (l : List Q4) (j : Nat) (h : j < l.length), (flat4 l)[j * 4]? = some (l[j]'h).a ∧ (flat4 l)[j * 4 + 1]? = some (l[j]'h).b ∧ (flat4 l)[j * 4 + 2]? = some (l[j]'h).c ∧ (flat4 l)[j * 4 + 3]? = some (l[j]'h).d
 | q :: l, 0, _ => ⟨rfl, rfl, rfl, rfl⟩
 | q :: l, j + 1, h => by
  have := flat4_get l j (Nat.lt_of_succ_lt_succ h)
  rw [flat4, show (j + 1) * 4 = j * 4 + 4 by omega]
  exact this
theorem flat4_inv : ∀ (l : List Q4) (i : Nat) (u : Value), (flat4 l)[i]? = some u → ∃ (j : Nat) (h : j < l.length), (i = j * 4 ∧ u = (l[j]'h).a) ∨ (i = j * 4 + 1 ∧ u = (l[j]'h).b) ∨ (i = j * 4 + 2 ∧ u = (l[j]'h).c) ∨ (i = j * 4 + 3 ∧ u = (l[j]'h).d)
 | [], i, u, h => by cases h
 | p :: l, 0, u, h => ⟨0, Nat.succ_pos _, .inl ⟨rfl, by injection h with h; exact h.symm⟩⟩
 | p :: l, 1, u, h => ⟨0, Nat.succ_pos _, .inr (.inl ⟨rfl, by injection h with h; exact h.symm⟩)⟩
 | p :: l, 2, u, h => ⟨0, Nat.succ_pos _, .inr (.inr (.inl ⟨rfl, by injection h with h; exact h.symm⟩))⟩
 | p :: l, 3, u, h => ⟨0, Nat.succ_pos _, .inr (.inr (.inr ⟨rfl, by injection h with h; exact h.symm⟩))⟩
 | p :: l, i + 4, u, h => by
  obtain ⟨j, hj, hc⟩ := flat4_inv l i u h
  refine ⟨j + 1, Nat.succ_lt_succ hj, ?_⟩
  rcases hc with ⟨rfl, e⟩ | ⟨rfl, e⟩ | ⟨rfl, e⟩ | ⟨rfl, e⟩
  ·exact .inl ⟨by omega, e⟩
  ·exact .inr (.inl ⟨by omega, e⟩)
  ·exact .inr (.inr (.inl ⟨by omega, e⟩))
  ·exact .inr (.inr (.inr ⟨by omega, e⟩))
def NdQ (S : Nat → Prop) (w : World) (d : Nd) (q : Q4) : Prop := NdC S w d q.a q.b q.c q.d
theorem NdC.cellsOk {S : Nat → Prop} {w : World} {d : Nd} {c0 c1 c2 c3 : Value} (h : NdC S w d c0 c1 c2 c3) :
  ∃ (k : Int) (s : ByteArray) (a : Option Addr) (n c : Nat) (A : Option Addr) (m q : Nat), c0 = .int .i64 k ∧ c1 = .string s ∧ c2 = .slice a n c ∧ c3 = .slice A m q := by
 cases d with
 | mk k t ks ds =>
  rw [NdC] at h
  obtain ⟨h0, h1, ⟨a, c, h4, _⟩, A, cap, h3, _⟩ := h
  exact ⟨k, _, a, _, c, A, _, cap, h0, h1, h4, h3⟩
theorem NdQ.one {S : Nat → Prop} {w : World} {d : Nd} {q : Q4} (h : NdQ S w d q) : q.a.oneCell' = true ∧ q.b.oneCell' = true ∧ q.c.oneCell' = true ∧ q.d.oneCell' = true := by
 obtain ⟨k, s, a, n, c, A, m, r, h0, h1, h2, h3⟩ := NdC.cellsOk h
 rw [h0, h1, h2, h3]
 exact ⟨rfl, rfl, rfl, rfl⟩
theorem flat4_one {S : Nat → Prop} {w : World} {ds : List Nd} {qs : List Q4} (hl : qs.length = ds.length) (h : ∀ (j : Nat) (h : j < qs.length) (g : j < ds.length), NdQ S w (ds[j]'g) (qs[j]'h)) : ∀ u ∈ flat4 qs, u.oneCell' = true := by
 intro u hu
 obtain ⟨i, hi, e⟩ := List.mem_iff_getElem.1 hu
 obtain ⟨j, hj, hc⟩ := flat4_inv qs i u (by rw [List.getElem?_eq_getElem hi, e])
 obtain ⟨o0, o1, o2, o3⟩ := (h j hj (by omega)).one
 rcases hc with ⟨-, e⟩ | ⟨-, e⟩ | ⟨-, e⟩ | ⟨-, e⟩ <;> rw [e] <;> assumption
def KdS (S : Nat → Prop) (w : World) (v : Value) (ds : List Nd) : Prop :=
 ∃ (A : Option Addr) (cap : Nat), v = .slice A ds.length cap ∧ ds.length ≤ cap ∧ cap ≤ maxLen ∧ (A = none → cap = 0) ∧ NdK S w ds A 0
def KO (S : Nat → Prop) (base : Nat) (w : World) (v : Value) (qs : List Q4) (ds : List Nd) : Prop :=
 w.ownsRow base 25 4 v ds.length (flat4 qs) ∧ qs.length = ds.length ∧ ∀ (j : Nat) (h : j < qs.length) (g : j < ds.length), NdQ S w (ds[j]'g) (qs[j]'h)
theorem owns_keep {w w' : World} {base n size : Nat} {e : TypeId} {v : Value} {xs : List Value} (h : w.ownsRow base e size v n xs) (hr : ∀ g, v.ownBlock = some g → w'.heap[g]? = w.heap[g]?) : w'.ownsRow base e size v n xs := by
 refine ⟨h.1, ?_⟩
 rcases h.2 with h0 | ⟨g, cap, cur, h1, h2, h3, h4⟩
 ·exact .inl h0
 ·exact .inr ⟨g, cap, cur, h1, h2, (hr g (by rw [h1]; rfl)).trans h3, h4⟩
theorem owns_low {w : World} {base base' n size : Nat} {e : TypeId} {v : Value} {xs : List Value} (h : w.ownsRow base e size v n xs) (hb : base' ≤ base) : w.ownsRow base' e size v n xs := by
 refine ⟨h.1, ?_⟩
 rcases h.2 with h0 | ⟨g, cap, cur, h0, hg, r⟩
 ·exact .inl h0
 ·exact .inr ⟨g, cap, cur, h0, Nat.le_trans hb hg, r⟩
theorem owns_below {w w' : World} {base n size : Nat} {e : TypeId} {v : Value} {xs : List Value} (h : w.ownsRow base e size v n xs) (hb : Below w.heap.size w w') : w'.ownsRow base e size v n xs :=
 owns_keep h fun g hg => hb.block g (h.lt g hg).2
theorem KO.keep {S T : Nat → Prop} {base : Nat} {w w' : World} {v : Value} {qs : List Q4} {ds : List Nd} (h : KO S base w v qs ds) (hk : ∀ b, S b → T b ∧ w'.heap[b]? = w.heap[b]?) (hr : ∀ g, v.ownBlock = some g → w'.heap[g]? = w.heap[g]?) : KO T base w' v qs ds :=
 ⟨owns_keep h.1 hr, h.2.1, fun j hj g => NdC.keep hk _ (h.2.2 j hj g)⟩
theorem KO.low {S : Nat → Prop} {base base' : Nat} {w : World} {v : Value} {qs : List Q4} {ds : List Nd} (h : KO S base w v qs ds) (hb : base' ≤ base) : KO S base' w v qs ds := ⟨owns_low h.1 hb, h.2⟩
theorem infoN0 : (Tryz.prog.info? 25).map (fun i => (i.zero, i.size, i.bytes)) = some (some (.agg #[.int .i64 0, .string ⟨#[]⟩, .slice none 0 0, .slice none 0 0]), 4, 72) := by kernel_rfl
theorem infoN : ∃ i, Tryz.prog.info? 25 = some i ∧ i.zero = some (.agg #[.int .i64 0, .string ⟨#[]⟩, .slice none 0 0, .slice none 0 0]) ∧ i.size = 4 ∧ i.bytes = 72 := by
 have h := infoN0
 cases hi : Tryz.prog.info? 25 with
 | none => rw [hi] at h; cases h
 | some i =>
  rw [hi] at h
  simp only [Option.map_some, Option.some.injEq, Prod.mk.injEq] at h
  exact ⟨i, rfl, h.1, h.2.1, h.2.2⟩
theorem cells_alloc {w : World} {o : Obj} {p : Addr} {v : Value} (h : w.cell? p = some v) : (w.alloc o).cell? p = some v :=
 (World.cell?_of_block (Below.heap_alloc w o p.block (cell_lt h))).trans h
theorem NdC.kdS {S : Nat → Prop} {w : World} {k : Int} {t : L8} {ks : List L8} {ds : List Nd} {c0 c1 c2 c3 : Value} (h : NdC S w (.mk k t ks ds) c0 c1 c2 c3) : KdS S w c3 ds := by
 rw [NdC] at h
 exact h.2.2.2
theorem one_str (x : ByteArray) : ∀ u ∈ [Value.string x], u.oneCell' = true := by
 intro u hu
 rw [List.mem_singleton] at hu
 subst hu; rfl
theorem four_nd (k : Int) (s : ByteArray) (a : Option Addr) (n c : Nat) (A : Option Addr) (m q : Nat) : ∀ u ∈ [Value.int .i64 k, .string s, .slice a n c, .slice A m q], u.oneCell' = true := by
 intro u hu
 simp only [List.mem_cons, List.not_mem_nil, or_false] at hu
 rcases hu with rfl | rfl | rfl | rfl <;> rfl
theorem cell_grown {w w' : World} {row : Option Nat} {p : Addr} {v : Value} (h : w.cell? p = some v) (hg : w.grownBy w' row) (hne : row ≠ some p.block) : w'.cell? p = some v := hg.cell h fun e => hne e.symm
theorem news_blk {w : World} {B : Nat} (cs : Array Value) {t : TypeId} (hb : w.heap[B]? = some (.cells cs t (0, 0))) : ∀ j u, cs.toList[j]? = some u → w.cell? ((⟨B, 0, none⟩ : Addr).add j) = some u := by
 intro j u h
 rw [add_plain, Nat.zero_add, cell_of_row _ _ j cs t (0, 0) hb]
 simpa using h
theorem alloc_at (w : World) (o : Obj) : (w.alloc o).heap[w.heap.size]? = some o := heap_alloc_new w o
theorem alloc_at1 (w : World) (o p : Obj) : ((w.alloc p).alloc o).heap[w.heap.size + 1]? = some o := by
 have := heap_alloc_new (w.alloc p) o
 rwa [show (w.alloc p).heap.size = w.heap.size + 1 by simp] at this
theorem set_oth (w : World) (p : Addr) (v : Value) (b : Nat) (hb : b ≠ p.block) : (w.setCell p v).heap[b]? = w.heap[b]? := Below.heap_setCell _ _ _ _ hb
theorem frozen_grown {w w' : World} {row : Option Nat} {p : Addr} (h : w.frozen? p = false) (hg : w.grownBy w' row) (hlt : p.block < w.heap.size) (hne : row ≠ some p.block) : w'.frozen? p = false :=
 (World.frozen?_of_block (hg.block p.block hlt fun e => hne e.symm)).trans h
theorem own_shape {w : World} {base n size : Nat} {e : TypeId} {v : Value} {xs : List Value} (h : w.ownsRow base e size v n xs) : ∃ a c, v = .slice a n c := by
 rcases h.2 with ⟨h0, h1⟩ | ⟨g, cap, cur, h0, _⟩
 ·subst h1; exact ⟨_, _, h0⟩
 ·exact ⟨_, _, h0⟩
theorem rd_grown {w w' : World} {v : Value} {l : List L8} {row : Option Nat} (h : Rd w v l) (hg : w.grownBy w' row) (hne : ∀ g, v.ownBlock = some g → row ≠ some g) : Rd w' v l := by
 obtain ⟨a, cap, rfl, h1, h2, h3⟩ := h
 refine ⟨a, cap, rfl, h1, h2, ?_⟩
 rcases h3 with h3 | ⟨b, o, rfl, h4, h5⟩
 ·exact .inl h3
 ·exact .inr ⟨b, o, rfl, Nat.lt_of_lt_of_le h4 hg.size, fun j hj => cell_grown (h5 j hj) hg (hne b rfl)⟩
def New (S : Nat → Prop) (w w' : World) (b : Nat) : Prop := S b ∨ (w.heap.size ≤ b ∧ b < w'.heap.size)
theorem KO.kdS {S T : Nat → Prop} {base : Nat} {w : World} {v : Value} {qs : List Q4} {ds : List Nd} (h : KO S base w v qs ds) (hT : ∀ b, S b → T b) (hv : ∀ b, v.ownBlock = some b → T b) : KdS T w v ds := by
 rcases h.1.2 with ⟨h0, hn⟩ | ⟨g, cap, cur, h1, h2, h3, h4, h5, h6, h7⟩
 ·obtain rfl : ds = [] := List.length_eq_zero_iff.1 hn
  exact ⟨none, 0, h0, Nat.le_refl _, Nat.zero_le _, fun _ => rfl, by rw [NdK]; trivial⟩
 ·subst h1
  refine ⟨some ⟨g, 0, none⟩, cap, rfl, h4, h5, fun h => (by cases h), ndK_of ds 0 fun j hj => ?_⟩
  have hq : j < qs.length := by rw [h.2.1]; exact hj
  obtain ⟨f0, f1, f2, f3⟩ := flat4_get qs j hq
  refine ⟨g, 0, _, _, _, _, rfl, hv g rfl, ?_, ?_, ?_, ?_, NdC.keep (fun b hs => ⟨hT b hs, rfl⟩) _ (h.2.2 j hq hj)⟩
  ·rw [Nat.zero_add, Nat.zero_add]; exact (h.1.cellAt (j * 4) (by omega)).trans f0
  ·rw [Nat.zero_add, Nat.zero_add]; exact (h.1.cellAt (j * 4 + 1) (by omega)).trans f1
  ·rw [Nat.zero_add, Nat.zero_add]; exact (h.1.cellAt (j * 4 + 2) (by omega)).trans f2
  ·rw [Nat.zero_add, Nat.zero_add]; exact (h.1.cellAt (j * 4 + 3) (by omega)).trans f3
theorem KdS.kid {S : Nat → Prop} {w : World} {A : Option Addr} {n cap : Nat} {ds : List Nd} (h : KdS S w (.slice A n cap) ds) (j : Nat) (hj : j < ds.length) :
  ∃ (b o : Nat) (e0 e1 e2 e3 : Value), A = some ⟨b, o, none⟩ ∧ S b ∧ w.cell? ⟨b, o + j * 4, none⟩ = some e0 ∧ w.cell? ⟨b, o + j * 4 + 1, none⟩ = some e1 ∧
    w.cell? ⟨b, o + j * 4 + 2, none⟩ = some e2 ∧ w.cell? ⟨b, o + j * 4 + 3, none⟩ = some e3 ∧ NdC S w (ds[j]'hj) e0 e1 e2 e3 := by
 obtain ⟨A', cap', h1, -, -, -, h5⟩ := h
 have hAe : A = A' := by injection h1
 subst hAe
 have := NdK.at_ h5 j hj
 rw [Nat.zero_add] at this
 exact this
theorem step_append_own_at {P : Program} {ops : Array Oper} {o : Oper} {a : Act} {w : World} {K : Act → World → Prop} {Q : Exit → Act → World → Prop} {E : Prop} (hg : o.guard = none) (s x : Operand) (t : TypeId)
  (ho : o.op = .call { callee := .builtin .append, args := #[s, x], argTypes := #[t, t] })
  (base : Nat) (e : TypeId) (i : TypeInfo) (z : Value) (size bytes : Nat) (ht : P.underlying t = some (.slice e)) (hi : P.info? e = some i) (hz : i.zero = some z)
  (hsize : i.size = size) (hby : i.bytes = bytes) (hzs : z.cells.size = size) (hsz : 0 < size)
  (v : Value) (n : Nat) (xs : List Value) (hs : a.eval s = v) (hown : w.ownsRow base e size v n xs)
  (ad : Addr) (m c : Nat) (news : List Value) (hx : a.eval x = .slice (some ad) m c) (hl : news.length = m * size) (hnews : ∀ j u, news[j]? = some u → w.cell? (ad.add j) = some u) (h1 : ∀ u ∈ news, u.oneCell' = true)
  (h63 : n + m ≤ maxLen) (hbytes : (n + m) * bytes ≤ 140737488355328) (hbase : base ≤ w.heap.size)
  (h : ∀ v' w', w'.ownsRow base e size v' (n + m) (xs ++ news) → w.grownBy w' v.ownBlock → (v'.ownBlock = v.ownBlock ∨ v'.ownBlock = some w.heap.size) → K (a.put o.dst v') w') :
  if Region.wanted o (yielded ops a.tmps) = true then Oper.wp P o a w K Q else E := by
 rw [if_pos (by simp [Region.wanted, hg])]
 obtain ⟨v', w', hr, h2, h3, h4, h5⟩ := run_append_own_at (P := P) w base t o.type e i z size bytes ht hi hz hsize hby hzs hsz v n xs hown ad m c news hl hnews h1 h63 hbytes hbase
 unfold Oper.wp execOp
 simp only [ho, resolve, invoke, builtin, Sem.run_bind, Sem.run_pure, Result.andThen_ok, List.map_toArray, List.map_cons, List.map_nil, hs, hx, hr]
 exact h v' w' h2 h3 h5
section
end
end
end Go.Proofs.YtkcilmmaggmmoaaGreatDoor
