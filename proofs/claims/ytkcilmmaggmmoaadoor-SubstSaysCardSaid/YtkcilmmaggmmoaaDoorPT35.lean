/- TmpEnd, TmpNam -/
import Derived.Deep.RegionHeld3
import Derived.Laws.AppendOwnNone
import Derived.Shelf.Lay
import Derived.Shelf.Slices.CompactS
import Derived.Shelf.Slices.In.SortNone
import Derived.Shelf.Sort.Plain
import Derived.Shelf.Spec.SlicesGrow
import Derived.Test.YtkcilmmaggmmoaaDoorPT12
import Derived.Test.YtkcilmmaggmmoaaDoorPT19
import Derived.Test.YtkcilmmaggmmoaaDoorPT34
import Derived.Test.YtkcilmmaggmmoaaDoorPT9
import Derived.Test.YtkcilmmaggmmoaaDoorProg
set_option linter.unusedVariables false
set_option linter.unusedSimpArgs false
set_option maxRecDepth 100000
set_option maxHeartbeats 16000000
open Go.Lib (hid)
namespace Go.Proofs.YtkcilmmaggmmoaaDoor
namespace Nw
end Nw
namespace T13
end T13
end Go.Proofs.YtkcilmmaggmmoaaDoor
namespace Go.Proofs.YtkcilmmaggmmoaaDoor
section
open Go.RowKit Go.Sort
open Nw T13 Go.ChangeShapes Go.WideShapes
theorem depL_le_take (ps : List Pt) (j : Nat) : depL (ps.take j) ≤ depL ps := by
 conv => rhs; rw [← List.take_append_drop j ps]
 generalize ps.take j = a
 generalize ps.drop j = c
 induction a with
 | nil => rw [depL]; exact Nat.zero_le _
 | cons x a ih => rw [List.cons_append, depL, depL]; omega
theorem depL_mem {ps : List Pt} {j : Nat} (h : j < ps.length) : depP (ps[j]'h) ≤ depL ps := by
 have h1 := depL_le_take ps (j + 1)
 rw [depL_take h] at h1
 omega
theorem PtL.slice {S : Nat → Prop} {w : World} {v : Value} {ps : List Pt} (h : PtL S w v ps) : ∃ (A : Option Addr) (n cap : Nat), v = .slice A n cap := by
 obtain ⟨A, cap, h1, -⟩ := h
 exact ⟨A, _, cap, h1⟩
theorem hasEnd_any (N : Nat) : ∀ (ps : List Pt), cntL ps < N → N ≤ 1000000 → ∀ (k : Nat), depL ps ≤ k → k ≤ 65536 → ∀ (v : Value) (w : World), PtW w v ps →
  Calls Tryd.prog 23 #[v, .int .i64 (k : Int)] w fun e w' => e = .returned (.bool true) ∧ Below w.heap.size w w' := by
 induction N with
 | zero => intro ps hc; omega
 | succ N ih =>
  intro ps hc hN k hk hk2 v w h
  have HIH := hid ih
  have HP := hid h
  have hln := cntL_len13 ps
  obtain ⟨A, cap, rfl, hcap, hcm, -⟩ := h
  unfold maxLen at hcm
  have HC := hid hc
  have HK := hid hk
  obtain ⟨n, hn⟩ : ∃ n, n = ps.length := ⟨_, rfl⟩
  rw [← hn] at hcap hln HP ⊢
  have HN := hid hn
  have hn1 : n ≤ 1000000 := by omega
  have HN1 := hid hN
  clear ih hc hn hln hN hk
  go_enter Tryd.func23, Tryd.ntmps23
  go_wp2
  go_loopw [9] (fun i wr => ∃ j : Nat, j ≤ n ∧ i = .int .i64 (j : Int) ∧ Hid (Below w.heap.size w wr)) (fun i _ => n - (intOf i).toNat)
  case atStart => exact ⟨0, Nat.zero_le _, rfl, hid (Below.refl _ _)⟩
  case round =>
   obtain ⟨j, hj, rfl, HB⟩ := hrel
   by_cases hlt : j < n
   ·have hjl : Hid (j < ps.length) := hid (by have := HN.out; omega)
    obtain ⟨b, o, e0, e1, e2, e3, rfl, hbl, x0, x1, x2, x3, hsub⟩ := PtL.at_ HP.out j hjl.out
    have y0 := (HB.out.cell (p := ⟨b, o + j * 4, none⟩) hbl).trans x0
    have y1 := (HB.out.cell (p := ⟨b, o + j * 4 + 1, none⟩) hbl).trans x1
    have y2 := (HB.out.cell (p := ⟨b, o + j * 4 + 2, none⟩) hbl).trans x2
    have y3 := (HB.out.cell (p := ⟨b, o + j * 4 + 3, none⟩) hbl).trans x3
    clear x0 x1 x2 x3
    have hdm := depL_mem hjl.out
    have hcs := @cnt_sub ps j hjl.out
    obtain ⟨p, hp⟩ : ∃ p, ps[j]'hjl.out = p := ⟨_, rfl⟩
    rw [hp] at hsub hdm
    obtain ⟨nm, tx, op, sb⟩ := p
    have hcs2 := hcs hp
    obtain ⟨rfl, rfl, rfl, hsb⟩ := hsub.sub
    obtain ⟨B, n2, c2, rfl⟩ := hsb.slice
    have hjz : (j : Int) < (n : Int) := by omega
    have hjc : (j : Int) < (cap : Int) := by omega
    rw [depP] at hdm
    generalize ba nm = Nm at y0
    generalize ba tx = Tx at y1
    obtain ⟨z0, z1, z2, z3⟩ := (RowT.make wr 54 (.string Nm) (.string Tx) (.int .i64 op) (.slice B n2 c2)).cells
    have HB2 : Hid (Below w.heap.size w (wr.alloc (.cells #[.string Nm, .string Tx, .int .i64 op, .slice B n2 c2] 54))) := hid (HB.out.alloc HB.out.size _)
    by_cases ho : op = 0
    ·have hne : (op != 0) = false := by rw [ho]; rfl
     clear hsub hp hcs hcs2 hsb ho hdm
     go_wp2
     go_roundw
     case rel => exact ⟨j + 1, by omega, by go_num, HB2⟩
     case measure => simp [intOf]; omega
    ·rw [if_neg ho] at hdm
     obtain ⟨k1, rfl⟩ : ∃ k1, k = k1 + 1 := ⟨k - 1, by have := HK.out; omega⟩
     have HD : Hid (∀ W, Below w.heap.size w W → Calls Tryd.prog 23 #[.slice B n2 c2, .int .i64 (k1 : Int)] W fun e w' => e = .returned (.bool true) ∧ Below W.heap.size W w') := hid (fun W hW => HIH.out sb (by have := HC.out; omega) (by have := HN1.out; omega) k1 (by have := HK.out; omega) (by omega) _ W (PtW.below hsb hW))
     have hne : (op != 0) = true := bne_iff_ne.2 ho
     have hk0 : (((k1 + 1 : Nat) : Int) == 0) = false := beq_eq_false_iff_ne.2 (by omega)
     have hk3 : ((k1 + 1 : Nat) : Int) - 1 = (k1 : Int) := by omega
     have hk4 : IntKind.i64.wrap (((k1 + 1 : Nat) : Int) - 1) = (k1 : Int) := by rw [hk3]; exact IntWalk.i64_in _ (by omega)
     obtain ⟨K, hK⟩ : ∃ K : Int, ((k1 + 1 : Nat) : Int) = K := ⟨_, rfl⟩
     rw [hK] at hk0 hk3 hk4 ⊢
     have HKE := hid hK
     clear hsub hp hcs hcs2 hsb ho hdm hK
     go_wp2_with (go_at_call 23; refine (HD.out _ HB2.out).mono ?_; rintro e W2 ⟨rfl, hb2⟩; have HB3 := hid (HB2.out.trans (hb2.mono HB2.out.size)); clear hb2)
     go_roundw
     case rel => exact ⟨j + 1, by omega, by go_num, HB3⟩
     case measure => simp [intOf]; omega
   ·obtain rfl : j = n := by omega
    go_wp2
    go_ret
    exact ⟨rfl, HB.out⟩
end
section
open Go.RowKit Go.Sort
open Nw T13 Go.ChangeShapes Go.WideShapes
def Grw (t : TypeId) (w w' : World) (base : Nat) (v v' : Value) (n : Nat) (xs : List Value) : Prop :=
 w'.ownsRow base t 1 v' n xs ∧ w.grownBy w' v.ownBlock ∧ (v'.ownBlock = v.ownBlock ∨ ∀ g, v'.ownBlock = some g → w.heap.size ≤ g)
section
variable {t : TypeId} {w w1 w2 : World} {base n m : Nat} {v v1 v2 : Value} {xs ys : List Value}
theorem Grw.refl (h : w.ownsRow base t 1 v n xs) : Grw t w w base v v n xs := ⟨h, World.grownBy.refl _ _, .inl rfl⟩
theorem Grw.below (h : Grw t w w1 base v v1 n xs) (hb : Below w1.heap.size w1 w2) : Grw t w w2 base v v1 n xs := ⟨owns_below h.1 hb, gro_below h.2.1 hb, h.2.2⟩
theorem Grw.alloc (h : Grw t w w1 base v v1 n xs) (o : Obj) : Grw t w (w1.alloc o) base v v1 n xs := h.below ((Below.refl _ _).alloc (Nat.le_refl _) o)
theorem Grw.trans (h : Grw t w w1 base v v1 n xs) (k : Grw t w1 w2 base v1 v2 m ys) : Grw t w w2 base v v2 m ys := by
 refine ⟨k.1, gro_trans h.2.1 k.2.1 (fun g hg => ?_), ?_⟩
 ·rcases h.2.2 with e | e
  ·left; rw [← e]; exact hg
  ·right; exact e g hg
 ·rcases k.2.2 with e | e
  ·rcases h.2.2 with e2 | e2
   ·left; exact e.trans e2
   ·right; intro g hg; exact e2 g (by rw [← e]; exact hg)
  ·right; intro g hg; exact Nat.le_trans h.2.1.size (e g hg)
theorem Grw.lies {g cap : Nat} (ho : w2.ownsRow base t 1 (.slice (some ⟨g, 0, none⟩) m cap) m ys) (hg : w1.grownBy w2 v1.ownBlock) (hat : v1.ownBlock = some g ∨ w1.heap.size ≤ g) : Grw t w1 w2 base v1 (.slice (some ⟨g, 0, none⟩) m cap) m ys := by
 refine ⟨ho, hg, ?_⟩
 rcases hat with e | e
 ·left; exact e.symm
 ·right
  intro k hk
  injection hk with hk
  have hk : g = k := hk
  omega
theorem Grw.size (h : Grw t w w1 base v v1 n xs) : w.heap.size ≤ w1.heap.size := h.2.1.size
theorem Grw.cell (h : Grw t w w1 base v v1 n xs) (hv : ∀ g, v.ownBlock = some g → base ≤ g) {p : Addr} {x : Value} (hc : w.cell? p = some x) (hp : p.block < base) : w1.cell? p = some x :=
 cell_grown hc h.2.1 fun e => by have := hv _ e; omega
theorem Grw.pts (h : Grw t w w1 base v v1 n xs) (hv : ∀ g, v.ownBlock = some g → base ≤ g) (hs : base ≤ w.heap.size) {u : Value} {ps : List Pt} (hp : PtL (· < base) w u ps) : PtL (· < base) w1 u ps :=
 hp.keep fun b hb => ⟨hb, h.2.1.block b (by have : b < base := hb; omega) fun e => by have := hv b e.symm; have : b < base := hb; omega⟩
theorem own_ne {H : Nat} (h : w.ownsRow base t 1 v n xs) (hH : w.heap.size ≤ H) : v.ownBlock ≠ some H := fun e => by have := (h.lt H e).2; omega
end
def PWt (t : TypeId) (W1 : World) (base : Nat) (v : Value) (n : Nat) (xs : List Value) (W : World) : Prop := Below W1.heap.size W1 W ∧ base ≤ W.heap.size ∧ W.ownsRow base t 1 v n xs
section
variable {t : TypeId} {W1 W W' : World} {base n g cap : Nat} {v : Value} {xs ys : List Value}
theorem PWt.grw {m : Nat} (h : PWt t W1 base v n xs W) (ho : W'.ownsRow base t 1 (.slice (some ⟨g, 0, none⟩) m cap) m ys) (hg : W.grownBy W' v.ownBlock) (hat : v.ownBlock = some g ∨ W.heap.size ≤ g) :
  Grw t W1 W' base v (.slice (some ⟨g, 0, none⟩) m cap) m ys :=
 Grw.lies ho (gro_trans (r1 := v.ownBlock) ⟨h.1.os, h.1.tape, h.1.output, h.1.size, fun k hk _ => h.1.block k hk⟩ hg (fun k hk => .inl hk)) (hat.imp id fun e => Nat.le_trans h.1.size e)
end
theorem below_drew13 (w : World) : Below w.heap.size w w.drew := ⟨rfl, rfl, rfl, Nat.le_refl _, fun _ _ => rfl⟩
theorem wf_sub {D : Nat} {n t : L8} {o : Int} {s : List Pt} (h : WfP D (.mk n t o s)) : ∃ E, WfL E s := by
 rw [WfP] at h
 rcases h with h | h | h
 ·exact ⟨0, by rw [h.2.2.2.1, WfL]; trivial⟩
 ·exact ⟨0, by rw [h.2.2.2.1, WfL]; trivial⟩
 ·exact ⟨D + 1, h.2.2.2.2.2.1⟩
theorem wfL_at {D : Nat} : ∀ {ps : List Pt}, WfL D ps → ∀ (j : Nat) (h : j < ps.length), WfP D (ps[j]'h)
 | p :: ps, hw, 0, _ => by rw [WfL] at hw; exact hw.1
 | p :: ps, hw, j + 1, h => by rw [WfL] at hw; exact wfL_at hw.2 j (Nat.lt_of_succ_lt_succ h)
end
end Go.Proofs.YtkcilmmaggmmoaaDoor
