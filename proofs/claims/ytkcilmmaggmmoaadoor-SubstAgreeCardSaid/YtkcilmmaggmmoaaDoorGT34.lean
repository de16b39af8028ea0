/- TmpEnd -/
import Derived.Test.YtkcilmmaggmmoaaDoorGT19
import Derived.Test.YtkcilmmaggmmoaaDoorGT33
set_option linter.unusedVariables false
set_option linter.unusedSimpArgs false
set_option maxRecDepth 100000
set_option maxHeartbeats 16000000
open Go.Lib (hid)
namespace Go.Proofs.YtkcilmmaggmmoaaDoor
namespace Nw
end Nw
namespace T13
end T13
end Go.Proofs.YtkcilmmaggmmoaaDoor
namespace Go.Proofs.YtkcilmmaggmmoaaDoor
section
open Go.RowKit Go.Sort
open Nw T13 Go.ChangeShapes Go.WideShapes
theorem depL_le_take (ps : List Pt) (j : Nat) : depL (ps.take j) ≤ depL ps := by
 conv => rhs; rw [← List.take_append_drop j ps]
 generalize ps.take j = a
 generalize ps.drop j = c
 induction a with
 | nil => rw [depL]; exact Nat.zero_le _
 | cons x a ih => rw [List.cons_append, depL, depL]; omega
theorem depL_mem {ps : List Pt} {j : Nat} (h : j < ps.length) : depP (ps[j]'h) ≤ depL ps := by
 have h1 := depL_le_take ps (j + 1)
 rw [depL_take h] at h1
 omega
theorem PtL.slice {S : Nat → Prop} {w : World} {v : Value} {ps : List Pt} (h : PtL S w v ps) : ∃ (A : Option Addr) (n cap : Nat), v = .slice A n cap := by
 obtain ⟨A, cap, h1, -⟩ := h
 exact ⟨A, _, cap, h1⟩
theorem hasEnd_any (N : Nat) : ∀ (ps : List Pt), cntL ps < N → N ≤ 1000000 → ∀ (k : Nat), depL ps ≤ k → k ≤ 65536 → ∀ (v : Value) (w : World), PtW w v ps →
  Calls Tryd.prog 23 #[v, .int .i64 (k : Int)] w fun e w' => e = .returned (.bool true) ∧ Below w.heap.size w w' := by
 induction N with
 | zero => intro ps hc; omega
 | succ N ih =>
  intro ps hc hN k hk hk2 v w h
  have HIH := hid ih
  have HP := hid h
  have hln := cntL_len13 ps
  obtain ⟨A, cap, rfl, hcap, hcm, -⟩ := h
  unfold maxLen at hcm
  have HC := hid hc
  have HK := hid hk
  obtain ⟨n, hn⟩ : ∃ n, n = ps.length := ⟨_, rfl⟩
  rw [← hn] at hcap hln HP ⊢
  have HN := hid hn
  have hn1 : n ≤ 1000000 := by omega
  have HN1 := hid hN
  clear ih hc hn hln hN hk
  go_enter Tryd.func23, Tryd.ntmps23
  go_wp2
  go_loopw [9] (fun i wr => ∃ j : Nat, j ≤ n ∧ i = .int .i64 (j : Int) ∧ Hid (Below w.heap.size w wr)) (fun i _ => n - (intOf i).toNat)
  case atStart => exact ⟨0, Nat.zero_le _, rfl, hid (Below.refl _ _)⟩
  case round =>
   obtain ⟨j, hj, rfl, HB⟩ := hrel
   by_cases hlt : j < n
   ·have hjl : Hid (j < ps.length) := hid (by have := HN.out; omega)
    obtain ⟨b, o, e0, e1, e2, e3, rfl, hbl, x0, x1, x2, x3, hsub⟩ := PtL.at_ HP.out j hjl.out
    have y0 := (HB.out.cell (p := ⟨b, o + j * 4, none⟩) hbl).trans x0
    have y1 := (HB.out.cell (p := ⟨b, o + j * 4 + 1, none⟩) hbl).trans x1
    have y2 := (HB.out.cell (p := ⟨b, o + j * 4 + 2, none⟩) hbl).trans x2
    have y3 := (HB.out.cell (p := ⟨b, o + j * 4 + 3, none⟩) hbl).trans x3
    clear x0 x1 x2 x3
    have hdm := depL_mem hjl.out
    have hcs := @cnt_sub ps j hjl.out
    obtain ⟨p, hp⟩ : ∃ p, ps[j]'hjl.out = p := ⟨_, rfl⟩
    rw [hp] at hsub hdm
    obtain ⟨nm, tx, op, sb⟩ := p
    have hcs2 := hcs hp
    obtain ⟨rfl, rfl, rfl, hsb⟩ := hsub.sub
    obtain ⟨B, n2, c2, rfl⟩ := hsb.slice
    have hjz : (j : Int) < (n : Int) := by omega
    have hjc : (j : Int) < (cap : Int) := by omega
    rw [depP] at hdm
    generalize ba nm = Nm at y0
    generalize ba tx = Tx at y1
    obtain ⟨z0, z1, z2, z3⟩ := (RowT.make wr 54 (.string Nm) (.string Tx) (.int .i64 op) (.slice B n2 c2)).cells
    have HB2 : Hid (Below w.heap.size w (wr.alloc (.cells #[.string Nm, .string Tx, .int .i64 op, .slice B n2 c2] 54))) := hid (HB.out.alloc HB.out.size _)
    by_cases ho : op = 0
    ·have hne : (op != 0) = false := by rw [ho]; rfl
     clear hsub hp hcs hcs2 hsb ho hdm
     go_wp2
     go_roundw
     case rel => exact ⟨j + 1, by omega, by go_num, HB2⟩
     case measure => simp [intOf]; omega
    ·rw [if_neg ho] at hdm
     obtain ⟨k1, rfl⟩ : ∃ k1, k = k1 + 1 := ⟨k - 1, by have := HK.out; omega⟩
     have HD : Hid (∀ W, Below w.heap.size w W → Calls Tryd.prog 23 #[.slice B n2 c2, .int .i64 (k1 : Int)] W fun e w' => e = .returned (.bool true) ∧ Below W.heap.size W w') := hid (fun W hW => HIH.out sb (by have := HC.out; omega) (by have := HN1.out; omega) k1 (by have := HK.out; omega) (by omega) _ W (PtW.below hsb hW))
     have hne : (op != 0) = true := bne_iff_ne.2 ho
     have hk0 : (((k1 + 1 : Nat) : Int) == 0) = false := beq_eq_false_iff_ne.2 (by omega)
     have hk3 : ((k1 + 1 : Nat) : Int) - 1 = (k1 : Int) := by omega
     have hk4 : IntKind.i64.wrap (((k1 + 1 : Nat) : Int) - 1) = (k1 : Int) := by rw [hk3]; exact IntWalk.i64_in _ (by omega)
     obtain ⟨K, hK⟩ : ∃ K : Int, ((k1 + 1 : Nat) : Int) = K := ⟨_, rfl⟩
     rw [hK] at hk0 hk3 hk4 ⊢
     have HKE := hid hK
     clear hsub hp hcs hcs2 hsb ho hdm hK
     go_wp2_with (go_at_call 23; refine (HD.out _ HB2.out).mono ?_; rintro e W2 ⟨rfl, hb2⟩; have HB3 := hid (HB2.out.trans (hb2.mono HB2.out.size)); clear hb2)
     go_roundw
     case rel => exact ⟨j + 1, by omega, by go_num, HB3⟩
     case measure => simp [intOf]; omega
   ·obtain rfl : j = n := by omega
    go_wp2
    go_ret
    exact ⟨rfl, HB.out⟩
end
end Go.Proofs.YtkcilmmaggmmoaaDoor
