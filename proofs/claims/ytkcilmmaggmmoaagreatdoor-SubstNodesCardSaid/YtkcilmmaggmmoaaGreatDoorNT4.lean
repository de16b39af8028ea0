/- NamRsort -/
import Derived.ChangeAlike
import Derived.Laws.Cover1
import Derived.Laws.OwnMore
import Derived.RegionTactic
import Derived.Test.YtkcilmmaggmmoaaGreatDoorNT2
set_option linter.unusedVariables false
set_option linter.unusedSimpArgs false
set_option maxRecDepth 100000
set_option maxHeartbeats 16000000
open Go.Lib (hid)
namespace Go.Proofs.YtkcilmmaggmmoaaGreatDoor
namespace Nw
end Nw
end Go.Proofs.YtkcilmmaggmmoaaGreatDoor
namespace Go.Proofs.YtkcilmmaggmmoaaGreatDoor
section
open Go.RowKit Go.Sort
open Nw Go.ChangeShapes Go.WideShapes
theorem infoM : (Tryz.prog.info? 9).map (fun i => (i.zero, i.size, i.bytes)) = some (some (.string ByteArray.empty), 1, 16) := by kernel_rfl
theorem infoS : ∃ i, Tryz.prog.info? 9 = some i ∧ i.zero = some (.string ByteArray.empty) ∧ i.size = 1 ∧ i.bytes = 16 := by
 have h := infoM
 cases hi : Tryz.prog.info? 9 with
 | none => rw [hi] at h; cases h
 | some i =>
  rw [hi] at h
  simp only [Option.map_some, Option.some.injEq, Prod.mk.injEq] at h
  exact ⟨i, rfl, h.1, h.2.1, h.2.2⟩
theorem own_literal (w : World) (base : Nat) (hb : base ≤ w.heap.size) : (w.alloc (.cells #[] 9)).ownsRow base 9 1 (.slice (some ⟨w.heap.size, 0, none⟩) 0 0) 0 [] :=
 ⟨rfl, .inr ⟨w.heap.size, 0, #[], rfl, hb, Array.getElem?_push_size (xs := w.heap), Nat.le_refl _, Nat.zero_le _, rfl, rfl⟩⟩
theorem drewN_cell (w : World) (q : Nat) (p : Addr) : (w.drewN q).cell? p = w.cell? p := rfl
theorem drewN_drewN (w : World) (q n : Nat) : (w.drewN q).drewN n = w.drewN (q + n) := by
 unfold World.drewN
 simp [Nat.add_assoc]
theorem RSorted_own (v : Value) (l : List L8) (w : World) (h : Rd w v l) (hbig : l.length ≤ 4398046511103) :
  Calls Tryz.prog 29 #[v] w fun e w' => ∃ v', e = .returned v' ∧ w'.ownsRow w.heap.size 9 1 v' (sortL l).length ((sortL l).map encStr) ∧ Below w.heap.size w w' := by
 obtain ⟨i0, hi, hz0, hz1, hz2⟩ := infoS
 obtain ⟨a, cap, rfl, h1, h2, h3⟩ := h
 obtain ⟨S, hS⟩ : ∃ S, S = sortL l := ⟨_, rfl⟩
 have HS := hid hS
 have hSl : S.length ≤ l.length := by rw [hS]; exact sortL_length_le l
 rw [← hS]
 clear hS
 unfold maxLen at h2
 have H3 := hid h3
 clear h3
 go_enter Tryz.func29, Tryz.ntmps29
 go_wp2
 go_loopg [3, 4, 5] S.length (fun gg v3 v4 v5 wr => ∃ k : Nat, k ≤ S.length ∧ S.length - k ≤ gg ∧ wr.ownsRow w.heap.size 9 1 v3 k ((S.take k).map encStr) ∧ Below w.heap.size w wr)
 case atStart => exact ⟨0, Nat.zero_le _, by omega, own_literal w _ (Nat.le_refl _), (Below.refl _ _).alloc (Nat.le_refl _) _⟩
 case round =>
  obtain ⟨k, hk, hgg, hown, hbel⟩ := hrel
  obtain ⟨w0, hw0⟩ : ∃ w0, w0 = wr := ⟨_, rfl⟩
  subst hw0
  have HW := hid hown
  have HL := hid hbel
  obtain ⟨a3, cap3, rfl, k1, k2, k3, k4⟩ := owns_read hown
  unfold maxLen at k2
  have K4 := hid k4
  clear hown hbel k4
  go_wp2
  go_loopw [4, 5] (fun best i wi => ∃ (j : Nat) (bz : Int) (q : Nat), j ≤ l.length ∧ i = .int .i64 j ∧ best = .int .i64 bz ∧ BestIs l k j bz ∧ wi = w0.drewN q) (fun _ i _ => l.length - (intOf i).toNat)
  case atStart => exact ⟨0, -1, 0, Nat.zero_le _, rfl, rfl, BestIs.start l k, rfl⟩
  case round =>
   obtain ⟨j, bz, q, hj, rfl, rfl, hbest, hwi⟩ := hrel
   have HBI := hid hbest
   have HWI := hid hwi
   clear hbest hwi
   by_cases hlt : j < l.length
   ·rcases H3.out with ⟨e0, _⟩ | ⟨b, o, ha, h4, h5⟩
    ·rw [e0] at hlt; exact absurd hlt (Nat.not_lt_zero _)
    subst ha
    have hcAt : ∀ (n : Nat) (hn : n < l.length), wr.cell? ⟨b, o + n, none⟩ = some (.string (ba l[n])) := fun n hn => by rw [HWI.out, drewN_cell]; exact (HL.out.cell (p := ⟨b, o + n, none⟩) h4).trans (h5 n hn)
    have HCA := hid hcAt
    have hc := hcAt j hlt
    clear h5 hcAt
    have hltz : (j : Int) < (l.length : Int) := by omega
    by_cases hk0 : k = 0
    ·have hk0z : ((k : Int) == 0) = true := by rw [hk0]; rfl
     have HCand : Hid (cand l k l[j]) := hid (by rw [hk0]; exact cand_zero _ _)
     clear hk0
     rcases HBI.out.place with hbz | ⟨b2, hbz, hb2⟩
     ·subst hbz
      generalize ba l[j] = X at hc
      go_wp2
      go_quiet (fail)
      go_wp2
      go_roundw
      case rel => exact ⟨j + 1, (j : Int), q + nq, by omega, by go_num, rfl, HBI.out.first hlt HCand.out, by rw [HWI.out]; exact drewN_drewN _ _ _⟩
      case measure => simp [intOf]; omega
     ·subst hbz
      have hc2 := HCA.out b2 hb2
      have hn1 : decide ((b2 : Int) < 0) = false := decide_eq_false (by omega)
      have hb2z : (b2 : Int) < (l.length : Int) := by omega
      by_cases hll : l[j] < l[b2]
      ·have HLL := hid hll
       have t1 := less_true hll
       clear hll
       generalize ba l[j] = X at hc t1
       generalize ba l[b2] = Y at hc2 t1
       go_wp2
       go_quiet (fail)
       go_wp2
       go_roundw
       case rel => exact ⟨j + 1, (j : Int), q + nq, by omega, by go_num, rfl, HBI.out.less hb2 hlt HCand.out HLL.out, by rw [HWI.out]; exact drewN_drewN _ _ _⟩
       case measure => simp [intOf]; omega
      ·have HLL := hid hll
       have t1 := less_false hll
       clear hll
       generalize ba l[j] = X at hc t1
       generalize ba l[b2] = Y at hc2 t1
       go_wp2
       go_quiet (fail)
       go_wp2
       go_roundw
       case rel => exact ⟨j + 1, (b2 : Int), q + nq, by omega, by go_num, rfl, HBI.out.keep hb2 hlt HLL.out, by rw [HWI.out]; exact drewN_drewN _ _ _⟩
       case measure => simp [intOf]; omega
    ·have hk0z : ((k : Int) == 0) = false := beq_eq_false_iff_ne.2 (by omega)
     have hkS : Hid (k - 1 < S.length) := hid (by omega)
     rcases K4.out with e0 | ⟨g, ha3, k5⟩
     ·exact absurd e0 hk0
     subst ha3
     have hout : wr.cell? ⟨g, k - 1, none⟩ = some (.string (ba (S[k - 1]'hkS.out))) := by
      rw [HWI.out, drewN_cell]
      have := k5 (k - 1) (by rw [List.length_take]; omega)
      rw [List.getElem_take] at this
      exact this
     clear k5
     have HCP : Hid (cand l k l[j] ↔ S[k - 1]'hkS.out < l[j]) := hid (by have := cand_pos (l := l) (k := k) (by omega) (by rw [← HS.out]; exact hkS.out) l[j]; rw [this]; simp [HS.out])
     have c1 : (0 : Int) ≤ (k : Int) - 1 := by omega
     have c2 : ((k : Int) - 1).toNat = k - 1 := by omega
     have c3 : k - 1 < k := by omega
     have c4 : (1 : Int) ≤ (k : Int) := by omega
     have c7 : (k : Int) - 1 < (k : Int) := by omega
     have c5 : 0 < k := by omega
     have c6 : IntKind.i64.wrap ((k : Int) - 1) = (k : Int) - 1 := wrap_small _ (by omega) (by omega)
     have hS1 : k - 1 + 1 = k := by omega
     generalize (S[k - 1]'hkS.out) = s0 at hout HCP
     by_cases hgt : s0 < l[j]
     ·have HCand : Hid (cand l k l[j]) := hid (HCP.out.2 hgt)
      have u1 : Op.bytesLess (ba l[j]).toList (ba s0).toList = false := less_false fun h => lt_irr _ (lt_tr h hgt)
      have u2 : ((ba l[j]).toList == (ba s0).toList) = false := eq_false' fun h => by rw [h] at hgt; exact lt_irr _ hgt
      clear hgt
      generalize ba s0 = Z at hout u1 u2
      rcases HBI.out.place with hbz | ⟨b2, hbz, hb2⟩
      ·subst hbz
       generalize ba l[j] = X at hc u1 u2
       go_wp2
       go_quiet (fail)
       go_wp2
       go_roundw
       case rel => exact ⟨j + 1, (j : Int), q + nq, by omega, by go_num, rfl, HBI.out.first hlt HCand.out, by rw [HWI.out]; exact drewN_drewN _ _ _⟩
       case measure => simp [intOf]; omega
      ·subst hbz
       have hc2 := HCA.out b2 hb2
       have hn1 : decide ((b2 : Int) < 0) = false := decide_eq_false (by omega)
       have hb2z : (b2 : Int) < (l.length : Int) := by omega
       by_cases hll : l[j] < l[b2]
       ·have HLL := hid hll
        have t1 := less_true hll
        clear hll
        generalize ba l[j] = X at hc t1 u1 u2
        generalize ba l[b2] = Y at hc2 t1
        go_wp2
        go_quiet (fail)
        go_wp2
        go_roundw
        case rel => exact ⟨j + 1, (j : Int), q + nq, by omega, by go_num, rfl, HBI.out.less hb2 hlt HCand.out HLL.out, by rw [HWI.out]; exact drewN_drewN _ _ _⟩
        case measure => simp [intOf]; omega
       ·have HLL := hid hll
        have t1 := less_false hll
        clear hll
        generalize ba l[j] = X at hc t1 u1 u2
        generalize ba l[b2] = Y at hc2 t1
        go_wp2
        go_quiet (fail)
        go_wp2
        go_roundw
        case rel => exact ⟨j + 1, (b2 : Int), q + nq, by omega, by go_num, rfl, HBI.out.keep hb2 hlt HLL.out, by rw [HWI.out]; exact drewN_drewN _ _ _⟩
        case measure => simp [intOf]; omega
     ·have HN : Hid (¬ cand l k l[j]) := hid fun h => hgt (HCP.out.1 h)
      by_cases heq : l[j] = s0
      ·have u2 := eq_true' heq
       clear hgt heq
       generalize ba s0 = Z at hout u2
       generalize ba l[j] = X at hc u2
       go_wp2
       go_quiet (fail)
       go_wp2
       go_roundw
       case rel => exact ⟨j + 1, bz, q + nq, by omega, by go_num, rfl, HBI.out.skip hlt HN.out, by rw [HWI.out]; exact drewN_drewN _ _ _⟩
       case measure => simp [intOf]; omega
      ·have u2 := eq_false' heq
       have u1 : Op.bytesLess (ba l[j]).toList (ba s0).toList = true := less_true (lt_of_le_ne (le_of_nlt hgt) heq)
       clear hgt heq
       generalize ba s0 = Z at hout u1 u2
       generalize ba l[j] = X at hc u1 u2
       go_wp2
       go_quiet (fail)
       go_wp2
       go_roundw
       case rel => exact ⟨j + 1, bz, q + nq, by omega, by go_num, rfl, HBI.out.skip hlt HN.out, by rw [HWI.out]; exact drewN_drewN _ _ _⟩
       case measure => simp [intOf]; omega
   ·obtain rfl : j = l.length := by omega
    rcases HBI.out.place with hbz | ⟨b2, hbz, hb2⟩
    ·subst hbz
     have hkk : k = (sortL l).length := HBI.out.done_none (by rw [← HS.out]; exact hk)
     have HKK := hid hkk
     clear hkk
     go_wp2
     go_ret
     refine ⟨_, rfl, ?_, ?_⟩
     ·have := HW.out
      have e : k = S.length := by rw [HS.out]; exact HKK.out
      rw [e, List.take_length] at this
      rw [HWI.out, ← e]
      rw [← e] at this
      exact this
     ·rw [HWI.out]; exact HL.out.trans ((below_drewN _ _).mono HL.out.size)
    ·subst hbz
     have hn1 : decide ((b2 : Int) < 0) = false := decide_eq_false (by omega)
     rcases H3.out with ⟨e0, _⟩ | ⟨b, o, ha, h4, h5⟩
     ·rw [e0] at hb2; exact absurd hb2 (Nat.not_lt_zero _)
     subst ha
     have hc2 : wr.cell? ⟨b, o + b2, none⟩ = some (.string (ba l[b2])) := by rw [HWI.out, drewN_cell]; exact (HL.out.cell (p := ⟨b, o + b2, none⟩) h4).trans (h5 b2 hb2)
     clear h5
     have hb2z : (b2 : Int) < (l.length : Int) := by omega
     obtain ⟨hks, hnext⟩ := HBI.out.done_some (by rw [← HS.out]; exact hk) hb2
     have hks' : Hid (k < S.length) := hid (by rw [HS.out]; exact hks)
     have HX : Hid ((S.take (k + 1)).map encStr = (S.take k).map encStr ++ [.string (ba l[b2])]) := hid (by
      rw [List.take_succ_eq_append_getElem hks'.out, List.map_append, ← hnext]
      simp only [HS.out]
      rfl)
     clear hnext hks
     generalize ba l[b2] = X at hc2 HX
     have hown : wr.ownsRow w.heap.size 9 1 (.slice a3 k cap3) k ((S.take k).map encStr) := by rw [HWI.out]; exact HW.out
     have HL2 : Hid (Below w.heap.size w wr) := hid (by rw [HWI.out]; exact HL.out.trans ((below_drewN _ _).mono HL.out.size))
     have HO := hid hown
     obtain ⟨XS, hXS⟩ : ∃ XS, XS = (S.take k).map encStr := ⟨_, rfl⟩
     rw [← hXS] at hown
     have HXS := hid hXS
     clear hXS
     go_wp2_with (at_builtin; refine wpList_append_own _ rfl _ _ 22 rfl w.heap.size 9 i0 _ 1 16 Tryz.underlying22 hi hz0 hz1 hz2 rfl (by decide) _ _ _ rfl (hown.alloc _) ⟨wr.heap.size, 0, none⟩ 1 1 [.string X] rfl rfl ?c1 ?c2 ?c3 ?c4 ?c5 ?_)
     case c1 =>
      intro j u hj
      match j, hj with
      | 0, hj => simp at hj; subst hj; simp [Addr.add]
     case c2 => intro u hu; simp at hu; subst hu; rfl
     case c3 => unfold maxLen; omega
     case c4 => omega
     case c5 => have := HL2.out.size; simp; omega
     ·intro v' w2 hown' hgrow _
      have HW2 := hid hown'
      have HG2 := hid hgrow
      clear hown' hgrow hown
      go_wp2
      go_roundg (S.length - (k + 1))
      case measure => have := hks'.out; omega
      case rel =>
       refine ⟨k + 1, hks'.out, Nat.le_refl _, ?_, ?_⟩
       ·rw [HX.out, ← HXS.out]; exact HW2.out
       ·refine (HL2.out.alloc HL2.out.size _).grown HG2.out (by have := HL2.out.size; simp; omega) ?_
        intro p hp
        exact (HO.out.lt p hp).1
end
end Go.Proofs.YtkcilmmaggmmoaaGreatDoor
