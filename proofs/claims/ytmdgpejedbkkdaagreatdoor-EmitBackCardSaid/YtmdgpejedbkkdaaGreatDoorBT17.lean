/- NamRsort, RefNod4 -/
import Derived.BigQuiet
import Derived.ChangeAlike
import Derived.Deep.QuietTactic
import Derived.Deep.RegionHeld3
import Derived.Laws.Cover1
import Derived.Laws.OwnMore
import Derived.RegionTactic
import Derived.Test.YtmdgpejedbkkdaaGreatDoorBT12
import Derived.Test.YtmdgpejedbkkdaaGreatDoorBT15
import Derived.Test.YtmdgpejedbkkdaaGreatDoorBT2
set_option linter.unusedVariables false
set_option linter.unusedSimpArgs false
set_option maxRecDepth 100000
set_option maxHeartbeats 16000000
open Go.Lib (hid)
namespace Go.Proofs.YtmdgpejedbkkdaaGreatDoor
section
open Go.RowKit Go.Sort
open Nw Go.ChangeShapes Go.WideShapes
theorem infoM : (Tryz.prog.info? 9).map (fun i => (i.zero, i.size, i.bytes)) = some (some (.string ByteArray.empty), 1, 16) := by kernel_rfl
theorem infoS : ∃ i, Tryz.prog.info? 9 = some i ∧ i.zero = some (.string ByteArray.empty) ∧ i.size = 1 ∧ i.bytes = 16 := by
 have h := infoM
 cases hi : Tryz.prog.info? 9 with
 | none => rw [hi] at h; cases h
 | some i =>
  rw [hi] at h
  simp only [Option.map_some, Option.some.injEq, Prod.mk.injEq] at h
  exact ⟨i, rfl, h.1, h.2.1, h.2.2⟩
theorem own_literal (w : World) (base : Nat) (hb : base ≤ w.heap.size) : (w.alloc (.cells #[] 9)).ownsRow base 9 1 (.slice (some ⟨w.heap.size, 0, none⟩) 0 0) 0 [] :=
 ⟨rfl, .inr ⟨w.heap.size, 0, #[], rfl, hb, Array.getElem?_push_size (xs := w.heap), Nat.le_refl _, Nat.zero_le _, rfl, rfl⟩⟩
theorem drewN_cell (w : World) (q : Nat) (p : Addr) : (w.drewN q).cell? p = w.cell? p := rfl
theorem drewN_drewN (w : World) (q n : Nat) : (w.drewN q).drewN n = w.drewN (q + n) := by
 unfold World.drewN
 simp [Nat.add_assoc]
theorem RSorted_own (v : Value) (l : List L8) (w : World) (h : Rd w v l) (hbig : l.length ≤ 4398046511103) :
  Calls Tryz.prog 33 #[v] w fun e w' => ∃ v', e = .returned v' ∧ w'.ownsRow w.heap.size 9 1 v' (sortL l).length ((sortL l).map encStr) ∧ Below w.heap.size w w' := by
 obtain ⟨i0, hi, hz0, hz1, hz2⟩ := infoS
 obtain ⟨a, cap, rfl, h1, h2, h3⟩ := h
 obtain ⟨S, hS⟩ : ∃ S, S = sortL l := ⟨_, rfl⟩
 have HS := hid hS
 have hSl : S.length ≤ l.length := by rw [hS]; exact sortL_length_le l
 rw [← hS]
 clear hS
 unfold maxLen at h2
 have H3 := hid h3
 clear h3
 go_enter Tryz.func33, Tryz.ntmps33
 go_wp2
 go_loopg [3, 4, 5] S.length (fun gg v3 v4 v5 wr => ∃ k : Nat, k ≤ S.length ∧ S.length - k ≤ gg ∧ wr.ownsRow w.heap.size 9 1 v3 k ((S.take k).map encStr) ∧ Below w.heap.size w wr)
 case atStart => exact ⟨0, Nat.zero_le _, by omega, own_literal w _ (Nat.le_refl _), (Below.refl _ _).alloc (Nat.le_refl _) _⟩
 case round =>
  obtain ⟨k, hk, hgg, hown, hbel⟩ := hrel
  obtain ⟨w0, hw0⟩ : ∃ w0, w0 = wr := ⟨_, rfl⟩
  subst hw0
  have HW := hid hown
  have HL := hid hbel
  obtain ⟨a3, cap3, rfl, k1, k2, k3, k4⟩ := owns_read hown
  unfold maxLen at k2
  have K4 := hid k4
  clear hown hbel k4
  go_wp2
  go_loopw [4, 5] (fun best i wi => ∃ (j : Nat) (bz : Int) (q : Nat), j ≤ l.length ∧ i = .int .i64 j ∧ best = .int .i64 bz ∧ BestIs l k j bz ∧ wi = w0.drewN q) (fun _ i _ => l.length - (intOf i).toNat)
  case atStart => exact ⟨0, -1, 0, Nat.zero_le _, rfl, rfl, BestIs.start l k, rfl⟩
  case round =>
   obtain ⟨j, bz, q, hj, rfl, rfl, hbest, hwi⟩ := hrel
   have HBI := hid hbest
   have HWI := hid hwi
   clear hbest hwi
   by_cases hlt : j < l.length
   ·rcases H3.out with ⟨e0, _⟩ | ⟨b, o, ha, h4, h5⟩
    ·rw [e0] at hlt; exact absurd hlt (Nat.not_lt_zero _)
    subst ha
    have hcAt : ∀ (n : Nat) (hn : n < l.length), wr.cell? ⟨b, o + n, none⟩ = some (.string (ba l[n])) := fun n hn => by rw [HWI.out, drewN_cell]; exact (HL.out.cell (p := ⟨b, o + n, none⟩) h4).trans (h5 n hn)
    have HCA := hid hcAt
    have hc := hcAt j hlt
    clear h5 hcAt
    have hltz : (j : Int) < (l.length : Int) := by omega
    by_cases hk0 : k = 0
    ·have hk0z : ((k : Int) == 0) = true := by rw [hk0]; rfl
     have HCand : Hid (cand l k l[j]) := hid (by rw [hk0]; exact cand_zero _ _)
     clear hk0
     rcases HBI.out.place with hbz | ⟨b2, hbz, hb2⟩
     ·subst hbz
      generalize ba l[j] = X at hc
      go_wp2
      go_quiet (fail)
      go_wp2
      go_roundw
      case rel => exact ⟨j + 1, (j : Int), q + nq, by omega, by go_num, rfl, HBI.out.first hlt HCand.out, by rw [HWI.out]; exact drewN_drewN _ _ _⟩
      case measure => simp [intOf]; omega
     ·subst hbz
      have hc2 := HCA.out b2 hb2
      have hn1 : decide ((b2 : Int) < 0) = false := decide_eq_false (by omega)
      have hb2z : (b2 : Int) < (l.length : Int) := by omega
      by_cases hll : l[j] < l[b2]
      ·have HLL := hid hll
       have t1 := less_true hll
       clear hll
       generalize ba l[j] = X at hc t1
       generalize ba l[b2] = Y at hc2 t1
       go_wp2
       go_quiet (fail)
       go_wp2
       go_roundw
       case rel => exact ⟨j + 1, (j : Int), q + nq, by omega, by go_num, rfl, HBI.out.less hb2 hlt HCand.out HLL.out, by rw [HWI.out]; exact drewN_drewN _ _ _⟩
       case measure => simp [intOf]; omega
      ·have HLL := hid hll
       have t1 := less_false hll
       clear hll
       generalize ba l[j] = X at hc t1
       generalize ba l[b2] = Y at hc2 t1
       go_wp2
       go_quiet (fail)
       go_wp2
       go_roundw
       case rel => exact ⟨j + 1, (b2 : Int), q + nq, by omega, by go_num, rfl, HBI.out.keep hb2 hlt HLL.out, by rw [HWI.out]; exact drewN_drewN _ _ _⟩
       case measure => simp [intOf]; omega
    ·have hk0z : ((k : Int) == 0) = false := beq_eq_false_iff_ne.2 (by omega)
     have hkS : Hid (k - 1 < S.length) := hid (by omega)
     rcases K4.out with e0 | ⟨g, ha3, k5⟩
     ·exact absurd e0 hk0
     subst ha3
     have hout : wr.cell? ⟨g, k - 1, none⟩ = some (.string (ba (S[k - 1]'hkS.out))) := by
      rw [HWI.out, drewN_cell]
      have := k5 (k - 1) (by rw [List.length_take]; omega)
      rw [List.getElem_take] at this
      exact this
     clear k5
     have HCP : Hid (cand l k l[j] ↔ S[k - 1]'hkS.out < l[j]) := hid (by have := cand_pos (l := l) (k := k) (by omega) (by rw [← HS.out]; exact hkS.out) l[j]; rw [this]; simp [HS.out])
     have c1 : (0 : Int) ≤ (k : Int) - 1 := by omega
     have c2 : ((k : Int) - 1).toNat = k - 1 := by omega
     have c3 : k - 1 < k := by omega
     have c4 : (1 : Int) ≤ (k : Int) := by omega
     have c7 : (k : Int) - 1 < (k : Int) := by omega
     have c5 : 0 < k := by omega
     have c6 : IntKind.i64.wrap ((k : Int) - 1) = (k : Int) - 1 := wrap_small _ (by omega) (by omega)
     have hS1 : k - 1 + 1 = k := by omega
     generalize (S[k - 1]'hkS.out) = s0 at hout HCP
     by_cases hgt : s0 < l[j]
     ·have HCand : Hid (cand l k l[j]) := hid (HCP.out.2 hgt)
      have u1 : Op.bytesLess (ba l[j]).toList (ba s0).toList = false := less_false fun h => lt_irr _ (lt_tr h hgt)
      have u2 : ((ba l[j]).toList == (ba s0).toList) = false := eq_false' fun h => by rw [h] at hgt; exact lt_irr _ hgt
      clear hgt
      generalize ba s0 = Z at hout u1 u2
      rcases HBI.out.place with hbz | ⟨b2, hbz, hb2⟩
      ·subst hbz
       generalize ba l[j] = X at hc u1 u2
       go_wp2
       go_quiet (fail)
       go_wp2
       go_roundw
       case rel => exact ⟨j + 1, (j : Int), q + nq, by omega, by go_num, rfl, HBI.out.first hlt HCand.out, by rw [HWI.out]; exact drewN_drewN _ _ _⟩
       case measure => simp [intOf]; omega
      ·subst hbz
       have hc2 := HCA.out b2 hb2
       have hn1 : decide ((b2 : Int) < 0) = false := decide_eq_false (by omega)
       have hb2z : (b2 : Int) < (l.length : Int) := by omega
       by_cases hll : l[j] < l[b2]
       ·have HLL := hid hll
        have t1 := less_true hll
        clear hll
        generalize ba l[j] = X at hc t1 u1 u2
        generalize ba l[b2] = Y at hc2 t1
        go_wp2
        go_quiet (fail)
        go_wp2
        go_roundw
        case rel => exact ⟨j + 1, (j : Int), q + nq, by omega, by go_num, rfl, HBI.out.less hb2 hlt HCand.out HLL.out, by rw [HWI.out]; exact drewN_drewN _ _ _⟩
        case measure => simp [intOf]; omega
       ·have HLL := hid hll
        have t1 := less_false hll
        clear hll
        generalize ba l[j] = X at hc t1 u1 u2
        generalize ba l[b2] = Y at hc2 t1
        go_wp2
        go_quiet (fail)
        go_wp2
        go_roundw
        case rel => exact ⟨j + 1, (b2 : Int), q + nq, by omega, by go_num, rfl, HBI.out.keep hb2 hlt HLL.out, by rw [HWI.out]; exact drewN_drewN _ _ _⟩
        case measure => simp [intOf]; omega
     ·have HN : Hid (¬ cand l k l[j]) := hid fun h => hgt (HCP.out.1 h)
      by_cases heq : l[j] = s0
      ·have u2 := eq_true' heq
       clear hgt heq
       generalize ba s0 = Z at hout u2
       generalize ba l[j] = X at hc u2
       go_wp2
       go_quiet (fail)
       go_wp2
       go_roundw
       case rel => exact ⟨j + 1, bz, q + nq, by omega, by go_num, rfl, HBI.out.skip hlt HN.out, by rw [HWI.out]; exact drewN_drewN _ _ _⟩
       case measure => simp [intOf]; omega
      ·have u2 := eq_false' heq
       have u1 : Op.bytesLess (ba l[j]).toList (ba s0).toList = true := less_true (lt_of_le_ne (le_of_nlt hgt) heq)
       clear hgt heq
       generalize ba s0 = Z at hout u1 u2
       generalize ba l[j] = X at hc u1 u2
       go_wp2
       go_quiet (fail)
       go_wp2
       go_roundw
       case rel => exact ⟨j + 1, bz, q + nq, by omega, by go_num, rfl, HBI.out.skip hlt HN.out, by rw [HWI.out]; exact drewN_drewN _ _ _⟩
       case measure => simp [intOf]; omega
   ·obtain rfl : j = l.length := by omega
    rcases HBI.out.place with hbz | ⟨b2, hbz, hb2⟩
    ·subst hbz
     have hkk : k = (sortL l).length := HBI.out.done_none (by rw [← HS.out]; exact hk)
     have HKK := hid hkk
     clear hkk
     go_wp2
     go_ret
     refine ⟨_, rfl, ?_, ?_⟩
     ·have := HW.out
      have e : k = S.length := by rw [HS.out]; exact HKK.out
      rw [e, List.take_length] at this
      rw [HWI.out, ← e]
      rw [← e] at this
      exact this
     ·rw [HWI.out]; exact HL.out.trans ((below_drewN _ _).mono HL.out.size)
    ·subst hbz
     have hn1 : decide ((b2 : Int) < 0) = false := decide_eq_false (by omega)
     rcases H3.out with ⟨e0, _⟩ | ⟨b, o, ha, h4, h5⟩
     ·rw [e0] at hb2; exact absurd hb2 (Nat.not_lt_zero _)
     subst ha
     have hc2 : wr.cell? ⟨b, o + b2, none⟩ = some (.string (ba l[b2])) := by rw [HWI.out, drewN_cell]; exact (HL.out.cell (p := ⟨b, o + b2, none⟩) h4).trans (h5 b2 hb2)
     clear h5
     have hb2z : (b2 : Int) < (l.length : Int) := by omega
     obtain ⟨hks, hnext⟩ := HBI.out.done_some (by rw [← HS.out]; exact hk) hb2
     have hks' : Hid (k < S.length) := hid (by rw [HS.out]; exact hks)
     have HX : Hid ((S.take (k + 1)).map encStr = (S.take k).map encStr ++ [.string (ba l[b2])]) := hid (by
      rw [List.take_succ_eq_append_getElem hks'.out, List.map_append, ← hnext]
      simp only [HS.out]
      rfl)
     clear hnext hks
     generalize ba l[b2] = X at hc2 HX
     have hown : wr.ownsRow w.heap.size 9 1 (.slice a3 k cap3) k ((S.take k).map encStr) := by rw [HWI.out]; exact HW.out
     have HL2 : Hid (Below w.heap.size w wr) := hid (by rw [HWI.out]; exact HL.out.trans ((below_drewN _ _).mono HL.out.size))
     have HO := hid hown
     obtain ⟨XS, hXS⟩ : ∃ XS, XS = (S.take k).map encStr := ⟨_, rfl⟩
     rw [← hXS] at hown
     have HXS := hid hXS
     clear hXS
     go_wp2_with (at_builtin; refine wpList_append_own _ rfl _ _ 22 rfl w.heap.size 9 i0 _ 1 16 Tryz.underlying22 hi hz0 hz1 hz2 rfl (by decide) _ _ _ rfl (hown.alloc _) ⟨wr.heap.size, 0, none⟩ 1 1 [.string X] rfl rfl ?c1 ?c2 ?c3 ?c4 ?c5 ?_)
     case c1 =>
      intro j u hj
      match j, hj with
      | 0, hj => simp at hj; subst hj; simp [Addr.add]
     case c2 => intro u hu; simp at hu; subst hu; rfl
     case c3 => unfold maxLen; omega
     case c4 => omega
     case c5 => have := HL2.out.size; simp; omega
     ·intro v' w2 hown' hgrow _
      have HW2 := hid hown'
      have HG2 := hid hgrow
      clear hown' hgrow hown
      go_wp2
      go_roundg (S.length - (k + 1))
      case measure => have := hks'.out; omega
      case rel =>
       refine ⟨k + 1, hks'.out, Nat.le_refl _, ?_, ?_⟩
       ·rw [HX.out, ← HXS.out]; exact HW2.out
       ·refine (HL2.out.alloc HL2.out.size _).grown HG2.out (by have := HL2.out.size; simp; omega) ?_
        intro p hp
        exact (HO.out.lt p hp).1
end
section
open Go.RowKit Go.Sort
open Nw N8
theorem RSorted_slice (v : Value) (l : List L8) (w : World) (h : Rd w v l) (hbig : l.length ≤ 4398046511103) (n : Nat) (hn : (sortL l).length = n) :
  Calls Tryz.prog 33 #[v] w fun e w' => ∃ a cap, e = .returned (.slice a n cap) ∧ Below w.heap.size w w' :=
 (RSorted_own v l w h hbig).mono fun e w' ⟨v', he, ho, hb⟩ => by
  obtain ⟨a, cap, hv, _⟩ := rd_slice (rd_of_owns ho)
  exact ⟨a, cap, by rw [he, hv, hn], hb⟩
theorem leftT_range (d : Nd) (deep left : Int) : leftT d deep left = -1 ∨ (0 ≤ leftT d deep left ∧ leftT d deep left = left - (cntT d : Int)) := by
 by_cases h : 0 ≤ leftT d deep left
 ·exact .inr ⟨h, leftT_cnt d deep left h⟩
 ·left
  cases d with
  | mk k t ks ds =>
   rw [leftT] at h ⊢
   split
   ·rfl
   ·rename_i h1
    rw [if_neg h1] at h
    split
    ·rfl
    ·rename_i h2
     rw [if_neg h2] at h
     split
     ·rfl
     ·rename_i h3
      rw [if_neg h3] at h
      have key : ∀ (es : List Nd) (l : Int), 0 ≤ l → ¬ 0 ≤ leftL es (deep + 1) l → leftL es (deep + 1) l = -1 := by
       intro es
       induction es with
       | nil => intro l hl hh; rw [leftL] at hh; omega
       | cons e es ih =>
        intro l hl hh
        rw [leftL] at hh ⊢
        split
        ·rfl
        ·rename_i h4
         rw [if_neg h4] at hh
         exact ih _ (by omega) hh
      exact key ds _ (by omega) h
theorem leftL_next {ds : List Nd} {i : Nat} (h : i < ds.length) (deep L : Int) : leftL (ds.drop i) deep L = if leftT (ds[i]'h) deep L < 0 then -1 else leftL (ds.drop (i + 1)) deep (leftT (ds[i]'h) deep L) := by
 rw [List.drop_eq_getElem_cons h, leftL]
def SB (w W : World) (d : Nd) (c0 c1 c2 c3 : Value) : Prop := Boxed w W d c0 c1 c2 c3
theorem sB {w W : World} {d : Nd} {c0 c1 c2 c3 : Value} (h : Boxed w W d c0 c1 c2 c3) :
  W.cell? ⟨w.heap.size, 0, none⟩ = some c0 ∧ W.cell? ⟨w.heap.size, 1, none⟩ = some c1 ∧ W.cell? ⟨w.heap.size, 2, none⟩ = some c2 ∧ W.cell? ⟨w.heap.size, 3, none⟩ = some c3 ∧ SB w W d c0 c1 c2 c3 := by
 obtain ⟨x0, x1, x2, x3⟩ := h.2.1.cells
 exact ⟨x0, x1, x2, x3, h⟩
theorem sB_go {w W W' : World} {d : Nd} {c0 c1 c2 c3 : Value} (h : W.cell? ⟨w.heap.size, 0, none⟩ = some c0 ∧ W.cell? ⟨w.heap.size, 1, none⟩ = some c1 ∧ W.cell? ⟨w.heap.size, 2, none⟩ = some c2 ∧ W.cell? ⟨w.heap.size, 3, none⟩ = some c3 ∧ SB w W d c0 c1 c2 c3) (hb : Below W.heap.size W W') :
  W'.cell? ⟨w.heap.size, 0, none⟩ = some c0 ∧ W'.cell? ⟨w.heap.size, 1, none⟩ = some c1 ∧ W'.cell? ⟨w.heap.size, 2, none⟩ = some c2 ∧ W'.cell? ⟨w.heap.size, 3, none⟩ = some c3 ∧ SB w W' d c0 c1 c2 c3 := sB (Boxed.go h.2.2.2.2 hb)
theorem sB_boxed {w W : World} {d : Nd} {c0 c1 c2 c3 : Value} (h : W.cell? ⟨w.heap.size, 0, none⟩ = some c0 ∧ W.cell? ⟨w.heap.size, 1, none⟩ = some c1 ∧ W.cell? ⟨w.heap.size, 2, none⟩ = some c2 ∧ W.cell? ⟨w.heap.size, 3, none⟩ = some c3 ∧ SB w W d c0 c1 c2 c3) : Boxed w W d c0 c1 c2 c3 := h.2.2.2.2
theorem sB_keys {w W : World} {k : Int} {t : L8} {ks : List L8} {ds : List Nd} {c0 c1 c2 c3 : Value} (h : W.cell? ⟨w.heap.size, 0, none⟩ = some c0 ∧ W.cell? ⟨w.heap.size, 1, none⟩ = some c1 ∧ W.cell? ⟨w.heap.size, 2, none⟩ = some c2 ∧ W.cell? ⟨w.heap.size, 3, none⟩ = some c3 ∧ SB w W (.mk k t ks ds) c0 c1 c2 c3) : Rd W c2 ks := Boxed.keys h.2.2.2.2
def LeftOf (N : Nat) : Prop := ∀ (d : Nd), cntT d ≤ N → ∀ (deep left r : Int), 0 ≤ deep → deep ≤ 13 → 0 ≤ left → left ≤ 100000 → leftT d deep left = r → ∀ (c0 c1 c2 c3 : Value) (w : World), NdW w d c0 c1 c2 c3 →
  Calls Tryz.prog 15 #[.agg #[c0, c1, c2, c3], .int .i64 deep, .int .i64 left] w fun e w' => e = .returned (.int .i64 r) ∧ Below w.heap.size w w'
theorem form_no1 {k : Int} {t : L8} {ks : List L8} {n : Nat} (h : k ≠ 1) (ht : 0 < t.length) : formB k t ks n = false := by unfold formB; rw [decide_eq_true h, decide_eq_true ht]; rfl
theorem form_no2 {k : Int} {t : L8} {ks : List L8} {n : Nat} (h : k ≠ 3) (ht : 0 < ks.length) : formB k t ks n = false := by unfold formB; rw [decide_eq_true h, decide_eq_true ht]; simp
theorem form_no3 {k : Int} {t : L8} {ks : List L8} {n : Nat} (h : k < 2) (ht : 0 < n) : formB k t ks n = false := by unfold formB; rw [decide_eq_true h, decide_eq_true ht]; simp
theorem form_yes {k : Int} {t : L8} {ks : List L8} {n : Nat} (h1 : ¬ (k ≠ 1 ∧ 0 < t.length)) (h2 : ¬ (k ≠ 3 ∧ 0 < ks.length)) (h3 : ¬ (k < 2 ∧ 0 < n)) : formB k t ks n = true := by
 unfold formB
 rw [← Bool.decide_and, ← Bool.decide_and, ← Bool.decide_and, decide_eq_false h1, decide_eq_false h2, decide_eq_false h3]; rfl
theorem left0_t (N : Nat) (ih : LeftOf N) (t : L8) (ks : List L8) (ds : List Nd) (hcN : cntL ds ≤ N) (deep left r : Int) (hd0 : 0 ≤ deep) (hd1 : deep ≤ 12) (hl0 : 1 ≤ left) (hl1 : left ≤ 100000) (hr : leftT (.mk 0 t ks ds) deep left = r) (ht : t ≠ []) (c0 c1 c2 c3 : Value) (w : World) (hd : NdW w (.mk 0 t ks ds) c0 c1 c2 c3) :
  Calls Tryz.prog 15 #[.agg #[c0, c1, c2, c3], .int .i64 deep, .int .i64 left] w fun e w' => e = .returned (.int .i64 r) ∧ Below w.heap.size w w' := by
 have HB0 := hid (Boxed.make hd)
 obtain ⟨rfl, rfl, hks, A, cap, rfl, hcap, hmx, _, _⟩ := hd.parts
 obtain ⟨a, kcap, rfl, hkc, hkm⟩ := rd_slice hks
 have HIH := hid ih
 have HCN := hid hcN
 rw [leftT, if_neg (by omega)] at hr
 unfold maxLen at hkm hmx
 obtain ⟨n, hn⟩ : ∃ n, ds.length = n := ⟨_, rfl⟩
 have HN := hid hn
 rw [hn] at HB0 hcap hr ⊢
 have hn63 : n ≤ 9223372036854775807 := by omega
 obtain ⟨m, hmm⟩ : ∃ m, ks.length = m := ⟨_, rfl⟩
 have HM := hid hmm
 rw [hmm] at HB0 hkc ⊢
 have hm63 : m ≤ 9223372036854775807 := by omega
 obtain ⟨T, hT⟩ : ∃ T, ba t = T := ⟨_, rfl⟩
 have HTS : Hid (T.size = t.length) := hid (by rw [← hT]; exact ba_size t)
 rw [hT] at HB0 ⊢
 have HR0 := hid hr
 have el : IntKind.i64.wrap (left - 1) = left - 1 := IntWalk.i64_in _ (by omega)
 have g0 : ¬ left - 1 < 0 := by omega
 have g1 : ¬ 12 < deep := by omega
 obtain ⟨x0, x1, x2, x3⟩ := HB0.out.2.1.cells
 clear ih hd hcN hks hr hn hmm hT
 have b1 : (0 : Int) < (T.size : Int) := by have := List.length_pos_iff.2 ht; have := HTS.out; omega
 have b1n : 0 < T.size := by omega
 have b1d : decide ((0 : Int) < (T.size : Int)) = true := decide_eq_true b1
 have b1e : ¬ T = ByteArray.empty := fun e => by rw [e] at b1n; exact absurd b1n (by decide)
 clear ht
 have HE : Hid (r = -1) := hid (by rw [← HR0.out, if_pos (form_no1 (by decide) (by have := HTS.out; omega))])
 go_enter Tryz.func15, Tryz.ntmps15
 go_wp2
 go_ret
 exact ⟨ret_int HE.out.symm, HB0.out.1⟩
theorem left0_k (N : Nat) (ih : LeftOf N) (ks : List L8) (ds : List Nd) (hcN : cntL ds ≤ N) (deep left r : Int) (hd0 : 0 ≤ deep) (hd1 : deep ≤ 12) (hl0 : 1 ≤ left) (hl1 : left ≤ 100000) (hr : leftT (.mk 0 [] ks ds) deep left = r) (hk : ks ≠ []) (c0 c1 c2 c3 : Value) (w : World) (hd : NdW w (.mk 0 [] ks ds) c0 c1 c2 c3) :
  Calls Tryz.prog 15 #[.agg #[c0, c1, c2, c3], .int .i64 deep, .int .i64 left] w fun e w' => e = .returned (.int .i64 r) ∧ Below w.heap.size w w' := by
 have HB0 := hid (Boxed.make hd)
 obtain ⟨rfl, rfl, hks, A, cap, rfl, hcap, hmx, _, _⟩ := hd.parts
 obtain ⟨a, kcap, rfl, hkc, hkm⟩ := rd_slice hks
 have HIH := hid ih
 have HCN := hid hcN
 rw [leftT, if_neg (by omega)] at hr
 unfold maxLen at hkm hmx
 obtain ⟨n, hn⟩ : ∃ n, ds.length = n := ⟨_, rfl⟩
 have HN := hid hn
 rw [hn] at HB0 hcap hr ⊢
 have hn63 : n ≤ 9223372036854775807 := by omega
 obtain ⟨m, hmm⟩ : ∃ m, ks.length = m := ⟨_, rfl⟩
 have HM := hid hmm
 rw [hmm] at HB0 hkc ⊢
 have hm63 : m ≤ 9223372036854775807 := by omega
 rw [show ba [] = ⟨#[]⟩ from rfl] at HB0 ⊢
 have HR0 := hid hr
 have el : IntKind.i64.wrap (left - 1) = left - 1 := IntWalk.i64_in _ (by omega)
 have g0 : ¬ left - 1 < 0 := by omega
 have g1 : ¬ 12 < deep := by omega
 obtain ⟨x0, x1, x2, x3⟩ := HB0.out.2.1.cells
 clear ih hd hcN hks hr hn hmm
 have b2 : (0 : Int) < (m : Int) := by have := List.length_pos_iff.2 hk; have := HM.out; omega
 clear hk
 have HE : Hid (r = -1) := hid (by rw [← HR0.out, if_pos (form_no2 (by decide) (by have := HM.out; omega))])
 go_enter Tryz.func15, Tryz.ntmps15
 go_wp2
 go_ret
 exact ⟨ret_int HE.out.symm, HB0.out.1⟩
theorem left0_d (N : Nat) (ih : LeftOf N) (ds : List Nd) (hcN : cntL ds ≤ N) (deep left r : Int) (hd0 : 0 ≤ deep) (hd1 : deep ≤ 12) (hl0 : 1 ≤ left) (hl1 : left ≤ 100000) (hr : leftT (.mk 0 [] [] ds) deep left = r) (hdd : ds ≠ []) (c0 c1 c2 c3 : Value) (w : World) (hd : NdW w (.mk 0 [] [] ds) c0 c1 c2 c3) :
  Calls Tryz.prog 15 #[.agg #[c0, c1, c2, c3], .int .i64 deep, .int .i64 left] w fun e w' => e = .returned (.int .i64 r) ∧ Below w.heap.size w w' := by
 have HB0 := hid (Boxed.make hd)
 obtain ⟨rfl, rfl, hks, A, cap, rfl, hcap, hmx, _, _⟩ := hd.parts
 obtain ⟨a, kcap, rfl, hkc, hkm⟩ := rd_slice hks
 have HIH := hid ih
 have HCN := hid hcN
 rw [leftT, if_neg (by omega)] at hr
 unfold maxLen at hkm hmx
 obtain ⟨n, hn⟩ : ∃ n, ds.length = n := ⟨_, rfl⟩
 have HN := hid hn
 rw [hn] at HB0 hcap hr ⊢
 have hn63 : n ≤ 9223372036854775807 := by omega
 rw [List.length_nil] at HB0 hkc ⊢
 rw [show ba [] = ⟨#[]⟩ from rfl] at HB0 ⊢
 have HR0 := hid hr
 have el : IntKind.i64.wrap (left - 1) = left - 1 := IntWalk.i64_in _ (by omega)
 have g0 : ¬ left - 1 < 0 := by omega
 have g1 : ¬ 12 < deep := by omega
 obtain ⟨x0, x1, x2, x3⟩ := HB0.out.2.1.cells
 clear ih hd hcN hks hr hn
 have b3 : (0 : Int) < (n : Int) := by have := List.length_pos_iff.2 hdd; have := HN.out; omega
 clear hdd
 have HE : Hid (r = -1) := hid (by rw [← HR0.out, if_pos (form_no3 (by decide) (by have := HN.out; omega))])
 go_enter Tryz.func15, Tryz.ntmps15
 go_wp2
 go_ret
 exact ⟨ret_int HE.out.symm, HB0.out.1⟩
theorem left0_y (N : Nat) (ih : LeftOf N) (hcN : cntL [] ≤ N) (deep left r : Int) (hd0 : 0 ≤ deep) (hd1 : deep ≤ 12) (hl0 : 1 ≤ left) (hl1 : left ≤ 100000) (hr : leftT (.mk 0 [] [] []) deep left = r) (c0 c1 c2 c3 : Value) (w : World) (hd : NdW w (.mk 0 [] [] []) c0 c1 c2 c3) :
  Calls Tryz.prog 15 #[.agg #[c0, c1, c2, c3], .int .i64 deep, .int .i64 left] w fun e w' => e = .returned (.int .i64 r) ∧ Below w.heap.size w w' := by
 have HB0 := hid (Boxed.make hd)
 obtain ⟨rfl, rfl, hks, A, cap, rfl, hcap, hmx, _, _⟩ := hd.parts
 obtain ⟨a, kcap, rfl, hkc, hkm⟩ := rd_slice hks
 have HIH := hid ih
 have HCN := hid hcN
 rw [leftT, if_neg (by omega)] at hr
 unfold maxLen at hkm hmx
 rw [List.length_nil] at HB0 hcap hr ⊢
 rw [List.length_nil] at HB0 hkc ⊢
 rw [show ba [] = ⟨#[]⟩ from rfl] at HB0 ⊢
 have HR0 := hid hr
 have el : IntKind.i64.wrap (left - 1) = left - 1 := IntWalk.i64_in _ (by omega)
 have g0 : ¬ left - 1 < 0 := by omega
 have g1 : ¬ 12 < deep := by omega
 obtain ⟨x0, x1, x2, x3⟩ := HB0.out.2.1.cells
 clear ih hd hcN hks hr
 have HF : Hid (formB 0 [] [] 0 = true) := hid (form_yes (fun h => absurd h.2 (by decide)) (fun h => absurd h.2 (by decide)) (fun h => absurd h.2 (by decide)))
 have HRL : Hid (left - 1 = r) := hid (by rw [← HR0.out, if_neg (by rw [HF.out]; decide), if_neg (by unfold keysB; rw [decide_eq_false (by decide)]; simp), leftL])
 go_enter Tryz.func15, Tryz.ntmps15
 go_wp2
 go_quiet (fail)
 go_wp2
 clear x0 x1 x2 x3
 go_loopw [2, 7] (fun sl si wr => si = .int .i64 0 ∧ sl = .int .i64 (left - 1) ∧ Hid (Boxed w wr (.mk 0 [] [] []) (.int .i64 0) (.string ⟨#[]⟩) (.slice a 0 kcap) (.slice A 0 cap))) (fun _ _ _ => 0)
 case atStart => exact ⟨rfl, rfl, hid (HB0.out.go (belowD _ _))⟩
 case round =>
  obtain ⟨rfl, rfl, HB⟩ := hrel
  obtain ⟨x0, x1, x2, x3⟩ := HB.out.2.1.cells
  go_wp2
  go_ret
  exact ⟨ret_int HRL.out, HB.out.1⟩
theorem left1_k (N : Nat) (ih : LeftOf N) (t : L8) (ks : List L8) (ds : List Nd) (hcN : cntL ds ≤ N) (deep left r : Int) (hd0 : 0 ≤ deep) (hd1 : deep ≤ 12) (hl0 : 1 ≤ left) (hl1 : left ≤ 100000) (hr : leftT (.mk 1 t ks ds) deep left = r) (hk : ks ≠ []) (c0 c1 c2 c3 : Value) (w : World) (hd : NdW w (.mk 1 t ks ds) c0 c1 c2 c3) :
  Calls Tryz.prog 15 #[.agg #[c0, c1, c2, c3], .int .i64 deep, .int .i64 left] w fun e w' => e = .returned (.int .i64 r) ∧ Below w.heap.size w w' := by
 have HB0 := hid (Boxed.make hd)
 obtain ⟨rfl, rfl, hks, A, cap, rfl, hcap, hmx, _, _⟩ := hd.parts
 obtain ⟨a, kcap, rfl, hkc, hkm⟩ := rd_slice hks
 have HIH := hid ih
 have HCN := hid hcN
 rw [leftT, if_neg (by omega)] at hr
 unfold maxLen at hkm hmx
 obtain ⟨n, hn⟩ : ∃ n, ds.length = n := ⟨_, rfl⟩
 have HN := hid hn
 rw [hn] at HB0 hcap hr ⊢
 have hn63 : n ≤ 9223372036854775807 := by omega
 obtain ⟨m, hmm⟩ : ∃ m, ks.length = m := ⟨_, rfl⟩
 have HM := hid hmm
 rw [hmm] at HB0 hkc ⊢
 have hm63 : m ≤ 9223372036854775807 := by omega
 obtain ⟨T, hT⟩ : ∃ T, ba t = T := ⟨_, rfl⟩
 have HTS : Hid (T.size = t.length) := hid (by rw [← hT]; exact ba_size t)
 rw [hT] at HB0 ⊢
 have HR0 := hid hr
 have el : IntKind.i64.wrap (left - 1) = left - 1 := IntWalk.i64_in _ (by omega)
 have g0 : ¬ left - 1 < 0 := by omega
 have g1 : ¬ 12 < deep := by omega
 obtain ⟨x0, x1, x2, x3⟩ := HB0.out.2.1.cells
 clear ih hd hcN hks hr hn hmm hT
 have b2 : (0 : Int) < (m : Int) := by have := List.length_pos_iff.2 hk; have := HM.out; omega
 clear hk
 have HE : Hid (r = -1) := hid (by rw [← HR0.out, if_pos (form_no2 (by decide) (by have := HM.out; omega))])
 go_enter Tryz.func15, Tryz.ntmps15
 go_wp2
 go_ret
 exact ⟨ret_int HE.out.symm, HB0.out.1⟩
theorem left1_d (N : Nat) (ih : LeftOf N) (t : L8) (ds : List Nd) (hcN : cntL ds ≤ N) (deep left r : Int) (hd0 : 0 ≤ deep) (hd1 : deep ≤ 12) (hl0 : 1 ≤ left) (hl1 : left ≤ 100000) (hr : leftT (.mk 1 t [] ds) deep left = r) (hdd : ds ≠ []) (c0 c1 c2 c3 : Value) (w : World) (hd : NdW w (.mk 1 t [] ds) c0 c1 c2 c3) :
  Calls Tryz.prog 15 #[.agg #[c0, c1, c2, c3], .int .i64 deep, .int .i64 left] w fun e w' => e = .returned (.int .i64 r) ∧ Below w.heap.size w w' := by
 have HB0 := hid (Boxed.make hd)
 obtain ⟨rfl, rfl, hks, A, cap, rfl, hcap, hmx, _, _⟩ := hd.parts
 obtain ⟨a, kcap, rfl, hkc, hkm⟩ := rd_slice hks
 have HIH := hid ih
 have HCN := hid hcN
 rw [leftT, if_neg (by omega)] at hr
 unfold maxLen at hkm hmx
 obtain ⟨n, hn⟩ : ∃ n, ds.length = n := ⟨_, rfl⟩
 have HN := hid hn
 rw [hn] at HB0 hcap hr ⊢
 have hn63 : n ≤ 9223372036854775807 := by omega
 rw [List.length_nil] at HB0 hkc ⊢
 obtain ⟨T, hT⟩ : ∃ T, ba t = T := ⟨_, rfl⟩
 have HTS : Hid (T.size = t.length) := hid (by rw [← hT]; exact ba_size t)
 rw [hT] at HB0 ⊢
 have HR0 := hid hr
 have el : IntKind.i64.wrap (left - 1) = left - 1 := IntWalk.i64_in _ (by omega)
 have g0 : ¬ left - 1 < 0 := by omega
 have g1 : ¬ 12 < deep := by omega
 obtain ⟨x0, x1, x2, x3⟩ := HB0.out.2.1.cells
 clear ih hd hcN hks hr hn hT
 have b3 : (0 : Int) < (n : Int) := by have := List.length_pos_iff.2 hdd; have := HN.out; omega
 clear hdd
 have HE : Hid (r = -1) := hid (by rw [← HR0.out, if_pos (form_no3 (by decide) (by have := HN.out; omega))])
 go_enter Tryz.func15, Tryz.ntmps15
 go_wp2
 go_ret
 exact ⟨ret_int HE.out.symm, HB0.out.1⟩
theorem left1_y (N : Nat) (ih : LeftOf N) (t : L8) (hcN : cntL [] ≤ N) (deep left r : Int) (hd0 : 0 ≤ deep) (hd1 : deep ≤ 12) (hl0 : 1 ≤ left) (hl1 : left ≤ 100000) (hr : leftT (.mk 1 t [] []) deep left = r) (c0 c1 c2 c3 : Value) (w : World) (hd : NdW w (.mk 1 t [] []) c0 c1 c2 c3) :
  Calls Tryz.prog 15 #[.agg #[c0, c1, c2, c3], .int .i64 deep, .int .i64 left] w fun e w' => e = .returned (.int .i64 r) ∧ Below w.heap.size w w' := by
 have HB0 := hid (Boxed.make hd)
 obtain ⟨rfl, rfl, hks, A, cap, rfl, hcap, hmx, _, _⟩ := hd.parts
 obtain ⟨a, kcap, rfl, hkc, hkm⟩ := rd_slice hks
 have HIH := hid ih
 have HCN := hid hcN
 rw [leftT, if_neg (by omega)] at hr
 unfold maxLen at hkm hmx
 rw [List.length_nil] at HB0 hcap hr ⊢
 rw [List.length_nil] at HB0 hkc ⊢
 obtain ⟨T, hT⟩ : ∃ T, ba t = T := ⟨_, rfl⟩
 have HTS : Hid (T.size = t.length) := hid (by rw [← hT]; exact ba_size t)
 rw [hT] at HB0 ⊢
 have HR0 := hid hr
 have el : IntKind.i64.wrap (left - 1) = left - 1 := IntWalk.i64_in _ (by omega)
 have g0 : ¬ left - 1 < 0 := by omega
 have g1 : ¬ 12 < deep := by omega
 obtain ⟨x0, x1, x2, x3⟩ := HB0.out.2.1.cells
 clear ih hd hcN hks hr hT
 have HF : Hid (formB 1 t [] 0 = true) := hid (form_yes (fun h => h.1 rfl) (fun h => absurd h.2 (by decide)) (fun h => absurd h.2 (by decide)))
 have HRL : Hid (left - 1 = r) := hid (by rw [← HR0.out, if_neg (by rw [HF.out]; decide), if_neg (by unfold keysB; rw [decide_eq_false (by decide)]; simp), leftL])
 go_enter Tryz.func15, Tryz.ntmps15
 go_wp2
 go_quiet (fail)
 go_wp2
 clear x0 x1 x2 x3
 go_loopw [2, 7] (fun sl si wr => si = .int .i64 0 ∧ sl = .int .i64 (left - 1) ∧ Hid (Boxed w wr (.mk 1 t [] []) (.int .i64 1) (.string T) (.slice a 0 kcap) (.slice A 0 cap))) (fun _ _ _ => 0)
 case atStart => exact ⟨rfl, rfl, hid (HB0.out.go (belowD _ _))⟩
 case round =>
  obtain ⟨rfl, rfl, HB⟩ := hrel
  obtain ⟨x0, x1, x2, x3⟩ := HB.out.2.1.cells
  go_wp2
  go_ret
  exact ⟨ret_int HRL.out, HB.out.1⟩
theorem left2_t (N : Nat) (ih : LeftOf N) (t : L8) (ks : List L8) (ds : List Nd) (hcN : cntL ds ≤ N) (deep left r : Int) (hd0 : 0 ≤ deep) (hd1 : deep ≤ 12) (hl0 : 1 ≤ left) (hl1 : left ≤ 100000) (hr : leftT (.mk 2 t ks ds) deep left = r) (ht : t ≠ []) (c0 c1 c2 c3 : Value) (w : World) (hd : NdW w (.mk 2 t ks ds) c0 c1 c2 c3) :
  Calls Tryz.prog 15 #[.agg #[c0, c1, c2, c3], .int .i64 deep, .int .i64 left] w fun e w' => e = .returned (.int .i64 r) ∧ Below w.heap.size w w' := by
 have HB0 := hid (Boxed.make hd)
 obtain ⟨rfl, rfl, hks, A, cap, rfl, hcap, hmx, _, _⟩ := hd.parts
 obtain ⟨a, kcap, rfl, hkc, hkm⟩ := rd_slice hks
 have HIH := hid ih
 have HCN := hid hcN
 rw [leftT, if_neg (by omega)] at hr
 unfold maxLen at hkm hmx
 obtain ⟨n, hn⟩ : ∃ n, ds.length = n := ⟨_, rfl⟩
 have HN := hid hn
 rw [hn] at HB0 hcap hr ⊢
 have hn63 : n ≤ 9223372036854775807 := by omega
 obtain ⟨m, hmm⟩ : ∃ m, ks.length = m := ⟨_, rfl⟩
 have HM := hid hmm
 rw [hmm] at HB0 hkc ⊢
 have hm63 : m ≤ 9223372036854775807 := by omega
 obtain ⟨T, hT⟩ : ∃ T, ba t = T := ⟨_, rfl⟩
 have HTS : Hid (T.size = t.length) := hid (by rw [← hT]; exact ba_size t)
 rw [hT] at HB0 ⊢
 have HR0 := hid hr
 have el : IntKind.i64.wrap (left - 1) = left - 1 := IntWalk.i64_in _ (by omega)
 have g0 : ¬ left - 1 < 0 := by omega
 have g1 : ¬ 12 < deep := by omega
 obtain ⟨x0, x1, x2, x3⟩ := HB0.out.2.1.cells
 clear ih hd hcN hks hr hn hmm hT
 have b1 : (0 : Int) < (T.size : Int) := by have := List.length_pos_iff.2 ht; have := HTS.out; omega
 have b1n : 0 < T.size := by omega
 have b1d : decide ((0 : Int) < (T.size : Int)) = true := decide_eq_true b1
 have b1e : ¬ T = ByteArray.empty := fun e => by rw [e] at b1n; exact absurd b1n (by decide)
 clear ht
 have HE : Hid (r = -1) := hid (by rw [← HR0.out, if_pos (form_no1 (by decide) (by have := HTS.out; omega))])
 go_enter Tryz.func15, Tryz.ntmps15
 go_wp2
 go_ret
 exact ⟨ret_int HE.out.symm, HB0.out.1⟩
theorem left2_k (N : Nat) (ih : LeftOf N) (ks : List L8) (ds : List Nd) (hcN : cntL ds ≤ N) (deep left r : Int) (hd0 : 0 ≤ deep) (hd1 : deep ≤ 12) (hl0 : 1 ≤ left) (hl1 : left ≤ 100000) (hr : leftT (.mk 2 [] ks ds) deep left = r) (hk : ks ≠ []) (c0 c1 c2 c3 : Value) (w : World) (hd : NdW w (.mk 2 [] ks ds) c0 c1 c2 c3) :
  Calls Tryz.prog 15 #[.agg #[c0, c1, c2, c3], .int .i64 deep, .int .i64 left] w fun e w' => e = .returned (.int .i64 r) ∧ Below w.heap.size w w' := by
 have HB0 := hid (Boxed.make hd)
 obtain ⟨rfl, rfl, hks, A, cap, rfl, hcap, hmx, _, _⟩ := hd.parts
 obtain ⟨a, kcap, rfl, hkc, hkm⟩ := rd_slice hks
 have HIH := hid ih
 have HCN := hid hcN
 rw [leftT, if_neg (by omega)] at hr
 unfold maxLen at hkm hmx
 obtain ⟨n, hn⟩ : ∃ n, ds.length = n := ⟨_, rfl⟩
 have HN := hid hn
 rw [hn] at HB0 hcap hr ⊢
 have hn63 : n ≤ 9223372036854775807 := by omega
 obtain ⟨m, hmm⟩ : ∃ m, ks.length = m := ⟨_, rfl⟩
 have HM := hid hmm
 rw [hmm] at HB0 hkc ⊢
 have hm63 : m ≤ 9223372036854775807 := by omega
 rw [show ba [] = ⟨#[]⟩ from rfl] at HB0 ⊢
 have HR0 := hid hr
 have el : IntKind.i64.wrap (left - 1) = left - 1 := IntWalk.i64_in _ (by omega)
 have g0 : ¬ left - 1 < 0 := by omega
 have g1 : ¬ 12 < deep := by omega
 obtain ⟨x0, x1, x2, x3⟩ := HB0.out.2.1.cells
 clear ih hd hcN hks hr hn hmm
 have b2 : (0 : Int) < (m : Int) := by have := List.length_pos_iff.2 hk; have := HM.out; omega
 clear hk
 have HE : Hid (r = -1) := hid (by rw [← HR0.out, if_pos (form_no2 (by decide) (by have := HM.out; omega))])
 go_enter Tryz.func15, Tryz.ntmps15
 go_wp2
 go_ret
 exact ⟨ret_int HE.out.symm, HB0.out.1⟩
theorem left2_y (N : Nat) (ih : LeftOf N) (ds : List Nd) (hcN : cntL ds ≤ N) (deep left r : Int) (hd0 : 0 ≤ deep) (hd1 : deep ≤ 12) (hl0 : 1 ≤ left) (hl1 : left ≤ 100000) (hr : leftT (.mk 2 [] [] ds) deep left = r) (c0 c1 c2 c3 : Value) (w : World) (hd : NdW w (.mk 2 [] [] ds) c0 c1 c2 c3) :
  Calls Tryz.prog 15 #[.agg #[c0, c1, c2, c3], .int .i64 deep, .int .i64 left] w fun e w' => e = .returned (.int .i64 r) ∧ Below w.heap.size w w' := by
 have HB0 := hid (Boxed.make hd)
 obtain ⟨rfl, rfl, hks, A, cap, rfl, hcap, hmx, _, _⟩ := hd.parts
 obtain ⟨a, kcap, rfl, hkc, hkm⟩ := rd_slice hks
 have HIH := hid ih
 have HCN := hid hcN
 rw [leftT, if_neg (by omega)] at hr
 unfold maxLen at hkm hmx
 obtain ⟨n, hn⟩ : ∃ n, ds.length = n := ⟨_, rfl⟩
 have HN := hid hn
 rw [hn] at HB0 hcap hr ⊢
 have hn63 : n ≤ 9223372036854775807 := by omega
 rw [List.length_nil] at HB0 hkc ⊢
 rw [show ba [] = ⟨#[]⟩ from rfl] at HB0 ⊢
 have HR0 := hid hr
 have el : IntKind.i64.wrap (left - 1) = left - 1 := IntWalk.i64_in _ (by omega)
 have g0 : ¬ left - 1 < 0 := by omega
 have g1 : ¬ 12 < deep := by omega
 obtain ⟨x0, x1, x2, x3⟩ := HB0.out.2.1.cells
 clear ih hd hcN hks hr hn
 have HF : Hid (formB 2 [] [] n = true) := hid (form_yes (fun h => absurd h.2 (by decide)) (fun h => absurd h.2 (by decide)) (fun h => absurd h.1 (by decide)))
 have HRL : Hid (leftL (ds.drop 0) (deep + 1) (left - 1) = r) := hid (by rw [← HR0.out, if_neg (by rw [HF.out]; decide), if_neg (by unfold keysB; rw [decide_eq_false (by decide)]; simp)]; rfl)
 go_enter Tryz.func15, Tryz.ntmps15
 go_wp2
 go_quiet (fail)
 go_wp2
 clear x0 x1 x2 x3
 go_loopw [2, 7] (fun sl si wr => ∃ (i : Nat) (L : Int), i ≤ n ∧ 0 ≤ L ∧ L ≤ 100000 ∧ si = .int .i64 (i : Int) ∧ sl = .int .i64 L ∧ Hid (leftL (ds.drop i) (deep + 1) L = r) ∧ Hid (Boxed w wr (.mk 2 [] [] ds) (.int .i64 2) (.string ⟨#[]⟩) (.slice a 0 kcap) (.slice A n cap))) (fun _ si _ => n - (intOf si).toNat)
 case atStart => exact ⟨0, left - 1, Nat.zero_le _, by omega, by omega, rfl, rfl, HRL, hid (HB0.out.go (belowD _ _))⟩
 case round =>
  clear HB0 HRL
  obtain ⟨i, L, hi, hL0, hL1, rfl, rfl, HRL, HB⟩ := hrel
  obtain ⟨x0, x1, x2, x3⟩ := HB.out.2.1.cells
  by_cases hin : i < n
  ·have hil : i < ds.length := by rw [HN.out]; exact hin
   have hiz : (i : Int) < (n : Int) := by omega
   obtain ⟨b, o, e0, e1, e2, e3, rfl, hb, y0, y1, y2, y3, hnd⟩ := HB.out.2.2.kid i hil
   have hck : cntT (ds[i]'hil) ≤ cntL ds := cntL_mem (List.getElem_mem hil)
   obtain ⟨q, hq⟩ : ∃ q, leftT (ds[i]'hil) (deep + 1) L = q := ⟨_, rfl⟩
   have hrg := leftT_range (ds[i]'hil) (deep + 1) L
   have hnx := leftL_next hil (deep + 1) L
   rw [hq] at hrg hnx
   have HR := hid (HIH.out (ds[i]'hil) (by have := HCN.out; omega) (deep + 1) L q (by omega) (by omega) hL0 hL1 hq e0 e1 e2 e3 wr hnd)
   have ed : IntKind.i64.wrap (deep + 1) = deep + 1 := IntWalk.i64_in _ (by omega)
   by_cases hneg : q < 0
   ·have HE : Hid (r = -1) := hid (by rw [← HRL.out, hnx, if_pos hneg])
    clear hnd hck hrg hnx hq
    go_wp2_with (go_at_call 15; refine HR.out.mono ?_; rintro e w2 ⟨rfl, hb2⟩)
    go_ret
    exact ⟨ret_int HE.out.symm, (HB.out.go hb2).1⟩
   ·have HN2 : Hid (leftL (ds.drop (i + 1)) (deep + 1) q = r) := hid (by rw [← HRL.out, hnx, if_neg hneg])
    have hq1 : q ≤ 100000 := by rcases hrg with h | ⟨_, h⟩ <;> omega
    clear hnd hck hrg hnx hq
    go_wp2_with (go_at_call 15; refine HR.out.mono ?_; rintro e w2 ⟨rfl, hb2⟩)
    have HB2 := hid (HB.out.go hb2)
    clear hb2
    go_roundw
    case measure => simp [intOf]; omega
    case rel => exact ⟨i + 1, q, by omega, by omega, hq1, by go_num, rfl, HN2, HB2⟩
  ·obtain rfl : i = n := by omega
   have HE : Hid (L = r) := hid (by rw [← HRL.out, List.drop_of_length_le (by rw [HN.out]; exact Nat.le_refl _), leftL])
   go_wp2
   go_ret
   exact ⟨ret_int HE.out, HB.out.1⟩
end
end Go.Proofs.YtmdgpejedbkkdaaGreatDoor
