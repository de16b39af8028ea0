/- RefFlo1, RefFlo2, RefFlo3 -/
import Derived.Deep.LoopGhost
import Derived.Test.YtecglpocmhkkiaaGreatDoorPT12
import Derived.Test.YtecglpocmhkkiaaGreatDoorPT15
import Derived.Test.YtecglpocmhkkiaaGreatDoorPT3
import Derived.Test.YtecglpocmhkkiaaGreatDoorPT5
import Derived.Test.YtecglpocmhkkiaaGreatDoorPT9
set_option linter.unusedVariables false
set_option linter.unusedSimpArgs false
set_option maxRecDepth 100000
set_option maxHeartbeats 16000000
open Go.Lib (hid)
namespace Go.Proofs.YtecglpocmhkkiaaGreatDoor
section
open Go.RowKit Go.Sort
open Nw N8 Q6 F9
theorem drop_head (l : L8) (k : Nat) : (l.drop k).headD 0 = l.getD k 0 := by
 rcases Nat.lt_or_ge k l.length with h | h
 ·rw [drop_cons h]; rfl
 ·rw [List.drop_of_length_le h, List.getD_eq_getElem?_getD, List.getElem?_eq_none h]; rfl
theorem ret_s9 {a b : ByteArray} (h : a.data.toList = b.data.toList) : Ending.returned (.string a) = .returned (.string b) := by
 have : a = b := by rw [← ba_of a, ← ba_of b, h]
 rw [this]
theorem ret_bb {a b : Bool} (h : a = b) : Ending.returned (.bool a) = .returned (.bool b) := by rw [h]
theorem ret_i {a b : Int} (h : a = b) : Ending.returned (.int .i64 a) = .returned (.int .i64 b) := by rw [h]
theorem has_marks (c : UInt8) : has marks c = (isC 44 c || (isC 91 c || (isC 93 c || (isC 123 c || isC 125 c)))) := by
 unfold has marks isC
 simp only [List.mem_cons, List.not_mem_nil, or_false, Bool.decide_or]
theorem Rmark_any (c : UInt8) (b : Bool) (w : World) (h : has marks c = b) :
  Calls Tryz.prog 140 #[.int .u8 (c.toNat : Int)] w fun e w' => e = .returned (.bool b) ∧ w = w' := by
 rw [has_marks] at h
 have m0 := isC_beq 44 c 44 rfl
 have m1 := isC_beq 91 c 91 rfl
 have m2 := isC_beq 93 c 93 rfl
 have m3 := isC_beq 123 c 123 rfl
 have m4 := isC_beq 125 c 125 rfl
 generalize isC 44 c = b0 at *
 generalize isC 91 c = b1 at *
 generalize isC 93 c = b2 at *
 generalize isC 123 c = b3 at *
 generalize isC 125 c = b4 at *
 have H := hid h
 clear h
 cases b0 with
 | true =>
  have HE : Hid (true = b) := hid (by rw [← H.out]; rfl)
  clear H
  go_enter Tryz.func140, Tryz.ntmps140
  go_wp2
  go_ret
  exact ⟨ret_bb HE.out, rfl⟩
 | false =>
  cases b1 with
  | true =>
   have HE : Hid (true = b) := hid (by rw [← H.out]; rfl)
   clear H
   go_enter Tryz.func140, Tryz.ntmps140
   go_wp2
   go_ret
   exact ⟨ret_bb HE.out, rfl⟩
  | false =>
   cases b2 with
   | true =>
    have HE : Hid (true = b) := hid (by rw [← H.out]; rfl)
    clear H
    go_enter Tryz.func140, Tryz.ntmps140
    go_wp2
    go_ret
    exact ⟨ret_bb HE.out, rfl⟩
   | false =>
    cases b3 with
    | true =>
     have HE : Hid (true = b) := hid (by rw [← H.out]; rfl)
     clear H
     go_enter Tryz.func140, Tryz.ntmps140
     go_wp2
     go_ret
     exact ⟨ret_bb HE.out, rfl⟩
    | false =>
     cases b4 with
     | true =>
      have HE : Hid (true = b) := hid (by rw [← H.out]; rfl)
      clear H
      go_enter Tryz.func140, Tryz.ntmps140
      go_wp2
      go_ret
      exact ⟨ret_bb HE.out, rfl⟩
     | false =>
      have HE : Hid (false = b) := hid (by rw [← H.out]; rfl)
      clear H
      go_enter Tryz.func140, Tryz.ntmps140
      go_wp2
      go_ret
      exact ⟨ret_bb HE.out, rfl⟩
theorem Ris_any (s : ByteArray) (k : Nat) (c : UInt8) (hc0 : c ≠ 0) (w : World) (n : Nat) (hn : s.size = n) (hs : n ≤ 1000000) (b : Bool) (h : isC c ((s.data.toList.drop k).headD 0) = b) :
  Calls Tryz.prog 138 #[.string s, .int .i64 (k : Int), .int .u8 (c.toNat : Int)] w fun e w' => e = .returned (.bool b) ∧ w = w' := by
 rw [drop_head] at h
 by_cases hk : k < n
 ·have hks : k < s.size := by omega
  have hkz : (k : Int) < (n : Int) := by omega
  obtain ⟨d, hd⟩ : ∃ d, s[k]'hks = d := ⟨_, rfl⟩
  rw [getd s k hks, hd] at h
  have m := isC_beq c d (c.toNat : Int) rfl
  rw [h] at m
  clear h
  go_enter Tryz.func138, Tryz.ntmps138
  go_wp2
  go_ret
  exact ⟨rfl, rfl⟩
 ·have hkz : ¬ (k : Int) < (n : Int) := by omega
  have HB : Hid (false = b) := hid (by
   rw [← h, List.getD_eq_getElem?_getD, List.getElem?_eq_none (by rw [len_eq]; omega)]
   show false = isC c 0
   exact (decide_eq_false (fun e => hc0 e.symm)).symm)
  clear h
  go_enter Tryz.func138, Tryz.ntmps138
  go_wp2
  go_ret
  exact ⟨ret_bb HB.out, rfl⟩
theorem Rblanks_any (s : ByteArray) (k : Nat) (w : World) (n : Nat) (hn : s.size = n) (hs : n ≤ 1000000) (hk : k ≤ n) (R : Nat) (hR : k + blk (s.data.toList.drop k) = R) :
  Calls Tryz.prog 100 #[.string s, .int .i64 (k : Int)] w fun e w' => e = .returned (.int .i64 (R : Int)) ∧ w = w' := by
 have HR0 := hid hR
 have HLEN : Hid (s.data.toList.length = n) := hid ((len_eq s).trans hn)
 clear hR
 go_enter Tryz.func100, Tryz.ntmps100
 go_wp2
 go_loop [1] (fun si => ∃ j : Nat, j ≤ n ∧ si = .int .i64 (j : Int) ∧ Hid (j + blk (s.data.toList.drop j) = R)) (fun si => n - (intOf si).toNat)
 case atStart => exact ⟨k, hk, rfl, HR0⟩
 case round =>
  clear HR0
  obtain ⟨j, hj, rfl, HR⟩ := hrel
  by_cases hlt : j < n
  ·have hjs : j < s.size := by omega
   have hjz : (j : Int) < (n : Int) := by omega
   obtain ⟨c, hc⟩ : ∃ c, s[j]'hjs = c := ⟨_, rfl⟩
   have hdr := drop_cons (l := s.data.toList) (k := j) (by rw [HLEN.out]; exact hlt)
   rw [getd s j hjs, hc] at hdr
   have HD := hid hdr
   clear hdr
   by_cases h32 : isC 32 c = true
   ·have m := (isC_beq 32 c 32 rfl).trans h32
    have HX : Hid (j + 1 + blk (s.data.toList.drop (j + 1)) = R) := hid (by
     have := HR.out
     rw [HD.out, blk_cons, if_pos (isC_iff.1 h32)] at this
     omega)
    clear h32
    go_wp2
    go_round
    case rel => exact ⟨j + 1, by omega, by go_num, HX⟩
    case measure => simp [intOf]; omega
   ·have h32 := Bool.eq_false_iff.2 h32
    have m := (isC_beq 32 c 32 rfl).trans h32
    have HX : Hid (j = R) := hid (by
     have := HR.out
     rw [HD.out, blk_no (of_decide_eq_false h32)] at this
     omega)
    clear h32
    go_wp2
    go_ret
    exact ⟨ret_i (by rw [HX.out]), rfl⟩
  ·obtain rfl : j = n := by omega
   have HX : Hid (j = R) := hid (by
    have := HR.out
    rw [List.drop_of_length_le (by rw [HLEN.out]; exact Nat.le_refl _)] at this
    exact this)
   go_wp2
   go_ret
   exact ⟨ret_i (by rw [HX.out]), rfl⟩
theorem trm_snoc_sp (l : L8) : trm (l ++ [32]) = trm l := by
 unfold trm Lib.trimRightB
 rw [List.reverse_append]
 simp
theorem trm_snoc_no {l : L8} {c : UInt8} (h : c ≠ 32) : trm (l ++ [c]) = l ++ [c] := by
 unfold trm Lib.trimRightB
 rw [List.reverse_append]
 simp [h]
theorem Rtrimmed_any (s : ByteArray) (w : World) (hs : s.size ≤ 1000000) (q : ByteArray) (hq : trm s.data.toList = q.data.toList) :
  Calls Tryz.prog 122 #[.string s] w fun e w' => e = .returned (.string q) ∧ w = w' := by
 have HQ0 := hid hq
 obtain ⟨N, hN⟩ : ∃ N, s.size = N := ⟨_, rfl⟩
 have hsz : s.size ≤ N := by omega
 have hNb : N ≤ 1000000 := by omega
 clear hq hN hs
 go_enter Tryz.func122, Tryz.ntmps122
 go_wp2
 go_loopg [0] N (fun gg s0 wr => ∃ t : ByteArray, s0 = .string t ∧ t.size ≤ gg ∧ t.size ≤ N ∧ wr = w ∧ Hid (trm t.data.toList = q.data.toList))
 case atStart => exact ⟨s, rfl, hsz, hsz, rfl, HQ0⟩
 case round =>
  clear HQ0 hsz
  obtain ⟨t, rfl, hgg, htN, rfl, HT⟩ := hrel
  obtain ⟨m, hm⟩ : ∃ m, t.size = m := ⟨_, rfl⟩
  have HLEN : Hid (t.data.toList.length = m) := hid ((len_eq t).trans hm)
  by_cases h0 : m = 0
  ·have HX : Hid (t.data.toList = q.data.toList) := hid (by
    have := HT.out
    rw [List.length_eq_zero_iff.1 (HLEN.out.trans h0)] at this ⊢
    exact this)
   have hz : ¬ (0 : Int) < (m : Int) := by omega
   clear h0
   go_wp2
   go_ret
   exact ⟨ret_s9 HX.out, rfl⟩
  ·obtain ⟨k, rfl⟩ : ∃ k, m = k + 1 := ⟨m - 1, by omega⟩
   have hkm : k < t.size := by omega
   obtain ⟨c, hc⟩ : ∃ c, t[k]'hkm = c := ⟨_, rfl⟩
   have hlast : t.data.toList = t.data.toList.take k ++ [c] := by
    have h1 := List.take_append_drop k t.data.toList
    have h2 := drop_cons (l := t.data.toList) (k := k) (by rw [HLEN.out]; omega)
    rw [getd t k hkm, hc, show t.data.toList.drop (k + 1) = [] from List.drop_of_length_le (by rw [HLEN.out]; exact Nat.le_refl _)] at h2
    rw [h2] at h1
    exact h1.symm
   obtain ⟨t2, ht2⟩ : ∃ t2, t.extract 0 k = t2 := ⟨_, rfl⟩
   have ht2l : t2.data.toList = t.data.toList.take k := by rw [← ht2, Lib.extract_data]; rfl
   have hs2 : t2.size = k := by rw [← len_eq, ht2l, List.length_take, HLEN.out]; omega
   have HT2 := hid (And.intro ht2l hs2)
   have HLA := hid hlast
   have hpz : (0 : Int) < ((k + 1 : Nat) : Int) := by omega
   have kz : ((k + 1 : Nat) : Int) - 1 = (k : Int) := by omega
   have wk : IntKind.i64.wrap (k : Int) = (k : Int) := IntWalk.i64_in _ (by omega)
   have lk : (k : Int) < ((k + 1 : Nat) : Int) := by omega
   have lk2 : (k : Int) ≤ ((k + 1 : Nat) : Int) := by omega
   clear hlast ht2l hs2 h0
   by_cases h32 : isC 32 c = true
   ·have m32 := (isC_beq 32 c 32 rfl).trans h32
    have HX : Hid (trm t2.data.toList = q.data.toList) := hid (by
     rw [HT2.out.1, ← HT.out]
     conv => rhs; rw [HLA.out, isC_iff.1 h32]
     rw [trm_snoc_sp])
    clear h32
    go_wp2
    go_roundg k
    case measure => omega
    case rel => exact ⟨t2, rfl, by rw [HT2.out.2]; exact Nat.le_refl _, by rw [HT2.out.2]; omega, rfl, HX⟩
   ·have h32 := Bool.eq_false_iff.2 h32
    have m32 := (isC_beq 32 c 32 rfl).trans h32
    have HX : Hid (t.data.toList = q.data.toList) := hid (by
     rw [← HT.out]
     conv => rhs; rw [HLA.out]
     rw [trm_snoc_no (of_decide_eq_false h32)]
     exact HLA.out)
    clear h32
    go_wp2
    go_ret
    exact ⟨ret_s9 HX.out, rfl⟩
end
section
open Go.RowKit Go.Sort
open Nw N8 Q6 F9
theorem pln_cons (c : UInt8) (l : L8) : pln (c :: l) = if stops c l then 0 else pln l + 1 := rfl
theorem Rplain9_any (s : ByteArray) (k : Nat) (w : World) (n : Nat) (hn : s.size = n) (hs : n ≤ 1000000) (hk : k ≤ n) (R : Nat) (hR : k + pln (s.data.toList.drop k) = R) :
  Calls Tryz.prog 121 #[.string s, .int .i64 (k : Int)] w fun e w' => e = .returned (.int .i64 (R : Int)) ∧ w = w' := by
 have HR0 := hid hR
 have HLEN : Hid (s.data.toList.length = n) := hid ((len_eq s).trans hn)
 clear hR
 go_enter Tryz.func121, Tryz.ntmps121
 go_wp2
 go_loop [1] (fun si => ∃ j : Nat, j ≤ n ∧ si = .int .i64 (j : Int) ∧ Hid (j + pln (s.data.toList.drop j) = R)) (fun si => n - (intOf si).toNat)
 case atStart => exact ⟨k, hk, rfl, HR0⟩
 case round =>
  clear HR0
  obtain ⟨j, hj, rfl, HR⟩ := hrel
  by_cases hlt : j < n
  ·have hjs : j < s.size := by omega
   have hjz : (j : Int) < (n : Int) := by omega
   have wj : IntKind.i64.wrap ((j : Int) + 1) = (j : Int) + 1 := IntWalk.i64_in _ (by omega)
   obtain ⟨c, hc⟩ : ∃ c, s[j]'hjs = c := ⟨_, rfl⟩
   have hdr := drop_cons (l := s.data.toList) (k := j) (by rw [HLEN.out]; exact hlt)
   rw [getd s j hjs, hc] at hdr
   have HSTOP : Hid (stops c (s.data.toList.drop (j + 1)) = true → j = R) := hid (fun h => by
    have := HR.out
    rw [hdr, pln_cons, if_pos h] at this
    omega)
   have HGO : Hid (stops c (s.data.toList.drop (j + 1)) = false → j + 1 + pln (s.data.toList.drop (j + 1)) = R) := hid (fun h => by
    have := HR.out
    rw [hdr, pln_cons, h, if_neg Bool.false_ne_true] at this
    omega)
   clear hdr
   cases hm : has marks c with
   | true =>
    have HM := hid hm
    have HX : Hid (j = R) := hid (HSTOP.out (by unfold stops; rw [hm]; rfl))
    clear hm
    go_wp2_with (go_at_call 140; refine (Rmark_any c true _ HM.out).mono ?_; rintro e w' ⟨rfl, rfl⟩)
    go_ret
    exact ⟨ret_i (by rw [HX.out]), rfl⟩
   | false =>
   have HM := hid hm
   cases h58 : isC 58 c with
   | false =>
    have m58 := (isC_beq 58 c 58 rfl).trans h58
    have HX := hid (HGO.out (by unfold stops; rw [hm, h58]; rfl))
    clear hm h58
    go_wp2_with (go_at_call 140; refine (Rmark_any c false _ HM.out).mono ?_; rintro e w' ⟨rfl, rfl⟩)
    go_round
    case rel => exact ⟨j + 1, by omega, by go_num, HX⟩
    case measure => simp [intOf]; omega
   | true =>
   have m58 := (isC_beq 58 c 58 rfl).trans h58
   by_cases hl : j + 1 < n
   ·have hjs1 : j + 1 < s.size := by omega
    have pj : 0 ≤ (j : Int) + 1 := by omega
    have tj : ((j : Int) + 1).toNat = j + 1 := by omega
    have lj : (j : Int) + 1 < (n : Int) := by omega
    have ej : ((j : Int) + 1 == (n : Int)) = false := beq_eq_false_iff_ne.2 (by omega)
    obtain ⟨d, hd⟩ : ∃ d, s[j + 1]'hjs1 = d := ⟨_, rfl⟩
    have hdr := drop_cons (l := s.data.toList) (k := j + 1) (by rw [HLEN.out]; exact hl)
    rw [getd s (j + 1) hjs1, hd] at hdr
    have hst : stops c (s.data.toList.drop (j + 1)) = (isC 32 d || has marks d) := by
     unfold stops
     rw [hm, h58, hdr]
     show (false || (true && (decide (d :: _ = []) || isC 32 d || has marks d))) = _
     simp
    rw [hst] at HSTOP HGO
    clear hm h58 hdr hst
    cases h32 : isC 32 d with
    | true =>
     have m32 := (isC_beq 32 d 32 rfl).trans h32
     have HX : Hid (j = R) := hid (HSTOP.out (by rw [h32]; rfl))
     clear h32
     go_wp2_with (go_at_call 140; refine (Rmark_any c false _ HM.out).mono ?_; rintro e w' ⟨rfl, rfl⟩)
     go_ret
     exact ⟨ret_i (by rw [HX.out]), rfl⟩
    | false =>
     have m32 := (isC_beq 32 d 32 rfl).trans h32
     cases hmd : has marks d with
     | true =>
      have HMD := hid hmd
      have HX : Hid (j = R) := hid (HSTOP.out (by rw [hmd, Bool.or_true]))
      clear h32 hmd
      go_wp2_with fail
      refine (Rmark_any c false _ HM.out).mono ?_
      rintro e w' ⟨rfl, rfl⟩
      go_wp2_with fail
      refine (Rmark_any d true _ HMD.out).mono ?_
      rintro e w' ⟨rfl, rfl⟩
      go_wp2
      go_ret
      exact ⟨ret_i (by rw [HX.out]), rfl⟩
     | false =>
      have HMD := hid hmd
      have HX := hid (HGO.out (by rw [h32, hmd]; rfl))
      clear h32 hmd
      go_wp2_with fail
      refine (Rmark_any c false _ HM.out).mono ?_
      rintro e w' ⟨rfl, rfl⟩
      go_wp2_with fail
      refine (Rmark_any d false _ HMD.out).mono ?_
      rintro e w' ⟨rfl, rfl⟩
      go_wp2
      go_round
      case rel => exact ⟨j + 1, by omega, by go_num, HX⟩
      case measure => simp [intOf]; omega
   ·have ej : ((j : Int) + 1 == (n : Int)) = true := by rw [beq_iff_eq]; omega
    have HX : Hid (j = R) := hid (HSTOP.out (by
     unfold stops
     rw [h58, show s.data.toList.drop (j + 1) = [] from List.drop_of_length_le (by rw [HLEN.out]; omega)]
     simp))
    clear hm h58 hl
    go_wp2_with (go_at_call 140; refine (Rmark_any c false _ HM.out).mono ?_; rintro e w' ⟨rfl, rfl⟩)
    go_ret
    exact ⟨ret_i (by rw [HX.out]), rfl⟩
  ·obtain rfl : j = n := by omega
   have HX : Hid (j = R) := hid (by
    have := HR.out
    rw [List.drop_of_length_le (by rw [HLEN.out]; exact Nat.le_refl _)] at this
    exact this)
   go_wp2
   go_ret
   exact ⟨ret_i (by rw [HX.out]), rfl⟩
end
end Go.Proofs.YtecglpocmhkkiaaGreatDoor
namespace Go.Proofs.YtecglpocmhkkiaaGreatDoor
open Go.RowKit Go.Sort
open Nw N8 Q6 F9
namespace F9
theorem plain_first {t : L8} (h : plainB t = true) : t ≠ [] ∧ has firsts (t.getD 0 0) = false := by
 unfold plainB at h
 by_cases hb : bad3 t = true
 ·rw [if_pos hb] at h; cases h
 ·rw [if_neg hb] at h
  have hne : t ≠ [] := by
   rintro rfl
   exact hb (by decide)
  refine ⟨hne, ?_⟩
  have h1 := every_iff.1 h 0 (List.length_pos_iff.2 hne)
  unfold okI at h1
  rw [show bef t 0 = 10 by simp [bef]] at h1
  unfold plainF at h1
  rw [Bool.eq_false_iff]; intro e
  rw [e] at h1
  revert h1; simp [isC]
theorem row_plain {t : L8} (h : rowB t = true) : plainB t = true := by
 unfold rowB at h
 rw [Bool.and_eq_true] at h
 exact h.1
theorem headD_getD (l : L8) : l.headD 0 = l.getD 0 0 := by cases l <;> rfl
theorem plain_notQ {t : L8} (h : isQ (t.headD 0) = true) : plainB t = false ∧ rowB t = false := by
 have key : plainB t = false := by
  rw [Bool.eq_false_iff]; intro e
  have h1 := (plain_first e).2
  rw [← headD_getD] at h1
  have h2 : (t.headD 0) ∉ firsts := of_decide_eq_false h1
  unfold isQ at h
  rw [Bool.or_eq_true] at h
  rcases h with h | h
  ·exact h2 (by rw [of_decide_eq_true h]; decide)
  ·exact h2 (by rw [of_decide_eq_true h]; decide)
 exact ⟨key, Bool.eq_false_iff.2 fun e => by rw [row_plain e] at key; cases key⟩
theorem scl_row {l : L8} (h : isQ (l.headD 0) = false) : sclS true l = sclP l := by
 unfold sclS sclP
 rw [h, Bool.false_and, if_neg (show ¬ false = true from Bool.false_ne_true)]
 rfl
def scK (P : Option Nd) : Int := (P.getD nul).kind
def scT (P : Option Nd) : ByteArray := ba (P.getD nul).text
theorem scan_zero {l : L8} (h : l ≠ []) : (isQ (l.headD 0) = true → scanV l 0 = outV (scnP l) ∧ scanN l 0 = outN (scnP l) ∧ scanE l 0 = outE (scnP l)) ∧ (isQ (l.headD 0) = false → scanE l 0 = 2) := by
 have hp : 0 < l.length := List.length_pos_iff.2 h
 have e : isQuote l 0 = isQ (l.headD 0) := by
  unfold isQuote isQ
  rw [headD_getD, decide_eq_true (show (0 : Int) ≤ 0 by omega), decide_eq_true (show (0 : Int) < (l.length : Int) by omega)]
  rfl
 refine ⟨fun hq => ?_, fun hq => ?_⟩
 ·exact scan_is (e.trans hq)
 ·exact (scan_no (e.trans hq)).2.2
end F9
def p4 (w : World) (g : Nat) (a b c d : Value) : World := (((w.setCell ⟨g, 0, none⟩ a).setCell ⟨g, 1, none⟩ b).setCell ⟨g, 2, none⟩ c).setCell ⟨g, 3, none⟩ d
theorem below_p4 {B : Nat} {w w' : World} {g : Nat} (h : Below B w w') (hg : B ≤ g) (a b c d : Value) : Below B w (p4 w' g a b c d) :=
 (((h.setCell (p := ⟨g, 0, none⟩) hg a).setCell (p := ⟨g, 1, none⟩) hg b).setCell (p := ⟨g, 2, none⟩) hg c).setCell (p := ⟨g, 3, none⟩) hg d
theorem p4_oth {w : World} {g : Nat} (b : Nat) (hb : b ≠ g) (a' b' c' d' : Value) : (p4 w g a' b' c' d').heap[b]? = w.heap[b]? := by
 unfold p4
 rw [Below.heap_setCell _ _ _ _ (by show b ≠ g; omega), Below.heap_setCell _ _ _ _ (by show b ≠ g; omega), Below.heap_setCell _ _ _ _ (by show b ≠ g; omega), Below.heap_setCell _ _ _ _ (by show b ≠ g; omega)]
theorem p4_size (w : World) (g : Nat) (a b c d : Value) : (p4 w g a b c d).heap.size = w.heap.size := by unfold p4; simp
theorem nd_txt (S : Nat → Prop) (w : World) (q : ByteArray) : NdC S w (txt q.data.toList) (.int .i64 1) (.string q) (.slice none 0 0) (.slice none 0 0) := by
 unfold txt
 rw [NdC]
 refine ⟨rfl, by rw [ba_of], ⟨none, 0, rfl, Nat.zero_le _, Nat.zero_le _, .inl ⟨rfl, fun _ => rfl⟩⟩, none, 0, rfl, Nat.zero_le _, Nat.zero_le _, fun _ => rfl, ?_⟩
 rw [NdK]; trivial
theorem nd_scl {row : Bool} {l : L8} (S : Nat → Prop) (w : World) : NdC S w ((sclS row l).getD nul) (.int .i64 (scK (sclS row l))) (.string (scT (sclS row l))) (.slice none 0 0) (.slice none 0 0) := by
 have key : ∀ P : Option Nd, (P = none ∨ P = some nul ∨ ∃ t, P = some (txt t)) → NdC S w (P.getD nul) (.int .i64 (scK P)) (.string (scT P)) (.slice none 0 0) (.slice none 0 0) := by
  rintro P (rfl | rfl | ⟨t, rfl⟩)
  ·exact nd_nul S w
  ·exact nd_nul S w
  ·have := nd_txt S w (ba t)
   rw [ba_data] at this
   exact this
 refine key _ ?_
 unfold sclS
 split
 ·exact .inr (.inl rfl)
 ·split
  ·cases scnP l with
   | none => exact .inl rfl
   | some p => exact .inr (.inr ⟨_, rfl⟩)
  ·by_cases hb : (if row then rowB l else plainB l) = true
   ·rw [if_pos hb]; exact .inr (.inr ⟨_, rfl⟩)
   ·rw [if_neg hb]; exact .inl rfl
theorem RScalar_any (s : ByteArray) (row : Bool) (w : World) (hs : s.size ≤ 100000) (P : Option Nd) (hP : sclS row s.data.toList = P) :
  Calls Tryz.prog 69 #[.string s, .bool row] w fun e w' => e = .returned (.tuple #[.agg #[.int .i64 (scK P), .string (scT P), .slice none 0 0, .slice none 0 0], .bool P.isSome]) ∧ Below w.heap.size w w' := by
 by_cases h0 : s.data.toList = []
 ·obtain rfl := bytes_of (l := #[]) h0
  have HE : Hid (P = some nul) := hid (by rw [← hP]; rfl)
  clear hP h0
  go_enter Tryz.func69, Tryz.ntmps69
  go_wp2
  refine bodyPost_ret (v := .tuple #[.agg #[.int .i64 0, .string ⟨#[]⟩, .slice none 0 0, .slice none 0 0], .bool true]) (by simp [results, Tryz.results69, go_sem]) rfl ⟨by rw [HE.out]; rfl, (Below.refl _ _).alloc (Nat.le_refl _) _⟩
 by_cases h1 : s.data.toList = [126]
 ·obtain rfl := bytes_of (l := #[126]) h1
  have HE : Hid (P = some nul) := hid (by rw [← hP]; rfl)
  clear hP h0 h1
  go_enter Tryz.func69, Tryz.ntmps69
  go_wp2
  refine bodyPost_ret (v := .tuple #[.agg #[.int .i64 0, .string ⟨#[]⟩, .slice none 0 0, .slice none 0 0], .bool true]) (by simp [results, Tryz.results69, go_sem]) rfl ⟨by rw [HE.out]; rfl, (Below.refl _ _).alloc (Nat.le_refl _) _⟩
 by_cases h2 : s.data.toList = [110, 117, 108, 108]
 ·obtain rfl := bytes_of (l := #[110, 117, 108, 108]) h2
  have HE : Hid (P = some nul) := hid (by rw [← hP]; rfl)
  clear hP h0 h1 h2
  go_enter Tryz.func69, Tryz.ntmps69
  go_wp2
  refine bodyPost_ret (v := .tuple #[.agg #[.int .i64 0, .string ⟨#[]⟩, .slice none 0 0, .slice none 0 0], .bool true]) (by simp [results, Tryz.results69, go_sem]) rfl ⟨by rw [HE.out]; rfl, (Below.refl _ _).alloc (Nat.le_refl _) _⟩
 have b0 : s.toList.isEmpty = false := by rw [ByteArray.toList_eq, List.isEmpty_eq_false_iff]; exact h0
 have b0' : ¬ s.toList = [] := by rw [ByteArray.toList_eq]; exact h0
 have b1 : (s.toList == [126]) = false := by rw [ByteArray.toList_eq]; exact beq_eq_false_iff_ne.2 h1
 have b2 : (s.toList == [110, 117, 108, 108]) = false := by rw [ByteArray.toList_eq]; exact beq_eq_false_iff_ne.2 h2
 have h3 : bad3 s.data.toList = false := by unfold bad3; rw [decide_eq_false h0, decide_eq_false h1, decide_eq_false h2]; rfl
 obtain ⟨z1, z2⟩ := scan_zero h0
 obtain ⟨n, hn⟩ : ∃ n, s.size = n := ⟨_, rfl⟩
 have hlen : s.data.toList.length = n := (len_eq s).trans hn
 have HROW := hid (fun b (h : rowB s.data.toList = b) W => RRow_q s b W (by omega) h)
 have HPLA := hid (fun b (h : plainB s.data.toList = b) W => RPlain_q s b W (by omega) h)
 have hsc := fun W q x y => RScan_any s 0 W hs (by omega) (by omega) q x y
 have hW0 : Below w.heap.size w (w.alloc (.cells #[.int .i64 0, .string ⟨#[]⟩, .slice none 0 0, .slice none 0 0] 26)) := (Below.refl _ _).alloc (Nat.le_refl _) _
 have HR0 := hid (Row4.make w 26 (.int .i64 0) (.string ⟨#[]⟩) (.slice none 0 0) (.slice none 0 0))
 have HW0 := hid hW0
 clear hW0
 unfold sclS at hP
 rw [h3, if_neg Bool.false_ne_true] at hP
 cases hq : isQ (s.data.toList.headD 0) with
 | true =>
  obtain ⟨v1, v2, v3⟩ := z1 hq
  obtain ⟨p1, p2⟩ := plain_notQ hq
  rw [hq, p1, p2, Bool.true_and, ite_self] at hP
  cases hc : scnP s.data.toList with
  | none =>
   rw [hc] at hP v1 v2 v3
   have HE : Hid (P = none) := hid (by rw [← hP]; rfl)
   have HSC := hid (hsc (w.alloc (.cells #[.int .i64 0, .string ⟨#[]⟩, .slice none 0 0, .slice none 0 0] 26)) ⟨#[]⟩ 0 3 (by rw [v1]; rfl) (by rw [v2]; rfl) (by rw [v3]; rfl))
   cases row with
   | true =>
    have HB := hid (HROW.out false p2)
    clear hP z1 z2 hsc h0 h1 h2 h3 hlen hq hc v1 v2 v3 p1 p2 HROW HPLA
    go_enter Tryz.func69, Tryz.ntmps69
    go_wp2_with fail
    refine HSC.out.mono ?_
    rintro e w2 ⟨rfl, hb⟩
    have HW := hid (HW0.out.trans (hb.mono HW0.out.size))
    have HR := hid (HR0.out.below hb HR0.out.lt)
    clear hb HR0 HSC
    obtain ⟨r0, r1, r2, r3⟩ := HR.out.cells
    obtain ⟨fr0, fr1, fr2, fr3⟩ := HR.out.frozen
    go_wp2_with fail
    refine (HB.out _).mono ?_
    rintro e w3 ⟨rfl, rfl⟩
    go_wp2
    refine bodyPost_ret (v := .tuple #[.agg #[.int .i64 0, .string ⟨#[]⟩, .slice none 0 0, .slice none 0 0], .bool false]) (by simp [results, Tryz.results69, go_sem, r0, r1, r2, r3]) rfl ⟨by rw [HE.out]; rfl, below_p4 HW.out (Nat.le_refl _) _ _ _ _⟩
   | false =>
    have HB := hid (HPLA.out false p1)
    clear hP z1 z2 hsc h0 h1 h2 h3 hlen hq hc v1 v2 v3 p1 p2 HROW HPLA
    go_enter Tryz.func69, Tryz.ntmps69
    go_wp2_with fail
    refine HSC.out.mono ?_
    rintro e w2 ⟨rfl, hb⟩
    have HW := hid (HW0.out.trans (hb.mono HW0.out.size))
    have HR := hid (HR0.out.below hb HR0.out.lt)
    clear hb HR0 HSC
    obtain ⟨r0, r1, r2, r3⟩ := HR.out.cells
    obtain ⟨fr0, fr1, fr2, fr3⟩ := HR.out.frozen
    go_wp2_with fail
    refine (HB.out _).mono ?_
    rintro e w3 ⟨rfl, rfl⟩
    go_wp2
    refine bodyPost_ret (v := .tuple #[.agg #[.int .i64 0, .string ⟨#[]⟩, .slice none 0 0, .slice none 0 0], .bool false]) (by simp [results, Tryz.results69, go_sem, r0, r1, r2, r3]) rfl ⟨by rw [HE.out]; rfl, below_p4 HW.out (Nat.le_refl _) _ _ _ _⟩
  | some p =>
   obtain ⟨t, m⟩ := p
   rw [hc] at hP v1 v2 v3
   obtain ⟨q, hqq⟩ : ∃ q, ba t = q := ⟨_, rfl⟩
   have hql : q.data.toList = t := by rw [← hqq, ba_data]
   have HSC := hid (hsc (w.alloc (.cells #[.int .i64 0, .string ⟨#[]⟩, .slice none 0 0, .slice none 0 0] 26)) q (m : Int) 0 (by rw [v1, hql]; rfl) (by rw [v2]; rfl) (by rw [v3]; rfl))
   by_cases hm : m = n
   ·have HE : Hid (P = some (txt q.data.toList)) := hid (by rw [← hP, if_pos (by rw [hlen, hm]; exact decide_eq_true rfl), hql]; rfl)
    have HT : Hid (scT P = q) := hid (by rw [HE.out]; exact ba_of q)
    subst hm
    clear hP z1 z2 hsc h0 h1 h2 h3 hlen hq hc v1 v2 v3 p1 p2 HROW HPLA hqq hql
    go_enter Tryz.func69, Tryz.ntmps69
    go_wp2_with fail
    refine HSC.out.mono ?_
    rintro e w2 ⟨rfl, hb⟩
    have HW := hid (HW0.out.trans (hb.mono HW0.out.size))
    have HR := hid (HR0.out.below hb HR0.out.lt)
    clear hb HR0 HSC
    obtain ⟨r0, r1, r2, r3⟩ := HR.out.cells
    obtain ⟨fr0, fr1, fr2, fr3⟩ := HR.out.frozen
    go_wp2
    refine bodyPost_ret (v := .tuple #[.agg #[.int .i64 1, .string q, .slice none 0 0, .slice none 0 0], .bool true]) (by simp [results, Tryz.results69, go_sem, r0, r1, r2, r3]) rfl ⟨by rw [HT.out, HE.out]; rfl, below_p4 HW.out (Nat.le_refl _) _ _ _ _⟩
   ·have HE : Hid (P = none) := hid (by rw [← hP, if_neg (by rw [hlen]; intro e; exact hm (by have e := of_decide_eq_true e; injection e))]; rfl)
    have hmz : ((m : Int) == (n : Int)) = false := beq_eq_false_iff_ne.2 (by omega)
    cases row with
    | true =>
     have HB := hid (HROW.out false p2)
     clear hP z1 z2 hsc h0 h1 h2 h3 hlen hq hc v1 v2 v3 p1 p2 HROW HPLA hqq hql hm
     go_enter Tryz.func69, Tryz.ntmps69
     go_wp2_with fail
     refine HSC.out.mono ?_
     rintro e w2 ⟨rfl, hb⟩
     have HW := hid (HW0.out.trans (hb.mono HW0.out.size))
     have HR := hid (HR0.out.below hb HR0.out.lt)
     clear hb HR0 HSC
     obtain ⟨r0, r1, r2, r3⟩ := HR.out.cells
     obtain ⟨fr0, fr1, fr2, fr3⟩ := HR.out.frozen
     go_wp2_with fail
     refine (HB.out _).mono ?_
     rintro e w3 ⟨rfl, rfl⟩
     go_wp2
     refine bodyPost_ret (v := .tuple #[.agg #[.int .i64 0, .string ⟨#[]⟩, .slice none 0 0, .slice none 0 0], .bool false]) (by simp [results, Tryz.results69, go_sem, r0, r1, r2, r3]) rfl ⟨by rw [HE.out]; rfl, below_p4 HW.out (Nat.le_refl _) _ _ _ _⟩
    | false =>
     have HB := hid (HPLA.out false p1)
     clear hP z1 z2 hsc h0 h1 h2 h3 hlen hq hc v1 v2 v3 p1 p2 HROW HPLA hqq hql hm
     go_enter Tryz.func69, Tryz.ntmps69
     go_wp2_with fail
     refine HSC.out.mono ?_
     rintro e w2 ⟨rfl, hb⟩
     have HW := hid (HW0.out.trans (hb.mono HW0.out.size))
     have HR := hid (HR0.out.below hb HR0.out.lt)
     clear hb HR0 HSC
     obtain ⟨r0, r1, r2, r3⟩ := HR.out.cells
     obtain ⟨fr0, fr1, fr2, fr3⟩ := HR.out.frozen
     go_wp2_with fail
     refine (HB.out _).mono ?_
     rintro e w3 ⟨rfl, rfl⟩
     go_wp2
     refine bodyPost_ret (v := .tuple #[.agg #[.int .i64 0, .string ⟨#[]⟩, .slice none 0 0, .slice none 0 0], .bool false]) (by simp [results, Tryz.results69, go_sem, r0, r1, r2, r3]) rfl ⟨by rw [HE.out]; rfl, below_p4 HW.out (Nat.le_refl _) _ _ _ _⟩
 | false =>
  have v3 := z2 hq
  rw [hq, Bool.false_and, if_neg Bool.false_ne_true] at hP
  obtain ⟨q, hqq⟩ : ∃ q, ba (scanV s.data.toList 0) = q := ⟨_, rfl⟩
  have HSC := hid (hsc (w.alloc (.cells #[.int .i64 0, .string ⟨#[]⟩, .slice none 0 0, .slice none 0 0] 26)) q (scanN s.data.toList 0) 2 (by rw [← hqq, ba_data]) (by rfl) (by exact v3))
  generalize scanN s.data.toList 0 = X at HSC
  cases row with
  | true =>
   cases hb9 : rowB s.data.toList with
   | true =>
    have HB := hid (HROW.out true hb9)
    have HE : Hid (P = some (txt s.data.toList)) := hid (by rw [← hP]; exact if_pos hb9)
    have HT : Hid (scT P = s) := hid (by rw [HE.out]; exact ba_of s)
    clear hP z1 z2 hsc h0 h1 h2 h3 hlen hq v3 HROW HPLA hqq hb9
    go_enter Tryz.func69, Tryz.ntmps69
    go_wp2_with fail
    refine HSC.out.mono ?_
    rintro e w2 ⟨rfl, hb⟩
    have HW := hid (HW0.out.trans (hb.mono HW0.out.size))
    have HR := hid (HR0.out.below hb HR0.out.lt)
    clear hb HR0 HSC
    obtain ⟨r0, r1, r2, r3⟩ := HR.out.cells
    obtain ⟨fr0, fr1, fr2, fr3⟩ := HR.out.frozen
    go_wp2_with fail
    refine (HB.out _).mono ?_
    rintro e w3 ⟨rfl, rfl⟩
    go_wp2
    refine bodyPost_ret (v := .tuple #[.agg #[.int .i64 1, .string s, .slice none 0 0, .slice none 0 0], .bool true]) (by simp [results, Tryz.results69, go_sem, r0, r1, r2, r3]) rfl ⟨by rw [HT.out, HE.out]; rfl, below_p4 HW.out (Nat.le_refl _) _ _ _ _⟩
   | false =>
    have HB := hid (HROW.out false hb9)
    have HE : Hid (P = none) := hid (by rw [← hP]; exact if_neg (by rw [if_pos rfl, hb9]; decide))
    clear hP z1 z2 hsc h0 h1 h2 h3 hlen hq v3 HROW HPLA hqq hb9
    go_enter Tryz.func69, Tryz.ntmps69
    go_wp2_with fail
    refine HSC.out.mono ?_
    rintro e w2 ⟨rfl, hb⟩
    have HW := hid (HW0.out.trans (hb.mono HW0.out.size))
    have HR := hid (HR0.out.below hb HR0.out.lt)
    clear hb HR0 HSC
    obtain ⟨r0, r1, r2, r3⟩ := HR.out.cells
    obtain ⟨fr0, fr1, fr2, fr3⟩ := HR.out.frozen
    go_wp2_with fail
    refine (HB.out _).mono ?_
    rintro e w3 ⟨rfl, rfl⟩
    go_wp2
    refine bodyPost_ret (v := .tuple #[.agg #[.int .i64 0, .string ⟨#[]⟩, .slice none 0 0, .slice none 0 0], .bool false]) (by simp [results, Tryz.results69, go_sem, r0, r1, r2, r3]) rfl ⟨by rw [HE.out]; rfl, below_p4 HW.out (Nat.le_refl _) _ _ _ _⟩
  | false =>
   cases hb9 : plainB s.data.toList with
   | true =>
    have HB := hid (HPLA.out true hb9)
    have HE : Hid (P = some (txt s.data.toList)) := hid (by rw [← hP]; exact if_pos hb9)
    have HT : Hid (scT P = s) := hid (by rw [HE.out]; exact ba_of s)
    clear hP z1 z2 hsc h0 h1 h2 h3 hlen hq v3 HROW HPLA hqq hb9
    go_enter Tryz.func69, Tryz.ntmps69
    go_wp2_with fail
    refine HSC.out.mono ?_
    rintro e w2 ⟨rfl, hb⟩
    have HW := hid (HW0.out.trans (hb.mono HW0.out.size))
    have HR := hid (HR0.out.below hb HR0.out.lt)
    clear hb HR0 HSC
    obtain ⟨r0, r1, r2, r3⟩ := HR.out.cells
    obtain ⟨fr0, fr1, fr2, fr3⟩ := HR.out.frozen
    go_wp2_with fail
    refine (HB.out _).mono ?_
    rintro e w3 ⟨rfl, rfl⟩
    go_wp2
    refine bodyPost_ret (v := .tuple #[.agg #[.int .i64 1, .string s, .slice none 0 0, .slice none 0 0], .bool true]) (by simp [results, Tryz.results69, go_sem, r0, r1, r2, r3]) rfl ⟨by rw [HT.out, HE.out]; rfl, below_p4 HW.out (Nat.le_refl _) _ _ _ _⟩
   | false =>
    have HB := hid (HPLA.out false hb9)
    have HE : Hid (P = none) := hid (by rw [← hP]; exact if_neg (by rw [if_neg Bool.false_ne_true, hb9]; decide))
    clear hP z1 z2 hsc h0 h1 h2 h3 hlen hq v3 HROW HPLA hqq hb9
    go_enter Tryz.func69, Tryz.ntmps69
    go_wp2_with fail
    refine HSC.out.mono ?_
    rintro e w2 ⟨rfl, hb⟩
    have HW := hid (HW0.out.trans (hb.mono HW0.out.size))
    have HR := hid (HR0.out.below hb HR0.out.lt)
    clear hb HR0 HSC
    obtain ⟨r0, r1, r2, r3⟩ := HR.out.cells
    obtain ⟨fr0, fr1, fr2, fr3⟩ := HR.out.frozen
    go_wp2_with fail
    refine (HB.out _).mono ?_
    rintro e w3 ⟨rfl, rfl⟩
    go_wp2
    refine bodyPost_ret (v := .tuple #[.agg #[.int .i64 0, .string ⟨#[]⟩, .slice none 0 0, .slice none 0 0], .bool false]) (by simp [results, Tryz.results69, go_sem, r0, r1, r2, r3]) rfl ⟨by rw [HE.out]; rfl, below_p4 HW.out (Nat.le_refl _) _ _ _ _⟩
end Go.Proofs.YtecglpocmhkkiaaGreatDoor
