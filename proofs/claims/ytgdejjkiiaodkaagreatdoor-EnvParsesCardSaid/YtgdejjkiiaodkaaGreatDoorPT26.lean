/- RefScan -/
import Derived.Test.YtgdejjkiiaodkaaGreatDoorPT24
import Derived.Test.YtgdejjkiiaodkaaGreatDoorPT25
set_option linter.unusedVariables false
set_option linter.unusedSimpArgs false
set_option maxRecDepth 100000
set_option maxHeartbeats 16000000
open Go.Lib (hid)
namespace Go.Proofs.YtgdejjkiiaodkaaGreatDoor
section
open Go.RowKit Go.Sort
open Q6
theorem out_none {R : Option (List UInt8 × Nat)} (h : outB R = false) : outV R = [] ∧ outN R = 0 ∧ outE R = 3 := by
 cases R with
 | none => exact ⟨rfl, rfl, rfl⟩
 | some p => cases h
theorem out_some {R : Option (List UInt8 × Nat)} (h : outB R = true) : outE R = 0 := by
 cases R with
 | none => cases h
 | some p => rfl
theorem Rdouble_q (s : ByteArray) (k : Nat) (kz : Int) (hk : (k : Int) = kz) (hs : s.size ≤ 100000) (hk0 : k ≤ s.size) (R : Option (List UInt8 × Nat)) (hR : atD s.data.toList [] k = R) (q : ByteArray) (x : Int) (y : Bool)
  (hq : outV R = q.data.toList) (hx : outN R = x) (hy : outB R = y) (w : World) :
  Calls Tryz.prog 97 #[.string s, .int .i64 kz] w fun e w' => e = .returned (.tuple #[.string q, .int .i64 x, .bool y]) ∧ Below w.heap.size w w' := by
 subst hk; subst hR; exact Rdouble_any s k w hs hk0 q x y hq hx hy
theorem Rsingle_q (s : ByteArray) (k : Nat) (kz : Int) (hk : (k : Int) = kz) (hs : s.size ≤ 100000) (hk0 : k ≤ s.size) (R : Option (List UInt8 × Nat)) (hR : atS s.data.toList [] k = R) (q : ByteArray) (x : Int) (y : Bool)
  (hq : outV R = q.data.toList) (hx : outN R = x) (hy : outB R = y) (w : World) :
  Calls Tryz.prog 98 #[.string s, .int .i64 kz] w fun e w' => e = .returned (.tuple #[.string q, .int .i64 x, .bool y]) ∧ Below w.heap.size w w' := by
 subst hk; subst hR; exact Rsingle_any s k w hs hk0 q x y hq hx hy
theorem RScan_any (s : ByteArray) (i : Int) (w : World) (hs : s.size ≤ 100000) (i1 : -9223372036854775808 ≤ i) (i2 : i ≤ 9223372036854775807) (q : ByteArray) (x y : Int)
  (hq : scanV s.data.toList i = q.data.toList) (hx : scanN s.data.toList i = x) (hy : scanE s.data.toList i = y) :
  Calls Tryz.prog 82 #[.string s, .int .i64 i] w fun e w' => e = .returned (.tuple #[.string q, .int .i64 x, .int .i64 y]) ∧ Below w.heap.size w w' := by
 have HOUT : Hid (scanV s.data.toList i = q.data.toList ∧ scanN s.data.toList i = x ∧ scanE s.data.toList i = y) := hid ⟨hq, hx, hy⟩
 clear hq hx hy
 have HLEN := hid (len_eq s)
 by_cases h0 : i < 0
 ·have HN := hid (scan_no (l := s.data.toList) (i := i) (by unfold isQuote; rw [decide_eq_false (by omega : ¬ 0 ≤ i)]; rfl))
  go_enter Tryz.func82, Tryz.ntmps82
  go_wp2
  go_ret3
  exact ⟨ret_sii (bytes_ext (by rw [← HOUT.out.1, HN.out.1])) (by rw [← HOUT.out.2.1, HN.out.2.1]) (by rw [← HOUT.out.2.2, HN.out.2.2]), Below.refl _ _⟩
 by_cases h1 : (s.size : Int) ≤ i
 ·have HN := hid (scan_no (l := s.data.toList) (i := i) (by unfold isQuote; rw [decide_eq_false (by rw [HLEN.out]; omega : ¬ i < (s.data.toList.length : Int)), Bool.and_false]; rfl))
  go_enter Tryz.func82, Tryz.ntmps82
  go_wp2
  go_ret3
  exact ⟨ret_sii (bytes_ext (by rw [← HOUT.out.1, HN.out.1])) (by rw [← HOUT.out.2.1, HN.out.2.1]) (by rw [← HOUT.out.2.2, HN.out.2.2]), Below.refl _ _⟩
 obtain ⟨k, rfl⟩ : ∃ k : Nat, i = (k : Int) := ⟨i.toNat, by omega⟩
 have hk : k < s.size := by omega
 have hkz : (k : Int) < (s.size : Int) := by omega
 have hkz' : ¬ (s.size : Int) ≤ (k : Int) := by omega
 obtain ⟨c, hc⟩ : ∃ c, s[k]'hk = c := ⟨_, rfl⟩
 have hg : s.data.toList.getD k 0 = c := (getd s k hk).trans hc
 have hQ : isQuote s.data.toList (k : Int) = (decide (c = 34) || decide (c = 39)) := by
  unfold isQuote
  rw [decide_eq_true (by omega : (0 : Int) ≤ (k : Int)), decide_eq_true (by rw [HLEN.out]; omega : (k : Int) < (s.data.toList.length : Int)), Int.toNat_natCast, hg]; rfl
 have hR : scanR s.data.toList k = if c = 34 then atD s.data.toList [] (k + 1) else atS s.data.toList [] (k + 1) := by unfold scanR; rw [hg]
 have HQ := hid hQ
 have HR := hid hR
 clear hg hQ hR h0 h1
 have kw : IntKind.i64.wrap ((k : Int) + 1) = (k : Int) + 1 := IntWalk.i64_in _ (by omega)
 by_cases h34 : c = 34
 ·have m34 : ((c.toNat : Int) == 34) = true := by rw [isC_beq 34 c 34 rfl, isC_iff.2 h34]
  have n34 : ((c.toNat : Int) != 34) = false := by rw [isC_bne 34 c 34 rfl, isC_iff.2 h34]; rfl
  have HI := hid (scan_is (l := s.data.toList) (i := (k : Int)) (by rw [HQ.out, decide_eq_true h34]; rfl))
  rw [Int.toNat_natCast, HR.out, if_pos h34] at HI
  obtain ⟨R, hRR⟩ : ∃ R, atD s.data.toList [] (k + 1) = R := ⟨_, rfl⟩
  rw [hRR] at HI
  have hV : outV R = q.data.toList := by rw [← HI.out.1]; exact HOUT.out.1
  have hN : outN R = x := by rw [← HI.out.2.1]; exact HOUT.out.2.1
  have hE : outE R = y := by rw [← HI.out.2.2]; exact HOUT.out.2.2
  rcases Bool.eq_false_or_eq_true (outB R) with hB | hB
  ·have HC := hid (Rdouble_q s (k + 1) ((k : Int) + 1) (by omega) hs (by omega) R hRR q x true hV hN hB)
   have HY : Hid (y = 0) := hid (hE.symm.trans (out_some hB))
   clear h34 hV hN hE hB hRR
   go_enter Tryz.func82, Tryz.ntmps82
   go_wp2_with (go_at_call 97; refine (HC.out _).mono ?_; rintro e w' ⟨rfl, hb⟩)
   go_ret3
   exact ⟨ret_sii rfl rfl HY.out.symm, hb⟩
  ·obtain ⟨o1, o2, o3⟩ := out_none hB
   have hq0 : q = ⟨#[]⟩ := bytes_ext (hV.symm.trans o1)
   have HY : Hid (x = 0 ∧ y = 3) := hid ⟨hN.symm.trans o2, hE.symm.trans o3⟩
   subst hq0
   have HC := hid (Rdouble_q s (k + 1) ((k : Int) + 1) (by omega) hs (by omega) R hRR ⟨#[]⟩ x false hV hN hB)
   clear h34 hV hN hE hB hRR o1 o2 o3
   go_enter Tryz.func82, Tryz.ntmps82
   go_wp2_with (go_at_call 97; refine (HC.out _).mono ?_; rintro e w' ⟨rfl, hb⟩)
   go_ret3
   exact ⟨ret_sii rfl HY.out.1.symm HY.out.2.symm, hb⟩
 ·have m34 : ((c.toNat : Int) == 34) = false := by rw [isC_beq 34 c 34 rfl]; exact Bool.eq_false_iff.2 (fun e => h34 (isC_iff.1 e))
  have n34 : ((c.toNat : Int) != 34) = true := by rw [isC_bne 34 c 34 rfl, Bool.eq_false_iff.2 (fun e => h34 (isC_iff.1 e))]; rfl
  by_cases h39 : c = 39
  ·have n39 : ((c.toNat : Int) != 39) = false := by rw [isC_bne 39 c 39 rfl, isC_iff.2 h39]; rfl
   have HI := hid (scan_is (l := s.data.toList) (i := (k : Int)) (by rw [HQ.out, decide_eq_true h39, Bool.or_true]))
   rw [Int.toNat_natCast, HR.out, if_neg h34] at HI
   obtain ⟨R, hRR⟩ : ∃ R, atS s.data.toList [] (k + 1) = R := ⟨_, rfl⟩
   rw [hRR] at HI
   have hV : outV R = q.data.toList := by rw [← HI.out.1]; exact HOUT.out.1
   have hN : outN R = x := by rw [← HI.out.2.1]; exact HOUT.out.2.1
   have hE : outE R = y := by rw [← HI.out.2.2]; exact HOUT.out.2.2
   rcases Bool.eq_false_or_eq_true (outB R) with hB | hB
   ·have HC := hid (Rsingle_q s (k + 1) ((k : Int) + 1) (by omega) hs (by omega) R hRR q x true hV hN hB)
    have HY : Hid (y = 0) := hid (hE.symm.trans (out_some hB))
    clear h34 h39 hV hN hE hB hRR
    go_enter Tryz.func82, Tryz.ntmps82
    go_wp2_with (go_at_call 98; refine (HC.out _).mono ?_; rintro e w' ⟨rfl, hb⟩)
    go_ret3
    exact ⟨ret_sii rfl rfl HY.out.symm, hb⟩
   ·obtain ⟨o1, o2, o3⟩ := out_none hB
    have hq0 : q = ⟨#[]⟩ := bytes_ext (hV.symm.trans o1)
    have HY : Hid (x = 0 ∧ y = 3) := hid ⟨hN.symm.trans o2, hE.symm.trans o3⟩
    subst hq0
    have HC := hid (Rsingle_q s (k + 1) ((k : Int) + 1) (by omega) hs (by omega) R hRR ⟨#[]⟩ x false hV hN hB)
    clear h34 h39 hV hN hE hB hRR o1 o2 o3
    go_enter Tryz.func82, Tryz.ntmps82
    go_wp2_with (go_at_call 98; refine (HC.out _).mono ?_; rintro e w' ⟨rfl, hb⟩)
    go_ret3
    exact ⟨ret_sii rfl HY.out.1.symm HY.out.2.symm, hb⟩
  ·have n39 : ((c.toNat : Int) != 39) = true := by rw [isC_bne 39 c 39 rfl, Bool.eq_false_iff.2 (fun e => h39 (isC_iff.1 e))]; rfl
   have HN := hid (scan_no (l := s.data.toList) (i := (k : Int)) (by rw [HQ.out, decide_eq_false h34, decide_eq_false h39]; rfl))
   clear h34 h39
   go_enter Tryz.func82, Tryz.ntmps82
   go_wp2
   go_ret3
   exact ⟨ret_sii (bytes_ext (by rw [← HOUT.out.1, HN.out.1])) (by rw [← HOUT.out.2.1, HN.out.2.1]) (by rw [← HOUT.out.2.2, HN.out.2.2]), Below.refl _ _⟩
end
end Go.Proofs.YtgdejjkiiaodkaaGreatDoor
