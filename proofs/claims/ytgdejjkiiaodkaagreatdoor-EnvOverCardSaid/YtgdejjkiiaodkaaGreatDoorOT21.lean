/- QuoScan2 -/
import Derived.Test.YtgdejjkiiaodkaaGreatDoorOT19
set_option linter.unusedVariables false
set_option linter.unusedSimpArgs false
set_option maxRecDepth 100000
set_option maxHeartbeats 16000000
open Go.Lib (hid)
namespace Go.Proofs.YtgdejjkiiaodkaaGreatDoor
section
open Go.RowKit Go.Sort
open Q6
theorem scan_no {l : List UInt8} {i : Int} (h : isQuote l i = false) : scanV l i = [] ∧ scanN l i = 0 ∧ scanE l i = 2 := by
 unfold scanV scanN scanE; rw [h]; exact ⟨rfl, rfl, rfl⟩
theorem scan_is {l : List UInt8} {i : Int} (h : isQuote l i = true) : scanV l i = outV (scanR l i.toNat) ∧ scanN l i = outN (scanR l i.toNat) ∧ scanE l i = outE (scanR l i.toNat) := by
 unfold scanV scanN scanE; rw [h]; exact ⟨rfl, rfl, rfl⟩
theorem Scan_any (s : ByteArray) (i : Int) (w : World) (hs : s.size ≤ 1000000) (i1 : -9223372036854775808 ≤ i) (i2 : i ≤ 9223372036854775807) (q : ByteArray) (x y : Int)
  (hq : scanV s.data.toList i = q.data.toList) (hx : scanN s.data.toList i = x) (hy : scanE s.data.toList i = y) :
  Calls Tryz.prog 79 #[.string s, .int .i64 i] w fun e w' => e = .returned (.tuple #[.string q, .int .i64 x, .int .i64 y]) ∧ Below w.heap.size w w' := by
 have HOUT : Hid (scanV s.data.toList i = q.data.toList ∧ scanN s.data.toList i = x ∧ scanE s.data.toList i = y) := hid ⟨hq, hx, hy⟩
 clear hq hx hy
 have HLEN := hid (len_eq s)
 by_cases h0 : i < 0
 ·have HN := hid (scan_no (l := s.data.toList) (i := i) (by unfold isQuote; rw [decide_eq_false (by omega : ¬ 0 ≤ i)]; rfl))
  go_enter Tryz.func79, Tryz.ntmps79
  go_wp2
  go_ret3
  exact ⟨ret_sii (bytes_ext (by rw [← HOUT.out.1, HN.out.1])) (by rw [← HOUT.out.2.1, HN.out.2.1]) (by rw [← HOUT.out.2.2, HN.out.2.2]), Below.refl _ _⟩
 by_cases h1 : (s.size : Int) ≤ i
 ·have HN := hid (scan_no (l := s.data.toList) (i := i) (by unfold isQuote; rw [decide_eq_false (by rw [HLEN.out]; omega : ¬ i < (s.data.toList.length : Int)), Bool.and_false]; rfl))
  go_enter Tryz.func79, Tryz.ntmps79
  go_wp2
  go_ret3
  exact ⟨ret_sii (bytes_ext (by rw [← HOUT.out.1, HN.out.1])) (by rw [← HOUT.out.2.1, HN.out.2.1]) (by rw [← HOUT.out.2.2, HN.out.2.2]), Below.refl _ _⟩
 obtain ⟨k, rfl⟩ : ∃ k : Nat, i = (k : Int) := ⟨i.toNat, by omega⟩
 have hk : k < s.size := by omega
 have hkz : (k : Int) < (s.size : Int) := by omega
 have hkz' : ¬ (s.size : Int) ≤ (k : Int) := by omega
 obtain ⟨c, hc⟩ : ∃ c, s[k]'hk = c := ⟨_, rfl⟩
 have hg : s.data.toList.getD k 0 = c := (getd s k hk).trans hc
 have hQ : isQuote s.data.toList (k : Int) = (decide (c = 34) || decide (c = 39)) := by
  unfold isQuote
  rw [decide_eq_true (by omega : (0 : Int) ≤ (k : Int)), decide_eq_true (by rw [HLEN.out]; omega : (k : Int) < (s.data.toList.length : Int)), Int.toNat_natCast, hg]; rfl
 have hR : scanR s.data.toList k = if c = 34 then atD s.data.toList [] (k + 1) else atS s.data.toList [] (k + 1) := by unfold scanR; rw [hg]
 have HQ := hid hQ
 have HR := hid hR
 clear hg hQ hR h0 h1
 have kw : IntKind.i64.wrap ((k : Int) + 1) = (k : Int) + 1 := IntWalk.i64_in _ (by omega)
 have ek : ((k + 1 : Nat) : Int) = (k : Int) + 1 := by omega
 by_cases h34 : c = 34
 ·have m34 : ((c.toNat : Int) == 34) = true := by rw [isC_beq 34 c 34 rfl, isC_iff.2 h34]
  have HI := hid (scan_is (l := s.data.toList) (i := (k : Int)) (by rw [HQ.out, decide_eq_true h34]; rfl))
  rw [Int.toNat_natCast, HR.out, if_pos h34] at HI
  have hC := fun w0 => scanDouble_any s (k + 1) w0 hs (by omega) q x y (by rw [← HI.out.1]; exact HOUT.out.1) (by rw [← HI.out.2.1]; exact HOUT.out.2.1) (by rw [← HI.out.2.2]; exact HOUT.out.2.2)
  rw [ek] at hC
  have HC := hid hC
  clear hC ek h34
  go_enter Tryz.func79, Tryz.ntmps79
  go_wp2_with (go_at_call 93; refine (HC.out _).mono ?_; rintro e w' ⟨rfl, hb⟩)
  go_ret3
  exact ⟨rfl, hb⟩
 ·have m34 : ((c.toNat : Int) == 34) = false := by rw [isC_beq 34 c 34 rfl]; exact Bool.eq_false_iff.2 (fun e => h34 (isC_iff.1 e))
  by_cases h39 : c = 39
  ·have m39 : ((c.toNat : Int) == 39) = true := by rw [isC_beq 39 c 39 rfl, isC_iff.2 h39]
   have HI := hid (scan_is (l := s.data.toList) (i := (k : Int)) (by rw [HQ.out, decide_eq_true h39, Bool.or_true]))
   rw [Int.toNat_natCast, HR.out, if_neg h34] at HI
   have hC := fun w0 => scanSingle_any s (k + 1) w0 hs (by omega) q x y (by rw [← HI.out.1]; exact HOUT.out.1) (by rw [← HI.out.2.1]; exact HOUT.out.2.1) (by rw [← HI.out.2.2]; exact HOUT.out.2.2)
   rw [ek] at hC
   have HC := hid hC
   clear hC ek h34 h39
   go_enter Tryz.func79, Tryz.ntmps79
   go_wp2_with (go_at_call 94; refine (HC.out _).mono ?_; rintro e w' ⟨rfl, hb⟩)
   go_ret3
   exact ⟨rfl, hb⟩
  ·have m39 : ((c.toNat : Int) == 39) = false := by rw [isC_beq 39 c 39 rfl]; exact Bool.eq_false_iff.2 (fun e => h39 (isC_iff.1 e))
   have HN := hid (scan_no (l := s.data.toList) (i := (k : Int)) (by rw [HQ.out, decide_eq_false h34, decide_eq_false h39]; rfl))
   clear ek h34 h39
   go_enter Tryz.func79, Tryz.ntmps79
   go_wp2
   go_ret3
   exact ⟨ret_sii (bytes_ext (by rw [← HOUT.out.1, HN.out.1])) (by rw [← HOUT.out.2.1, HN.out.2.1]) (by rw [← HOUT.out.2.2, HN.out.2.2]), Below.refl _ _⟩
end
end Go.Proofs.YtgdejjkiiaodkaaGreatDoor
