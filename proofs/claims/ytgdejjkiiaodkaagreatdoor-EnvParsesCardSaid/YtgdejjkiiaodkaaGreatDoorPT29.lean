/- RefEnv6 -/
import Derived.Test.YtgdejjkiiaodkaaGreatDoorPT27
import Derived.Test.YtgdejjkiiaodkaaGreatDoorPT28
set_option linter.unusedVariables false
set_option linter.unusedSimpArgs false
set_option maxRecDepth 100000
set_option maxHeartbeats 16000000
open Go.Lib (hid)
namespace Go.Proofs.YtgdejjkiiaodkaaGreatDoor
section
open Go.RowKit Go.Sort
open Nw V12 Q6
theorem ret_sb12 {a q : ByteArray} {b c : Bool} (h : a = q) (h2 : b = c) : Ending.returned (.tuple #[.string a, .bool b]) = .returned (.tuple #[.string q, .bool c]) := by rw [h, h2]
theorem toList_arr {l : L8} : (⟨l.toArray⟩ : ByteArray).data.toList = l := by simp
def valQ (l : L8) : ByteArray := ba ((valV l).getD [])
def valB (l : L8) : Bool := (valV l).isSome
theorem val_none {l : L8} (h : valV l = none) : valQ l = ⟨#[]⟩ ∧ valB l = false := by unfold valQ valB; rw [h]; exact ⟨rfl, rfl⟩
theorem val_some {l : L8} {q : ByteArray} (h : valV l = some q.data.toList) : valQ l = q ∧ valB l = true := by unfold valQ valB; rw [h]; exact ⟨ba_of q, rfl⟩
theorem dropB_ne {l : L8} {d : UInt8} (h : 0 < l.length) (hd : l.getD 0 0 = d) (h2 : d ≠ 32) : dropB l = l ∧ l ≠ [] := ⟨dropB_no (by rw [hd]; exact h2), fun e => by rw [e] at h; cases h⟩
theorem RValue_q (s : ByteArray) (w : World) (hs : s.size ≤ 100000) (h0 : 0 < s.size) (c : UInt8) (hc : s[0]'h0 = c) (hq : c = 34 ∨ c = 39) :
  Calls Tryz.prog 56 #[.string s] w fun e w' => e = .returned (.tuple #[.string (valQ s.data.toList), .bool (valB s.data.toList)]) ∧ Below w.heap.size w w' := by
 have HLEN := hid (len_eq s)
 have hcl : s.data.toList.getD 0 0 = c := by rw [← hc]; exact getd s 0 h0
 have hisq : isQ s.data.toList = true := by unfold isQ; rw [hcl]; exact decide_eq_true hq
 have hcc : ((c.toNat : Int) == 34) = true ∨ (((c.toNat : Int) == 34) = false ∧ ((c.toNat : Int) == 39) = true) := by
  rcases hq with rfl | rfl
  ·exact .inl (by decide)
  ·exact .inr ⟨by decide, by decide⟩
 have h0z : (0 : Int) < (s.size : Int) := by omega
 have hV : valV s.data.toList = if scanE s.data.toList 0 = 0 then (if behindOk s.data.toList (scanN s.data.toList 0).toNat then some (scanV s.data.toList 0) else none) else none := by unfold valV; rw [if_pos hisq]
 have HV := hid hV
 clear hV hisq hcl hq
 obtain ⟨q, hqv⟩ : ∃ q : ByteArray, scanV s.data.toList 0 = q.data.toList := ⟨⟨(scanV s.data.toList 0).toArray⟩, toList_arr.symm⟩
 obtain ⟨VQ, hVQ⟩ : ∃ x, valQ s.data.toList = x := ⟨_, rfl⟩
 obtain ⟨VB, hVB⟩ : ∃ x, valB s.data.toList = x := ⟨_, rfl⟩
 have HVQ := hid hVQ
 have HVB := hid hVB
 rw [hVQ, hVB]
 clear hVQ hVB
 rcases scanE_cases s.data.toList 0 with hbad | ⟨v, n, hE, hvv, hN, hn0, hnl⟩
 ·obtain ⟨x, hx⟩ : ∃ x, scanN s.data.toList 0 = x := ⟨_, rfl⟩
  obtain ⟨y, hy⟩ : ∃ y, scanE s.data.toList 0 = y := ⟨_, rfl⟩
  have hy' : scanE s.data.toList ((0 : Nat) : Int) = y := hy
  rw [hy'] at hbad
  have HC := hid (fun w0 => RScan_any s 0 w0 hs (by omega) (by omega) q x y hqv hx hy)
  have HNO := hid (val_none (by rw [HV.out, hy, if_neg hbad]))
  have yne : (y != 0) = true := bne_iff_ne.2 hbad
  clear hqv hx hy hy' hbad HV
  rcases hcc with m34 | ⟨m34, m39⟩
  ·go_enter Tryz.func56, Tryz.ntmps56
   go_wp2_with (go_at_call 82; refine (HC.out _).mono ?_; rintro e w2 ⟨rfl, hb2⟩)
   go_ret2
   exact ⟨ret_sb12 (HNO.out.1.symm.trans HVQ.out) (HNO.out.2.symm.trans HVB.out), hb2⟩
  ·go_enter Tryz.func56, Tryz.ntmps56
   go_wp2_with (go_at_call 82; refine (HC.out _).mono ?_; rintro e w2 ⟨rfl, hb2⟩)
   go_ret2
   exact ⟨ret_sb12 (HNO.out.1.symm.trans HVQ.out) (HNO.out.2.symm.trans HVB.out), hb2⟩
 ·have hE' : scanE s.data.toList 0 = 0 := hE
  have hN' : scanN s.data.toList 0 = (n : Int) := hN
  have HC := hid (fun w0 => RScan_any s 0 w0 hs (by omega) (by omega) q (n : Int) 0 hqv hN' hE')
  have HV2 : Hid (valV s.data.toList = if behindOk s.data.toList n then some q.data.toList else none) := hid (by rw [HV.out, if_pos hE', hN', hqv, Int.toNat_natCast])
  rw [HLEN.out] at hnl
  clear hqv hE hE' hN hN' hvv HV
  rcases hcc with m34 | ⟨m34, m39⟩
  ·go_enter Tryz.func56, Tryz.ntmps56
   go_wp2_with (go_at_call 82; refine (HC.out _).mono ?_; rintro e w2 ⟨rfl, hb2⟩)
   have HB := hid hb2
   clear hb2 HC h0z h0 hc m34
   go_loop [7] (fun t7 => ∃ k : Nat, n ≤ k ∧ k ≤ s.size ∧ t7 = .int .i64 (k : Int) ∧ Hid (dropB (s.data.toList.drop n) = dropB (s.data.toList.drop k))) (fun t7 => s.size - (intOf t7).toNat)
   case atStart => exact ⟨n, Nat.le_refl _, hnl, rfl, hid rfl⟩
   case round =>
    obtain ⟨k, hnk, hks, rfl, HK⟩ := hrel
    by_cases hlt : k < s.size
    ·have hltz : (k : Int) < (s.size : Int) := by omega
     obtain ⟨d, hd⟩ : ∃ d, s[k]'hlt = d := ⟨_, rfl⟩
     have hdl : s.data.toList.getD k 0 = d := by rw [← hd]; exact getd s k hlt
     have hdd : (s.data.toList.drop k).getD 0 0 = d ∧ 0 < (s.data.toList.drop k).length := by
      rw [drop_cons (by rw [HLEN.out]; exact hlt)]; exact ⟨hdl, Nat.succ_pos _⟩
     by_cases hd32 : d = 32
     ·have m32 : ((d.toNat : Int) == 32) = true := bq d 32 true (by rw [hd32]; decide)
      have HK2 : Hid (dropB (s.data.toList.drop n) = dropB (s.data.toList.drop (k + 1))) := hid (by
       rw [HK.out, dropB_yes hdd.2 (by rw [hdd.1]; exact hd32), List.drop_drop])
      clear hdl hdd hd32
      go_wp2
      go_round
      case rel => exact ⟨k + 1, by omega, by omega, by go_num, HK2⟩
      case measure => simp [intOf]; omega
     ·have m32 : ((d.toNat : Int) == 32) = false := bq d 32 false (decide_eq_false fun e => hd32 ((nat_of d 32).2 e))
      have HR : Hid (dropB (s.data.toList.drop n) = s.data.toList.drop k ∧ s.data.toList.drop k ≠ [] ∧ (s.data.toList.drop k).getD 0 0 = d) := hid ⟨HK.out.trans (dropB_ne hdd.2 hdd.1 hd32).1, (dropB_ne hdd.2 hdd.1 hd32).2, hdd.1⟩
      have hne : ((k : Int) == (s.size : Int)) = false := beq_eq_false_iff_ne.2 (by omega)
      have HLD : Hid (∀ j, (s.data.toList.drop j).length = s.size - j) := hid fun j => by rw [List.length_drop, HLEN.out]
      clear hdl hdd hd32
      by_cases hnk2 : n < k
      ·have hnkz : decide ((n : Int) < (k : Int)) = true := decide_eq_true (by omega)
       by_cases hd35 : d = 35
       ·have m35 : ((d.toNat : Int) == 35) = true := bq d 35 true (by rw [hd35]; decide)
        have HYES : Hid (valQ s.data.toList = q ∧ valB s.data.toList = true) := hid (val_some (by
         rw [HV2.out, if_pos]
         unfold behindOk
         rw [HR.out.1]
         exact decide_eq_true (.inr ⟨by rw [HLD.out, HLD.out]; omega, by rw [HR.out.2.2]; exact hd35⟩)))
        clear hd35
        go_wp2
        go_ret2
        exact ⟨ret_sb12 (HYES.out.1.symm.trans HVQ.out) (HYES.out.2.symm.trans HVB.out), HB.out⟩
       ·have m35 : ((d.toNat : Int) == 35) = false := bq d 35 false (decide_eq_false fun e => hd35 ((nat_of d 35).2 e))
        have HNO := hid (val_none (l := s.data.toList) (by
         rw [HV2.out, if_neg]
         unfold behindOk
         rw [HR.out.1]
         intro e
         rcases of_decide_eq_true e with e | ⟨_, e⟩
         ·exact HR.out.2.1 e
         ·rw [HR.out.2.2] at e; exact hd35 e))
        clear hd35
        go_wp2
        go_ret2
        exact ⟨ret_sb12 (HNO.out.1.symm.trans HVQ.out) (HNO.out.2.symm.trans HVB.out), HB.out⟩
      ·have hnkz : decide ((n : Int) < (k : Int)) = false := decide_eq_false (by omega)
       have hnkz' : ¬ (n : Int) < (k : Int) := by omega
       have HNO := hid (val_none (l := s.data.toList) (by
        rw [HV2.out, if_neg]
        unfold behindOk
        rw [HR.out.1]
        intro e
        rcases of_decide_eq_true e with e | ⟨e, _⟩
        ·exact HR.out.2.1 e
        ·rw [HLD.out, HLD.out] at e; omega))
       go_wp2
       go_ret2
       exact ⟨ret_sb12 (HNO.out.1.symm.trans HVQ.out) (HNO.out.2.symm.trans HVB.out), HB.out⟩
    ·have hkz : ¬ (k : Int) < (s.size : Int) := by omega
     have heq : ((k : Int) == (s.size : Int)) = true := beq_iff_eq.2 (by omega)
     have HYES : Hid (valQ s.data.toList = q ∧ valB s.data.toList = true) := hid (val_some (by
      rw [HV2.out, if_pos]
      unfold behindOk
      rw [HK.out, List.drop_of_length_le (by rw [HLEN.out]; omega)]
      exact decide_eq_true (.inl rfl)))
     go_wp2
     go_ret2
     exact ⟨ret_sb12 (HYES.out.1.symm.trans HVQ.out) (HYES.out.2.symm.trans HVB.out), HB.out⟩
  ·go_enter Tryz.func56, Tryz.ntmps56
   go_wp2_with (go_at_call 82; refine (HC.out _).mono ?_; rintro e w2 ⟨rfl, hb2⟩)
   have HB := hid hb2
   clear hb2 HC h0z h0 hc m34 m39
   go_loop [7] (fun t7 => ∃ k : Nat, n ≤ k ∧ k ≤ s.size ∧ t7 = .int .i64 (k : Int) ∧ Hid (dropB (s.data.toList.drop n) = dropB (s.data.toList.drop k))) (fun t7 => s.size - (intOf t7).toNat)
   case atStart => exact ⟨n, Nat.le_refl _, hnl, rfl, hid rfl⟩
   case round =>
    obtain ⟨k, hnk, hks, rfl, HK⟩ := hrel
    by_cases hlt : k < s.size
    ·have hltz : (k : Int) < (s.size : Int) := by omega
     obtain ⟨d, hd⟩ : ∃ d, s[k]'hlt = d := ⟨_, rfl⟩
     have hdl : s.data.toList.getD k 0 = d := by rw [← hd]; exact getd s k hlt
     have hdd : (s.data.toList.drop k).getD 0 0 = d ∧ 0 < (s.data.toList.drop k).length := by
      rw [drop_cons (by rw [HLEN.out]; exact hlt)]; exact ⟨hdl, Nat.succ_pos _⟩
     by_cases hd32 : d = 32
     ·have m32 : ((d.toNat : Int) == 32) = true := bq d 32 true (by rw [hd32]; decide)
      have HK2 : Hid (dropB (s.data.toList.drop n) = dropB (s.data.toList.drop (k + 1))) := hid (by
       rw [HK.out, dropB_yes hdd.2 (by rw [hdd.1]; exact hd32), List.drop_drop])
      clear hdl hdd hd32
      go_wp2
      go_round
      case rel => exact ⟨k + 1, by omega, by omega, by go_num, HK2⟩
      case measure => simp [intOf]; omega
     ·have m32 : ((d.toNat : Int) == 32) = false := bq d 32 false (decide_eq_false fun e => hd32 ((nat_of d 32).2 e))
      have HR : Hid (dropB (s.data.toList.drop n) = s.data.toList.drop k ∧ s.data.toList.drop k ≠ [] ∧ (s.data.toList.drop k).getD 0 0 = d) := hid ⟨HK.out.trans (dropB_ne hdd.2 hdd.1 hd32).1, (dropB_ne hdd.2 hdd.1 hd32).2, hdd.1⟩
      have hne : ((k : Int) == (s.size : Int)) = false := beq_eq_false_iff_ne.2 (by omega)
      have HLD : Hid (∀ j, (s.data.toList.drop j).length = s.size - j) := hid fun j => by rw [List.length_drop, HLEN.out]
      clear hdl hdd hd32
      by_cases hnk2 : n < k
      ·have hnkz : decide ((n : Int) < (k : Int)) = true := decide_eq_true (by omega)
       by_cases hd35 : d = 35
       ·have m35 : ((d.toNat : Int) == 35) = true := bq d 35 true (by rw [hd35]; decide)
        have HYES : Hid (valQ s.data.toList = q ∧ valB s.data.toList = true) := hid (val_some (by
         rw [HV2.out, if_pos]
         unfold behindOk
         rw [HR.out.1]
         exact decide_eq_true (.inr ⟨by rw [HLD.out, HLD.out]; omega, by rw [HR.out.2.2]; exact hd35⟩)))
        clear hd35
        go_wp2
        go_ret2
        exact ⟨ret_sb12 (HYES.out.1.symm.trans HVQ.out) (HYES.out.2.symm.trans HVB.out), HB.out⟩
       ·have m35 : ((d.toNat : Int) == 35) = false := bq d 35 false (decide_eq_false fun e => hd35 ((nat_of d 35).2 e))
        have HNO := hid (val_none (l := s.data.toList) (by
         rw [HV2.out, if_neg]
         unfold behindOk
         rw [HR.out.1]
         intro e
         rcases of_decide_eq_true e with e | ⟨_, e⟩
         ·exact HR.out.2.1 e
         ·rw [HR.out.2.2] at e; exact hd35 e))
        clear hd35
        go_wp2
        go_ret2
        exact ⟨ret_sb12 (HNO.out.1.symm.trans HVQ.out) (HNO.out.2.symm.trans HVB.out), HB.out⟩
      ·have hnkz : decide ((n : Int) < (k : Int)) = false := decide_eq_false (by omega)
       have hnkz' : ¬ (n : Int) < (k : Int) := by omega
       have HNO := hid (val_none (l := s.data.toList) (by
        rw [HV2.out, if_neg]
        unfold behindOk
        rw [HR.out.1]
        intro e
        rcases of_decide_eq_true e with e | ⟨e, _⟩
        ·exact HR.out.2.1 e
        ·rw [HLD.out, HLD.out] at e; omega))
       go_wp2
       go_ret2
       exact ⟨ret_sb12 (HNO.out.1.symm.trans HVQ.out) (HNO.out.2.symm.trans HVB.out), HB.out⟩
    ·have hkz : ¬ (k : Int) < (s.size : Int) := by omega
     have heq : ((k : Int) == (s.size : Int)) = true := beq_iff_eq.2 (by omega)
     have HYES : Hid (valQ s.data.toList = q ∧ valB s.data.toList = true) := hid (val_some (by
      rw [HV2.out, if_pos]
      unfold behindOk
      rw [HK.out, List.drop_of_length_le (by rw [HLEN.out]; omega)]
      exact decide_eq_true (.inl rfl)))
     go_wp2
     go_ret2
     exact ⟨ret_sb12 (HYES.out.1.symm.trans HVQ.out) (HYES.out.2.symm.trans HVB.out), HB.out⟩
end
end Go.Proofs.YtgdejjkiiaodkaaGreatDoor
