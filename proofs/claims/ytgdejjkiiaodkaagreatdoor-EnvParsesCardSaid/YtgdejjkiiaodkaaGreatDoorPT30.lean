/- RefEnv7 -/
import Derived.Test.YtgdejjkiiaodkaaGreatDoorPT20
import Derived.Test.YtgdejjkiiaodkaaGreatDoorPT29
set_option linter.unusedVariables false
set_option linter.unusedSimpArgs false
set_option maxRecDepth 100000
set_option maxHeartbeats 16000000
open Go.Lib (hid)
namespace Go.Proofs.YtgdejjkiiaodkaaGreatDoor
section
open Go.RowKit Go.Sort
open Nw V12 Q6
theorem cutN_le : ∀ l : L8, V12.cutN l ≤ l.length
 | [] => Nat.le_refl _
 | c :: t => by
  unfold V12.cutN
  have := cutN_le t
  rw [List.length_cons]
  split <;> omega
theorem cutN_step {l : L8} {m : Nat} (h : m < l.length) : V12.cutN (l.drop m) = if l.getD m 0 = 32 ∧ l.getD (m + 1) 0 = 35 then 0 else V12.cutN (l.drop (m + 1)) + 1 := by
 rw [drop_cons h]
 show (if l.getD m 0 = 32 ∧ (l.drop (m + 1)).getD 0 0 = 35 then 0 else V12.cutN (l.drop (m + 1)) + 1) = _
 have e : (l.drop (m + 1)).getD 0 0 = l.getD (m + 1) 0 := by
  rw [List.getD_eq_getElem?_getD, List.getD_eq_getElem?_getD, List.getElem?_drop, Nat.add_zero]
 rw [e]
theorem cutN_one {l : L8} (h : l.length = 1) : V12.cutN (l.drop 0) = 1 := by
 rw [cutN_step (by omega)]
 have e : l.getD (0 + 1) 0 = 0 := by rw [List.getD_eq_getElem?_getD, List.getElem?_eq_none (by omega)]; rfl
 rw [e, if_neg (by rintro ⟨_, e⟩; revert e; decide), List.drop_of_length_le (by omega)]
 rfl
theorem good_step {l : L8} {k : Nat} (h : k < l.length) (hb : Q6.good (l.getD k 0) = false) : goodL l = false := by
 unfold goodL
 rw [Bool.eq_false_iff]
 intro e
 have := List.all_eq_true.1 e (l[k]'h) (List.getElem_mem h)
 rw [List.getD_eq_getElem?_getD, List.getElem?_eq_getElem h] at hb
 change Q6.good l[k] = false at hb
 rw [hb] at this; cases this
theorem good_all {l : L8} (h : ∀ k, k < l.length → Q6.good (l.getD k 0) = true) : goodL l = true := by
 unfold goodL
 refine List.all_eq_true.2 fun c hc => ?_
 obtain ⟨k, hk, rfl⟩ := List.getElem_of_mem hc
 have := h k hk
 rw [List.getD_eq_getElem?_getD, List.getElem?_eq_getElem hk] at this
 exact this
theorem val_bad {l u : L8} (hq : isQ l = false) (hu : trimS (l.take (V12.cutN l)) = u) (h : goodL u = false) : valQ l = ⟨#[]⟩ ∧ valB l = false := val_none (by
 unfold valV
 rw [if_neg (by rw [hq]; exact Bool.false_ne_true), hu, if_neg (by rw [h]; exact Bool.false_ne_true)])
theorem val_good {l : L8} {u : ByteArray} (hq : isQ l = false) (hu : trimS (l.take (V12.cutN l)) = u.data.toList) (h : goodL u.data.toList = true) : valQ l = u ∧ valB l = true := val_some (by
 unfold valV
 rw [if_neg (by rw [hq]; exact Bool.false_ne_true), hu, if_pos h])
theorem RValue_n (s : ByteArray) (w : World) (hs : s.size ≤ 100000) (h0 : 0 < s.size) (c : UInt8) (hc : s[0]'h0 = c) (hq : ¬ (c = 34 ∨ c = 39)) :
  Calls Tryz.prog 56 #[.string s] w fun e w' => e = .returned (.tuple #[.string (valQ s.data.toList), .bool (valB s.data.toList)]) ∧ Below w.heap.size w w' := by
 have HLEN := hid (len_eq s)
 have hcl : s.data.toList.getD 0 0 = c := by rw [← hc]; exact getd s 0 h0
 have HISQ : Hid (isQ s.data.toList = false) := hid (by unfold isQ; rw [hcl]; exact decide_eq_false hq)
 have n34 : ((c.toNat : Int) == 34) = false := bq c 34 false (decide_eq_false fun e => hq (.inl ((nat_of c 34).2 e)))
 have n39 : ((c.toNat : Int) == 39) = false := bq c 39 false (decide_eq_false fun e => hq (.inr ((nat_of c 39).2 e)))
 have h0z : (0 : Int) < (s.size : Int) := by omega
 clear hcl hq
 obtain ⟨VQ, hVQ⟩ : ∃ x, valQ s.data.toList = x := ⟨_, rfl⟩
 obtain ⟨VB, hVB⟩ : ∃ x, valB s.data.toList = x := ⟨_, rfl⟩
 have HVQ := hid hVQ
 have HVB := hid hVB
 rw [hVQ, hVB]
 clear hVQ hVB
 obtain ⟨E, hE⟩ : ∃ E, V12.cutN s.data.toList = E := ⟨_, rfl⟩
 have hEs : E ≤ s.size := by rw [← hE, ← HLEN.out]; exact cutN_le _
 have HE := hid hE
 obtain ⟨p, hp⟩ : ∃ p, s.extract 0 E = p := ⟨_, rfl⟩
 have hps : p.size ≤ 1000000 := by rw [← hp, ByteArray.size_extract]; omega
 obtain ⟨u, hu⟩ : ∃ u : ByteArray, trimS p.data.toList = u.data.toList := ⟨⟨(trimS p.data.toList).toArray⟩, toList_arr.symm⟩
 have HT := hid (fun w0 => RTrim_any p u w0 hps hu)
 have HU : Hid (trimS (s.data.toList.take (V12.cutN s.data.toList)) = u.data.toList) := hid (by rw [hE, ← upto12, hp]; exact hu)
 have hus : u.size ≤ 1000000 := by
  have h1 : u.data.toList.length ≤ p.data.toList.length := by
   rw [← hu]
   unfold trimS dropE dropB
   rw [List.length_reverse]
   refine Nat.le_trans (List.Sublist.length_le (List.dropWhile_sublist _)) ?_
   rw [List.length_reverse]
   exact List.Sublist.length_le (List.dropWhile_sublist _)
  rw [len_eq, len_eq] at h1; omega
 have HLENU := hid (len_eq u)
 clear hE hu
 have hEz : (E : Int) ≤ (s.size : Int) := by omega
 go_enter Tryz.func56, Tryz.ntmps56
 go_wp2
 go_loop [8, 9] (fun t8 t9 => ∃ (z : Int) (e : Nat), -1 ≤ z ∧ z + 2 ≤ s.size ∧ t9 = .int .i64 z ∧ t8 = .int .i64 (e : Int) ∧ Hid (e = (z + 1).toNat + V12.cutN (s.data.toList.drop (z + 1).toNat))) (fun _ t9 => (intOf t9 + 1).toNat)
 case atStart =>
  refine ⟨(s.size : Int) - 2, s.size, by omega, by omega, by go_num, rfl, hid ?_⟩
  have e : ((s.size : Int) - 2 + 1).toNat = s.size - 1 := by omega
  rw [e]
  have h1 := cutN_one (l := s.data.toList.drop (s.size - 1)) (by rw [List.length_drop, HLEN.out]; omega)
  rw [List.drop_zero] at h1
  rw [h1]; omega
 case round =>
  obtain ⟨z, e, hz1, hz2, rfl, rfl, HZ⟩ := hrel
  by_cases hz : z < 0
  ·have hz' : ¬ (0 : Int) ≤ z := by omega
   obtain rfl : e = E := by
    have := HZ.out
    rw [show (z + 1).toNat = 0 by omega, Nat.zero_add, List.drop_zero, HE.out] at this
    exact this
   clear hz hz1 hz2 hc n34 n39 h0z h0
   go_wp2_with (go_at_call 55; refine (HT.out _).mono ?_; rintro e2 w2 ⟨rfl, rfl⟩)
   go_loop [10] (fun t10 => ∃ k : Nat, k ≤ u.size ∧ t10 = .int .i64 (k : Int) ∧ Hid (∀ j, j < k → Q6.good (u.data.toList.getD j 0) = true)) (fun t10 => u.size - (intOf t10).toNat)
   case atStart => exact ⟨0, Nat.zero_le _, rfl, hid fun j h => absurd h (Nat.not_lt_zero _)⟩
   case round =>
    obtain ⟨k, hk, rfl, HK⟩ := hrel
    by_cases hlt : k < u.size
    ·have hltz : (k : Int) < (u.size : Int) := by omega
     obtain ⟨d, hd⟩ : ∃ d, u[k]'hlt = d := ⟨_, rfl⟩
     have hdl : u.data.toList.getD k 0 = d := by rw [← hd]; exact getd u k hlt
     have HDL := hid hdl
     obtain ⟨b, hb⟩ : ∃ b, Q6.good d = b := ⟨_, rfl⟩
     have HG := hid (fun w0 => Good_q d b w0 hb)
     have HB := hid hb
     clear hdl hb
     cases b with
     | true =>
      go_wp2_with (go_at_call 41; refine (HG.out _).mono ?_; rintro e2 w2 ⟨rfl, rfl⟩)
      go_round
      case rel =>
       refine ⟨k + 1, by omega, by go_num, hid fun j hj => ?_⟩
       rcases Nat.lt_succ_iff_lt_or_eq.1 hj with h | rfl
       ·exact HK.out j h
       ·rw [HDL.out]; exact HB.out
      case measure => simp [intOf]; omega
     | false =>
      have HNO := hid (val_bad HISQ.out HU.out (good_step (k := k) (by rw [HLENU.out]; exact hlt) (by rw [HDL.out]; exact HB.out)))
      go_wp2_with (go_at_call 41; refine (HG.out _).mono ?_; rintro e2 w2 ⟨rfl, rfl⟩)
      go_ret2
      exact ⟨ret_sb12 (HNO.out.1.symm.trans HVQ.out) (HNO.out.2.symm.trans HVB.out), Below.refl _ _⟩
    ·have HYES := hid (val_good HISQ.out HU.out (good_all fun j hj => HK.out j (by rw [HLENU.out] at hj; omega)))
     have hkz : ¬ (k : Int) < (u.size : Int) := by omega
     go_wp2
     go_ret2
     exact ⟨ret_sb12 (HYES.out.1.symm.trans HVQ.out) (HYES.out.2.symm.trans HVB.out), Below.refl _ _⟩
  ·obtain ⟨m, rfl⟩ : ∃ m : Nat, z = (m : Int) := ⟨z.toNat, by omega⟩
   have hge : (0 : Int) ≤ (m : Int) := by omega
   have hm : m < s.size := by omega
   have hm1 : m + 1 < s.size := by omega
   have hmz : (m : Int) < (s.size : Int) := by omega
   have hmz1 : (m : Int) + 1 < (s.size : Int) := by omega
   have e1 : (0 : Int) ≤ (m : Int) + 1 := by omega
   have e2 : ((m : Int) + 1).toNat = m + 1 := by omega
   have hS := cutN_step (l := s.data.toList) (m := m) (by rw [HLEN.out]; exact hm)
   obtain ⟨a, ha⟩ : ∃ a, s[m]'hm = a := ⟨_, rfl⟩
   obtain ⟨b, hb⟩ : ∃ b, s[m + 1]'hm1 = b := ⟨_, rfl⟩
   rw [getd s m hm, getd s (m + 1) hm1, ha, hb] at hS
   have HS := hid hS
   clear hS
   have HZ2 : Hid (e = m + 1 + V12.cutN (s.data.toList.drop (m + 1))) := hid (by have := HZ.out; rw [e2] at this; exact this)
   clear HZ
   by_cases ha32 : a = 32
   ·have a32 : ((a.toNat : Int) == 32) = true := bq a 32 true (by rw [ha32]; decide)
    by_cases hb35 : b = 35
    ·have b35 : ((b.toNat : Int) == 35) = true := bq b 35 true (by rw [hb35]; decide)
     have HN : Hid (m = (m : Int).toNat + V12.cutN (s.data.toList.drop (m : Int).toNat)) := hid (by rw [Int.toNat_natCast, HS.out, if_pos ⟨ha32, hb35⟩]; rfl)
     clear ha32 hb35 hc
     go_wp2
     go_round
     case rel => exact ⟨(m : Int) - 1, m, by omega, by omega, by go_num, rfl, by rw [Int.sub_add_cancel]; exact HN⟩
     case measure => simp [intOf]
    ·have b35 : ((b.toNat : Int) == 35) = false := bq b 35 false (decide_eq_false fun e => hb35 ((nat_of b 35).2 e))
     have HN : Hid (e = (m : Int).toNat + V12.cutN (s.data.toList.drop (m : Int).toNat)) := hid (by rw [Int.toNat_natCast, HS.out, if_neg (fun e => hb35 e.2), HZ2.out]; omega)
     clear ha32 hb35 hc
     go_wp2
     go_round
     case rel => exact ⟨(m : Int) - 1, e, by omega, by omega, by go_num, rfl, by rw [Int.sub_add_cancel]; exact HN⟩
     case measure => simp [intOf]
   ·have a32 : ((a.toNat : Int) == 32) = false := bq a 32 false (decide_eq_false fun e => ha32 ((nat_of a 32).2 e))
    have HN : Hid (e = (m : Int).toNat + V12.cutN (s.data.toList.drop (m : Int).toNat)) := hid (by rw [Int.toNat_natCast, HS.out, if_neg (fun e => ha32 e.1), HZ2.out]; omega)
    clear ha32 hc
    go_wp2
    go_round
    case rel => exact ⟨(m : Int) - 1, e, by omega, by omega, by go_num, rfl, by rw [Int.sub_add_cancel]; exact HN⟩
    case measure => simp [intOf]
theorem RValue_0 (w : World) :
  Calls Tryz.prog 56 #[.string ⟨#[]⟩] w fun e w' => e = .returned (.tuple #[.string ⟨#[]⟩, .bool true]) ∧ w' = w := by
 have HT := hid (fun w0 => RTrim_any ⟨#[]⟩ ⟨#[]⟩ w0 (by decide) rfl)
 go_enter Tryz.func56, Tryz.ntmps56
 go_wp2
 go_loop [8, 9] (fun t8 t9 => t8 = .int .i64 0 ∧ t9 = .int .i64 (-2)) (fun _ _ => 0)
 case atStart => exact ⟨rfl, rfl⟩
 case round =>
  obtain ⟨rfl, rfl⟩ := hrel
  go_wp2_with (go_at_call 55; refine (HT.out _).mono ?_; rintro e2 w2 ⟨rfl, rfl⟩)
  go_loop [10] (fun t10 => t10 = .int .i64 0) (fun _ => 0)
  case atStart => rfl
  case round =>
   subst hrel
   go_wp2
   go_ret2
   exact ⟨rfl, rfl⟩
theorem RValue_any (s : ByteArray) (w : World) (hs : s.size ≤ 100000) (q : ByteArray) (b : Bool) (hq : valQ s.data.toList = q) (hb : valB s.data.toList = b) :
  Calls Tryz.prog 56 #[.string s] w fun e w' => e = .returned (.tuple #[.string q, .bool b]) ∧ Below w.heap.size w w' := by
 subst hq; subst hb
 by_cases h0 : 0 < s.size
 ·by_cases hq : s[0]'h0 = 34 ∨ s[0]'h0 = 39
  ·exact RValue_q s w hs h0 _ rfl hq
  ·exact RValue_n s w hs h0 _ rfl hq
 ·obtain rfl : s = ⟨#[]⟩ := bytes_of (l := #[]) (List.length_eq_zero_iff.1 (by rw [len_eq]; omega))
  refine (RValue_0 w).mono ?_
  rintro e w' ⟨rfl, rfl⟩
  exact ⟨rfl, Below.refl _ _⟩
end
end Go.Proofs.YtgdejjkiiaodkaaGreatDoor
