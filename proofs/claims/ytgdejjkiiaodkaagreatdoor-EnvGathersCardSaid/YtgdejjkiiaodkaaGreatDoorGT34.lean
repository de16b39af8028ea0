/- EnvVal -/
import Derived.Test.YtgdejjkiiaodkaaGreatDoorGT21
import Derived.Test.YtgdejjkiiaodkaaGreatDoorGT22
import Derived.Test.YtgdejjkiiaodkaaGreatDoorGT23
import Derived.Test.YtgdejjkiiaodkaaGreatDoorGT31
import Derived.Test.YtgdejjkiiaodkaaGreatDoorGT32
import Derived.Test.YtgdejjkiiaodkaaGreatDoorGT33
set_option linter.unusedVariables false
set_option linter.unusedSimpArgs false
set_option maxRecDepth 100000
set_option maxHeartbeats 16000000
open Go.Lib (hid)
namespace Go.Proofs.YtgdejjkiiaodkaaGreatDoor
section
open Go.RowKit Go.Sort
open Nw V12 Q6
theorem hasP12 (s p : ByteArray) (b : Bool) (w : World) (h : Lib.hasPrefix s.data.toList p.data.toList = b) :
  Calls Tryz.prog 29 #[.string s, .string p] w fun e w' => e = .returned (.bool b) ∧ w = w' := by
 refine (Tryz.strings_HasPrefix s p w).mono ?_
 rintro e w' ⟨rfl, rfl⟩
 exact ⟨ret_b h, rfl⟩
theorem trimP12 (s p q : ByteArray) (w : World) (h : Lib.trimPrefix s.data.toList p.data.toList = q.data.toList) :
  Calls Tryz.prog 78 #[.string s, .string p] w fun e w' => e = .returned (.string q) ∧ w = w' := by
 refine (Tryz.strings_TrimPrefix s p w).mono ?_
 rintro e w' ⟨rfl, rfl⟩
 exact ⟨ret_s (bytes_ext h), rfl⟩
theorem trimL12 (s q : ByteArray) (w : World) (h : dropB s.data.toList = q.data.toList) :
  Calls Tryz.prog 77 #[.string s, .string ⟨#[32]⟩] w fun e w' => e = .returned (.string q) ∧ w = w' := by
 refine (Tryz.strings_TrimLeft_one s 32 (by decide) w).mono ?_
 rintro e w' ⟨rfl, rfl⟩
 exact ⟨ret_s (bytes_ext h), rfl⟩
theorem trimR12 (s q : ByteArray) (w : World) (hs : s.size ≤ 1000000) (h : dropE s.data.toList = q.data.toList) :
  Calls Tryz.prog 95 #[.string s, .string ⟨#[32]⟩] w fun e w' => e = .returned (.string q) ∧ w = w' := by
 refine (Tryz.strings_TrimRight_one s 32 (by decide) w (by omega)).mono ?_
 rintro e w' ⟨rfl, rfl⟩
 exact ⟨ret_s (bytes_ext h), rfl⟩
theorem trimB12 (s q : ByteArray) (w : World) (hs : s.size ≤ 1000000) (h : trimS s.data.toList = q.data.toList) :
  Calls Tryz.prog 28 #[.string s, .string ⟨#[32]⟩] w fun e w' => e = .returned (.string q) ∧ Below w.heap.size w w' := by
 refine (Tryz.strings_Trim_one s 32 (by decide) w (by omega)).mono ?_
 rintro e w' ⟨rfl, hw⟩
 refine ⟨ret_s (bytes_ext (by rw [← h, ← trimB_lib])), ?_⟩
 rcases hw with rfl | rfl
 ·exact Below.refl _ _
 ·exact below_drewN w 1
theorem cut12 (s p a b : ByteArray) (f : Bool) (w : World) (hw : SomeMax w) (hs : s.size ≤ 1000000) (h : Lib.cut s.data.toList p.data.toList = (a.data.toList, b.data.toList, f)) :
  Calls Tryz.prog 52 #[.string s, .string p] w fun e w' => e = .returned (.tuple #[.string a, .string b, .bool f]) ∧ Below w.heap.size w w' := by
 obtain ⟨m, hm⟩ := hw
 refine (Tryz.strings_Cut s p m w (by omega) hm).mono ?_
 rintro e w' ⟨rfl, n, rfl⟩
 refine ⟨?_, below_drewN w n⟩
 rw [h]
theorem sgl_good (l : L8) : sglB l = goodL l := by
 unfold sglB
 rw [Bool.eq_iff_iff, every_iff]
 unfold goodL
 rw [List.all_eq_true]
 constructor
 ·intro h c hc
  obtain ⟨i, hi, rfl⟩ := List.getElem_of_mem hc
  have := h i hi
  unfold okI goodF at this
  rw [List.getD_eq_getElem?_getD, List.getElem?_eq_getElem hi] at this
  exact this
 ·intro h i hi
  unfold okI goodF
  rw [List.getD_eq_getElem?_getD, List.getElem?_eq_getElem hi]
  exact h _ (List.getElem_mem hi)
theorem print12 (s : ByteArray) (b : Bool) (w : World) (hw : SomeMax w) (hs : s.size ≤ 100000) (h : goodL s.data.toList = b) :
  Calls Tryz.prog 96 #[.string s] w fun e w' => e = .returned (.bool b) ∧ Below w.heap.size w w' := by
 obtain ⟨q, hq⟩ : ∃ q : ByteArray, sglV s.data.toList = q.data.toList := ⟨⟨(sglV s.data.toList).toArray⟩, by simp⟩
 have HS := hid (fun w0 h0 => Single_any s w0 h0 (by omega) q b hq ((sgl_good _).trans h))
 have HW := hid hw
 clear hq h hw
 go_enter Tryz.func96, Tryz.ntmps96
 go_wp2_with (go_at_call 117; refine (HS.out _ HW.out).mono ?_; rintro e w' ⟨rfl, hb⟩)
 go_ret
 exact ⟨rfl, hb⟩
theorem atMost_any (s : ByteArray) (b : Bool) (w : World) (h : behP s.data.toList = b) :
  Calls Tryz.prog 80 #[.string s] w fun e w' => e = .returned (.bool b) ∧ w = w' := by
 obtain ⟨z, hz⟩ : ∃ z : ByteArray, dropB s.data.toList = z.data.toList := ⟨⟨(dropB s.data.toList).toArray⟩, toList_arr.symm⟩
 have HT := hid (fun w0 => trimL12 s z w0 hz)
 by_cases h0 : s.data.toList = []
 ·obtain rfl := bytes_of (l := #[]) h0
  have HB : Hid (true = b) := hid h
  clear h h0 hz
  go_enter Tryz.func80, Tryz.ntmps80
  go_wp2_with (go_at_call 77; refine (HT.out _).mono ?_; rintro e w' ⟨rfl, rfl⟩)
  go_ret
  exact ⟨ret_b HB.out, rfl⟩
 ·have b0 : s.toList.isEmpty = false := by rw [ByteArray.toList_eq, List.isEmpty_eq_false_iff]; exact h0
  have b0' : ¬ s.toList = [] := by rw [ByteArray.toList_eq]; exact h0
  unfold behP at h
  rw [decide_eq_false h0, Bool.false_or, hz] at h
  by_cases hzs : z.data.toList = s.data.toList
  ·rw [decide_eq_false (fun e => e hzs), Bool.false_and] at h
   have HB : Hid (false = b) := hid h
   have c1 : (z.toList == s.toList) = true := by rw [ByteArray.toList_eq, ByteArray.toList_eq]; exact beq_iff_eq.2 hzs
   have c2 : (z.toList != s.toList) = false := by unfold bne; rw [c1]; rfl
   clear h h0 hz hzs
   go_enter Tryz.func80, Tryz.ntmps80
   go_wp2_with (go_at_call 77; refine (HT.out _).mono ?_; rintro e w' ⟨rfl, rfl⟩)
   go_ret
   exact ⟨ret_b HB.out, rfl⟩
  ·rw [decide_eq_true hzs, Bool.true_and] at h
   have HP := hid (fun w0 => hasP12 z ⟨#[35]⟩ b w0 h)
   have c1 : (z.toList == s.toList) = false := by rw [ByteArray.toList_eq, ByteArray.toList_eq]; exact beq_eq_false_iff_ne.2 hzs
   have c2 : (z.toList != s.toList) = true := by unfold bne; rw [c1]; rfl
   clear h h0 hz hzs
   go_enter Tryz.func80, Tryz.ntmps80
   go_wp2_with first
    | (go_at_call 77; refine (HT.out _).mono ?_; rintro e w' ⟨rfl, rfl⟩)
    | (go_at_call 29; refine (HP.out _).mono ?_; rintro e w' ⟨rfl, rfl⟩)
   go_ret
   exact ⟨rfl, rfl⟩
def ValR (o : Option L8) (q : ByteArray) (b : Bool) : Prop := match o with | none => b = false | some v => q.data.toList = v ∧ b = true
def GivesVal (o : Option L8) (w : World) (e : Ending) (w' : World) : Prop := ∃ q b, e = .returned (.tuple #[.string q, .bool b]) ∧ ValR o q b ∧ Below w.heap.size w w'
theorem endOk_take (l : L8) (n : Nat) : (dropE (l.take n)).length ≤ l.length := by
 unfold dropE dropB
 rw [List.length_reverse]
 refine Nat.le_trans (List.Sublist.length_le (List.dropWhile_sublist _)) ?_
 rw [List.length_reverse, List.length_take]
 exact Nat.min_le_right _ _
theorem parseBare_any (s : ByteArray) (w : World) (hw : SomeMax w) (hs : s.size ≤ 100000) (hq : isQ s.data.toList = false) :
  Calls Tryz.prog 81 #[.string s] w (GivesVal (valW s.data.toList) w) := by
 obtain ⟨⟨l1, l2, f⟩, hc⟩ : ∃ p, Lib.cut s.data.toList [32, 35] = p := ⟨_, rfl⟩
 obtain ⟨a, ha⟩ : ∃ a : ByteArray, a.data.toList = l1 := ⟨⟨l1.toArray⟩, toList_arr⟩
 obtain ⟨r, hr⟩ : ∃ r : ByteArray, r.data.toList = l2 := ⟨⟨l2.toArray⟩, toList_arr⟩
 subst ha; subst hr
 have hal : a.data.toList = s.data.toList.take (V12.cutN s.data.toList) := by rw [← cut_hash, hc]
 obtain ⟨u, hu⟩ : ∃ u : ByteArray, dropE a.data.toList = u.data.toList := ⟨⟨(dropE a.data.toList).toArray⟩, toList_arr.symm⟩
 have has : a.size ≤ 1000000 := by rw [← len_eq, hal, List.length_take, len_eq]; omega
 have hus : u.size ≤ 100000 := by
  have := endOk_take s.data.toList (V12.cutN s.data.toList)
  rw [← hal, hu, len_eq, len_eq] at this; omega
 have HC := hid (cut12 s ⟨#[32, 35]⟩ a r f w hw (by omega) hc)
 have HT := hid (fun w0 => trimR12 a u w0 has hu)
 obtain ⟨g, hg⟩ : ∃ g, goodL u.data.toList = g := ⟨_, rfl⟩
 have HP := hid (fun w0 h0 => print12 u g w0 h0 hus hg)
 have HW := hid hw
 by_cases h32 : s.data.toList.getD 0 0 = 32
 ·have HB := hid (fun w0 => hasP12 s ⟨#[32]⟩ true w0 (by
   show Lib.hasPrefix s.data.toList [32] = true
   rw [pre_one, decide_eq_true]
   exact ⟨fun e => by rw [e] at h32; exact absurd h32 (by decide), h32⟩))
  have HV : Hid (valW s.data.toList = none) := hid (valW_blank h32)
  clear hc hal hu hg hw hq h32
  go_enter Tryz.func81, Tryz.ntmps81
  go_wp2_with first
   | (go_at_call 52; refine HC.out.mono ?_; rintro e w1 ⟨rfl, b1⟩)
   | (go_at_call 95; refine (HT.out _).mono ?_; rintro e w2 ⟨rfl, rfl⟩)
   | (go_at_call 29; refine (HB.out _).mono ?_; rintro e w2 ⟨rfl, rfl⟩)
  go_ret2
  exact ⟨_, _, rfl, by rw [HV.out]; exact rfl, b1⟩
 ·have HB := hid (fun w0 => hasP12 s ⟨#[32]⟩ false w0 (by
   show Lib.hasPrefix s.data.toList [32] = false
   rw [pre_one, decide_eq_false]
   exact fun e => h32 e.2))
  have HV : Hid (ValR (valW s.data.toList) u g) := hid (by
   rw [valW_bare hq h32, ← hal, hu, hg]
   cases g with
   | true => exact ⟨rfl, rfl⟩
   | false => exact rfl)
  clear hc hal hu hg hw hq h32
  go_enter Tryz.func81, Tryz.ntmps81
  go_wp2_with first
   | (go_at_call 52; refine HC.out.mono ?_; rintro e w1 ⟨rfl, b1⟩; have HB1 := hid b1; clear b1)
   | (go_at_call 95; refine (HT.out _).mono ?_; rintro e w2 ⟨rfl, rfl⟩)
   | (go_at_call 29; refine (HB.out _).mono ?_; rintro e w2 ⟨rfl, rfl⟩)
   | (go_at_call 96; refine (HP.out _ (HW.out.keep HB1.out)).mono ?_; rintro e w2 ⟨rfl, b2⟩; have HB2 := hid (HB1.out.trans (b2.mono HB1.out.size)); clear b2)
  go_ret2
  exact ⟨_, _, rfl, HV.out, HB2.out⟩
theorem parseValue_any (s : ByteArray) (w : World) (hw : SomeMax w) (hs : s.size ≤ 100000) (hend : endOk s.data.toList) :
  Calls Tryz.prog 54 #[.string s] w (GivesVal (valW s.data.toList) w) := by
 obtain ⟨q, hqv⟩ : ∃ q : ByteArray, scanV s.data.toList 0 = q.data.toList := ⟨⟨(scanV s.data.toList 0).toArray⟩, toList_arr.symm⟩
 obtain ⟨x, hx⟩ : ∃ x, scanN s.data.toList 0 = x := ⟨_, rfl⟩
 have HW := hid hw
 have HLEN := hid (len_eq s)
 rcases Bool.eq_false_or_eq_true (isQ s.data.toList) with hq | hq
 ·have HV := hid (valW_quoted hend hq)
  rcases scan_quoted hq with hE | hE
  ·have HC := hid (fun w0 => Scan_any s 0 w0 (by omega) (by omega) (by omega) q x 0 hqv hx hE)
   rcases scanE_cases s.data.toList 0 with hbad | ⟨v, n, -, -, hN, hn0, hnl⟩
   ·exact absurd hE hbad
   have hxn : x = (n : Int) := by rw [← hx]; exact hN
   subst hxn
   rw [HLEN.out] at hnl
   obtain ⟨y, hy⟩ : ∃ y, s.extract n s.size = y := ⟨_, rfl⟩
   obtain ⟨g, hg⟩ : ∃ g, behP y.data.toList = g := ⟨_, rfl⟩
   have HA := hid (fun w0 => atMost_any y g w0 hg)
   have HV2 : Hid (ValR (valW s.data.toList) q g) := hid (by
    rw [HV.out, if_pos hE, hx, Int.toNat_natCast, ← from12, hy, hg, hqv]
    cases g with
    | true => exact ⟨rfl, rfl⟩
    | false => exact rfl)
   have n0 : (0 : Int) ≤ (n : Int) := by omega
   have n1 : (n : Int) ≤ (s.size : Int) := by omega
   clear hqv hx hE hN hg hq hw hend HV
   go_enter Tryz.func54, Tryz.ntmps54
   go_wp2_with first
    | (go_at_call 79; refine (HC.out _).mono ?_; rintro e w1 ⟨rfl, b1⟩; have HB1 := hid b1; clear b1)
    | (go_at_call 80; refine (HA.out _).mono ?_; rintro e w2 ⟨rfl, rfl⟩)
   go_ret2
   exact ⟨_, _, rfl, HV2.out, HB1.out⟩
  ·have HC := hid (fun w0 => Scan_any s 0 w0 (by omega) (by omega) (by omega) q x 3 hqv hx hE)
   have HN : Hid (valW s.data.toList = none) := hid (by rw [HV.out, if_neg (by rw [hE]; decide)])
   clear hqv hx hE hq hw hend HV
   go_enter Tryz.func54, Tryz.ntmps54
   go_wp2_with (go_at_call 79; refine (HC.out _).mono ?_; rintro e w1 ⟨rfl, b1⟩; have HB1 := hid b1; clear b1)
   go_ret2
   exact ⟨_, _, rfl, by rw [HN.out]; exact rfl, HB1.out⟩
 ·have HC := hid (fun w0 => Scan_any s 0 w0 (by omega) (by omega) (by omega) q x 2 hqv hx (scan_bare hq))
  have HP := hid (fun w0 h0 => parseBare_any s w0 h0 hs hq)
  clear hqv hx hq hw hend
  go_enter Tryz.func54, Tryz.ntmps54
  go_wp2_with first
   | (go_at_call 79; refine (HC.out _).mono ?_; rintro e w1 ⟨rfl, b1⟩; have HB1 := hid b1; clear b1)
   | (go_at_call 81; refine (HP.out _ (HW.out.keep HB1.out)).mono ?_; rintro e w2 ⟨z, g, rfl, hv, b2⟩; have HV := hid hv; have HB2 := hid (HB1.out.trans (b2.mono HB1.out.size)); clear hv b2)
  go_ret2
  exact ⟨_, _, rfl, HV.out, HB2.out⟩
end
end Go.Proofs.YtgdejjkiiaodkaaGreatDoor
