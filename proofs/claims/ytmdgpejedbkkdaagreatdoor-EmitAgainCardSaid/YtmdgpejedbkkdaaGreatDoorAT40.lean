/- BloEnt, BloRdD -/
import Derived.Deep.RegionHeld3
import Derived.Test.YtmdgpejedbkkdaaGreatDoorAT11
import Derived.Test.YtmdgpejedbkkdaaGreatDoorAT12
import Derived.Test.YtmdgpejedbkkdaaGreatDoorAT19
import Derived.Test.YtmdgpejedbkkdaaGreatDoorAT24
import Derived.Test.YtmdgpejedbkkdaaGreatDoorAT37
import Derived.Test.YtmdgpejedbkkdaaGreatDoorAT39
import Derived.Test.YtmdgpejedbkkdaaGreatDoorAT5
set_option linter.unusedVariables false
set_option linter.unusedSimpArgs false
set_option maxRecDepth 100000
set_option maxHeartbeats 16000000
open Go.Lib (hid)
namespace Go.Proofs.YtmdgpejedbkkdaaGreatDoor
section
open Go.RowKit Go.Sort
open Nw N8 Q6 F9 B10
theorem app_data (a b : ByteArray) : (a ++ b).data.toList = a.data.toList ++ b.data.toList := by simp [ByteArray.data_append]
theorem colonAt_any (s : ByteArray) (w : World) (hw : SomeMax w) (hs : s.size ≤ 1000000) (x : Int) (hx : colN s.data.toList = x) :
  Calls Tryz.prog 129 #[.string s] w fun e w' => e = .returned (.int .i64 x) ∧ w = w' := by
 obtain ⟨m, hm⟩ := hw
 obtain ⟨z, hz⟩ : ∃ z : ByteArray, s ++ ⟨#[32]⟩ = z := ⟨_, rfl⟩
 have hzd : z.data.toList = s.data.toList ++ [32] := by rw [← hz, app_data]
 have hzs : z.size = s.size + 1 := by rw [← len_eq, hzd, List.length_append, len_eq]; rfl
 have hc : Calls Tryz.prog 91 #[.string z, .string ⟨#[58, 32]⟩] w fun e w' => e = .returned (.int .i64 x) ∧ w' = w :=
  (Tryz.strings_Index z ⟨#[58, 32]⟩ m w (by omega) hm).mono fun e w' ⟨h1, h2⟩ => ⟨by rw [h1, hzd, ← hx]; exact congrArg (fun q => Ending.returned (.int .i64 q)) (col_index s.data.toList), h2⟩
 have HC := hid hc
 clear hm hx hc hzd hzs
 go_enter Tryz.func129, Tryz.ntmps129
 go_wp2_with fail
 refine HC.out.mono ?_
 rintro e w' ⟨rfl, rfl⟩
 go_wp2
 go_ret
 exact ⟨rfl, rfl⟩
theorem behindColon_any (s r : ByteArray) (k : Nat) (w : World) (hs : s.size ≤ 1000000) (hk : k < s.size) (hr : bhd s.data.toList k = r.data.toList) :
  Calls Tryz.prog 130 #[.string s, .int .i64 (k : Int)] w fun e w' => e = .returned (.string r) ∧ w = w' := by
 have hT : ∀ W, Calls Tryz.prog 67 #[.string (s.extract (k + 1) s.size), .string ⟨#[32]⟩] W fun e w' => e = .returned (.string r) ∧ w' = W := fun W => by
  refine (Tryz.strings_TrimLeft_one _ 32 (by decide) W).mono ?_
  rintro e w' ⟨rfl, rfl⟩
  refine ⟨?_, rfl⟩
  rw [trimL_blk, from_data, List.drop_drop, Ending.returned.injEq, Value.string.injEq]
  exact bytes_ext hr
 have HT := hid hT
 obtain ⟨j, hj⟩ : ∃ j : Nat, j = k + 1 := ⟨_, rfl⟩
 have wj : IntKind.i64.wrap ((k : Int) + 1) = (j : Int) := by rw [hj]; exact IntWalk.i64_in _ (by omega)
 have h1 : (j : Int) ≤ (s.size : Int) := by omega
 rw [← hj] at HT
 clear hT hr hj
 go_enter Tryz.func130, Tryz.ntmps130
 go_wp2_with (go_at_call 67; refine (HT.out _).mono ?_; rintro e w' ⟨rfl, rfl⟩)
 go_ret
 exact ⟨rfl, rfl⟩
def GivesE (K : Option (Option (L8 × L8))) (w : World) (e : Ending) (w' : World) : Prop :=
 ∃ (y r : ByteArray), y.data.toList = entY K ∧ r.data.toList = entR K ∧ e = .returned (.tuple #[.string y, .string r, .int .i64 (entN K)]) ∧ Below w.heap.size w w'
theorem gives_zero {K : Option (Option (L8 × L8))} {w w' : World} (hb : Below w.heap.size w w') (hK : K = some none) : GivesE K w (.returned (.tuple #[.string ⟨#[]⟩, .string ⟨#[]⟩, .int .i64 0])) w' := by
 subst hK
 exact ⟨⟨#[]⟩, ⟨#[]⟩, rfl, rfl, rfl, hb⟩
theorem gives_neg {K : Option (Option (L8 × L8))} {w w' : World} (hb : Below w.heap.size w w') (hK : K = none) : GivesE K w (.returned (.tuple #[.string ⟨#[]⟩, .string ⟨#[]⟩, .int .i64 (-1)])) w' := by
 subst hK
 exact ⟨⟨#[]⟩, ⟨#[]⟩, rfl, rfl, rfl, hb⟩
theorem gives_one {K : Option (Option (L8 × L8))} {w w' : World} {y r : ByteArray} (hb : Below w.heap.size w w') (h1 : y.data.toList = entY K) (h2 : r.data.toList = entR K) (h3 : (1 : Int) = entN K) : GivesE K w (.returned (.tuple #[.string y, .string r, .int .i64 1])) w' := ⟨y, r, h1, h2, by rw [← h3], hb⟩
theorem quotedEntry_any (s : ByteArray) (w : World) (hw : SomeMax w) (hs : s.size ≤ 100000) (hne : s.data.toList ≠ []) (hq : isQ (s.data.toList.headD 0) = true) (K : Option (Option (L8 × L8)))
  (hK : (match scnP s.data.toList with | none => some none | some p => if mrk s.data.toList p.2 then some (some (p.1, bhd s.data.toList p.2)) else some none) = K) :
  Calls Tryz.prog 107 #[.string s] w (GivesE K w) := by
 obtain ⟨v1, v2, v3⟩ := (scan_zero hne).1 hq
 obtain ⟨n, hn⟩ : ∃ n, s.size = n := ⟨_, rfl⟩
 have hlen : s.data.toList.length = n := (len_eq s).trans hn
 have HMX := hid hw
 cases hsc : scnP s.data.toList with
 | none =>
  rw [hsc] at hK v1 v2 v3
  have HSC := hid (Scan_any s 0 w (by omega) (by omega) (by omega) ⟨#[]⟩ 0 3 (by rw [v1]; rfl) (by rw [v2]; rfl) (by rw [v3]; rfl))
  have HE : Hid (K = some none) := hid hK.symm
  clear hK v1 v2 v3 hsc hne hq hlen hw
  go_enter Tryz.func107, Tryz.ntmps107
  go_wp2_with fail
  refine HSC.out.mono ?_
  rintro e w1 ⟨rfl, hb⟩
  go_wp2
  go_ret3
  exact gives_zero hb HE.out
 | some p =>
  obtain ⟨t, m⟩ := p
  have hmf := scn_facts hsc hne
  rw [hsc] at hK v1 v2 v3
  rw [hlen] at hmf
  have hmn : m ≤ n := hmf.2
  have hK : (if mrk s.data.toList m then some (some (t, bhd s.data.toList m)) else some none) = K := hK
  obtain ⟨Q, hQQ⟩ : ∃ Q, ba t = Q := ⟨_, rfl⟩
  have hQl : Q.data.toList = t := by rw [← hQQ, ba_data]
  have HSC := hid (Scan_any s 0 w (by omega) (by omega) (by omega) Q (m : Int) 0 (by rw [v1, hQl]; rfl) (by rw [v2]; rfl) (by rw [v3]; rfl))
  obtain ⟨S, hS⟩ : ∃ S, s.extract m n = S := ⟨_, rfl⟩
  have hSd : S.data.toList = s.data.toList.drop m := by rw [← hS, ← hn]; exact from_data s m
  have hSs : S.size ≤ 100000 := by rw [← len_eq, hSd, List.length_drop, len_eq]; omega
  obtain ⟨x, hx⟩ : ∃ x, colN S.data.toList = x := ⟨_, rfl⟩
  have hx0 : x = 0 ↔ mrk s.data.toList m = true := by rw [← hx, hSd]; exact col_zero (by rw [hlen]; exact hmn)
  have HCO := hid (fun W hW => colonAt_any S W hW (by omega) x hx)
  have le1 : (m : Int) ≤ (n : Int) := by omega
  cases hm : mrk s.data.toList m with
  | true =>
   obtain rfl : x = 0 := hx0.2 hm
   have hml : m < n := by
    rcases Nat.lt_or_ge m n with h | h
    ·exact h
    ·rw [← hlen] at h
     have h2 := (col_zero (l := s.data.toList) (m := m) (by rw [hlen]; exact hmn)).2 hm
     rw [List.drop_of_length_le h] at h2
     exact absurd h2 (by unfold colN; rw [fst_end (l := []) (k := 0) (Nat.le_refl _)]; decide)
   rw [hm, if_pos rfl] at hK
   obtain ⟨r, hr⟩ : ∃ r, ba (bhd s.data.toList m) = r := ⟨_, rfl⟩
   have hrl : bhd s.data.toList m = r.data.toList := by rw [← hr, ba_data]
   have HBH := hid (fun W => behindColon_any s r m W (by omega) (by omega) hrl)
   have HE : Hid (Q.data.toList = entY K ∧ r.data.toList = entR K ∧ (1 : Int) = entN K) := hid ⟨by rw [← hK]; exact hQl, by rw [← hK]; exact hrl.symm, by rw [← hK]; rfl⟩
   clear hK v1 v2 v3 hsc hne hq hlen hw hmf hQQ hQl hSd hSs hx hx0 hm hr hrl
   go_enter Tryz.func107, Tryz.ntmps107
   go_wp2_with fail
   refine HSC.out.mono ?_
   rintro e w1 ⟨rfl, hb⟩
   have HW := hid hb
   have HM := hid (HMX.out.keep hb)
   clear hb
   go_wp2_with (first
    | (go_at_call 129; refine (HCO.out _ HM.out).mono ?_; rintro e w' ⟨rfl, rfl⟩)
    | (go_at_call 130; refine (HBH.out _).mono ?_; rintro e w' ⟨rfl, rfl⟩))
   go_ret3
   exact gives_one HW.out HE.out.1 HE.out.2.1 HE.out.2.2
  | false =>
   have hxn : x ≠ 0 := fun e => by rw [hx0.1 e] at hm; cases hm
   have xb : (x == 0) = false := beq_eq_false_iff_ne.2 hxn
   rw [hm, if_neg Bool.false_ne_true] at hK
   have HE : Hid (K = some none) := hid hK.symm
   clear hK v1 v2 v3 hsc hne hq hlen hw hmf hQQ hQl hSd hSs hx hx0 hm hxn
   go_enter Tryz.func107, Tryz.ntmps107
   go_wp2_with fail
   refine HSC.out.mono ?_
   rintro e w1 ⟨rfl, hb⟩
   have HW := hid hb
   have HM := hid (HMX.out.keep hb)
   clear hb
   go_wp2_with (go_at_call 129; refine (HCO.out _ HM.out).mono ?_; rintro e w' ⟨rfl, rfl⟩)
   go_ret3
   exact gives_zero HW.out HE.out
theorem plainEntry_any (s : ByteArray) (w : World) (hw : SomeMax w) (hs : s.size ≤ 100000) (K : Option (Option (L8 × L8)))
  (hK : (match fstM s.data.toList 0 with | none => some none | some k => if plainB (s.data.toList.take k) && !decide (s.data.toList.take k = [60, 60]) then some (some (s.data.toList.take k, bhd s.data.toList k)) else none) = K) :
  Calls Tryz.prog 108 #[.string s] w (GivesE K w) := by
 obtain ⟨n, hn⟩ : ∃ n, s.size = n := ⟨_, rfl⟩
 have hlen : s.data.toList.length = n := (len_eq s).trans hn
 cases hf : fstM s.data.toList 0 with
 | none =>
  have HCO := hid (colonAt_any s w hw (by omega) (-1) (by unfold colN; rw [hf]))
  rw [hf] at hK
  have HE : Hid (K = some none) := hid hK.symm
  clear hK hf hlen hw
  go_enter Tryz.func108, Tryz.ntmps108
  go_wp2_with (go_at_call 129; refine HCO.out.mono ?_; rintro e w' ⟨rfl, rfl⟩)
  go_ret3
  exact gives_zero (Below.refl _ _) HE.out
 | some k =>
  have HCO := hid (colonAt_any s w hw (by omega) (k : Int) (by unfold colN; rw [hf]))
  have hkl : k < n := by rw [← hlen]; exact ((fst_spec _ s.data.toList 0 (Nat.le_refl _)).1 k hf).2.1
  rw [hf] at hK
  have hK : (if plainB (s.data.toList.take k) && !decide (s.data.toList.take k = [60, 60]) then some (some (s.data.toList.take k, bhd s.data.toList k)) else none) = K := hK
  obtain ⟨t, ht⟩ : ∃ t, s.extract 0 k = t := ⟨_, rfl⟩
  have htl : t.data.toList = s.data.toList.take k := by rw [← ht, Lib.extract_data, List.drop_zero, Nat.sub_zero]
  have hts : t.size ≤ 1000000 := by rw [← len_eq, htl, List.length_take, len_eq]; omega
  have kz : ¬ (k : Int) < 0 := by omega
  have le1 : (k : Int) ≤ (n : Int) := by omega
  rw [← htl] at hK
  cases hpl : plainB t.data.toList with
  | false =>
   have HPL := hid (fun W => Plain_q t false W (by unfold maxLen; omega) hpl)
   rw [hpl, Bool.false_and, if_neg Bool.false_ne_true] at hK
   have HE : Hid (K = none) := hid hK.symm
   clear hK hf hlen hw htl hts hpl
   go_enter Tryz.func108, Tryz.ntmps108
   go_wp2_with (first
    | (go_at_call 129; refine HCO.out.mono ?_; rintro e w' ⟨rfl, rfl⟩)
    | (go_at_call 24; refine (HPL.out _).mono ?_; rintro e w' ⟨rfl, rfl⟩))
   go_ret3
   exact gives_neg (Below.refl _ _) HE.out
  | true =>
   have HPL := hid (fun W => Plain_q t true W (by unfold maxLen; omega) hpl)
   rw [hpl, Bool.true_and] at hK
   by_cases h6 : t.data.toList = [60, 60]
   ·have b2 : (t.toList == [60, 60]) = true := by rw [ByteArray.toList_eq]; exact beq_iff_eq.2 h6
    rw [decide_eq_true h6] at hK
    have HE : Hid (K = none) := hid hK.symm
    clear hK hf hlen hw htl hts hpl h6
    go_enter Tryz.func108, Tryz.ntmps108
    go_wp2_with (first
     | (go_at_call 129; refine HCO.out.mono ?_; rintro e w' ⟨rfl, rfl⟩)
     | (go_at_call 24; refine (HPL.out _).mono ?_; rintro e w' ⟨rfl, rfl⟩))
    go_ret3
    exact gives_neg (Below.refl _ _) HE.out
   ·have b2 : (t.toList == [60, 60]) = false := by rw [ByteArray.toList_eq]; exact beq_eq_false_iff_ne.2 h6
    rw [decide_eq_false h6] at hK
    have hK : some (some (t.data.toList, bhd s.data.toList k)) = K := hK
    obtain ⟨r, hr⟩ : ∃ r, ba (bhd s.data.toList k) = r := ⟨_, rfl⟩
    have hrl : bhd s.data.toList k = r.data.toList := by rw [← hr, ba_data]
    have HBH := hid (fun W => behindColon_any s r k W (by omega) (by omega) hrl)
    have HE : Hid (t.data.toList = entY K ∧ r.data.toList = entR K ∧ (1 : Int) = entN K) := hid ⟨by rw [← hK]; rfl, by rw [← hK]; exact hrl.symm, by rw [← hK]; rfl⟩
    clear hK hf hlen hw htl hts hpl h6 hr hrl
    go_enter Tryz.func108, Tryz.ntmps108
    go_wp2_with (first
     | (go_at_call 129; refine HCO.out.mono ?_; rintro e w' ⟨rfl, rfl⟩)
     | (go_at_call 24; refine (HPL.out _).mono ?_; rintro e w' ⟨rfl, rfl⟩)
     | (go_at_call 130; refine (HBH.out _).mono ?_; rintro e w' ⟨rfl, rfl⟩))
    go_ret3
    exact gives_one (Below.refl _ _) HE.out.1 HE.out.2.1 HE.out.2.2
theorem Entry_any (s : ByteArray) (w : World) (hw : SomeMax w) (hs : s.size ≤ 100000) (K : Option (Option (L8 × L8))) (hK : entP s.data.toList = K) :
  Calls Tryz.prog 74 #[.string s] w (GivesE K w) := by
 obtain ⟨h, hh⟩ : ∃ h, hyp s.data.toList = h := ⟨_, rfl⟩
 obtain ⟨a, ha⟩ : ∃ a, decide (s.data.toList.headD 0 = 91) = a := ⟨_, rfl⟩
 obtain ⟨b, hb⟩ : ∃ b, decide (s.data.toList.headD 0 = 123) = b := ⟨_, rfl⟩
 obtain ⟨q, hq⟩ : ∃ q, isQ (s.data.toList.headD 0) = q := ⟨_, rfl⟩
 have HH := hid (Row_any10 s h w hh)
 have HF := hid (isFlow_any s a b w ha hb)
 have HQ := hid (isQuoted_any s q w hq)
 cases h with
 | true =>
  have HE : Hid (K = some none) := hid (hK.symm.trans (ent_zero (by rw [hh, Bool.or_true]; rfl)))
  clear hh ha hb hq hK hw
  go_enter Tryz.func74, Tryz.ntmps74
  go_wp2_with (go_at_call 72; refine HH.out.mono ?_; rintro e w' ⟨rfl, rfl⟩)
  go_ret3
  exact gives_zero (Below.refl _ _) HE.out
 | false =>
 obtain ⟨f, hf⟩ : ∃ f, (a || b) = f := ⟨_, rfl⟩
 rw [hf] at HF
 cases f with
 | true =>
  have HE : Hid (K = some none) := hid (hK.symm.trans (ent_zero (by rw [ha, hb, Bool.or_assoc, hf, Bool.or_true])))
  clear hh ha hb hq hK hw hf
  go_enter Tryz.func74, Tryz.ntmps74
  go_wp2_with (first
   | (go_at_call 72; refine HH.out.mono ?_; rintro e w' ⟨rfl, rfl⟩)
   | (go_at_call 105; refine HF.out.mono ?_; rintro e w' ⟨rfl, rfl⟩))
  go_ret3
  exact gives_zero (Below.refl _ _) HE.out
 | false =>
 by_cases h0 : s.data.toList = []
 ·have HE : Hid (K = some none) := hid (hK.symm.trans (ent_zero (by rw [decide_eq_true h0]; rfl)))
  obtain rfl : q = false := by rw [← hq, h0]; decide
  have HP := hid (plainEntry_any s w hw hs (some none) (by rw [h0, fst_end (l := []) (k := 0) (Nat.le_refl _)]))
  clear hh ha hb hq hK hw hf
  go_enter Tryz.func74, Tryz.ntmps74
  go_wp2_with (first
   | (go_at_call 72; refine HH.out.mono ?_; rintro e w' ⟨rfl, rfl⟩)
   | (go_at_call 105; refine HF.out.mono ?_; rintro e w' ⟨rfl, rfl⟩)
   | (go_at_call 106; refine HQ.out.mono ?_; rintro e w' ⟨rfl, rfl⟩)
   | (go_at_call 108; refine HP.out.mono ?_; rintro e w' ⟨y, r, hy, hr, rfl, hb9⟩))
  go_ret3
  obtain rfl := HE.out
  exact ⟨y, r, hy, hr, rfl, hb9⟩
 have hcond : (decide (s.data.toList = []) || hyp s.data.toList || decide (s.data.toList.headD 0 = 91) || decide (s.data.toList.headD 0 = 123)) = false := by
  rw [decide_eq_false h0, hh, ha, hb, Bool.or_assoc, hf]; rfl
 cases q with
 | true =>
  have HP := hid (quotedEntry_any s w hw hs h0 hq K ((ent_quote hcond hq).symm.trans hK))
  clear hh ha hb hq hK hw hf hcond
  go_enter Tryz.func74, Tryz.ntmps74
  go_wp2_with (first
   | (go_at_call 72; refine HH.out.mono ?_; rintro e w' ⟨rfl, rfl⟩)
   | (go_at_call 105; refine HF.out.mono ?_; rintro e w' ⟨rfl, rfl⟩)
   | (go_at_call 106; refine HQ.out.mono ?_; rintro e w' ⟨rfl, rfl⟩)
   | (go_at_call 107; refine HP.out.mono ?_; rintro e w' ⟨y, r, hy, hr, rfl, hb9⟩))
  go_ret3
  exact ⟨y, r, hy, hr, rfl, hb9⟩
 | false =>
  have HP := hid (plainEntry_any s w hw hs K ((ent_plain hcond hq).symm.trans hK))
  clear hh ha hb hq hK hw hf hcond
  go_enter Tryz.func74, Tryz.ntmps74
  go_wp2_with (first
   | (go_at_call 72; refine HH.out.mono ?_; rintro e w' ⟨rfl, rfl⟩)
   | (go_at_call 105; refine HF.out.mono ?_; rintro e w' ⟨rfl, rfl⟩)
   | (go_at_call 106; refine HQ.out.mono ?_; rintro e w' ⟨rfl, rfl⟩)
   | (go_at_call 108; refine HP.out.mono ?_; rintro e w' ⟨y, r, hy, hr, rfl, hb9⟩))
  go_ret3
  exact ⟨y, r, hy, hr, rfl, hb9⟩
end
section
open Go.RowKit Go.Sort
open Nw N8 Q6 F9 B10 Go.ChangeShapes Go.WideShapes
def SeqOf (N : Nat) : Prop := ∀ (w0 : World) (g : Nat) (sl : Value) (n : Nat) (w : World) (M : List Ln) (p : Nat) (x : Ln) (l : List Ln), SomeMax w0 → RD w0 g sl n w M p → M.drop p = x :: l → hyp x.text = true → 2 * big (x :: l) ≤ N →
  Calls Tryz.prog 73 #[.pointer (some ⟨g, 0, none⟩), .int .i64 (x.ind : Int)] w (Out w0 g sl n M p (p + 1) x.ind (seqB x.ind [] (x :: l)) w)
def MapOf (N : Nat) : Prop := ∀ (w0 : World) (g : Nat) (sl : Value) (n : Nat) (w : World) (M : List Ln) (p : Nat) (x : Ln) (l : List Ln), SomeMax w0 → RD w0 g sl n w M p → M.drop p = x :: l → (∃ y r, entP x.text = some (some (y, r))) → 2 * big (x :: l) ≤ N →
  Calls Tryz.prog 75 #[.pointer (some ⟨g, 0, none⟩), .int .i64 (x.ind : Int)] w (Out w0 g sl n M p (p + 1) x.ind (mapB x.ind [] [] (x :: l)) w)
theorem below_ad (w : World) (o : Obj) : Below w.heap.size w (w.alloc o).drew := ((Below.refl _ _).alloc (Nat.le_refl _) _).drew
section
variable {w0 w : World} {g n p : Nat} {sl : Value} {M : List Ln} {x : Ln} {l : List Ln}
theorem RD.here (h : RD w0 g sl n w M p) (hx : M.drop p = x :: l) : ∃ B cap, sl = .slice (some ⟨B, 0, none⟩) n cap ∧ n ≤ cap ∧ cap ≤ maxLen ∧
  (w.cell? ⟨B, p * 3, none⟩ = some (.int .i64 (x.no : Int)) ∧ w.cell? ⟨B, p * 3 + 1, none⟩ = some (.int .i64 (x.ind : Int)) ∧ w.cell? ⟨B, p * 3 + 2, none⟩ = some (.string ⟨x.text.toArray⟩)) ∧
  (w.frozen? ⟨B, p * 3, none⟩ = false ∧ w.frozen? ⟨B, p * 3 + 1, none⟩ = false ∧ w.frozen? ⟨B, p * 3 + 2, none⟩ = false) := by
 have hpl : p < M.length := by rw [h.2.1.1]; exact h.at_lt hx
 have := h.row hpl
 rw [List.drop_eq_getElem_cons hpl] at hx
 injection hx with hx _
 rwa [hx] at this
theorem readBlock_seq (hm : SomeMax w0) (h : RD w0 g sl n w M p) (hx : M.drop p = x :: l) {N : Nat} (is : SeqOf N) (hN : 2 * big (x :: l) ≤ N) (hh : hyp x.text = true) :
  Calls Tryz.prog 52 #[.pointer (some ⟨g, 0, none⟩)] w (Out w0 g sl n M p (p + 1) x.ind (blkB (x :: l)) w) := by
 have hn := h.n_le
 have hgw := h.lt
 have hpn := h.at_lt hx
 have hi := h.ind_le hx
 have hb0 : Below w.heap.size w (w.alloc (.cells #[.int .i64 0, .string ⟨#[]⟩, .slice none 0 0, .slice none 0 0] 25)) := (Below.refl _ _).alloc (Nat.le_refl _) _
 have hs0 : (w.alloc (.cells #[.int .i64 0, .string ⟨#[]⟩, .slice none 0 0, .slice none 0 0] 25)).heap.size = w.heap.size + 1 := by simp
 have hD0 := h.go hb0
 have HR0 := hid (Row4.make w 25 (.int .i64 0) (.string ⟨#[]⟩) (.slice none 0 0) (.slice none 0 0))
 have HB0 := hid hb0
 have HS0 := hid hs0
 have HD := hid h
 have HD0 := hid hD0
 have HMX := hid hm
 have HXX := hid hx
 obtain ⟨c0, c1, -⟩ := hD0.cells
 obtain ⟨B, cap, rfl, hcap, hcm, ⟨x0, x1, x2⟩, -⟩ := hD0.here hx
 obtain ⟨T, hT⟩ : ∃ T : ByteArray, (⟨x.text.toArray⟩ : ByteArray) = T := ⟨_, rfl⟩
 have hTl : T.data.toList = x.text := by rw [← hT]
 have hTs : T.size ≤ 100000 := by rw [← len_eq, hTl]; omega
 have HROW := hid (fun W => Row_any10 T true W (by rw [hTl]; exact hh))
 have HSQ := hid (fun W (hW : RD w0 g (.slice (some ⟨B, 0, none⟩) n cap) n W M p) => is w0 g _ n W M p x l hm hW hx hh hN)
 rw [← blk_seq hh] at HSQ
 obtain ⟨I, hI⟩ : ∃ I : Nat, x.ind = I := ⟨_, rfl⟩
 obtain ⟨no, hno⟩ : ∃ no : Nat, x.no = no := ⟨_, rfl⟩
 have pz : (0 : Int) ≤ (p : Int) := by omega
 have pn : (p : Int) < (n : Int) := by omega
 have HIX := hid hI
 have HNX := hid hno
 rw [hT] at x2
 rw [hI] at x1
 rw [hno] at x0
 rw [hI] at HSQ ⊢
 obtain ⟨R, hR⟩ : ∃ R, blkB (x :: l) = R := ⟨_, rfl⟩
 rw [hR] at HSQ ⊢
 clear is hN hh hR hb0 hs0 hD0 h hx hT hTl hTs hI hno hm hi
 go_enter Tryz.func52, Tryz.ntmps52
 go_wp2
 generalize w.alloc (.cells #[.int .i64 0, .string ⟨#[]⟩, .slice none 0 0, .slice none 0 0] 25) = W1 at *
 go_region_held3 (fun W => W.cell? ⟨g, 0, none⟩ = some (.slice (some ⟨B, 0, none⟩) n cap) ∧ W.cell? ⟨g, 1, none⟩ = some (.int .i64 (p : Int)) ∧ W.cell? ⟨B, p * 3, none⟩ = some (.int .i64 (no : Int)) ∧ W.cell? ⟨B, p * 3 + 1, none⟩ = some (.int .i64 (I : Int)) ∧ W.cell? ⟨B, p * 3 + 2, none⟩ = some (.string T))
  (first | exact ⟨c0, c1, x0, x1, x2⟩ | assumption | exact ⟨cells_alloc c0, cells_alloc c1, cells_alloc x0, cells_alloc x1, cells_alloc x2⟩) (fail)
 have HX := hid (HR0.out.below (below_ad W1 (.cells #[.int .i64 (no : Int), .int .i64 (I : Int), .string T] 62)) HR0.out.lt)
 have HD2 := hid (HD0.out.go (below_ad W1 (.cells #[.int .i64 (no : Int), .int .i64 (I : Int), .string T] 62)))
 have HB2 := hid (HB0.out.trans ((below_ad W1 (.cells #[.int .i64 (no : Int), .int .i64 (I : Int), .string T] 62)).mono HB0.out.size))
 have HS2 : Hid (w.heap.size + 1 ≤ ((W1.alloc (.cells #[.int .i64 (no : Int), .int .i64 (I : Int), .string T] 62)).drew).heap.size) := hid (by rw [← HS0.out]; exact (below_ad W1 _).size)
 have HL : Hid (Row3 ((W1.alloc (.cells #[.int .i64 (no : Int), .int .i64 (I : Int), .string T] 62)).drew) W1.heap.size 62 (.int .i64 (no : Int)) (.int .i64 (I : Int)) (.string T)) := hid (Row3.make W1 _ _ _ _)
 clear c0 c1 x0 x1 x2 HR0 HD0 HB0
 generalize (W1.alloc (.cells #[.int .i64 (no : Int), .int .i64 (I : Int), .string T] 62)).drew = W2 at *
 generalize W1.heap.size = lb at *
 obtain ⟨y0, y1, y2⟩ := HL.out.cells
 go_wp2_with fail
 refine (HROW.out _).mono ?_
 rintro e w' ⟨rfl, rfl⟩
 go_wp2_with fail
 refine (HSQ.out _ HD2.out).mono ?_
 rintro e w5 ⟨k, t, a, i, cc, A, m, q, E, rfl, hk, hc⟩
 have HX3 := hid (HD.out.row4 hk (Nat.le_refl _) HX.out)
 have HK3 := hid hk
 have HC := hid hc
 clear hk hc
 obtain ⟨r0, r1, r2, r3⟩ := HX3.out.cells
 obtain ⟨fr0, fr1, fr2, fr3⟩ := HX3.out.frozen
 go_wp2
 refine bodyPost_ret (v := .tuple #[.agg #[.int .i64 k, .string t, .slice a i cc, .slice A m q], .int .i64 E]) (by simp [results, Tryz.results52, go_sem, r0, r1, r2, r3]) rfl ?_
 exact out_on HD.out (KP.of HB2.out) HS2.out HK3.out HC.out
theorem readBlock_bad (hm : SomeMax w0) (h : RD w0 g sl n w M p) (hx : M.drop p = x :: l) (hh : hyp x.text = false) (he : entP x.text = none) :
  Calls Tryz.prog 52 #[.pointer (some ⟨g, 0, none⟩)] w (Out w0 g sl n M p (p + 1) x.ind (blkB (x :: l)) w) := by
 have hn := h.n_le
 have hgw := h.lt
 have hpn := h.at_lt hx
 have hi := h.ind_le hx
 have hb0 : Below w.heap.size w (w.alloc (.cells #[.int .i64 0, .string ⟨#[]⟩, .slice none 0 0, .slice none 0 0] 25)) := (Below.refl _ _).alloc (Nat.le_refl _) _
 have hs0 : (w.alloc (.cells #[.int .i64 0, .string ⟨#[]⟩, .slice none 0 0, .slice none 0 0] 25)).heap.size = w.heap.size + 1 := by simp
 have hD0 := h.go hb0
 have HR0 := hid (Row4.make w 25 (.int .i64 0) (.string ⟨#[]⟩) (.slice none 0 0) (.slice none 0 0))
 have HB0 := hid hb0
 have HS0 := hid hs0
 have HD := hid h
 have HD0 := hid hD0
 have HMX := hid hm
 have HXX := hid hx
 obtain ⟨c0, c1, -⟩ := hD0.cells
 obtain ⟨B, cap, rfl, hcap, hcm, ⟨x0, x1, x2⟩, -⟩ := hD0.here hx
 obtain ⟨T, hT⟩ : ∃ T : ByteArray, (⟨x.text.toArray⟩ : ByteArray) = T := ⟨_, rfl⟩
 have hTl : T.data.toList = x.text := by rw [← hT]
 have hTs : T.size ≤ 100000 := by rw [← len_eq, hTl]; omega
 have HROW := hid (fun W => Row_any10 T false W (by rw [hTl]; exact hh))
 have HENT : Hid (∀ W, SomeMax W → Calls Tryz.prog 74 #[.string T] W fun e w' => ∃ (yy rr : ByteArray), True ∧ True ∧ e = .returned (.tuple #[.string yy, .string rr, .int .i64 (-1)]) ∧ Below W.heap.size W w') := hid (fun W hW => (Entry_any T W hW hTs (none) (by rw [hTl]; exact he)).mono fun e w' ⟨y, r, h1, h2, h3, h4⟩ => ⟨y, r, trivial, trivial, h3, h4⟩)
 have HRB : Hid (blkB (x :: l) = .bad x.no 3) := hid (blk_bad hh he)
 obtain ⟨I, hI⟩ : ∃ I : Nat, x.ind = I := ⟨_, rfl⟩
 obtain ⟨no, hno⟩ : ∃ no : Nat, x.no = no := ⟨_, rfl⟩
 have pz : (0 : Int) ≤ (p : Int) := by omega
 have pn : (p : Int) < (n : Int) := by omega
 have HIX := hid hI
 have HNX := hid hno
 rw [hT] at x2
 rw [hI] at x1
 rw [hno] at x0
 obtain ⟨R, hR⟩ : ∃ R, blkB (x :: l) = R := ⟨_, rfl⟩
 rw [hR] at HRB ⊢
 clear hh he hR hb0 hs0 hD0 h hx hT hTl hTs hI hno hm hi
 go_enter Tryz.func52, Tryz.ntmps52
 go_wp2
 generalize w.alloc (.cells #[.int .i64 0, .string ⟨#[]⟩, .slice none 0 0, .slice none 0 0] 25) = W1 at *
 go_region_held3 (fun W => W.cell? ⟨g, 0, none⟩ = some (.slice (some ⟨B, 0, none⟩) n cap) ∧ W.cell? ⟨g, 1, none⟩ = some (.int .i64 (p : Int)) ∧ W.cell? ⟨B, p * 3, none⟩ = some (.int .i64 (no : Int)) ∧ W.cell? ⟨B, p * 3 + 1, none⟩ = some (.int .i64 (I : Int)) ∧ W.cell? ⟨B, p * 3 + 2, none⟩ = some (.string T))
  (first | exact ⟨c0, c1, x0, x1, x2⟩ | assumption | exact ⟨cells_alloc c0, cells_alloc c1, cells_alloc x0, cells_alloc x1, cells_alloc x2⟩) (fail)
 have HX := hid (HR0.out.below (below_ad W1 (.cells #[.int .i64 (no : Int), .int .i64 (I : Int), .string T] 62)) HR0.out.lt)
 have HD2 := hid (HD0.out.go (below_ad W1 (.cells #[.int .i64 (no : Int), .int .i64 (I : Int), .string T] 62)))
 have HB2 := hid (HB0.out.trans ((below_ad W1 (.cells #[.int .i64 (no : Int), .int .i64 (I : Int), .string T] 62)).mono HB0.out.size))
 have HS2 : Hid (w.heap.size + 1 ≤ ((W1.alloc (.cells #[.int .i64 (no : Int), .int .i64 (I : Int), .string T] 62)).drew).heap.size) := hid (by rw [← HS0.out]; exact (below_ad W1 _).size)
 have HL : Hid (Row3 ((W1.alloc (.cells #[.int .i64 (no : Int), .int .i64 (I : Int), .string T] 62)).drew) W1.heap.size 62 (.int .i64 (no : Int)) (.int .i64 (I : Int)) (.string T)) := hid (Row3.make W1 _ _ _ _)
 clear c0 c1 x0 x1 x2 HR0 HD0 HB0
 generalize (W1.alloc (.cells #[.int .i64 (no : Int), .int .i64 (I : Int), .string T] 62)).drew = W2 at *
 generalize W1.heap.size = lb at *
 obtain ⟨y0, y1, y2⟩ := HL.out.cells
 go_wp2_with fail
 refine (HROW.out _).mono ?_
 rintro e w' ⟨rfl, rfl⟩
 go_wp2_with fail
 refine (HENT.out _ (HD2.out.some_max HMX.out)).mono ?_
 rintro e w3 ⟨yy, rr, -, -, rfl, hb⟩
 have HX4 := hid (HX.out.below hb HX.out.lt)
 have HL4 := hid (HL.out.below hb HL.out.lt)
 have HD4 := hid (HD2.out.go hb)
 have HB4 := hid (HB2.out.trans (hb.mono HB2.out.size))
 have HS4 : Hid (w.heap.size + 1 ≤ w3.heap.size) := hid (Nat.le_trans HS2.out hb.size)
 clear hb HX HL HD2 HB2 HS2 y0 y1 y2
 obtain ⟨y0, y1, y2⟩ := HL4.out.cells
 obtain ⟨r0, r1, r2, r3⟩ := HX4.out.cells
 obtain ⟨fr0, fr1, fr2, fr3⟩ := HX4.out.frozen
 go_wp2
 refine bodyPost_ret (v := .tuple #[.agg #[.int .i64 0, .string ⟨#[]⟩, .slice none 0 0, .slice none 0 0], .int .i64 3]) (by simp [results, Tryz.results52, go_sem, r0, r1, r2, r3]) rfl ?_
 exact out_bad HD.out (KP.of HB4.out) HD4.out (by decide) HRB.out HXX.out
theorem readBlock_map (hm : SomeMax w0) (h : RD w0 g sl n w M p) (hx : M.drop p = x :: l) {N : Nat} (im : MapOf N) (hN : 2 * big (x :: l) ≤ N) (hh : hyp x.text = false) (pr : L8 × L8) (he : entP x.text = some (some pr)) :
  Calls Tryz.prog 52 #[.pointer (some ⟨g, 0, none⟩)] w (Out w0 g sl n M p (p + 1) x.ind (blkB (x :: l)) w) := by
 have hn := h.n_le
 have hgw := h.lt
 have hpn := h.at_lt hx
 have hi := h.ind_le hx
 have hb0 : Below w.heap.size w (w.alloc (.cells #[.int .i64 0, .string ⟨#[]⟩, .slice none 0 0, .slice none 0 0] 25)) := (Below.refl _ _).alloc (Nat.le_refl _) _
 have hs0 : (w.alloc (.cells #[.int .i64 0, .string ⟨#[]⟩, .slice none 0 0, .slice none 0 0] 25)).heap.size = w.heap.size + 1 := by simp
 have hD0 := h.go hb0
 have HR0 := hid (Row4.make w 25 (.int .i64 0) (.string ⟨#[]⟩) (.slice none 0 0) (.slice none 0 0))
 have HB0 := hid hb0
 have HS0 := hid hs0
 have HD := hid h
 have HD0 := hid hD0
 have HMX := hid hm
 have HXX := hid hx
 obtain ⟨c0, c1, -⟩ := hD0.cells
 obtain ⟨B, cap, rfl, hcap, hcm, ⟨x0, x1, x2⟩, -⟩ := hD0.here hx
 obtain ⟨T, hT⟩ : ∃ T : ByteArray, (⟨x.text.toArray⟩ : ByteArray) = T := ⟨_, rfl⟩
 have hTl : T.data.toList = x.text := by rw [← hT]
 have hTs : T.size ≤ 100000 := by rw [← len_eq, hTl]; omega
 have HROW := hid (fun W => Row_any10 T false W (by rw [hTl]; exact hh))
 have HENT : Hid (∀ W, SomeMax W → Calls Tryz.prog 74 #[.string T] W fun e w' => ∃ (yy rr : ByteArray), True ∧ True ∧ e = .returned (.tuple #[.string yy, .string rr, .int .i64 (1)]) ∧ Below W.heap.size W w') := hid (fun W hW => (Entry_any T W hW hTs (some (some pr)) (by rw [hTl]; exact he)).mono fun e w' ⟨y, r, h1, h2, h3, h4⟩ => ⟨y, r, trivial, trivial, h3, h4⟩)
 have HMP := hid (fun W (hW : RD w0 g (.slice (some ⟨B, 0, none⟩) n cap) n W M p) => im w0 g _ n W M p x l hm hW hx ⟨_, _, he⟩ hN)
 rw [← blk_map hh he] at HMP
 obtain ⟨I, hI⟩ : ∃ I : Nat, x.ind = I := ⟨_, rfl⟩
 obtain ⟨no, hno⟩ : ∃ no : Nat, x.no = no := ⟨_, rfl⟩
 have pz : (0 : Int) ≤ (p : Int) := by omega
 have pn : (p : Int) < (n : Int) := by omega
 have HIX := hid hI
 have HNX := hid hno
 rw [hT] at x2
 rw [hI] at x1
 rw [hno] at x0
 rw [hI] at HMP ⊢
 obtain ⟨R, hR⟩ : ∃ R, blkB (x :: l) = R := ⟨_, rfl⟩
 rw [hR] at HMP ⊢
 clear im hN hh he hR hb0 hs0 hD0 h hx hT hTl hTs hI hno hm hi
 go_enter Tryz.func52, Tryz.ntmps52
 go_wp2
 generalize w.alloc (.cells #[.int .i64 0, .string ⟨#[]⟩, .slice none 0 0, .slice none 0 0] 25) = W1 at *
 go_region_held3 (fun W => W.cell? ⟨g, 0, none⟩ = some (.slice (some ⟨B, 0, none⟩) n cap) ∧ W.cell? ⟨g, 1, none⟩ = some (.int .i64 (p : Int)) ∧ W.cell? ⟨B, p * 3, none⟩ = some (.int .i64 (no : Int)) ∧ W.cell? ⟨B, p * 3 + 1, none⟩ = some (.int .i64 (I : Int)) ∧ W.cell? ⟨B, p * 3 + 2, none⟩ = some (.string T))
  (first | exact ⟨c0, c1, x0, x1, x2⟩ | assumption | exact ⟨cells_alloc c0, cells_alloc c1, cells_alloc x0, cells_alloc x1, cells_alloc x2⟩) (fail)
 have HX := hid (HR0.out.below (below_ad W1 (.cells #[.int .i64 (no : Int), .int .i64 (I : Int), .string T] 62)) HR0.out.lt)
 have HD2 := hid (HD0.out.go (below_ad W1 (.cells #[.int .i64 (no : Int), .int .i64 (I : Int), .string T] 62)))
 have HB2 := hid (HB0.out.trans ((below_ad W1 (.cells #[.int .i64 (no : Int), .int .i64 (I : Int), .string T] 62)).mono HB0.out.size))
 have HS2 : Hid (w.heap.size + 1 ≤ ((W1.alloc (.cells #[.int .i64 (no : Int), .int .i64 (I : Int), .string T] 62)).drew).heap.size) := hid (by rw [← HS0.out]; exact (below_ad W1 _).size)
 have HL : Hid (Row3 ((W1.alloc (.cells #[.int .i64 (no : Int), .int .i64 (I : Int), .string T] 62)).drew) W1.heap.size 62 (.int .i64 (no : Int)) (.int .i64 (I : Int)) (.string T)) := hid (Row3.make W1 _ _ _ _)
 clear c0 c1 x0 x1 x2 HR0 HD0 HB0
 generalize (W1.alloc (.cells #[.int .i64 (no : Int), .int .i64 (I : Int), .string T] 62)).drew = W2 at *
 generalize W1.heap.size = lb at *
 obtain ⟨y0, y1, y2⟩ := HL.out.cells
 go_wp2_with fail
 refine (HROW.out _).mono ?_
 rintro e w' ⟨rfl, rfl⟩
 go_wp2_with fail
 refine (HENT.out _ (HD2.out.some_max HMX.out)).mono ?_
 rintro e w3 ⟨yy, rr, -, -, rfl, hb⟩
 have HX4 := hid (HX.out.below hb HX.out.lt)
 have HL4 := hid (HL.out.below hb HL.out.lt)
 have HD4 := hid (HD2.out.go hb)
 have HB4 := hid (HB2.out.trans (hb.mono HB2.out.size))
 have HS4 : Hid (w.heap.size + 1 ≤ w3.heap.size) := hid (Nat.le_trans HS2.out hb.size)
 clear hb HX HL HD2 HB2 HS2 y0 y1 y2
 obtain ⟨y0, y1, y2⟩ := HL4.out.cells
 go_wp2_with fail
 refine (HMP.out _ HD4.out).mono ?_
 rintro e w5 ⟨k, t, a, i, cc, A, m, q, E, rfl, hk, hc⟩
 have HX3 := hid (HD.out.row4 hk (Nat.le_refl _) HX4.out)
 have HK3 := hid hk
 have HC := hid hc
 clear hk hc
 obtain ⟨r0, r1, r2, r3⟩ := HX3.out.cells
 obtain ⟨fr0, fr1, fr2, fr3⟩ := HX3.out.frozen
 go_wp2
 refine bodyPost_ret (v := .tuple #[.agg #[.int .i64 k, .string t, .slice a i cc, .slice A m q], .int .i64 E]) (by simp [results, Tryz.results52, go_sem, r0, r1, r2, r3]) rfl ?_
 exact out_on HD.out (KP.of HB4.out) HS4.out HK3.out HC.out
theorem readBlock_val (hm : SomeMax w0) (h : RD w0 g sl n w M p) (hx : M.drop p = x :: l) (hh : hyp x.text = false) (he : entP x.text = some none) :
  Calls Tryz.prog 52 #[.pointer (some ⟨g, 0, none⟩)] w (Out w0 g sl n M p (p + 1) x.ind (blkB (x :: l)) w) := by
 have hn := h.n_le
 have hgw := h.lt
 have hpn := h.at_lt hx
 have hi := h.ind_le hx
 have hb0 : Below w.heap.size w (w.alloc (.cells #[.int .i64 0, .string ⟨#[]⟩, .slice none 0 0, .slice none 0 0] 25)) := (Below.refl _ _).alloc (Nat.le_refl _) _
 have hs0 : (w.alloc (.cells #[.int .i64 0, .string ⟨#[]⟩, .slice none 0 0, .slice none 0 0] 25)).heap.size = w.heap.size + 1 := by simp
 have hD0 := h.go hb0
 have HR0 := hid (Row4.make w 25 (.int .i64 0) (.string ⟨#[]⟩) (.slice none 0 0) (.slice none 0 0))
 have HB0 := hid hb0
 have HS0 := hid hs0
 have HD := hid h
 have HD0 := hid hD0
 have HMX := hid hm
 have HXX := hid hx
 obtain ⟨c0, c1, -⟩ := hD0.cells
 obtain ⟨B, cap, rfl, hcap, hcm, ⟨x0, x1, x2⟩, -⟩ := hD0.here hx
 obtain ⟨T, hT⟩ : ∃ T : ByteArray, (⟨x.text.toArray⟩ : ByteArray) = T := ⟨_, rfl⟩
 have hTl : T.data.toList = x.text := by rw [← hT]
 have hTs : T.size ≤ 100000 := by rw [← len_eq, hTl]; omega
 have HROW := hid (fun W => Row_any10 T false W (by rw [hTl]; exact hh))
 have HENT : Hid (∀ W, SomeMax W → Calls Tryz.prog 74 #[.string T] W fun e w' => ∃ (yy rr : ByteArray), True ∧ True ∧ e = .returned (.tuple #[.string yy, .string rr, .int .i64 (0)]) ∧ Below W.heap.size W w') := hid (fun W hW => (Entry_any T W hW hTs (some none) (by rw [hTl]; exact he)).mono fun e w' ⟨y, r, h1, h2, h3, h4⟩ => ⟨y, r, trivial, trivial, h3, h4⟩)
 have HVL : Hid (∀ W, RD w0 g (.slice (some ⟨B, 0, none⟩) n cap) n W M p → Calls Tryz.prog 76 #[.pointer (some ⟨g, 0, none⟩), .string T] W (Out w0 g (.slice (some ⟨B, 0, none⟩) n cap) n M p (p + 1) x.ind (blkB (x :: l)) W)) := hid fun W hW => readValue_any hW hx T (by omega) (by rw [blk_val hh he, hTl])
 obtain ⟨I, hI⟩ : ∃ I : Nat, x.ind = I := ⟨_, rfl⟩
 obtain ⟨no, hno⟩ : ∃ no : Nat, x.no = no := ⟨_, rfl⟩
 have pz : (0 : Int) ≤ (p : Int) := by omega
 have pn : (p : Int) < (n : Int) := by omega
 have HIX := hid hI
 have HNX := hid hno
 rw [hT] at x2
 rw [hI] at x1
 rw [hno] at x0
 rw [hI] at HVL ⊢
 obtain ⟨R, hR⟩ : ∃ R, blkB (x :: l) = R := ⟨_, rfl⟩
 rw [hR] at HVL ⊢
 clear hh he hR hb0 hs0 hD0 h hx hT hTl hTs hI hno hm hi
 go_enter Tryz.func52, Tryz.ntmps52
 go_wp2
 generalize w.alloc (.cells #[.int .i64 0, .string ⟨#[]⟩, .slice none 0 0, .slice none 0 0] 25) = W1 at *
 go_region_held3 (fun W => W.cell? ⟨g, 0, none⟩ = some (.slice (some ⟨B, 0, none⟩) n cap) ∧ W.cell? ⟨g, 1, none⟩ = some (.int .i64 (p : Int)) ∧ W.cell? ⟨B, p * 3, none⟩ = some (.int .i64 (no : Int)) ∧ W.cell? ⟨B, p * 3 + 1, none⟩ = some (.int .i64 (I : Int)) ∧ W.cell? ⟨B, p * 3 + 2, none⟩ = some (.string T))
  (first | exact ⟨c0, c1, x0, x1, x2⟩ | assumption | exact ⟨cells_alloc c0, cells_alloc c1, cells_alloc x0, cells_alloc x1, cells_alloc x2⟩) (fail)
 have HX := hid (HR0.out.below (below_ad W1 (.cells #[.int .i64 (no : Int), .int .i64 (I : Int), .string T] 62)) HR0.out.lt)
 have HD2 := hid (HD0.out.go (below_ad W1 (.cells #[.int .i64 (no : Int), .int .i64 (I : Int), .string T] 62)))
 have HB2 := hid (HB0.out.trans ((below_ad W1 (.cells #[.int .i64 (no : Int), .int .i64 (I : Int), .string T] 62)).mono HB0.out.size))
 have HS2 : Hid (w.heap.size + 1 ≤ ((W1.alloc (.cells #[.int .i64 (no : Int), .int .i64 (I : Int), .string T] 62)).drew).heap.size) := hid (by rw [← HS0.out]; exact (below_ad W1 _).size)
 have HL : Hid (Row3 ((W1.alloc (.cells #[.int .i64 (no : Int), .int .i64 (I : Int), .string T] 62)).drew) W1.heap.size 62 (.int .i64 (no : Int)) (.int .i64 (I : Int)) (.string T)) := hid (Row3.make W1 _ _ _ _)
 clear c0 c1 x0 x1 x2 HR0 HD0 HB0
 generalize (W1.alloc (.cells #[.int .i64 (no : Int), .int .i64 (I : Int), .string T] 62)).drew = W2 at *
 generalize W1.heap.size = lb at *
 obtain ⟨y0, y1, y2⟩ := HL.out.cells
 go_wp2_with fail
 refine (HROW.out _).mono ?_
 rintro e w' ⟨rfl, rfl⟩
 go_wp2_with fail
 refine (HENT.out _ (HD2.out.some_max HMX.out)).mono ?_
 rintro e w3 ⟨yy, rr, -, -, rfl, hb⟩
 have HX4 := hid (HX.out.below hb HX.out.lt)
 have HL4 := hid (HL.out.below hb HL.out.lt)
 have HD4 := hid (HD2.out.go hb)
 have HB4 := hid (HB2.out.trans (hb.mono HB2.out.size))
 have HS4 : Hid (w.heap.size + 1 ≤ w3.heap.size) := hid (Nat.le_trans HS2.out hb.size)
 clear hb HX HL HD2 HB2 HS2 y0 y1 y2
 obtain ⟨y0, y1, y2⟩ := HL4.out.cells
 go_wp2_with fail
 refine (HVL.out _ HD4.out).mono ?_
 rintro e w5 ⟨k, t, a, i, cc, A, m, q, E, rfl, hk, hc⟩
 have HX3 := hid (HD.out.row4 hk (Nat.le_refl _) HX4.out)
 have HK3 := hid hk
 have HC := hid hc
 clear hk hc
 obtain ⟨r0, r1, r2, r3⟩ := HX3.out.cells
 obtain ⟨fr0, fr1, fr2, fr3⟩ := HX3.out.frozen
 go_wp2
 refine bodyPost_ret (v := .tuple #[.agg #[.int .i64 k, .string t, .slice a i cc, .slice A m q], .int .i64 E]) (by simp [results, Tryz.results52, go_sem, r0, r1, r2, r3]) rfl ?_
 exact out_on HD.out (KP.of HB4.out) HS4.out HK3.out HC.out
theorem readBlock_any {N : Nat} (is : SeqOf N) (im : MapOf N) (hm : SomeMax w0) (h : RD w0 g sl n w M p) (hx : M.drop p = x :: l) (hN : 2 * big (x :: l) ≤ N) :
  Calls Tryz.prog 52 #[.pointer (some ⟨g, 0, none⟩)] w (Out w0 g sl n M p (p + 1) x.ind (blkB (x :: l)) w) := by
 cases hh : hyp x.text with
 | true => exact readBlock_seq hm h hx is hN hh
 | false =>
  cases he : entP x.text with
  | none => exact readBlock_bad hm h hx hh he
  | some o =>
   cases o with
   | none => exact readBlock_val hm h hx hh he
   | some pr => exact readBlock_map hm h hx im hN hh pr he
end
end
end Go.Proofs.YtmdgpejedbkkdaaGreatDoor
