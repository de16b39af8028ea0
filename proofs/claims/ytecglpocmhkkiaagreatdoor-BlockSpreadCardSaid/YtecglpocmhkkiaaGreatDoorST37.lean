/- BloEnt -/
import Derived.Test.YtecglpocmhkkiaaGreatDoorST10
import Derived.Test.YtecglpocmhkkiaaGreatDoorST13
import Derived.Test.YtecglpocmhkkiaaGreatDoorST15
import Derived.Test.YtecglpocmhkkiaaGreatDoorST33
import Derived.Test.YtecglpocmhkkiaaGreatDoorST4
import Derived.Test.YtecglpocmhkkiaaGreatDoorST7
set_option linter.unusedVariables false
set_option linter.unusedSimpArgs false
set_option maxRecDepth 100000
set_option maxHeartbeats 16000000
open Go.Lib (hid)
namespace Go.Proofs.YtecglpocmhkkiaaGreatDoor
section
open Go.RowKit Go.Sort
open Nw N8 Q6 F9 B10
theorem app_data (a b : ByteArray) : (a ++ b).data.toList = a.data.toList ++ b.data.toList := by simp [ByteArray.data_append]
theorem colonAt_any (s : ByteArray) (w : World) (hw : SomeMax w) (hs : s.size ≤ 1000000) (x : Int) (hx : colN s.data.toList = x) :
  Calls Tryz.prog 44 #[.string s] w fun e w' => e = .returned (.int .i64 x) ∧ w = w' := by
 obtain ⟨m, hm⟩ := hw
 obtain ⟨z, hz⟩ : ∃ z : ByteArray, s ++ ⟨#[32]⟩ = z := ⟨_, rfl⟩
 have hzd : z.data.toList = s.data.toList ++ [32] := by rw [← hz, app_data]
 have hzs : z.size = s.size + 1 := by rw [← len_eq, hzd, List.length_append, len_eq]; rfl
 have hc : Calls Tryz.prog 73 #[.string z, .string ⟨#[58, 32]⟩] w fun e w' => e = .returned (.int .i64 x) ∧ w' = w :=
  (Tryz.strings_Index z ⟨#[58, 32]⟩ m w (by omega) hm).mono fun e w' ⟨h1, h2⟩ => ⟨by rw [h1, hzd, ← hx]; exact congrArg (fun q => Ending.returned (.int .i64 q)) (col_index s.data.toList), h2⟩
 have HC := hid hc
 clear hm hx hc hzd hzs
 go_enter Tryz.func44, Tryz.ntmps44
 go_wp2_with fail
 refine HC.out.mono ?_
 rintro e w' ⟨rfl, rfl⟩
 go_wp2
 go_ret
 exact ⟨rfl, rfl⟩
theorem behindColon_any (s r : ByteArray) (k : Nat) (w : World) (hs : s.size ≤ 1000000) (hk : k < s.size) (hr : bhd s.data.toList k = r.data.toList) :
  Calls Tryz.prog 45 #[.string s, .int .i64 (k : Int)] w fun e w' => e = .returned (.string r) ∧ w = w' := by
 have hT : ∀ W, Calls Tryz.prog 53 #[.string (s.extract (k + 1) s.size), .string ⟨#[32]⟩] W fun e w' => e = .returned (.string r) ∧ w' = W := fun W => by
  refine (Tryz.strings_TrimLeft_one _ 32 (by decide) W).mono ?_
  rintro e w' ⟨rfl, rfl⟩
  refine ⟨?_, rfl⟩
  rw [trimL_blk, from_data, List.drop_drop, Ending.returned.injEq, Value.string.injEq]
  exact bytes_ext hr
 have HT := hid hT
 obtain ⟨j, hj⟩ : ∃ j : Nat, j = k + 1 := ⟨_, rfl⟩
 have wj : IntKind.i64.wrap ((k : Int) + 1) = (j : Int) := by rw [hj]; exact IntWalk.i64_in _ (by omega)
 have h1 : (j : Int) ≤ (s.size : Int) := by omega
 rw [← hj] at HT
 clear hT hr hj
 go_enter Tryz.func45, Tryz.ntmps45
 go_wp2_with (go_at_call 53; refine (HT.out _).mono ?_; rintro e w' ⟨rfl, rfl⟩)
 go_ret
 exact ⟨rfl, rfl⟩
def GivesE (K : Option (Option (L8 × L8))) (w : World) (e : Ending) (w' : World) : Prop :=
 ∃ (y r : ByteArray), y.data.toList = entY K ∧ r.data.toList = entR K ∧ e = .returned (.tuple #[.string y, .string r, .int .i64 (entN K)]) ∧ Below w.heap.size w w'
theorem gives_zero {K : Option (Option (L8 × L8))} {w w' : World} (hb : Below w.heap.size w w') (hK : K = some none) : GivesE K w (.returned (.tuple #[.string ⟨#[]⟩, .string ⟨#[]⟩, .int .i64 0])) w' := by
 subst hK
 exact ⟨⟨#[]⟩, ⟨#[]⟩, rfl, rfl, rfl, hb⟩
theorem gives_neg {K : Option (Option (L8 × L8))} {w w' : World} (hb : Below w.heap.size w w') (hK : K = none) : GivesE K w (.returned (.tuple #[.string ⟨#[]⟩, .string ⟨#[]⟩, .int .i64 (-1)])) w' := by
 subst hK
 exact ⟨⟨#[]⟩, ⟨#[]⟩, rfl, rfl, rfl, hb⟩
theorem gives_one {K : Option (Option (L8 × L8))} {w w' : World} {y r : ByteArray} (hb : Below w.heap.size w w') (h1 : y.data.toList = entY K) (h2 : r.data.toList = entR K) (h3 : (1 : Int) = entN K) : GivesE K w (.returned (.tuple #[.string y, .string r, .int .i64 1])) w' := ⟨y, r, h1, h2, by rw [← h3], hb⟩
theorem quotedEntry_any (s : ByteArray) (w : World) (hw : SomeMax w) (hs : s.size ≤ 100000) (hne : s.data.toList ≠ []) (hq : isQ (s.data.toList.headD 0) = true) (K : Option (Option (L8 × L8)))
  (hK : (match scnP s.data.toList with | none => some none | some p => if mrk s.data.toList p.2 then some (some (p.1, bhd s.data.toList p.2)) else some none) = K) :
  Calls Tryz.prog 25 #[.string s] w (GivesE K w) := by
 obtain ⟨v1, v2, v3⟩ := (scan_zero hne).1 hq
 obtain ⟨n, hn⟩ : ∃ n, s.size = n := ⟨_, rfl⟩
 have hlen : s.data.toList.length = n := (len_eq s).trans hn
 have HMX := hid hw
 cases hsc : scnP s.data.toList with
 | none =>
  rw [hsc] at hK v1 v2 v3
  have HSC := hid (Scan_any s 0 w (by omega) (by omega) (by omega) ⟨#[]⟩ 0 3 (by rw [v1]; rfl) (by rw [v2]; rfl) (by rw [v3]; rfl))
  have HE : Hid (K = some none) := hid hK.symm
  clear hK v1 v2 v3 hsc hne hq hlen hw
  go_enter Tryz.func25, Tryz.ntmps25
  go_wp2_with fail
  refine HSC.out.mono ?_
  rintro e w1 ⟨rfl, hb⟩
  go_wp2
  go_ret3
  exact gives_zero hb HE.out
 | some p =>
  obtain ⟨t, m⟩ := p
  have hmf := scn_facts hsc hne
  rw [hsc] at hK v1 v2 v3
  rw [hlen] at hmf
  have hmn : m ≤ n := hmf.2
  have hK : (if mrk s.data.toList m then some (some (t, bhd s.data.toList m)) else some none) = K := hK
  obtain ⟨Q, hQQ⟩ : ∃ Q, ba t = Q := ⟨_, rfl⟩
  have hQl : Q.data.toList = t := by rw [← hQQ, ba_data]
  have HSC := hid (Scan_any s 0 w (by omega) (by omega) (by omega) Q (m : Int) 0 (by rw [v1, hQl]; rfl) (by rw [v2]; rfl) (by rw [v3]; rfl))
  obtain ⟨S, hS⟩ : ∃ S, s.extract m n = S := ⟨_, rfl⟩
  have hSd : S.data.toList = s.data.toList.drop m := by rw [← hS, ← hn]; exact from_data s m
  have hSs : S.size ≤ 100000 := by rw [← len_eq, hSd, List.length_drop, len_eq]; omega
  obtain ⟨x, hx⟩ : ∃ x, colN S.data.toList = x := ⟨_, rfl⟩
  have hx0 : x = 0 ↔ mrk s.data.toList m = true := by rw [← hx, hSd]; exact col_zero (by rw [hlen]; exact hmn)
  have HCO := hid (fun W hW => colonAt_any S W hW (by omega) x hx)
  have le1 : (m : Int) ≤ (n : Int) := by omega
  cases hm : mrk s.data.toList m with
  | true =>
   obtain rfl : x = 0 := hx0.2 hm
   have hml : m < n := by
    rcases Nat.lt_or_ge m n with h | h
    ·exact h
    ·rw [← hlen] at h
     have h2 := (col_zero (l := s.data.toList) (m := m) (by rw [hlen]; exact hmn)).2 hm
     rw [List.drop_of_length_le h] at h2
     exact absurd h2 (by unfold colN; rw [fst_end (l := []) (k := 0) (Nat.le_refl _)]; decide)
   rw [hm, if_pos rfl] at hK
   obtain ⟨r, hr⟩ : ∃ r, ba (bhd s.data.toList m) = r := ⟨_, rfl⟩
   have hrl : bhd s.data.toList m = r.data.toList := by rw [← hr, ba_data]
   have HBH := hid (fun W => behindColon_any s r m W (by omega) (by omega) hrl)
   have HE : Hid (Q.data.toList = entY K ∧ r.data.toList = entR K ∧ (1 : Int) = entN K) := hid ⟨by rw [← hK]; exact hQl, by rw [← hK]; exact hrl.symm, by rw [← hK]; rfl⟩
   clear hK v1 v2 v3 hsc hne hq hlen hw hmf hQQ hQl hSd hSs hx hx0 hm hr hrl
   go_enter Tryz.func25, Tryz.ntmps25
   go_wp2_with fail
   refine HSC.out.mono ?_
   rintro e w1 ⟨rfl, hb⟩
   have HW := hid hb
   have HM := hid (HMX.out.keep hb)
   clear hb
   go_wp2_with (first
    | (go_at_call 44; refine (HCO.out _ HM.out).mono ?_; rintro e w' ⟨rfl, rfl⟩)
    | (go_at_call 45; refine (HBH.out _).mono ?_; rintro e w' ⟨rfl, rfl⟩))
   go_ret3
   exact gives_one HW.out HE.out.1 HE.out.2.1 HE.out.2.2
  | false =>
   have hxn : x ≠ 0 := fun e => by rw [hx0.1 e] at hm; cases hm
   have xb : (x == 0) = false := beq_eq_false_iff_ne.2 hxn
   rw [hm, if_neg Bool.false_ne_true] at hK
   have HE : Hid (K = some none) := hid hK.symm
   clear hK v1 v2 v3 hsc hne hq hlen hw hmf hQQ hQl hSd hSs hx hx0 hm hxn
   go_enter Tryz.func25, Tryz.ntmps25
   go_wp2_with fail
   refine HSC.out.mono ?_
   rintro e w1 ⟨rfl, hb⟩
   have HW := hid hb
   have HM := hid (HMX.out.keep hb)
   clear hb
   go_wp2_with (go_at_call 44; refine (HCO.out _ HM.out).mono ?_; rintro e w' ⟨rfl, rfl⟩)
   go_ret3
   exact gives_zero HW.out HE.out
theorem plainEntry_any (s : ByteArray) (w : World) (hw : SomeMax w) (hs : s.size ≤ 100000) (K : Option (Option (L8 × L8)))
  (hK : (match fstM s.data.toList 0 with | none => some none | some k => if plainB (s.data.toList.take k) && !decide (s.data.toList.take k = [60, 60]) then some (some (s.data.toList.take k, bhd s.data.toList k)) else none) = K) :
  Calls Tryz.prog 26 #[.string s] w (GivesE K w) := by
 obtain ⟨n, hn⟩ : ∃ n, s.size = n := ⟨_, rfl⟩
 have hlen : s.data.toList.length = n := (len_eq s).trans hn
 cases hf : fstM s.data.toList 0 with
 | none =>
  have HCO := hid (colonAt_any s w hw (by omega) (-1) (by unfold colN; rw [hf]))
  rw [hf] at hK
  have HE : Hid (K = some none) := hid hK.symm
  clear hK hf hlen hw
  go_enter Tryz.func26, Tryz.ntmps26
  go_wp2_with (go_at_call 44; refine HCO.out.mono ?_; rintro e w' ⟨rfl, rfl⟩)
  go_ret3
  exact gives_zero (Below.refl _ _) HE.out
 | some k =>
  have HCO := hid (colonAt_any s w hw (by omega) (k : Int) (by unfold colN; rw [hf]))
  have hkl : k < n := by rw [← hlen]; exact ((fst_spec _ s.data.toList 0 (Nat.le_refl _)).1 k hf).2.1
  rw [hf] at hK
  have hK : (if plainB (s.data.toList.take k) && !decide (s.data.toList.take k = [60, 60]) then some (some (s.data.toList.take k, bhd s.data.toList k)) else none) = K := hK
  obtain ⟨t, ht⟩ : ∃ t, s.extract 0 k = t := ⟨_, rfl⟩
  have htl : t.data.toList = s.data.toList.take k := by rw [← ht, Lib.extract_data, List.drop_zero, Nat.sub_zero]
  have hts : t.size ≤ 1000000 := by rw [← len_eq, htl, List.length_take, len_eq]; omega
  have kz : ¬ (k : Int) < 0 := by omega
  have le1 : (k : Int) ≤ (n : Int) := by omega
  rw [← htl] at hK
  cases hpl : plainB t.data.toList with
  | false =>
   have HPL := hid (fun W => Plain_q t false W (by unfold maxLen; omega) hpl)
   rw [hpl, Bool.false_and, if_neg Bool.false_ne_true] at hK
   have HE : Hid (K = none) := hid hK.symm
   clear hK hf hlen hw htl hts hpl
   go_enter Tryz.func26, Tryz.ntmps26
   go_wp2_with (first
    | (go_at_call 44; refine HCO.out.mono ?_; rintro e w' ⟨rfl, rfl⟩)
    | (go_at_call 46; refine (HPL.out _).mono ?_; rintro e w' ⟨rfl, rfl⟩))
   go_ret3
   exact gives_neg (Below.refl _ _) HE.out
  | true =>
   have HPL := hid (fun W => Plain_q t true W (by unfold maxLen; omega) hpl)
   rw [hpl, Bool.true_and] at hK
   by_cases h6 : t.data.toList = [60, 60]
   ·have b2 : (t.toList == [60, 60]) = true := by rw [ByteArray.toList_eq]; exact beq_iff_eq.2 h6
    rw [decide_eq_true h6] at hK
    have HE : Hid (K = none) := hid hK.symm
    clear hK hf hlen hw htl hts hpl h6
    go_enter Tryz.func26, Tryz.ntmps26
    go_wp2_with (first
     | (go_at_call 44; refine HCO.out.mono ?_; rintro e w' ⟨rfl, rfl⟩)
     | (go_at_call 46; refine (HPL.out _).mono ?_; rintro e w' ⟨rfl, rfl⟩))
    go_ret3
    exact gives_neg (Below.refl _ _) HE.out
   ·have b2 : (t.toList == [60, 60]) = false := by rw [ByteArray.toList_eq]; exact beq_eq_false_iff_ne.2 h6
    rw [decide_eq_false h6] at hK
    have hK : some (some (t.data.toList, bhd s.data.toList k)) = K := hK
    obtain ⟨r, hr⟩ : ∃ r, ba (bhd s.data.toList k) = r := ⟨_, rfl⟩
    have hrl : bhd s.data.toList k = r.data.toList := by rw [← hr, ba_data]
    have HBH := hid (fun W => behindColon_any s r k W (by omega) (by omega) hrl)
    have HE : Hid (t.data.toList = entY K ∧ r.data.toList = entR K ∧ (1 : Int) = entN K) := hid ⟨by rw [← hK]; rfl, by rw [← hK]; exact hrl.symm, by rw [← hK]; rfl⟩
    clear hK hf hlen hw htl hts hpl h6 hr hrl
    go_enter Tryz.func26, Tryz.ntmps26
    go_wp2_with (first
     | (go_at_call 44; refine HCO.out.mono ?_; rintro e w' ⟨rfl, rfl⟩)
     | (go_at_call 46; refine (HPL.out _).mono ?_; rintro e w' ⟨rfl, rfl⟩)
     | (go_at_call 45; refine (HBH.out _).mono ?_; rintro e w' ⟨rfl, rfl⟩))
    go_ret3
    exact gives_one (Below.refl _ _) HE.out.1 HE.out.2.1 HE.out.2.2
theorem Entry_any (s : ByteArray) (w : World) (hw : SomeMax w) (hs : s.size ≤ 100000) (K : Option (Option (L8 × L8))) (hK : entP s.data.toList = K) :
  Calls Tryz.prog 10 #[.string s] w (GivesE K w) := by
 obtain ⟨h, hh⟩ : ∃ h, hyp s.data.toList = h := ⟨_, rfl⟩
 obtain ⟨a, ha⟩ : ∃ a, decide (s.data.toList.headD 0 = 91) = a := ⟨_, rfl⟩
 obtain ⟨b, hb⟩ : ∃ b, decide (s.data.toList.headD 0 = 123) = b := ⟨_, rfl⟩
 obtain ⟨q, hq⟩ : ∃ q, isQ (s.data.toList.headD 0) = q := ⟨_, rfl⟩
 have HH := hid (Row_any10 s h w hh)
 have HF := hid (isFlow_any s a b w ha hb)
 have HQ := hid (isQuoted_any s q w hq)
 cases h with
 | true =>
  have HE : Hid (K = some none) := hid (hK.symm.trans (ent_zero (by rw [hh, Bool.or_true]; rfl)))
  clear hh ha hb hq hK hw
  go_enter Tryz.func10, Tryz.ntmps10
  go_wp2_with (go_at_call 12; refine HH.out.mono ?_; rintro e w' ⟨rfl, rfl⟩)
  go_ret3
  exact gives_zero (Below.refl _ _) HE.out
 | false =>
 obtain ⟨f, hf⟩ : ∃ f, (a || b) = f := ⟨_, rfl⟩
 rw [hf] at HF
 cases f with
 | true =>
  have HE : Hid (K = some none) := hid (hK.symm.trans (ent_zero (by rw [ha, hb, Bool.or_assoc, hf, Bool.or_true])))
  clear hh ha hb hq hK hw hf
  go_enter Tryz.func10, Tryz.ntmps10
  go_wp2_with (first
   | (go_at_call 12; refine HH.out.mono ?_; rintro e w' ⟨rfl, rfl⟩)
   | (go_at_call 23; refine HF.out.mono ?_; rintro e w' ⟨rfl, rfl⟩))
  go_ret3
  exact gives_zero (Below.refl _ _) HE.out
 | false =>
 by_cases h0 : s.data.toList = []
 ·have HE : Hid (K = some none) := hid (hK.symm.trans (ent_zero (by rw [decide_eq_true h0]; rfl)))
  obtain rfl : q = false := by rw [← hq, h0]; decide
  have HP := hid (plainEntry_any s w hw hs (some none) (by rw [h0, fst_end (l := []) (k := 0) (Nat.le_refl _)]))
  clear hh ha hb hq hK hw hf
  go_enter Tryz.func10, Tryz.ntmps10
  go_wp2_with (first
   | (go_at_call 12; refine HH.out.mono ?_; rintro e w' ⟨rfl, rfl⟩)
   | (go_at_call 23; refine HF.out.mono ?_; rintro e w' ⟨rfl, rfl⟩)
   | (go_at_call 24; refine HQ.out.mono ?_; rintro e w' ⟨rfl, rfl⟩)
   | (go_at_call 26; refine HP.out.mono ?_; rintro e w' ⟨y, r, hy, hr, rfl, hb9⟩))
  go_ret3
  obtain rfl := HE.out
  exact ⟨y, r, hy, hr, rfl, hb9⟩
 have hcond : (decide (s.data.toList = []) || hyp s.data.toList || decide (s.data.toList.headD 0 = 91) || decide (s.data.toList.headD 0 = 123)) = false := by
  rw [decide_eq_false h0, hh, ha, hb, Bool.or_assoc, hf]; rfl
 cases q with
 | true =>
  have HP := hid (quotedEntry_any s w hw hs h0 hq K ((ent_quote hcond hq).symm.trans hK))
  clear hh ha hb hq hK hw hf hcond
  go_enter Tryz.func10, Tryz.ntmps10
  go_wp2_with (first
   | (go_at_call 12; refine HH.out.mono ?_; rintro e w' ⟨rfl, rfl⟩)
   | (go_at_call 23; refine HF.out.mono ?_; rintro e w' ⟨rfl, rfl⟩)
   | (go_at_call 24; refine HQ.out.mono ?_; rintro e w' ⟨rfl, rfl⟩)
   | (go_at_call 25; refine HP.out.mono ?_; rintro e w' ⟨y, r, hy, hr, rfl, hb9⟩))
  go_ret3
  exact ⟨y, r, hy, hr, rfl, hb9⟩
 | false =>
  have HP := hid (plainEntry_any s w hw hs K ((ent_plain hcond hq).symm.trans hK))
  clear hh ha hb hq hK hw hf hcond
  go_enter Tryz.func10, Tryz.ntmps10
  go_wp2_with (first
   | (go_at_call 12; refine HH.out.mono ?_; rintro e w' ⟨rfl, rfl⟩)
   | (go_at_call 23; refine HF.out.mono ?_; rintro e w' ⟨rfl, rfl⟩)
   | (go_at_call 24; refine HQ.out.mono ?_; rintro e w' ⟨rfl, rfl⟩)
   | (go_at_call 26; refine HP.out.mono ?_; rintro e w' ⟨y, r, hy, hr, rfl, hb9⟩))
  go_ret3
  exact ⟨y, r, hy, hr, rfl, hb9⟩
end
end Go.Proofs.YtecglpocmhkkiaaGreatDoor
