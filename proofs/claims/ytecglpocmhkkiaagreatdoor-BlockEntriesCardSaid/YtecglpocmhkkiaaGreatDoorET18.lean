/- RefBlo2 -/
import Derived.BigQuiet
import Derived.Test.YtecglpocmhkkiaaGreatDoorET16
import Derived.Test.YtecglpocmhkkiaaGreatDoorET17
set_option linter.unusedVariables false
set_option linter.unusedSimpArgs false
set_option maxRecDepth 100000
set_option maxHeartbeats 16000000
open Go.Lib (hid)
namespace Go.Proofs.YtecglpocmhkkiaaGreatDoor
open Go.RowKit Go.Sort
open Nw N8 Q6 F9 B10
namespace B10
def entN (K : Option (Option (L8 × L8))) : Int := match K with | none => -1 | some none => 0 | some (some _) => 1
def entY (K : Option (Option (L8 × L8))) : L8 := match K with | some (some p) => p.1 | _ => []
def entR (K : Option (Option (L8 × L8))) : L8 := match K with | some (some p) => p.2 | _ => []
theorem ent_zero {l : L8} (h : (decide (l = []) || hyp l || decide (l.headD 0 = 91) || decide (l.headD 0 = 123)) = true) : entP l = some none := by
 unfold entP; exact if_pos h
theorem ent_quote {l : L8} (h : (decide (l = []) || hyp l || decide (l.headD 0 = 91) || decide (l.headD 0 = 123)) = false) (hq : isQ (l.headD 0) = true) : entP l = match scnP l with | none => some none | some p => if mrk l p.2 then some (some (p.1, bhd l p.2)) else some none := by
 unfold entP
 rw [if_neg (by rw [h]; decide), if_pos hq]
 cases scnP l <;> rfl
theorem ent_plain {l : L8} (h : (decide (l = []) || hyp l || decide (l.headD 0 = 91) || decide (l.headD 0 = 123)) = false) (hq : isQ (l.headD 0) = false) : entP l = match fstM l 0 with | none => some none | some k => if plainB (l.take k) && !decide (l.take k = [60, 60]) then some (some (l.take k, bhd l k)) else none := by
 unfold entP
 rw [if_neg (by rw [h]; decide), if_neg (by rw [hq]; decide)]
 cases fstM l 0 <;> rfl
theorem fst_go {l : L8} {k : Nat} (h : k < l.length) (hm : mrk l k = false) : fstM l k = fstM l (k + 1) := by rw [fstM, dif_pos h, hm, if_neg Bool.false_ne_true]
theorem fst_at {l : L8} {k : Nat} (h : k < l.length) (hm : mrk l k = true) : fstM l k = some k := by rw [fstM, dif_pos h, if_pos hm]
theorem fst_end {l : L8} {k : Nat} (h : l.length ≤ k) : fstM l k = none := by rw [fstM, dif_neg (by omega)]
end B10
theorem drew_below9 (w : World) (n : Nat) : Below w.heap.size w (w.drewN n) := ⟨rfl, rfl, rfl, Nat.le_refl _, fun _ _ => rfl⟩
theorem ret_ssi {a b c d : ByteArray} {x y : Int} (h1 : a.data.toList = c.data.toList) (h2 : b.data.toList = d.data.toList) (h3 : x = y) : Ending.returned (.tuple #[.string a, .string b, .int .i64 x]) = .returned (.tuple #[.string c, .string d, .int .i64 y]) := by
 have e1 : a = c := by rw [← ba_of a, ← ba_of c, h1]
 have e2 : b = d := by rw [← ba_of b, ← ba_of d, h2]
 rw [e1, e2, h3]
theorem REnt_any (s : ByteArray) (w : World) (n : Nat) (hn : s.size = n) (hs : n ≤ 100000) (K : Option (Option (L8 × L8))) (hK : entP s.data.toList = K) (y r : ByteArray) (hy : entY K = y.data.toList) (hr : entR K = r.data.toList) (x : Int) (hx : entN K = x) :
  Calls Tryz.prog 11 #[.string s] w fun e w' => e = .returned (.tuple #[.string y, .string r, .int .i64 x]) ∧ Below w.heap.size w w' := by
 have hlen : s.data.toList.length = n := (len_eq s).trans hn
 have HO : Hid (∀ K', entP s.data.toList = K' → entY K' = y.data.toList ∧ entR K' = r.data.toList ∧ entN K' = x) := hid fun K' h => by rw [← h, hK]; exact ⟨hy, hr, hx⟩
 have H0 : Hid (entP s.data.toList = some none → (⟨#[]⟩ : ByteArray).data.toList = y.data.toList ∧ (⟨#[]⟩ : ByteArray).data.toList = r.data.toList ∧ (0 : Int) = x) := hid fun h => HO.out _ h
 have HN : Hid (entP s.data.toList = none → (⟨#[]⟩ : ByteArray).data.toList = y.data.toList ∧ (⟨#[]⟩ : ByteArray).data.toList = r.data.toList ∧ (-1 : Int) = x) := hid fun h => HO.out _ h
 clear hK hy hr hx
 by_cases h0 : n = 0
 ·have e0 : s.data.toList = [] := List.length_eq_zero_iff.1 (hlen.trans h0)
  have HE := hid (H0.out (ent_zero (by rw [e0]; rfl)))
  obtain rfl := bytes_of (l := #[]) e0
  clear hlen e0 h0 hn hs HO H0 HN
  go_enter Tryz.func11, Tryz.ntmps11
  go_wp2
  go_ret3
  exact ⟨ret_ssi HE.out.1 HE.out.2.1 HE.out.2.2, Below.refl _ _⟩
 have hp : 0 < s.size := by omega
 have hpz : (0 : Int) < (n : Int) := by omega
 have hpe : ((n : Int) == 0) = false := beq_eq_false_iff_ne.2 (by omega)
 have hne : s.data.toList ≠ [] := by
  intro e
  rw [e] at hlen
  exact h0 hlen.symm
 obtain ⟨c, hc⟩ : ∃ c, s[0]'hp = c := ⟨_, rfl⟩
 have hhead : s.data.toList.headD 0 = c := by rw [headD_getD, getd s 0 hp, hc]
 cases hh : hyp s.data.toList with
 | true =>
  have HHY := hid (fun W => RHyp_any s true W (by omega) hh)
  have HE := hid (H0.out (ent_zero (by rw [hh, Bool.or_true]; rfl)))
  clear hlen hne hhead hh HO H0 HN
  go_enter Tryz.func11, Tryz.ntmps11
  go_wp2_with fail
  refine (HHY.out _).mono ?_
  rintro e w' ⟨rfl, rfl⟩
  go_wp2
  go_ret3
  exact ⟨ret_ssi HE.out.1 HE.out.2.1 HE.out.2.2, Below.refl _ _⟩
 | false =>
 have HHY := hid (fun W => RHyp_any s false W (by omega) hh)
 cases h91 : isC 91 c with
 | true =>
  have m91 := (isC_beq 91 c 91 rfl).trans h91
  have HE := hid (H0.out (ent_zero (by rw [hhead, show decide (c = 91) = true from h91, Bool.or_true]; rfl)))
  clear hlen hne hhead hh h91 HO H0 HN
  go_enter Tryz.func11, Tryz.ntmps11
  go_wp2_with fail
  refine (HHY.out _).mono ?_
  rintro e w' ⟨rfl, rfl⟩
  go_wp2
  go_ret3
  exact ⟨ret_ssi HE.out.1 HE.out.2.1 HE.out.2.2, Below.refl _ _⟩
 | false =>
 have m91 := (isC_beq 91 c 91 rfl).trans h91
 cases h123 : isC 123 c with
 | true =>
  have m123 := (isC_beq 123 c 123 rfl).trans h123
  have HE := hid (H0.out (ent_zero (by rw [hhead, show decide (c = 123) = true from h123, Bool.or_true])))
  clear hlen hne hhead hh h91 h123 HO H0 HN
  go_enter Tryz.func11, Tryz.ntmps11
  go_wp2_with fail
  refine (HHY.out _).mono ?_
  rintro e w' ⟨rfl, rfl⟩
  go_wp2
  go_ret3
  exact ⟨ret_ssi HE.out.1 HE.out.2.1 HE.out.2.2, Below.refl _ _⟩
 | false =>
 have m123 := (isC_beq 123 c 123 rfl).trans h123
 have hcond : (decide (s.data.toList = []) || hyp s.data.toList || decide (s.data.toList.headD 0 = 91) || decide (s.data.toList.headD 0 = 123)) = false := by
  rw [decide_eq_false hne, hh, hhead, show decide (c = 91) = false from h91, show decide (c = 123) = false from h123]; rfl
 cases hQ : isQ c with
 | true =>
  have hEP := ent_quote hcond (by rw [hhead]; exact hQ)
  obtain ⟨v1, v2, v3⟩ := (scan_zero hne).1 (by rw [hhead]; exact hQ)
  have HIQ : Hid (isC 34 c = true ∨ (isC 34 c = false ∧ isC 39 c = true)) := hid (by
   unfold isQ at hQ
   cases h : isC 34 c with
   | true => exact .inl rfl
   | false =>
    rw [show decide (c = 34) = false from h] at hQ
    exact .inr ⟨rfl, hQ⟩)
  cases hsc : scnP s.data.toList with
  | none =>
   rw [hsc] at hEP v1 v2 v3
   have HE := hid (H0.out hEP)
   have HSC := hid (fun W => RScan_any s 0 W (by omega) (by omega) (by omega) ⟨#[]⟩ 0 3 (by rw [v1]; rfl) (by rw [v2]; rfl) (by rw [v3]; rfl))
   clear hlen hne hhead hh h91 h123 hcond hQ hEP v1 v2 v3 hsc HO H0 HN
   rcases HIQ.out with a1 | ⟨a1, a2⟩
   ·have m34 := (isC_beq 34 c 34 rfl).trans a1
    clear a1
    go_enter Tryz.func11, Tryz.ntmps11
    go_wp2_with fail
    refine (HHY.out _).mono ?_
    rintro e w' ⟨rfl, rfl⟩
    go_wp2_with fail
    refine (HSC.out _).mono ?_
    rintro e w1 ⟨rfl, hb⟩
    go_wp2
    go_ret3
    exact ⟨ret_ssi HE.out.1 HE.out.2.1 HE.out.2.2, hb⟩
   ·have m34 := (isC_beq 34 c 34 rfl).trans a1
    have m39 := (isC_beq 39 c 39 rfl).trans a2
    clear a1 a2
    go_enter Tryz.func11, Tryz.ntmps11
    go_wp2_with fail
    refine (HHY.out _).mono ?_
    rintro e w' ⟨rfl, rfl⟩
    go_wp2_with fail
    refine (HSC.out _).mono ?_
    rintro e w1 ⟨rfl, hb⟩
    go_wp2
    go_ret3
    exact ⟨ret_ssi HE.out.1 HE.out.2.1 HE.out.2.2, hb⟩
  | some p =>
   obtain ⟨t, m⟩ := p
   have hmf := scn_facts hsc hne
   rw [hsc] at hEP v1 v2 v3
   rw [hlen] at hmf
   have hmn : m ≤ n := hmf.2
   have hEP : entP s.data.toList = if mrk s.data.toList m then some (some (t, bhd s.data.toList m)) else some none := hEP
   obtain ⟨Q, hQQ⟩ : ∃ Q, ba t = Q := ⟨_, rfl⟩
   have hQl : Q.data.toList = t := by rw [← hQQ, ba_data]
   have HSC := hid (fun W => RScan_any s 0 W (by omega) (by omega) (by omega) Q (m : Int) 0 (by rw [v1, hQl]; rfl) (by rw [v2]; rfl) (by rw [v3]; rfl))
   cases hm : mrk s.data.toList m with
   | true =>
    have hml := mrk_lt hm
    rw [hlen] at hml
    have HMK := hid (fun W => RMrk_any s m true W n hn (by omega) hmn hm)
    rw [hm, if_pos rfl] at hEP
    obtain ⟨o1, o2, o3⟩ := HO.out _ hEP
    have HBH := hid (fun W => RBhd_any s m W n hn (by omega) hml r o2)
    have HE : Hid (Q.data.toList = y.data.toList ∧ (1 : Int) = x) := hid ⟨hQl.trans o1, o3⟩
    clear hlen hne hhead hh h91 h123 hcond hQ hEP v1 v2 v3 hsc HO H0 HN hmf hQQ hQl hm o1 o2 o3
    rcases HIQ.out with a1 | ⟨a1, a2⟩
    ·have m34 := (isC_beq 34 c 34 rfl).trans a1
     clear a1
     go_enter Tryz.func11, Tryz.ntmps11
     go_wp2_with fail
     refine (HHY.out _).mono ?_
     rintro e w' ⟨rfl, rfl⟩
     go_wp2_with fail
     refine (HSC.out _).mono ?_
     rintro e w1 ⟨rfl, hb⟩
     go_wp2_with fail
     refine (HMK.out _).mono ?_
     rintro e w' ⟨rfl, rfl⟩
     go_wp2_with fail
     refine (HBH.out _).mono ?_
     rintro e w' ⟨rfl, rfl⟩
     go_wp2
     go_ret3
     exact ⟨ret_ssi HE.out.1 rfl HE.out.2, hb⟩
    ·have m34 := (isC_beq 34 c 34 rfl).trans a1
     have m39 := (isC_beq 39 c 39 rfl).trans a2
     clear a1 a2
     go_enter Tryz.func11, Tryz.ntmps11
     go_wp2_with fail
     refine (HHY.out _).mono ?_
     rintro e w' ⟨rfl, rfl⟩
     go_wp2_with fail
     refine (HSC.out _).mono ?_
     rintro e w1 ⟨rfl, hb⟩
     go_wp2_with fail
     refine (HMK.out _).mono ?_
     rintro e w' ⟨rfl, rfl⟩
     go_wp2_with fail
     refine (HBH.out _).mono ?_
     rintro e w' ⟨rfl, rfl⟩
     go_wp2
     go_ret3
     exact ⟨ret_ssi HE.out.1 rfl HE.out.2, hb⟩
   | false =>
    have HMK := hid (fun W => RMrk_any s m false W n hn (by omega) hmn hm)
    rw [hm, if_neg Bool.false_ne_true] at hEP
    have HE := hid (H0.out hEP)
    clear hlen hne hhead hh h91 h123 hcond hQ hEP v1 v2 v3 hsc HO H0 HN hmf hQQ hQl hm
    rcases HIQ.out with a1 | ⟨a1, a2⟩
    ·have m34 := (isC_beq 34 c 34 rfl).trans a1
     clear a1
     go_enter Tryz.func11, Tryz.ntmps11
     go_wp2_with fail
     refine (HHY.out _).mono ?_
     rintro e w' ⟨rfl, rfl⟩
     go_wp2_with fail
     refine (HSC.out _).mono ?_
     rintro e w1 ⟨rfl, hb⟩
     go_wp2_with fail
     refine (HMK.out _).mono ?_
     rintro e w' ⟨rfl, rfl⟩
     go_wp2
     go_ret3
     exact ⟨ret_ssi HE.out.1 HE.out.2.1 HE.out.2.2, hb⟩
    ·have m34 := (isC_beq 34 c 34 rfl).trans a1
     have m39 := (isC_beq 39 c 39 rfl).trans a2
     clear a1 a2
     go_enter Tryz.func11, Tryz.ntmps11
     go_wp2_with fail
     refine (HHY.out _).mono ?_
     rintro e w' ⟨rfl, rfl⟩
     go_wp2_with fail
     refine (HSC.out _).mono ?_
     rintro e w1 ⟨rfl, hb⟩
     go_wp2_with fail
     refine (HMK.out _).mono ?_
     rintro e w' ⟨rfl, rfl⟩
     go_wp2
     go_ret3
     exact ⟨ret_ssi HE.out.1 HE.out.2.1 HE.out.2.2, hb⟩
 | false =>
  have hEP := ent_plain hcond (by rw [hhead]; exact hQ)
  have h34 : isC 34 c = false ∧ isC 39 c = false := by
   unfold isQ at hQ
   rw [Bool.or_eq_false_iff] at hQ
   exact hQ
  have m34 := (isC_beq 34 c 34 rfl).trans h34.1
  have m39 := (isC_beq 39 c 39 rfl).trans h34.2
  have HEP := hid hEP
  have HLEN := hid hlen
  clear hne hhead hh h91 h123 hcond hQ hEP h34 hlen
  go_enter Tryz.func11, Tryz.ntmps11
  go_wp2_with fail
  refine (HHY.out _).mono ?_
  rintro e w' ⟨rfl, rfl⟩
  go_wp2
  go_loop [8] (fun si => ∃ j : Nat, j ≤ n ∧ si = .int .i64 (j : Int) ∧ Hid (fstM s.data.toList j = fstM s.data.toList 0)) (fun si => n - (intOf si).toNat)
  case atStart => exact ⟨0, Nat.zero_le _, rfl, hid rfl⟩
  case round =>
   obtain ⟨j, hj, rfl, HF⟩ := hrel
   by_cases hlt : j < n
   ·have hjz : (j : Int) < (n : Int) := by omega
    cases hm : mrk s.data.toList j with
    | false =>
     have HMK := hid (fun W => RMrk_any s j false W n hn (by omega) hj hm)
     have HF2 : Hid (fstM s.data.toList (j + 1) = fstM s.data.toList 0) := hid ((fst_go (by rw [HLEN.out]; exact hlt) hm).symm.trans HF.out)
     clear hm
     go_wp2_with fail
     refine (HMK.out _).mono ?_
     rintro e w' ⟨rfl, rfl⟩
     go_wp2
     go_round
     case rel => exact ⟨j + 1, by omega, by go_num, HF2⟩
     case measure => simp [intOf]; omega
    | true =>
     have HMK := hid (fun W => RMrk_any s j true W n hn (by omega) hj hm)
     have hEP := HEP.out
     rw [← HF.out, fst_at (by rw [HLEN.out]; exact hlt) hm] at hEP
     have hEP : entP s.data.toList = if plainB (s.data.toList.take j) && !decide (s.data.toList.take j = [60, 60]) then some (some (s.data.toList.take j, bhd s.data.toList j)) else none := hEP
     obtain ⟨t, ht⟩ : ∃ t, s.extract 0 j = t := ⟨_, rfl⟩
     have htl : t.data.toList = s.data.toList.take j := by rw [← ht, Lib.extract_data, List.drop_zero, Nat.sub_zero]
     have hts : t.size ≤ 1000000 := by rw [← len_eq, htl, List.length_take, HLEN.out]; omega
     have le2 : (j : Int) ≤ (n : Int) := by omega
     rw [← htl] at hEP
     cases hpl : plainB t.data.toList with
     | false =>
      have HPL := hid (fun W => RPlain_q t false W hts hpl)
      rw [hpl, Bool.false_and, if_neg Bool.false_ne_true] at hEP
      have HE := hid (HN.out hEP)
      clear hm hEP htl hts hpl
      go_wp2_with fail
      refine (HMK.out _).mono ?_
      rintro e w' ⟨rfl, rfl⟩
      go_wp2_with fail
      refine (HPL.out _).mono ?_
      rintro e w' ⟨rfl, rfl⟩
      go_wp2
      go_ret3
      exact ⟨ret_ssi HE.out.1 HE.out.2.1 HE.out.2.2, Below.refl _ _⟩
     | true =>
      have HPL := hid (fun W => RPlain_q t true W hts hpl)
      rw [hpl, Bool.true_and] at hEP
      by_cases h6 : t.data.toList = [60, 60]
      ·have b2 : (t.toList == [60, 60]) = true := by rw [ByteArray.toList_eq]; exact beq_iff_eq.2 h6
       rw [decide_eq_true h6] at hEP
       have HE := hid (HN.out hEP)
       clear hm hEP htl hts hpl h6
       go_wp2_with fail
       refine (HMK.out _).mono ?_
       rintro e w' ⟨rfl, rfl⟩
       go_wp2_with fail
       refine (HPL.out _).mono ?_
       rintro e w' ⟨rfl, rfl⟩
       go_wp2
       go_ret3
       exact ⟨ret_ssi HE.out.1 HE.out.2.1 HE.out.2.2, Below.refl _ _⟩
      ·have b2 : (t.toList == [60, 60]) = false := by rw [ByteArray.toList_eq]; exact beq_eq_false_iff_ne.2 h6
       rw [decide_eq_false h6] at hEP
       have hEP : entP s.data.toList = some (some (t.data.toList, bhd s.data.toList j)) := hEP
       obtain ⟨o1, o2, o3⟩ := HO.out _ hEP
       have HBH := hid (fun W => RBhd_any s j W n hn (by omega) hlt r o2)
       have HE : Hid (t.data.toList = y.data.toList ∧ (1 : Int) = x) := hid ⟨o1, o3⟩
       clear hm hEP htl hts hpl h6 o1 o2 o3
       go_wp2_with fail
       refine (HMK.out _).mono ?_
       rintro e w' ⟨rfl, rfl⟩
       go_wp2_with fail
       refine (HPL.out _).mono ?_
       rintro e w' ⟨rfl, rfl⟩
       go_wp2
       go_quiet (first | (go_at_call 29; exact (HBH.out _).mono fun e w' h => by obtain ⟨rfl, rfl⟩ := h; exact ⟨rfl, _, rfl⟩) | (go_at_call 29; exact (HBH.out _).mono fun e w' h => by obtain ⟨rfl, rfl⟩ := h; exact ⟨rfl, rfl⟩))
       go_wp2
       go_ret3
       exact ⟨ret_ssi HE.out.1 rfl HE.out.2, drew_below9 _ _⟩
   ·obtain rfl : j = n := by omega
    have hEP := HEP.out
    rw [← HF.out, fst_end (by rw [HLEN.out]; exact Nat.le_refl _)] at hEP
    have HE := hid (H0.out hEP)
    clear hEP
    go_wp2
    go_ret3
    exact ⟨ret_ssi HE.out.1 HE.out.2.1 HE.out.2.2, Below.refl _ _⟩
end Go.Proofs.YtecglpocmhkkiaaGreatDoor
