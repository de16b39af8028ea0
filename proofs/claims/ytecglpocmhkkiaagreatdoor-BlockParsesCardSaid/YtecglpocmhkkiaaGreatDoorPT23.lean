/- RefFlo4, FloStep, RefFlo5 -/
import Derived.Test.YtecglpocmhkkiaaGreatDoorPT16
import Derived.Test.YtecglpocmhkkiaaGreatDoorPT22
import Derived.Test.YtecglpocmhkkiaaGreatDoorPT3
set_option linter.unusedVariables false
set_option linter.unusedSimpArgs false
set_option maxRecDepth 100000
set_option maxHeartbeats 16000000
open Go.Lib (hid)
namespace Go.Proofs.YtecglpocmhkkiaaGreatDoor
open Go.RowKit Go.Sort
open Nw N8 Q6 F9
namespace F9
theorem scan_at {l : L8} {k : Nat} : scanR l k = (scnP (l.drop k)).map (push [] k) := by
 unfold scnP scanR
 have e1 : (l.drop k).getD 0 0 = l.getD k 0 := by rw [← headD_getD, drop_head]
 rw [e1]
 have e2 : (l.drop k).drop (0 + 1) = l.drop (k + 1) := by rw [List.drop_drop]
 split
 ·unfold atD
  rw [e2, push_push]; rfl
 ·unfold atS
  rw [e2, push_push]; rfl
theorem scan_k {l : L8} {k : Nat} (hk : k < l.length) (hq : isQ ((l.drop k).headD 0) = true) : scanV l (k : Int) = outV (scnP (l.drop k)) ∧ scanE l (k : Int) = outE (scnP (l.drop k)) ∧ ∀ t n, scnP (l.drop k) = some (t, n) → scanN l (k : Int) = ((k + n : Nat) : Int) := by
 have e : isQuote l (k : Int) = true := by
  unfold isQuote
  rw [drop_head] at hq
  unfold isQ at hq
  rw [decide_eq_true (show (0 : Int) ≤ (k : Int) by omega), decide_eq_true (show (k : Int) < (l.length : Int) by omega), Int.toNat_natCast]
  exact hq
 obtain ⟨h1, h2, h3⟩ := scan_is e
 rw [Int.toNat_natCast, scan_at] at h1 h2 h3
 refine ⟨?_, ?_, fun t n h => ?_⟩
 ·rw [h1]
  cases scnP (l.drop k) with
  | none => rfl
  | some p => rfl
 ·rw [h3]
  cases scnP (l.drop k) with
  | none => rfl
  | some p => rfl
 ·rw [h2, h]; rfl
def keyV (K : Option (L8 × Nat)) : L8 := match K with | none => [] | some p => p.1
def keyN (k : Nat) (K : Option (L8 × Nat)) : Int := match K with | none => -1 | some p => ((k + p.2 : Nat) : Int)
theorem key_quoted {m : L8} (h : isQ (m.headD 0) = true) : keyP m = match scnP m with | none => none | some p => if isC 58 ((m.drop (p.2 + blk (m.drop p.2))).headD 0) = true then some (p.1, p.2 + blk (m.drop p.2) + 1) else none := by
 unfold keyP
 rw [h, if_pos rfl]
 cases scnP m with
 | none => rfl
 | some p =>
  show (if _ then _ else _) = (if _ then _ else _)
  by_cases h5 : (m.drop (p.2 + blk (m.drop p.2))).headD 0 = 58
  ·rw [if_pos h5, if_pos (isC_iff.2 h5)]
  ·rw [if_neg h5, if_neg (fun e => h5 (isC_iff.1 e))]
theorem key_plain {m : L8} (h : isQ (m.headD 0) = false) : keyP m = if rowB (trm (m.take (pln m))) && isC 58 ((m.drop (pln m)).headD 0) then some (trm (m.take (pln m)), pln m + 1) else none := by
 unfold keyP
 rw [h, if_neg Bool.false_ne_true]
 rfl
end F9
theorem ret_si {a b : ByteArray} {x y : Int} (h : a.data.toList = b.data.toList) (g : x = y) : Ending.returned (.tuple #[.string a, .int .i64 x]) = .returned (.tuple #[.string b, .int .i64 y]) := by
 have : a = b := by rw [← ba_of a, ← ba_of b, h]
 rw [this, g]
theorem Rkey_any (s : ByteArray) (k : Nat) (w : World) (n : Nat) (hn : s.size = n) (hs : n ≤ 100000) (hk : k ≤ n) (k0 : Nat) (hk0 : k + blk (s.data.toList.drop k) = k0) (K : Option (L8 × Nat)) (hK : keyP (s.data.toList.drop k0) = K) (q : ByteArray) (hq : keyV K = q.data.toList) (x : Int) (hx : keyN k0 K = x) :
  Calls Tryz.prog 139 #[.string s, .int .i64 (k : Int)] w fun e w' => e = .returned (.tuple #[.string q, .int .i64 x]) ∧ Below w.heap.size w w' := by
 have hlen : s.data.toList.length = n := (len_eq s).trans hn
 have hkn : k0 ≤ n := by
  have := blk_le (s.data.toList.drop k)
  rw [List.length_drop, hlen] at this
  omega
 have HBK := hid (fun W => Rblanks_any s k W n hn (by omega) hk k0 hk0)
 have HIS := hid (fun (c : UInt8) hc (j : Nat) b h W => Ris_any s j c hc W n hn (by omega) b h)
 obtain ⟨m, hm⟩ : ∃ m, s.data.toList.drop k0 = m := ⟨_, rfl⟩
 rw [hm] at hK
 have hml : m.length = n - k0 := by rw [← hm, List.length_drop, hlen]
 have hmd : ∀ j, s.data.toList.drop (k0 + j) = m.drop j := fun j => by rw [← List.drop_drop, hm]
 have i34 : isC 34 ((s.data.toList.drop k0).headD 0) = decide (m.headD 0 = 34) := by rw [hm]; rfl
 have i39 : isC 39 ((s.data.toList.drop k0).headD 0) = decide (m.headD 0 = 39) := by rw [hm]; rfl
 have HMD := hid hmd
 cases hQ : isQ (m.headD 0) with
 | true =>
  have hne : m ≠ [] := by rintro rfl; exact absurd hQ (by decide)
  have hklt : k0 < s.data.toList.length := by
   have := List.length_pos_iff.2 hne
   omega
  obtain ⟨v1, v3, v2⟩ := scan_k hklt (by rw [hm]; exact hQ)
  rw [hm] at v1 v2 v3
  rw [key_quoted hQ] at hK
  have HIQ : Hid ((isC 34 ((s.data.toList.drop k0).headD 0) = true) ∨ (isC 34 ((s.data.toList.drop k0).headD 0) = false ∧ isC 39 ((s.data.toList.drop k0).headD 0) = true)) := hid (by
   rw [i34, i39]
   unfold isQ at hQ
   cases h : decide (m.headD 0 = 34) with
   | true => exact .inl rfl
   | false => rw [h] at hQ; exact .inr ⟨rfl, hQ⟩)
  cases hc : scnP m with
  | none =>
   rw [hc] at hK v1 v3
   have HE : Hid ((⟨#[]⟩ : ByteArray).data.toList = q.data.toList ∧ (-1 : Int) = x) := hid (by rw [← hq, ← hx, ← hK]; exact ⟨rfl, rfl⟩)
   have HSC := hid (fun W => RScan_any s (k0 : Int) W (by omega) (by omega) (by omega) ⟨#[]⟩ _ 3 (by rw [v1]; rfl) rfl (by rw [v3]; rfl))
   clear hK hq hx hm hml hmd i34 i39 hQ hne hklt v1 v2 v3 hc hk0
   rcases HIQ.out with a1 | ⟨a1, a2⟩
   ·have HA1 := hid a1
    clear a1
    go_enter Tryz.func139, Tryz.ntmps139
    go_wp2_with fail
    refine (HBK.out _).mono ?_
    rintro e w' ⟨rfl, rfl⟩
    go_wp2_with fail
    refine (HIS.out 34 (by decide) k0 true HA1.out _).mono ?_
    rintro e w' ⟨rfl, rfl⟩
    go_wp2_with fail
    refine (HSC.out _).mono ?_
    rintro e w2 ⟨rfl, hb⟩
    go_wp2
    go_ret2
    exact ⟨ret_si HE.out.1 HE.out.2, hb⟩
   ·have HA1 := hid a1
    have HA2 := hid a2
    clear a1 a2
    go_enter Tryz.func139, Tryz.ntmps139
    go_wp2_with fail
    refine (HBK.out _).mono ?_
    rintro e w' ⟨rfl, rfl⟩
    go_wp2_with fail
    refine (HIS.out 34 (by decide) k0 false HA1.out _).mono ?_
    rintro e w' ⟨rfl, rfl⟩
    go_wp2_with fail
    refine (HIS.out 39 (by decide) k0 true HA2.out _).mono ?_
    rintro e w' ⟨rfl, rfl⟩
    go_wp2_with fail
    refine (HSC.out _).mono ?_
    rintro e w2 ⟨rfl, hb⟩
    go_wp2
    go_ret2
    exact ⟨ret_si HE.out.1 HE.out.2, hb⟩
  | some p =>
   obtain ⟨t, j⟩ := p
   rw [hc] at hK v1 v3
   have hj := (scn_facts hc hne).2
   have v2 := v2 t j hc
   obtain ⟨Q, hQQ⟩ : ∃ Q, ba t = Q := ⟨_, rfl⟩
   have hQl : Q.data.toList = t := by rw [← hQQ, ba_data]
   have HSC := hid (fun W => RScan_any s (k0 : Int) W (by omega) (by omega) (by omega) Q ((k0 + j : Nat) : Int) 0 (by rw [v1, hQl]; rfl) v2 (by rw [v3]; rfl))
   obtain ⟨k2, hk2⟩ : ∃ k2, k0 + j + blk (s.data.toList.drop (k0 + j)) = k2 := ⟨_, rfl⟩
   have HB2 := hid (fun W => Rblanks_any s (k0 + j) W n hn (by omega) (by omega) k2 hk2)
   have hk2m : k2 = k0 + (j + blk (m.drop j)) := by rw [← hk2, hmd]; omega
   have hk2n : k2 ≤ n := by
    have := blk_le (m.drop j)
    rw [List.length_drop, hml] at this
    omega
   have wk : IntKind.i64.wrap ((k2 : Int) + 1) = (k2 : Int) + 1 := IntWalk.i64_in _ (by omega)
   have hK2 : (if isC 58 ((m.drop (j + blk (m.drop j))).headD 0) = true then some (t, j + blk (m.drop j) + 1) else none) = K := hK
   have hi58 : isC 58 ((s.data.toList.drop k2).headD 0) = isC 58 ((m.drop (j + blk (m.drop j))).headD 0) := by rw [hk2m, hmd]
   cases h58 : isC 58 ((m.drop (j + blk (m.drop j))).headD 0) with
   | true =>
    have HE : Hid (Q.data.toList = q.data.toList ∧ (k2 : Int) + 1 = x) := hid (by
     rw [← hq, ← hx, ← hK2, if_pos h58, hQl]
     refine ⟨rfl, ?_⟩
     show (k2 : Int) + 1 = ((k0 + (j + blk (m.drop j) + 1) : Nat) : Int)
     omega)
    have H5 := hid (hi58.trans h58)
    clear hK hK2 hq hx hm hml hmd i34 i39 hQ hne hklt v1 v2 v3 hc hk0 hj hQQ hQl hk2 hk2m hi58 h58
    rcases HIQ.out with a1 | ⟨a1, a2⟩
    ·have HA1 := hid a1
     clear a1
     go_enter Tryz.func139, Tryz.ntmps139
     go_wp2_with fail
     refine (HBK.out _).mono ?_
     rintro e w' ⟨rfl, rfl⟩
     go_wp2_with fail
     refine (HIS.out 34 (by decide) k0 true HA1.out _).mono ?_
     rintro e w' ⟨rfl, rfl⟩
     go_wp2_with fail
     refine (HSC.out _).mono ?_
     rintro e w2 ⟨rfl, hb⟩
     go_wp2_with fail
     refine (HB2.out _).mono ?_
     rintro e w' ⟨rfl, rfl⟩
     go_wp2_with fail
     refine (HIS.out 58 (by decide) k2 true H5.out _).mono ?_
     rintro e w' ⟨rfl, rfl⟩
     go_wp2
     go_ret2
     exact ⟨ret_si HE.out.1 HE.out.2, hb⟩
    ·have HA1 := hid a1
     have HA2 := hid a2
     clear a1 a2
     go_enter Tryz.func139, Tryz.ntmps139
     go_wp2_with fail
     refine (HBK.out _).mono ?_
     rintro e w' ⟨rfl, rfl⟩
     go_wp2_with fail
     refine (HIS.out 34 (by decide) k0 false HA1.out _).mono ?_
     rintro e w' ⟨rfl, rfl⟩
     go_wp2_with fail
     refine (HIS.out 39 (by decide) k0 true HA2.out _).mono ?_
     rintro e w' ⟨rfl, rfl⟩
     go_wp2_with fail
     refine (HSC.out _).mono ?_
     rintro e w2 ⟨rfl, hb⟩
     go_wp2_with fail
     refine (HB2.out _).mono ?_
     rintro e w' ⟨rfl, rfl⟩
     go_wp2_with fail
     refine (HIS.out 58 (by decide) k2 true H5.out _).mono ?_
     rintro e w' ⟨rfl, rfl⟩
     go_wp2
     go_ret2
     exact ⟨ret_si HE.out.1 HE.out.2, hb⟩
   | false =>
    have HE : Hid ((⟨#[]⟩ : ByteArray).data.toList = q.data.toList ∧ (-1 : Int) = x) := hid (by
     rw [← hq, ← hx, ← hK2, h58, if_neg Bool.false_ne_true]
     exact ⟨rfl, rfl⟩)
    have H5 := hid (hi58.trans h58)
    clear hK hK2 hq hx hm hml hmd i34 i39 hQ hne hklt v1 v2 v3 hc hk0 hj hQQ hQl hk2 hk2m hi58 h58
    rcases HIQ.out with a1 | ⟨a1, a2⟩
    ·have HA1 := hid a1
     clear a1
     go_enter Tryz.func139, Tryz.ntmps139
     go_wp2_with fail
     refine (HBK.out _).mono ?_
     rintro e w' ⟨rfl, rfl⟩
     go_wp2_with fail
     refine (HIS.out 34 (by decide) k0 true HA1.out _).mono ?_
     rintro e w' ⟨rfl, rfl⟩
     go_wp2_with fail
     refine (HSC.out _).mono ?_
     rintro e w2 ⟨rfl, hb⟩
     go_wp2_with fail
     refine (HB2.out _).mono ?_
     rintro e w' ⟨rfl, rfl⟩
     go_wp2_with fail
     refine (HIS.out 58 (by decide) k2 false H5.out _).mono ?_
     rintro e w' ⟨rfl, rfl⟩
     go_wp2
     go_ret2
     exact ⟨ret_si HE.out.1 HE.out.2, hb⟩
    ·have HA1 := hid a1
     have HA2 := hid a2
     clear a1 a2
     go_enter Tryz.func139, Tryz.ntmps139
     go_wp2_with fail
     refine (HBK.out _).mono ?_
     rintro e w' ⟨rfl, rfl⟩
     go_wp2_with fail
     refine (HIS.out 34 (by decide) k0 false HA1.out _).mono ?_
     rintro e w' ⟨rfl, rfl⟩
     go_wp2_with fail
     refine (HIS.out 39 (by decide) k0 true HA2.out _).mono ?_
     rintro e w' ⟨rfl, rfl⟩
     go_wp2_with fail
     refine (HSC.out _).mono ?_
     rintro e w2 ⟨rfl, hb⟩
     go_wp2_with fail
     refine (HB2.out _).mono ?_
     rintro e w' ⟨rfl, rfl⟩
     go_wp2_with fail
     refine (HIS.out 58 (by decide) k2 false H5.out _).mono ?_
     rintro e w' ⟨rfl, rfl⟩
     go_wp2
     go_ret2
     exact ⟨ret_si HE.out.1 HE.out.2, hb⟩
 | false =>
  rw [key_plain hQ] at hK
  have HIQ : Hid (isC 34 ((s.data.toList.drop k0).headD 0) = false ∧ isC 39 ((s.data.toList.drop k0).headD 0) = false) := hid (by
   rw [i34, i39]
   unfold isQ at hQ
   rw [Bool.or_eq_false_iff] at hQ
   exact hQ)
  obtain ⟨e, he⟩ : ∃ e, k0 + pln (s.data.toList.drop k0) = e := ⟨_, rfl⟩
  have HPL := hid (fun W => Rplain9_any s k0 W n hn (by omega) hkn e he)
  have hem : e = k0 + pln m := by rw [← he, hm]
  have hpn := pln_le m
  rw [hml] at hpn
  have hen : e ≤ n := by omega
  obtain ⟨t, ht⟩ : ∃ t, s.extract k0 e = t := ⟨_, rfl⟩
  have htl : t.data.toList = m.take (pln m) := by rw [← ht, Lib.extract_data, hm, hem, Nat.add_sub_cancel_left]
  have hts : t.size ≤ 100000 := by rw [← len_eq, htl, List.length_take]; omega
  obtain ⟨y, hy⟩ : ∃ y, ba (trm t.data.toList) = y := ⟨_, rfl⟩
  have hyl : y.data.toList = trm t.data.toList := by rw [← hy, ba_data]
  have hys : y.size ≤ 100000 := by
   have := trm_le t.data.toList
   rw [← len_eq, hyl]
   rw [len_eq] at this
   omega
  have HTR := hid (fun W => Rtrimmed_any t W (by omega) y hyl.symm)
  have HRO := hid (fun b (h : rowB y.data.toList = b) W => RRow_q y b W (by omega) h)
  rw [← htl, ← hyl] at hK
  have wk : IntKind.i64.wrap ((e : Int) + 1) = (e : Int) + 1 := IntWalk.i64_in _ (by omega)
  have le1 : (k0 : Int) ≤ (e : Int) := by omega
  have le2 : (e : Int) ≤ (n : Int) := by omega
  have hi58 : isC 58 ((s.data.toList.drop e).headD 0) = isC 58 ((m.drop (pln m)).headD 0) := by rw [hem, hmd]
  rw [← hi58] at hK
  cases hr : rowB y.data.toList with
  | false =>
   rw [hr, Bool.false_and, if_neg Bool.false_ne_true] at hK
   have HE : Hid ((⟨#[]⟩ : ByteArray).data.toList = q.data.toList ∧ (-1 : Int) = x) := hid (by rw [← hq, ← hx, ← hK]; exact ⟨rfl, rfl⟩)
   have HR := hid (HRO.out false hr)
   clear hK hq hx hm hml hmd i34 i39 hQ hk0 he hem hpn htl hy hyl hi58 hr HRO
   go_enter Tryz.func139, Tryz.ntmps139
   go_wp2_with fail
   refine (HBK.out _).mono ?_
   rintro e w' ⟨rfl, rfl⟩
   go_wp2_with fail
   refine (HIS.out 34 (by decide) k0 false HIQ.out.1 _).mono ?_
   rintro e w' ⟨rfl, rfl⟩
   go_wp2_with fail
   refine (HIS.out 39 (by decide) k0 false HIQ.out.2 _).mono ?_
   rintro e w' ⟨rfl, rfl⟩
   go_wp2_with fail
   refine (HPL.out _).mono ?_
   rintro e w' ⟨rfl, rfl⟩
   go_wp2_with fail
   refine (HTR.out _).mono ?_
   rintro e w' ⟨rfl, rfl⟩
   go_wp2_with fail
   refine (HR.out _).mono ?_
   rintro e w' ⟨rfl, rfl⟩
   go_wp2
   go_ret2
   exact ⟨ret_si HE.out.1 HE.out.2, Below.refl _ _⟩
  | true =>
   rw [hr, Bool.true_and] at hK
   have HR := hid (HRO.out true hr)
   cases h58 : isC 58 ((s.data.toList.drop e).headD 0) with
   | false =>
    have HE : Hid ((⟨#[]⟩ : ByteArray).data.toList = q.data.toList ∧ (-1 : Int) = x) := hid (by
     rw [← hq, ← hx, ← hK, h58, if_neg Bool.false_ne_true]
     exact ⟨rfl, rfl⟩)
    have H5 := hid h58
    clear hK hq hx hm hml hmd i34 i39 hQ hk0 he hem hpn htl hy hyl hi58 hr HRO h58
    go_enter Tryz.func139, Tryz.ntmps139
    go_wp2_with fail
    refine (HBK.out _).mono ?_
    rintro e w' ⟨rfl, rfl⟩
    go_wp2_with fail
    refine (HIS.out 34 (by decide) k0 false HIQ.out.1 _).mono ?_
    rintro e w' ⟨rfl, rfl⟩
    go_wp2_with fail
    refine (HIS.out 39 (by decide) k0 false HIQ.out.2 _).mono ?_
    rintro e w' ⟨rfl, rfl⟩
    go_wp2_with fail
    refine (HPL.out _).mono ?_
    rintro e w' ⟨rfl, rfl⟩
    go_wp2_with fail
    refine (HTR.out _).mono ?_
    rintro e w' ⟨rfl, rfl⟩
    go_wp2_with fail
    refine (HR.out _).mono ?_
    rintro e w' ⟨rfl, rfl⟩
    go_wp2_with fail
    refine (HIS.out 58 (by decide) _ false H5.out _).mono ?_
    rintro e w' ⟨rfl, rfl⟩
    go_wp2
    go_ret2
    exact ⟨ret_si HE.out.1 HE.out.2, Below.refl _ _⟩
   | true =>
    have HE : Hid (y.data.toList = q.data.toList ∧ (e : Int) + 1 = x) := hid (by
     rw [← hq, ← hx, ← hK, if_pos h58]
     refine ⟨rfl, ?_⟩
     show (e : Int) + 1 = ((k0 + (pln m + 1) : Nat) : Int)
     omega)
    have H5 := hid h58
    clear hK hq hx hm hml hmd i34 i39 hQ hk0 he hem hpn htl hy hyl hi58 hr HRO h58
    go_enter Tryz.func139, Tryz.ntmps139
    go_wp2_with fail
    refine (HBK.out _).mono ?_
    rintro e w' ⟨rfl, rfl⟩
    go_wp2_with fail
    refine (HIS.out 34 (by decide) k0 false HIQ.out.1 _).mono ?_
    rintro e w' ⟨rfl, rfl⟩
    go_wp2_with fail
    refine (HIS.out 39 (by decide) k0 false HIQ.out.2 _).mono ?_
    rintro e w' ⟨rfl, rfl⟩
    go_wp2_with fail
    refine (HPL.out _).mono ?_
    rintro e w' ⟨rfl, rfl⟩
    go_wp2_with fail
    refine (HTR.out _).mono ?_
    rintro e w' ⟨rfl, rfl⟩
    go_wp2_with fail
    refine (HR.out _).mono ?_
    rintro e w' ⟨rfl, rfl⟩
    go_wp2_with fail
    refine (HIS.out 58 (by decide) _ true H5.out _).mono ?_
    rintro e w' ⟨rfl, rfl⟩
    go_wp2
    go_ret2
    exact ⟨ret_si HE.out.1 HE.out.2, Below.refl _ _⟩
end Go.Proofs.YtecglpocmhkkiaaGreatDoor
namespace Go.Proofs.YtecglpocmhkkiaaGreatDoor
namespace F9
open Nw N8 Q6
theorem blk_idem (l : L8) : blk (l.drop (blk l)) = 0 := by
 induction l with
 | nil => rfl
 | cons c l ih =>
  by_cases hc : c = 32
  ·rw [blk_cons, if_pos hc]; exact ih
  ·rw [blk_no hc]; exact blk_no hc
def rowR (t : L8) : Option (Nd × Nat) := if (t.drop (blk t)).headD 0 = 93 then some (.mk 2 [] [] [], blk t + 1) else rowP t []
def prsR (t : L8) : Option (Nd × Nat) := if (t.drop (blk t)).headD 0 = 125 then some (.mk 3 [] [] [], blk t + 1) else prsP t [] []
theorem val_row (t : L8) : valP (91 :: t) = (rowR t).map (bump 1) := by
 rw [valP, if_pos rfl]
 unfold rowR
 split
 ·show some _ = some _
  simp only [bump]
  congr 2
  omega
 ·rfl
theorem val_prs (t : L8) : valP (123 :: t) = (prsR t).map (bump 1) := by
 rw [valP, if_neg (by decide), if_pos rfl]
 unfold prsR
 split
 ·show some _ = some _
  simp only [bump]
  congr 2
  omega
 ·rfl
theorem row_eq {d : Nd} {l : L8} {acc : List Nd} {m n : Nat} (h : valP (l.drop (blk l)) = some (d, m)) (hm : m ≠ 0) (hn : blk l + m + blk (l.drop (blk l + m)) = n) :
  rowP l acc = if (l.drop n).headD 0 = 93 then some (.mk 2 [] [] (acc ++ [d]), n + 1) else if (l.drop n).headD 0 = 44 then (rowP (l.drop (n + 1)) (acc ++ [d])).map (bump (n + 1)) else none := by
 subst hn
 rw [rowP, h]
 show (if m = 0 then none else _) = _
 rw [if_neg hm]
 split
 ·rename_i h9
  rw [h9]
  rfl
 ·rename_i c t h9
  have e : l.drop (blk l + m + blk (l.drop (blk l + m)) + 1) = t := by rw [← List.drop_drop, h9]; rfl
  rw [h9, e]
  rfl
theorem row_none {l : L8} {acc : List Nd} (h : valP (l.drop (blk l)) = none) : rowP l acc = none := by rw [rowP, h]
theorem row_zero {d : Nd} {l : L8} {acc : List Nd} (h : valP (l.drop (blk l)) = some (d, 0)) : rowP l acc = none := by rw [rowP, h]; exact if_pos rfl
theorem bump_bump (o : Option (Nd × Nat)) (a b : Nat) : (o.map (bump a)).map (bump b) = o.map (bump (b + a)) := by
 cases o with
 | none => rfl
 | some p => show some _ = some _; simp only [bump]; congr 2; omega
def rowA (l : L8) (j : Nat) (acc : List Nd) : Option (Nd × Nat) := (rowP (l.drop j) acc).map (bump j)
theorem drop_at {l : L8} {j j0 : Nat} (h0 : j + blk (l.drop j) = j0) : (l.drop j).drop (blk (l.drop j)) = l.drop j0 := by rw [List.drop_drop, h0]
theorem rowA_none {l : L8} {j j0 : Nat} {acc : List Nd} (h0 : j + blk (l.drop j) = j0) (h : valP (l.drop j0) = none) : rowA l j acc = none := by
 unfold rowA
 rw [row_none (by rw [drop_at h0]; exact h)]; rfl
theorem rowA_zero {l : L8} {j j0 : Nat} {acc : List Nd} {d : Nd} (h0 : j + blk (l.drop j) = j0) (h : valP (l.drop j0) = some (d, 0)) : rowA l j acc = none := by
 unfold rowA
 rw [row_zero (by rw [drop_at h0]; exact h)]; rfl
theorem rowA_eq {l : L8} {j j0 j2 : Nat} {acc : List Nd} {d : Nd} {m : Nat} (h0 : j + blk (l.drop j) = j0) (h : valP (l.drop j0) = some (d, m)) (hm : m ≠ 0) (h2 : j0 + m + blk (l.drop (j0 + m)) = j2) :
  rowA l j acc = if (l.drop j2).headD 0 = 93 then some (.mk 2 [] [] (acc ++ [d]), j2 + 1) else if (l.drop j2).headD 0 = 44 then rowA l (j2 + 1) (acc ++ [d]) else none := by
 unfold rowA
 have e1 : (l.drop j).drop (blk (l.drop j) + m) = l.drop (j0 + m) := by rw [List.drop_drop, ← Nat.add_assoc, h0]
 have e2 : blk (l.drop j) + m + blk ((l.drop j).drop (blk (l.drop j) + m)) = j2 - j := by rw [e1]; omega
 rw [row_eq (by rw [drop_at h0]; exact h) hm e2]
 have hj : j + (j2 - j) = j2 := by omega
 have e3 : (l.drop j).drop (j2 - j) = l.drop j2 := by rw [List.drop_drop, hj]
 have e4 : (l.drop j).drop (j2 - j + 1) = l.drop (j2 + 1) := by rw [List.drop_drop]; congr 1; omega
 rw [e3, e4]
 split
 ·show some _ = some _
  simp only [bump]
  congr 2
  omega
 ·split
  ·rw [bump_bump, show j + (j2 - j + 1) = j2 + 1 by omega]
  ·rfl
theorem row_blk (m : L8) (acc : List Nd) : (rowP (m.drop (blk m)) acc).map (bump (blk m)) = rowP m acc := by
 have hb := blk_idem m
 cases hv : valP (m.drop (blk m)) with
 | none => rw [row_none hv, row_none (l := m.drop (blk m)) (by rw [hb, List.drop_zero]; exact hv)]; rfl
 | some p =>
  obtain ⟨d, k⟩ := p
  have hv2 : valP ((m.drop (blk m)).drop (blk (m.drop (blk m)))) = some (d, k) := by rw [hb, List.drop_zero]; exact hv
  by_cases hk : k = 0
  ·subst hk
   rw [row_zero hv, row_zero hv2]; rfl
  ·obtain ⟨n, hn⟩ : ∃ n, blk m + k + blk (m.drop (blk m + k)) = n := ⟨_, rfl⟩
   have hn2 : blk (m.drop (blk m)) + k + blk ((m.drop (blk m)).drop (blk (m.drop (blk m)) + k)) = n - blk m := by rw [hb, Nat.zero_add, List.drop_drop]; omega
   rw [row_eq hv hk hn, row_eq hv2 hk hn2]
   have e1 : (m.drop (blk m)).drop (n - blk m) = m.drop n := by rw [List.drop_drop]; congr 1; omega
   have e2 : (m.drop (blk m)).drop (n - blk m + 1) = m.drop (n + 1) := by rw [List.drop_drop]; congr 1; omega
   rw [e1, e2]
   split
   ·show some _ = some _
    simp only [bump]
    congr 2
    omega
   ·split
    ·rw [bump_bump, show blk m + (n - blk m + 1) = n + 1 by omega]
    ·rfl
theorem rowA_blk {l : L8} {j j0 : Nat} (h0 : j + blk (l.drop j) = j0) (acc : List Nd) : rowA l j0 acc = rowA l j acc := by
 unfold rowA
 rw [← drop_at h0, ← row_blk (l.drop j) acc, bump_bump, h0]
def prsA (l : L8) (j : Nat) (ak : List L8) (ad : List Nd) : Option (Nd × Nat) := (prsP (l.drop j) ak ad).map (bump j)
theorem prs_none {l : L8} {ak : List L8} {ad : List Nd} (h : keyP (l.drop (blk l)) = none) : prsP l ak ad = none := by
 rw [prsP]
 split
 ·rfl
 ·rename_i h9; rw [h] at h9; cases h9
theorem prs_twice {l : L8} {ak : List L8} {ad : List Nd} {x : L8} {j : Nat} (h : keyP (l.drop (blk l)) = some (x, j)) (hx : x ∈ ak) : prsP l ak ad = none := by
 rw [prsP]
 split
 ·rfl
 ·rename_i h9
  rw [h] at h9
  injection h9 with h9
  injection h9 with h9 h10
  subst h9
  rw [if_pos hx]
theorem prs_noval {l : L8} {ak : List L8} {ad : List Nd} {x : L8} {j a : Nat} (h : keyP (l.drop (blk l)) = some (x, j)) (ha : blk l + j + blk (l.drop (blk l + j)) = a) (hv : valP (l.drop a) = none) : prsP l ak ad = none := by
 subst ha
 rw [prsP]
 split
 ·rfl
 ·rename_i h9
  rw [h] at h9
  injection h9 with h9
  injection h9 with h9 h10
  subst h9; subst h10
  rw [hv]
  split <;> rfl
theorem prs_eq {x : L8} {d : Nd} {l : L8} {ks : List L8} {ds : List Nd} {j a m n : Nat} (hk : keyP (l.drop (blk l)) = some (x, j)) (hx : x ∉ ks) (ha : blk l + j + blk (l.drop (blk l + j)) = a) (h : valP (l.drop a) = some (d, m)) (hn : a + m + blk (l.drop (a + m)) = n) :
  prsP l ks ds = if (l.drop n).headD 0 = 125 then some (.mk 3 [] (ks ++ [x]) (ds ++ [d]), n + 1) else if (l.drop n).headD 0 = 44 then (prsP (l.drop (n + 1)) (ks ++ [x]) (ds ++ [d])).map (bump (n + 1)) else none := by
 cases hd : l.drop n with
 | nil =>
  subst ha
  subst hn
  rw [prsP]
  split
  ·rfl
  ·rename_i x9 j9 h9
   rw [hk] at h9
   injection h9 with h9
   injection h9 with h9 h10
   subst h9; subst h10
   rw [if_neg hx, h]
   show (match _h : l.drop _ with | [] => none | c :: t => _) = _
   split
   ·rfl
   ·rename_i h9; rw [hd] at h9; cases h9
 | cons c t =>
  have e : l.drop (n + 1) = t := by rw [← List.drop_drop, hd]; rfl
  rw [prs_step hk hx ha h hn hd, e]
  rfl
theorem prsA_none {l : L8} {j jb : Nat} {ak : List L8} {ad : List Nd} (h0 : j + blk (l.drop j) = jb) (h : keyP (l.drop jb) = none) : prsA l j ak ad = none := by
 unfold prsA
 rw [prs_none (by rw [drop_at h0]; exact h)]; rfl
theorem prsA_twice {l : L8} {j jb : Nat} {ak : List L8} {ad : List Nd} {x : L8} {i : Nat} (h0 : j + blk (l.drop j) = jb) (h : keyP (l.drop jb) = some (x, i)) (hx : x ∈ ak) : prsA l j ak ad = none := by
 unfold prsA
 rw [prs_twice (by rw [drop_at h0]; exact h) hx]; rfl
theorem prsA_noval {l : L8} {j jb a : Nat} {ak : List L8} {ad : List Nd} {x : L8} {i : Nat} (h0 : j + blk (l.drop j) = jb) (h : keyP (l.drop jb) = some (x, i)) (ha : jb + i + blk (l.drop (jb + i)) = a) (hv : valP (l.drop a) = none) : prsA l j ak ad = none := by
 unfold prsA
 have e1 : (l.drop j).drop (blk (l.drop j) + i) = l.drop (jb + i) := by rw [List.drop_drop, ← Nat.add_assoc, h0]
 rw [prs_noval (a := a - j) (by rw [drop_at h0]; exact h) (by rw [e1]; omega) (by rw [List.drop_drop, show j + (a - j) = a by omega]; exact hv)]; rfl
theorem prsA_eq {l : L8} {j jb a j2 : Nat} {ak : List L8} {ad : List Nd} {x : L8} {i : Nat} {d : Nd} {m : Nat} (h0 : j + blk (l.drop j) = jb) (h : keyP (l.drop jb) = some (x, i)) (hx : x ∉ ak) (ha : jb + i + blk (l.drop (jb + i)) = a) (hv : valP (l.drop a) = some (d, m)) (h2 : a + m + blk (l.drop (a + m)) = j2) :
  prsA l j ak ad = if (l.drop j2).headD 0 = 125 then some (.mk 3 [] (ak ++ [x]) (ad ++ [d]), j2 + 1) else if (l.drop j2).headD 0 = 44 then prsA l (j2 + 1) (ak ++ [x]) (ad ++ [d]) else none := by
 unfold prsA
 have e1 : (l.drop j).drop (blk (l.drop j) + i) = l.drop (jb + i) := by rw [List.drop_drop, ← Nat.add_assoc, h0]
 have e2 : (l.drop j).drop (a - j + m) = l.drop (a + m) := by rw [List.drop_drop]; congr 1; omega
 rw [prs_eq (a := a - j) (n := j2 - j) (by rw [drop_at h0]; exact h) hx (by rw [e1]; omega) (by rw [List.drop_drop, show j + (a - j) = a by omega]; exact hv) (by rw [e2]; omega)]
 have hj : j + (j2 - j) = j2 := by omega
 have e3 : (l.drop j).drop (j2 - j) = l.drop j2 := by rw [List.drop_drop, hj]
 have e4 : (l.drop j).drop (j2 - j + 1) = l.drop (j2 + 1) := by rw [List.drop_drop]; congr 1; omega
 rw [e3, e4]
 split
 ·show some _ = some _
  simp only [bump]
  congr 2
  omega
 ·split
  ·rw [bump_bump, show j + (j2 - j + 1) = j2 + 1 by omega]
  ·rfl
theorem prsA_blk {l : L8} {j jb : Nat} (h0 : j + blk (l.drop j) = jb) (ak : List L8) (ad : List Nd) : prsA l jb ak ad = prsA l j ak ad := by
 have hid : jb + blk (l.drop jb) = jb := by
  have := blk_idem (l.drop j)
  rw [drop_at h0] at this
  omega
 cases hk : keyP (l.drop jb) with
 | none => rw [prsA_none hid hk, prsA_none h0 hk]
 | some p =>
  obtain ⟨x, i⟩ := p
  by_cases hx : x ∈ ak
  ·rw [prsA_twice hid hk hx, prsA_twice h0 hk hx]
  ·cases hv : valP (l.drop (jb + i + blk (l.drop (jb + i)))) with
   | none => rw [prsA_noval hid hk rfl hv, prsA_noval h0 hk rfl hv]
   | some q =>
    obtain ⟨d, m⟩ := q
    rw [prsA_eq hid hk hx rfl hv rfl, prsA_eq h0 hk hx rfl hv rfl]
end F9
end Go.Proofs.YtecglpocmhkkiaaGreatDoor
namespace Go.Proofs.YtecglpocmhkkiaaGreatDoor
open Go.RowKit Go.Sort
open Nw N8 Q6 F9 Go.ChangeShapes Go.WideShapes
namespace F9
def valN (k : Nat) (R : Option (Nd × Nat)) : Int := match R with | none => -1 | some p => ((k + p.2 : Nat) : Int)
end F9
theorem ret_ai {a : Value} {x y : Int} (g : x = y) : Ending.returned (.tuple #[a, .int .i64 x]) = .returned (.tuple #[a, .int .i64 y]) := by rw [g]
def GotV (k : Nat) (R : Option (Nd × Nat)) (w : World) (e : Ending) (w' : World) : Prop := ∃ (kk : Int) (t : ByteArray) (a : Option Addr) (n c : Nat) (A : Option Addr) (m q : Nat),
 e = .returned (.tuple #[.agg #[.int .i64 kk, .string t, .slice a n c, .slice A m q], .int .i64 (valN k R)]) ∧ Below w.heap.size w w' ∧ ∀ p, R = some p → NdC (fun b => w.heap.size ≤ b ∧ b < w'.heap.size) w' p.1 (.int .i64 kk) (.string t) (.slice a n c) (.slice A m q)
def VOf (s : ByteArray) (n M : Nat) : Prop := ∀ k, k ≤ n → ∀ k0, k + blk (s.data.toList.drop k) = k0 → 2 * (n - k0) ≤ M → ∀ w, Calls Tryz.prog 99 #[.string s, .int .i64 (k : Int)] w (GotV k0 (valP (s.data.toList.drop k0)) w)
def ROf (s : ByteArray) (n M : Nat) : Prop := ∀ k, k ≤ n → 2 * (n - k) + 1 ≤ M → ∀ w, Calls Tryz.prog 119 #[.string s, .int .i64 (k : Int)] w (GotV k (rowR (s.data.toList.drop k)) w)
theorem out_ret {OUT : Nat} {G : World → Prop} {w W : World} {k : Int} {T : ByteArray} {s7 s8 : Value} {l7 : List L8} {M : List Nd} (h : RZ (fun _ => False) OUT G W k T s7 l7 s8 M) (hb : Below w.heap.size w W) (hO : OUT = w.heap.size + 1) :
  Below w.heap.size w (p4 W w.heap.size (.int .i64 k) (.string T) s7 s8) ∧ NdC (fun b => w.heap.size ≤ b ∧ b < (p4 W w.heap.size (.int .i64 k) (.string T) s7 s8).heap.size) (p4 W w.heap.size (.int .i64 k) (.string T) s7 s8) (.mk k T.data.toList l7 M) (.int .i64 k) (.string T) s7 s8 := by
 obtain ⟨-, -, -, h3, qs, h4⟩ := h
 refine ⟨below_p4 hb (Nat.le_refl _) _ _ _ _, ?_⟩
 have hT : NdC (fun b => OUT + 1 ≤ b ∧ b < W.heap.size) W (.mk k T.data.toList l7 M) (.int .i64 k) (.string T) s7 s8 := by
  rw [NdC]
  refine ⟨rfl, by rw [ba_of], rdS_of_owns h3 _ fun b hb => h3.lt b hb, ?_⟩
  refine h4.kdS (fun b hb => ?_) fun b hb => h4.1.lt b hb
  rcases hb with hb | hb
  ·exact hb.elim
  ·exact ⟨hb.1, hb.2.1⟩
 refine NdC.keep (fun b hb => ⟨⟨by omega, by rw [p4_size]; exact hb.2⟩, p4_oth b (by omega) _ _ _ _⟩) _ hT
theorem Rrow_any (s : ByteArray) (n : Nat) (hn : s.size = n) (hs : n ≤ 100000) (M : Nat) (ih : VOf s n M) : ROf s n (M + 1) := by
 intro k hk hM w
 have hlen : s.data.toList.length = n := (len_eq s).trans hn
 obtain ⟨k1, hk1⟩ : ∃ k1, k + blk (s.data.toList.drop k) = k1 := ⟨_, rfl⟩
 have hk1n : k1 ≤ n := by
  have := blk_le (s.data.toList.drop k)
  rw [List.length_drop, hlen] at this
  omega
 have HBK := hid (fun (j : Nat) (hj : j ≤ n) R hR W => Rblanks_any s j W n hn (by omega) hj R hR)
 have HIS := hid (fun (c : UInt8) hc (j : Nat) b h W => Ris_any s j c hc W n hn (by omega) b h)
 have HLEN := hid hlen
 have HK1 := hid hk1
 have HIH := hid ih
 have HM := hid hM
 obtain ⟨R, hR⟩ : ∃ R, rowR (s.data.toList.drop k) = R := ⟨_, rfl⟩
 rw [hR]
 generalize hW0 : w.alloc (.cells #[.int .i64 0, .string ⟨#[]⟩, .slice none 0 0, .slice none 0 0] 26) = W0 at *
 have hsz : W0.heap.size = w.heap.size + 1 := by rw [← hW0]; simp
 have hb0 : Below w.heap.size w W0 := by rw [← hW0]; exact (Below.refl _ _).alloc (Nat.le_refl _) _
 have hr0 : Row4 W0 w.heap.size 26 (.int .i64 0) (.string ⟨#[]⟩) (.slice none 0 0) (.slice none 0 0) := by rw [← hW0]; exact Row4.make w _ _ _ _ _
 have HG : Hid (∀ W W' : World, (Below w.heap.size w W ∧ Row4 W w.heap.size 26 (.int .i64 0) (.string ⟨#[]⟩) (.slice none 0 0) (.slice none 0 0)) → Below W0.heap.size W W' → (Below w.heap.size w W' ∧ Row4 W' w.heap.size 26 (.int .i64 0) (.string ⟨#[]⟩) (.slice none 0 0) (.slice none 0 0))) := hid fun W W' h hb => ⟨h.1.trans (hb.mono (by omega)), h.2.below hb (by omega)⟩
 have hal : Below W0.heap.size W0 (W0.alloc (.cells #[.int .i64 2, .string ⟨#[]⟩, .slice none 0 0, .slice none 0 0] 26)) := (Below.refl _ _).alloc (Nat.le_refl _) _
 have HR : Hid (RZ (fun _ => False) W0.heap.size (fun W => Below w.heap.size w W ∧ Row4 W w.heap.size 26 (.int .i64 0) (.string ⟨#[]⟩) (.slice none 0 0) (.slice none 0 0)) (W0.alloc (.cells #[.int .i64 2, .string ⟨#[]⟩, .slice none 0 0, .slice none 0 0] 26)) 2 ⟨#[]⟩ (.slice none 0 0) [] (.slice none 0 0) []) := hid
  ⟨fun b hb => hb.elim, HG.out _ _ ⟨hb0, hr0⟩ hal, Row4.make W0 _ _ _ _ _, World.ownsRow_nil _ _ _ _, [], World.ownsRow_nil _ _ _ _, rfl, fun j hj => absurd hj (Nat.not_lt_zero _)⟩
 have HL := hid hsz
 have HRR := hid hR
 obtain ⟨j0t, hj0, hy0, hy1, hy2⟩ := infoN
 have wk1 : IntKind.i64.wrap ((k1 : Int) + 1) = (k1 : Int) + 1 := IntWalk.i64_in _ (by omega)
 cases h93 : isC 93 ((s.data.toList.drop k1).headD 0) with
 | true =>
  have HI := hid h93
  have HX : Hid (R = some (.mk 2 [] [] [], blk (s.data.toList.drop k) + 1)) := hid (by
   rw [← hR]
   unfold rowR
   rw [List.drop_drop, hk1, if_pos (isC_iff.1 h93)])
  clear h93 hlen hk1 ih hM hR hsz hb0 hr0 hal hj0 hy0 hy1 hy2
  go_enter Tryz.func119, Tryz.ntmps119
  go_wp2_with fail
  generalize W0.alloc (.cells #[.int .i64 2, .string ⟨#[]⟩, .slice none 0 0, .slice none 0 0] 26) = W1 at *
  generalize W0.heap.size = OUT at *
  clear hW0
  refine (HBK.out k hk k1 HK1.out _).mono ?_
  rintro e w' ⟨rfl, rfl⟩
  go_wp2_with fail
  refine (HIS.out 93 (by decide) k1 true HI.out _).mono ?_
  rintro e w' ⟨rfl, rfl⟩
  obtain ⟨z0, z1, z2, z3⟩ := HR.out.2.2.1.cells
  obtain ⟨r0, r1, r2, r3⟩ := HR.out.2.1.2.cells
  obtain ⟨fr0, fr1, fr2, fr3⟩ := HR.out.2.1.2.frozen
  have HD := hid (out_ret HR.out HR.out.2.1.1 HL.out)
  go_wp2
  refine bodyPost_ret (v := .tuple #[.agg #[.int .i64 2, .string ⟨#[]⟩, .slice none 0 0, .slice none 0 0], .int .i64 ((k1 : Int) + 1)]) (by simp [results, Tryz.results119, go_sem, r0, r1, r2, r3]) rfl ⟨_, _, _, _, _, _, _, _, by rw [HX.out]; exact ret_ai (by have := HK1.out; show (k1 : Int) + 1 = ((k + (blk (s.data.toList.drop k) + 1) : Nat) : Int); omega), HD.out.1, ?_⟩
  intro p hp
  rw [HX.out] at hp
  injection hp with hp
  subst hp
  exact HD.out.2
 | false =>
  have HI := hid h93
  have HRA : Hid (rowA s.data.toList k1 [] = R.map (bump k)) := hid (by
   rw [rowA_blk hk1, ← hR]
   unfold rowA rowR
   rw [List.drop_drop, hk1, if_neg (fun e => by rw [isC_iff.2 e] at h93; cases h93)])
  clear h93 hlen hk1 ih hM hR hsz hb0 hr0 hal
  go_enter Tryz.func119, Tryz.ntmps119
  go_wp2_with fail
  generalize W0.alloc (.cells #[.int .i64 2, .string ⟨#[]⟩, .slice none 0 0, .slice none 0 0] 26) = W1 at *
  generalize W0.heap.size = OUT at *
  clear hW0
  refine (HBK.out k hk k1 HK1.out _).mono ?_
  rintro e w' ⟨rfl, rfl⟩
  go_wp2_with fail
  refine (HIS.out 93 (by decide) k1 false HI.out _).mono ?_
  rintro e w' ⟨rfl, rfl⟩
  have HK1n := hid (And.intro hk1n hk)
  clear wk1 hk1n
  go_wp2
  go_loopw [1, 7, 8] (fun s1 s7 s8 wr => ∃ (j : Nat) (su : Value) (acc : List Nd), j ≤ n ∧ acc.length ≤ j ∧ s1 = .int .i64 (j : Int) ∧ Hid (k1 ≤ j) ∧ Hid (RZ (fun _ => False) OUT (fun W => Below w.heap.size w W ∧ Row4 W w.heap.size 26 (.int .i64 0) (.string ⟨#[]⟩) (.slice none 0 0) (.slice none 0 0)) wr 2 ⟨#[]⟩ (.slice none 0 0) [] su acc) ∧ Hid (rowA s.data.toList j acc = R.map (bump k))) (fun s1 _ _ _ => n - (intOf s1).toNat)
  case atStart => exact ⟨k1, _, [], HK1n.out.1, Nat.zero_le _, rfl, hid (Nat.le_refl _), HR, HRA⟩
  case round =>
   clear HR HRA HI
   obtain ⟨j, su, acc, hj, hacc, rfl, HKJ, HR, HRA⟩ := hrel
   obtain ⟨jb, hjb⟩ : ∃ jb, j + blk (s.data.toList.drop j) = jb := ⟨_, rfl⟩
   have hjbn : jb ≤ n := by
    have := blk_le (s.data.toList.drop j)
    rw [List.length_drop, HLEN.out] at this
    omega
   have HJB := hid hjb
   have hidem : jb + blk (s.data.toList.drop jb) = jb := by
    have := blk_idem (s.data.toList.drop j)
    rw [drop_at hjb] at this
    omega
   have HV := hid (HIH.out jb hjbn jb hidem (by have := HM.out; have := HKJ.out; have := HK1.out; omega))
   have hjj : j ≤ jb := by omega
   clear hjb hidem
   go_wp2_with fail
   refine (HBK.out j hj jb HJB.out _).mono ?_
   rintro e w' ⟨rfl, rfl⟩
   go_wp2_with fail
   refine (HV.out _).mono ?_
   rintro e w2 ⟨v_k, v_s, v_a, v_n, v_c, v_A, v_m, v_q, rfl, hb, hnd⟩
   have hbv : Below wr.heap.size wr (w2.alloc (.cells #[.int .i64 v_k, .string v_s, .slice v_a v_n v_c, .slice v_A v_m v_q] 26)) := hb.trans ((Below.refl _ _).alloc hb.size _)
   have HR2 := hid (HR.out.go HG.out hbv)
   have HBV := hid (Row4.make w2 26 (.int .i64 v_k) (.string v_s) (.slice v_a v_n v_c) (.slice v_A v_m v_q))
   have HND : Hid (∀ p, valP (s.data.toList.drop jb) = some p → NdC (New (fun _ => False) wr (w2.alloc (.cells #[.int .i64 v_k, .string v_s, .slice v_a v_n v_c, .slice v_A v_m v_q] 26))) (w2.alloc (.cells #[.int .i64 v_k, .string v_s, .slice v_a v_n v_c, .slice v_A v_m v_q] 26)) p.1 (.int .i64 v_k) (.string v_s) (.slice v_a v_n v_c) (.slice v_A v_m v_q)) := hid fun p hp => NdC.keep (fun b hb => ⟨.inr ⟨hb.1, Nat.lt_of_lt_of_le hb.2 (by simp)⟩, ((Below.refl w2.heap.size w2).alloc (Nat.le_refl _) (.cells #[.int .i64 v_k, .string v_s, .slice v_a v_n v_c, .slice v_A v_m v_q] 26)).block b hb.2⟩) _ (hnd p hp)
   have HWR : Hid (OUT < wr.heap.size ∧ ∀ b, su.ownBlock = some b → b < wr.heap.size) := hid ⟨HR.out.lt, fun b hb => (HR.out.2.2.2.2.choose_spec.1.lt b hb).2⟩
   clear hb hnd hbv HV
   replace HR := HR2
   clear HR2
   go_upto_region 7 with fail
   generalize w2.alloc (.cells #[.int .i64 v_k, .string v_s, .slice v_a v_n v_c, .slice v_A v_m v_q] 26) = W2 at *
   generalize w2.heap.size = gv at *
   rcases hv : valP (s.data.toList.drop jb) with _ | ⟨d, m⟩
   ·have HX : Hid (R = none) := hid (by
     have := HRA.out
     rw [rowA_none HJB.out hv] at this
     cases R with
     | none => rfl
     | some p => cases this)
    rw [show valN jb none = -1 from rfl]
    have hle : (-1 : Int) ≤ (jb : Int) := by omega
    clear hv HND HRA
    obtain ⟨z0, z1, z2, z3⟩ := HR.out.2.2.1.cells
    obtain ⟨r0, r1, r2, r3⟩ := HR.out.2.1.2.cells
    obtain ⟨fr0, fr1, fr2, fr3⟩ := HR.out.2.1.2.frozen
    obtain ⟨hA, hcq, rfl⟩ := own_shape HR.out.2.2.2.2.choose_spec.1
    have HD := hid (out_ret HR.out HR.out.2.1.1 HL.out)
    obtain ⟨ln, hln⟩ : ∃ ln, acc.length = ln := ⟨_, rfl⟩
    rw [hln] at HR HD z3
    clear hln
    go_wp2
    refine bodyPost_ret (v := .tuple #[.agg #[.int .i64 2, .string ⟨#[]⟩, .slice none 0 0, .slice hA ln hcq], .int .i64 (-1)]) (by simp [results, Tryz.results119, go_sem, r0, r1, r2, r3]) rfl ⟨_, _, _, _, _, _, _, _, by rw [HX.out]; exact ret_ai (by rfl), HD.out.1, ?_⟩
    intro p hp
    rw [HX.out] at hp
    cases hp
   ·rw [show valN jb (some (d, m)) = ((jb + m : Nat) : Int) from rfl]
    by_cases hm : m = 0
    ·subst hm
     have HX : Hid (R = none) := hid (by
      have := HRA.out
      rw [rowA_zero HJB.out hv] at this
      cases R with
      | none => rfl
      | some p => cases this)
     have hle : ((jb + 0 : Nat) : Int) ≤ (jb : Int) := by omega
     clear hv HND HRA
     obtain ⟨z0, z1, z2, z3⟩ := HR.out.2.2.1.cells
     obtain ⟨r0, r1, r2, r3⟩ := HR.out.2.1.2.cells
     obtain ⟨fr0, fr1, fr2, fr3⟩ := HR.out.2.1.2.frozen
     obtain ⟨hA, hcq, rfl⟩ := own_shape HR.out.2.2.2.2.choose_spec.1
     have HD := hid (out_ret HR.out HR.out.2.1.1 HL.out)
     obtain ⟨ln, hln⟩ : ∃ ln, acc.length = ln := ⟨_, rfl⟩
     rw [hln] at HR HD z3
     clear hln
     go_wp2
     refine bodyPost_ret (v := .tuple #[.agg #[.int .i64 2, .string ⟨#[]⟩, .slice none 0 0, .slice hA ln hcq], .int .i64 (-1)]) (by simp [results, Tryz.results119, go_sem, r0, r1, r2, r3]) rfl ⟨_, _, _, _, _, _, _, _, by rw [HX.out]; exact ret_ai (by rfl), HD.out.1, ?_⟩
     intro p hp
     rw [HX.out] at hp
     cases hp
    ·have hmn : jb + m ≤ n := by
      have := (val_got hv).1
      rw [List.length_drop, HLEN.out] at this
      omega
     have hle : ¬ ((jb + m : Nat) : Int) ≤ (jb : Int) := by omega
     obtain ⟨j2, hj2⟩ : ∃ j2, jb + m + blk (s.data.toList.drop (jb + m)) = j2 := ⟨_, rfl⟩
     have hj2n : j2 ≤ n := by
      have := blk_le (s.data.toList.drop (jb + m))
      rw [List.length_drop, HLEN.out] at this
      omega
     have HJ2 := hid hj2
     have HEQ := hid (rowA_eq (acc := acc) HJB.out hv hm hj2)
     have hjlt : j < j2 := by omega
     have HV2 := hid (HND.out (d, m) hv)
     clear hv HND hj2 hm
     obtain ⟨z0, z1, z2, z3⟩ := HR.out.2.2.1.cells
     obtain ⟨f0, f1, f2, f3⟩ := HR.out.2.2.1.frozen
     obtain ⟨b0, b1, b2, b3⟩ := HBV.out.cells
     obtain ⟨qs, hko⟩ := HR.out.2.2.2.2
     have HQ := hid hko
     have HOWN := hid hko.1
     obtain ⟨ln, hln⟩ : ∃ ln, acc.length = ln := ⟨_, rfl⟩
     obtain ⟨X8, hX8⟩ : ∃ X8, flat4 qs = X8 := ⟨_, rfl⟩
     have HX8 := hid hX8
     have HLN := hid hln
     rw [hX8, hln] at HOWN
     rw [hln] at hacc
     have hOlt := HR.out.lt
     have n8O : su.ownBlock ≠ some OUT := fun e => by have := (hko.1.lt _ e).1; omega
     clear hko hX8 hln
     go_wp2_with (at_builtin; refine wpList_append_own_at _ rfl _ _ 24 rfl (OUT + 1) 26 j0t _ 4 72 Tryz.underlying24 hj0 hy0 hy1 hy2 rfl (by decide) su ln X8 rfl (HOWN.out.alloc _) _ 1 1 [.int .i64 v_k, .string v_s, .slice v_a v_n v_c, .slice v_A v_m v_q] rfl rfl (news_blk #[.int .i64 v_k, .string v_s, .slice v_a v_n v_c, .slice v_A v_m v_q] (alloc_at _ _)) (four_nd _ _ _ _ _ _ _ _) (by unfold maxLen; omega) (by omega) (by simp; omega) ?_; intro v'' w4 hownN hgN hnilN hkN; obtain ⟨a8, q8, rfl⟩ := own_shape hownN; have hz4 : w4.cell? ⟨OUT, 3, none⟩ = some su := cell_grown (cells_alloc z3) hgN n8O; have hf4 : w4.frozen? ⟨OUT, 3, none⟩ = false := frozen_grown (frozen_alloc f3 hOlt) hgN (by simp; omega) n8O)
     have hal : Below W2.heap.size W2 (W2.alloc (.cells #[.int .i64 v_k, .string v_s, .slice v_a v_n v_c, .slice v_A v_m v_q] 26)) := (Below.refl _ _).alloc (Nat.le_refl _) _
     have hg9 : World.grownBy (W2.alloc (.cells #[.int .i64 v_k, .string v_s, .slice v_a v_n v_c, .slice v_A v_m v_q] 26)) w4 su.ownBlock := ⟨hgN.os, hgN.tape, hgN.output, hgN.size, hgN.block⟩
     have HR3 := hid (RZ.kids (wr := wr) (q := ⟨.int .i64 v_k, .string v_s, .slice v_a v_n v_c, .slice v_A v_m v_q⟩) (e := d) HG.out HR.out hal (by rw [HLN.out]) qs HQ.out (by rw [HX8.out]) hownN hg9 hkN (fun b hb => by
      rcases hb with hb | hb
      ·cases hb
      ·exact HWR.out.2 b hb) HWR.out.1 HV2.out)
     replace HR := HR3
     clear HR3 hz4 hf4 hownN hgN hg9 hkN hal hnilN HQ HOWN HX8 z0 z1 z2 z3 f0 f1 f2 f3 b0 b1 b2 b3 HV2 HBV HWR n8O hOlt
     have HLN2 : Hid ((acc ++ [d]).length = ln + 1) := hid (by rw [List.length_append, HLN.out]; rfl)
     go_upto_region 10 with fail
     generalize w4.setCell ⟨OUT, 3, none⟩ (.slice a8 (ln + 1) q8) = W5 at *
     go_wp2_with fail
     refine (HBK.out (jb + m) hmn j2 HJ2.out _).mono ?_
     rintro e w' ⟨rfl, rfl⟩
     have wj2 : IntKind.i64.wrap ((j2 : Int) + 1) = (j2 : Int) + 1 := IntWalk.i64_in _ (by omega)
     cases h93 : isC 93 ((s.data.toList.drop j2).headD 0) with
     | true =>
      have HI := hid h93
      have HX : Hid (∃ p, R = some (.mk 2 [] [] (acc ++ [d]), p) ∧ k + p = j2 + 1) := hid (by
       have h1 := HEQ.out
       rw [HRA.out, if_pos (isC_iff.1 h93)] at h1
       obtain ⟨p, h2, h3⟩ := bump_some h1
       exact ⟨p, h2, h3.symm⟩)
      obtain ⟨p9, hp9, hp8⟩ := HX.out
      replace HX := hid hp9
      have HP8 := hid hp8
      clear h93 hp9 hp8 HRA HEQ
      go_wp2_with fail
      refine (HIS.out 93 (by decide) j2 true HI.out _).mono ?_
      rintro e w' ⟨rfl, rfl⟩
      obtain ⟨z0, z1, z2, z3⟩ := HR.out.2.2.1.cells
      obtain ⟨r0, r1, r2, r3⟩ := HR.out.2.1.2.cells
      obtain ⟨fr0, fr1, fr2, fr3⟩ := HR.out.2.1.2.frozen
      have HD := hid (out_ret HR.out HR.out.2.1.1 HL.out)
      go_wp2
      refine bodyPost_ret (v := .tuple #[.agg #[.int .i64 2, .string ⟨#[]⟩, .slice none 0 0, .slice a8 (ln + 1) q8], .int .i64 ((j2 : Int) + 1)]) (by simp [results, Tryz.results119, go_sem, r0, r1, r2, r3]) rfl ⟨_, _, _, _, _, _, _, _, by rw [HX.out]; exact ret_ai (by have := HP8.out; show (j2 : Int) + 1 = ((k + p9 : Nat) : Int); omega), HD.out.1, ?_⟩
      intro p hp
      rw [HX.out] at hp
      injection hp with hp
      subst hp
      exact HD.out.2
     | false =>
      have HI := hid h93
      cases h44 : isC 44 ((s.data.toList.drop j2).headD 0) with
      | false =>
       have HI2 := hid h44
       have HX : Hid (R = none) := hid (by
        have h1 := HEQ.out
        rw [HRA.out, if_neg (fun e => by rw [isC_iff.2 e] at h93; cases h93), if_neg (fun e => by rw [isC_iff.2 e] at h44; cases h44)] at h1
        cases R with
        | none => rfl
        | some p => cases h1)
       clear h93 h44 HRA HEQ
       go_wp2_with fail
       refine (HIS.out 93 (by decide) j2 false HI.out _).mono ?_
       rintro e w' ⟨rfl, rfl⟩
       go_wp2_with fail
       refine (HIS.out 44 (by decide) j2 false HI2.out _).mono ?_
       rintro e w' ⟨rfl, rfl⟩
       obtain ⟨z0, z1, z2, z3⟩ := HR.out.2.2.1.cells
       obtain ⟨r0, r1, r2, r3⟩ := HR.out.2.1.2.cells
       obtain ⟨fr0, fr1, fr2, fr3⟩ := HR.out.2.1.2.frozen
       have HD := hid (out_ret HR.out HR.out.2.1.1 HL.out)
       go_wp2
       refine bodyPost_ret (v := .tuple #[.agg #[.int .i64 2, .string ⟨#[]⟩, .slice none 0 0, .slice a8 (ln + 1) q8], .int .i64 (-1)]) (by simp [results, Tryz.results119, go_sem, r0, r1, r2, r3]) rfl ⟨_, _, _, _, _, _, _, _, by rw [HX.out]; exact ret_ai (by rfl), HD.out.1, ?_⟩
       intro p hp
       rw [HX.out] at hp
       cases hp
      | true =>
       have HI2 := hid h44
       have hj2lt : j2 < n := by
        rcases Nat.lt_or_ge j2 n with h | h
        ·exact h
        ·rw [List.drop_of_length_le (by rw [HLEN.out]; exact h)] at h44
         exact absurd h44 (by decide)
       have HRA2 : Hid (rowA s.data.toList (j2 + 1) (acc ++ [d]) = R.map (bump k)) := hid (by
        have h1 := HEQ.out
        rw [HRA.out, if_neg (fun e => by rw [isC_iff.2 e] at h93; cases h93), if_pos (isC_iff.1 h44)] at h1
        exact h1.symm)
       clear h93 h44 HRA HEQ
       go_wp2_with fail
       refine (HIS.out 93 (by decide) j2 false HI.out _).mono ?_
       rintro e w' ⟨rfl, rfl⟩
       go_wp2_with fail
       refine (HIS.out 44 (by decide) j2 true HI2.out _).mono ?_
       rintro e w' ⟨rfl, rfl⟩
       go_wp2
       go_roundw
       case measure => simp [intOf]; omega
       case rel => exact ⟨j2 + 1, _, acc ++ [d], by omega, by rw [HLN2.out]; omega, by go_num, hid (by have := HKJ.out; omega), HR, HRA2⟩
end Go.Proofs.YtecglpocmhkkiaaGreatDoor
