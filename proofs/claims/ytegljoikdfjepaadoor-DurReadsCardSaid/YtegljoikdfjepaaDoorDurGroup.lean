/- The contract of dur.group. -/
import Derived.Test.YtegljoikdfjepaaDoorDurZero
import Derived.Lib.SlTrimSet
import Derived.Laws.Runes
namespace Go.Proofs.YtegljoikdfjepaaDoor
open Go.RowKit
open Dg
set_option linter.unusedVariables false
theorem digit_set (c : UInt8) : [48, 49, 50, 51, 52, 53, 54, 55, 56, 57].contains c = isDig c := by
  rw [Bool.eq_iff_iff, List.contains_iff_mem]
  constructor
  · intro h
    simp only [List.mem_cons, List.not_mem_nil, or_false] at h
    rcases h with rfl | rfl | rfl | rfl | rfl | rfl | rfl | rfl | rfl | rfl <;> rfl
  · intro h
    have h1 := dv_le h
    have h2 : c.toNat = 48 ∨ c.toNat = 49 ∨ c.toNat = 50 ∨ c.toNat = 51 ∨ c.toNat = 52 ∨ c.toNat = 53 ∨ c.toNat = 54 ∨ c.toNat = 55 ∨ c.toNat = 56 ∨ c.toNat = 57 := by omega
    simp only [List.mem_cons, List.not_mem_nil, or_false]
    rcases h2 with h | h | h | h | h | h | h | h | h | h
    · left; exact UInt8.toNat_inj.1 h
    · right; left; exact UInt8.toNat_inj.1 h
    · right; right; left; exact UInt8.toNat_inj.1 h
    · right; right; right; left; exact UInt8.toNat_inj.1 h
    · right; right; right; right; left; exact UInt8.toNat_inj.1 h
    · right; right; right; right; right; left; exact UInt8.toNat_inj.1 h
    · right; right; right; right; right; right; left; exact UInt8.toNat_inj.1 h
    · right; right; right; right; right; right; right; left; exact UInt8.toNat_inj.1 h
    · right; right; right; right; right; right; right; right; left; exact UInt8.toNat_inj.1 h
    · right; right; right; right; right; right; right; right; right; exact UInt8.toNat_inj.1 h
theorem trim_tl (l : List UInt8) : Lib.trimLeftS l [48, 49, 50, 51, 52, 53, 54, 55, 56, 57] = tlD l := by
  unfold Lib.trimLeftS tlD
  congr 1
  funext c
  exact digit_set c
theorem trim_any (s t : ByteArray) (w : World) (h : tlD s.data.toList = t.data.toList) :
    Calls Tryd.prog 28 #[.string s, .string ⟨#[48, 49, 50, 51, 52, 53, 54, 55, 56, 57]⟩] w fun e w' => e = .returned (.string t) ∧ Below w.heap.size w w' :=
  (Tryd.strings_TrimLeft_ascii s ⟨#[48, 49, 50, 51, 52, 53, 54, 55, 56, 57]⟩ w (by decide) (ascii_of_all (by decide))).mono fun e w' ⟨h1, h2⟩ => ⟨by rw [h1]; congr 2; exact mk_of ((trim_tl _).trans h), h2⟩

theorem count_cases (l : List UInt8) (k : Nat) : (whole l = false ∧ countN l k = 0 ∧ countE l k = 3) ∨ (whole l = true ∧ val l ≤ k ∧ countN l k = (val l : Int) ∧ countE l k = 0) ∨ (whole l = true ∧ k < val l ∧ countN l k = 0 ∧ countE l k = 9) := by
  have e1 : countN l (k : Int) = if whole l then valN l (k : Int) else 0 := if_neg (by omega)
  have e2 : countE l (k : Int) = if whole l then valE l (k : Int) else 3 := if_neg (by omega)
  rw [e1, e2]
  by_cases hw : whole l = true
  · right
    rw [if_pos hw, if_pos hw]
    by_cases hv : val l ≤ k
    · left; exact ⟨hw, hv, valN_ok (by omega), valE_ok (by omega)⟩
    · right; exact ⟨hw, by omega, valN_big (by omega), valE_big (by omega)⟩
  · left; rw [if_neg hw, if_neg hw]; exact ⟨by simpa using hw, rfl, rfl⟩
theorem Count_q (h : ByteArray) (k : Nat) (n e0 : Int) (w : World) (m : Nat) (hs : h.size ≤ maxLen) (hk : k ≤ 1099511627776) (hn : countN h.data.toList k = n) (he : countE h.data.toList k = e0) :
    Calls Tryd.prog 29 #[.string h, .int .i64 (k : Int)] (w.drewN m) fun e w'' => e = .returned (.tuple #[.int .i64 n, .int .i64 e0]) ∧ ∃ m', w'' = w.drewN m' :=
  Calls.quiet_of_same ((Count_any h k _ hs (by omega) (by omega)).mono fun e w' ⟨h1, h2⟩ => ⟨by rw [h1, hn, he], h2.symm⟩)
theorem drewN_below (w : World) (n : Nat) : Below w.heap.size w (w.drewN n) := ⟨rfl, rfl, rfl, Nat.le_refl _, fun _ _ => rfl⟩
theorem Below.dr {w w2 : World} (h : Below w.heap.size w w2) (n : Nat) : Below w.heap.size w (w2.drewN n) := h.trans ((drewN_below w2 n).mono h.size)
theorem ret_iis {a b c d : Int} {x y : ByteArray} (h : a = b) (g : c = d) (k : x = y) : Ending.returned (.tuple #[.int .i64 a, .int .i64 c, .string x]) = .returned (.tuple #[.int .i64 b, .int .i64 d, .string y]) := by rw [h, g, k]
theorem gOK_whole {l : List UInt8} (h : whole (hdD l) = false) : ¬ gOK l := fun g => by rw [g.1] at h; exact absurd h (by decide)
theorem gOK_zero {l : List UInt8} (hw : whole (hdD l) = true) (h : val (hdD l) = 0) : ¬ gOK l := fun g => g.2.1 (val_zero hw h)
theorem gOK_unit {l : List UInt8} (h : uS (tlD l) = 0) : ¬ gOK l := fun g => g.2.2 h
theorem gOK_yes {l : List UInt8} (hw : whole (hdD l) = true) (h : val (hdD l) ≠ 0) (hu : uS (tlD l) ≠ 0) : gOK l := ⟨hw, fun e => h (by rw [e]; rfl), hu⟩
theorem g_of_big {l : List UInt8} {u : Nat} (hu : uS (tlD l) = u) (h0 : u ≠ 0) (hw : whole (hdD l) = true) (hv : 1099511627776 / u < val (hdD l)) : gL l = 1099511627777 ∧ gS l = u ∧ gR l = uR (tlD l) := by
  have hg := gOK_yes hw (Nat.ne_of_gt (Nat.lt_of_le_of_lt (Nat.zero_le _) hv)) (by rw [hu]; exact h0)
  exact ⟨gL_big hg (by rw [hu]; exact Nat.not_le_of_lt hv), by rw [gS_ok hg, hu], gR_ok hg⟩
theorem g_of_ok {l : List UInt8} {u : Nat} (hu : uS (tlD l) = u) (h0 : u ≠ 0) (hw : whole (hdD l) = true) (hn : val (hdD l) ≠ 0) (hv : val (hdD l) ≤ 1099511627776 / u) : gL l = val (hdD l) * u ∧ gS l = u ∧ gR l = uR (tlD l) := by
  have hg := gOK_yes hw hn (by rw [hu]; exact h0)
  exact ⟨by rw [gL_ok hg (by rw [hu]; exact hv), hu], by rw [gS_ok hg, hu], gR_ok hg⟩

set_option maxHeartbeats 4000000 in
theorem group_any (s : ByteArray) (w : World) (hs : s.size ≤ maxLen) :
    Calls Tryd.prog 18 #[.string s] w fun e w' => e = .returned (.tuple #[.int .i64 (gL s.data.toList), .int .i64 (gS s.data.toList), .string ⟨(gR s.data.toList).toArray⟩]) ∧ Below w.heap.size w w' := by
  obtain ⟨t, ht⟩ : ∃ t : ByteArray, tlD s.data.toList = t.data.toList := ⟨⟨(tlD s.data.toList).toArray⟩, by simp⟩
  obtain ⟨h, hh⟩ : ∃ h : ByteArray, hdD s.data.toList = h.data.toList := ⟨⟨(hdD s.data.toList).toArray⟩, by simp⟩
  obtain ⟨q, hq⟩ : ∃ q : ByteArray, uR t.data.toList = q.data.toList := ⟨⟨(uR t.data.toList).toArray⟩, by simp⟩
  have hl : s.data.toList = h.data.toList ++ t.data.toList := by rw [← hh, ← ht, hd_tl]
  have hz : s.size = h.size + t.size := by rw [← len_eq s, hl, List.length_append, len_eq, len_eq]
  have hx : s.extract 0 h.size = h := bytes_ext (by rw [Lib.extract_data, hl]; exact List.take_left)
  have hts : t.size ≤ maxLen := by omega
  have hhs : h.size ≤ maxLen := by omega
  have hsz : (s.size : Int) - (t.size : Int) = (h.size : Int) := by omega
  have hle : h.size ≤ s.size := by omega
  have hwr : IntKind.i64.wrap (h.size : Int) = (h.size : Int) := wrap_small _ (by omega) (by unfold maxLen at hhs; omega)
  have HT := Lib.hid ht
  have HQ := Lib.hid hq
  have HZ := Lib.hid hz
  rcases uS_cases t.data.toList with hu | ⟨hu, -⟩ | ⟨hu, -⟩ | ⟨hu, -⟩ | ⟨hu, -⟩
  · have HU := Lib.hid hu
    have HG := Lib.hid (g_no (gOK_unit (l := s.data.toList) (by rw [ht]; exact hu)))
    clear ht hh hq hl hz hu hx
    go_enter Tryd.func18, Tryd.ntmps18
    go_wp2_with fail
    refine (trim_any _ t _ HT.out).mono ?_
    rintro e w1 ⟨rfl, hb1⟩
    go_wp2_with fail
    refine (unit_q t q 0 _ hts HU.out HQ.out).mono ?_
    rintro e w2 ⟨rfl, hb2⟩
    have b2 := hb1.trans (hb2.mono hb1.size)
    clear hb1 hb2
    go_wp2
    go_ret3
    exact ⟨ret_iis (by rw [HG.out.1]; rfl) (by rw [HG.out.2.1]; rfl) (by rw [HG.out.2.2]), b2⟩
  · -- 3600000
    have HU := Lib.hid hu
    rcases count_cases h.data.toList 305419 with ⟨hw, hn, he⟩ | ⟨hw, hv, hn, he⟩ | ⟨hw, hv, hn, he⟩
    · have HG := Lib.hid (g_no (gOK_whole (l := s.data.toList) (by rw [hh]; exact hw)))
      have HN := Lib.hid hn
      have HE := Lib.hid he
      clear ht hh hq hl hz hu hw hn he
      go_enter Tryd.func18, Tryd.ntmps18
      go_wp2_with fail
      refine (trim_any _ t _ HT.out).mono ?_
      rintro e w1 ⟨rfl, hb1⟩
      go_wp2_with fail
      refine (unit_q t q 3600000 _ hts HU.out HQ.out).mono ?_
      rintro e w2 ⟨rfl, hb2⟩
      have b2 := hb1.trans (hb2.mono hb1.size)
      clear hb1 hb2
      go_wp2
      go_quiet (first | (go_at_call 29; exact Count_q h 305419 0 3 _ _ hhs (by decide) HN.out HE.out))
      go_wp2
      go_ret3
      exact ⟨ret_iis (by rw [HG.out.1]; rfl) (by rw [HG.out.2.1]; rfl) (by rw [HG.out.2.2]), Below.dr b2 _⟩
    · obtain ⟨v, hvv⟩ : ∃ v, val h.data.toList = v := ⟨_, rfl⟩
      rw [hvv] at hv hn
      have HN := Lib.hid hn
      have HE := Lib.hid he
      by_cases hv0 : v = 0
      · have HG := Lib.hid (g_no (gOK_zero (l := s.data.toList) (by rw [hh]; exact hw) (by rw [hh, hvv]; exact hv0)))
        subst hv0
        clear ht hh hq hl hz hu hw hn he hvv hv
        go_enter Tryd.func18, Tryd.ntmps18
        go_wp2_with fail
        refine (trim_any _ t _ HT.out).mono ?_
        rintro e w1 ⟨rfl, hb1⟩
        go_wp2_with fail
        refine (unit_q t q 3600000 _ hts HU.out HQ.out).mono ?_
        rintro e w2 ⟨rfl, hb2⟩
        have b2 := hb1.trans (hb2.mono hb1.size)
        clear hb1 hb2
        go_wp2
        go_quiet (first | (go_at_call 29; exact Count_q h 305419 ((0 : Nat) : Int) 0 _ _ hhs (by decide) HN.out HE.out))
        go_wp2
        go_ret3
        exact ⟨ret_iis (by rw [HG.out.1]; rfl) (by rw [HG.out.2.1]; rfl) (by rw [HG.out.2.2]), Below.dr b2 _⟩
      · have HG := Lib.hid (g_of_ok (l := s.data.toList) (u := 3600000) (by rw [ht]; exact hu) (by decide) (by rw [hh]; exact hw) (by rw [hh, hvv]; exact hv0) (by rw [hh, hvv]; exact hv))
        have HL : Hid (gL s.data.toList = v * 3600000) := Lib.hid (by rw [HG.out.1, hh, hvv])
        have HR : Hid (gR s.data.toList = q.data.toList) := Lib.hid (by rw [HG.out.2.2, ht, hq])
        have t1 : ((v : Int) == 0) = false := beq_eq_false_iff_ne.2 (by omega)
        have hvi : (v : Int) ≤ 305419 := by omega
        clear ht hh hq hl hz hu hw hn he hvv
        go_enter Tryd.func18, Tryd.ntmps18
        go_wp2_with fail
        refine (trim_any _ t _ HT.out).mono ?_
        rintro e w1 ⟨rfl, hb1⟩
        go_wp2_with fail
        refine (unit_q t q 3600000 _ hts HU.out HQ.out).mono ?_
        rintro e w2 ⟨rfl, hb2⟩
        have b2 := hb1.trans (hb2.mono hb1.size)
        clear hb1 hb2
        go_wp2
        go_quiet (first | (go_at_call 29; exact Count_q h 305419 (v : Int) 0 _ _ hhs (by decide) HN.out HE.out))
        go_wp2
        go_ret3
        exact ⟨ret_iis (by rw [HL.out]; omega) (by rw [HG.out.2.1]; rfl) (mk_of HR.out).symm, Below.dr b2 _⟩
    · have HG := Lib.hid (g_of_big (l := s.data.toList) (u := 3600000) (by rw [ht]; exact hu) (by decide) (by rw [hh]; exact hw) (by rw [hh]; exact hv))
      have HR : Hid (gR s.data.toList = q.data.toList) := Lib.hid (by rw [HG.out.2.2, ht, hq])
      have HN := Lib.hid hn
      have HE := Lib.hid he
      clear ht hh hq hl hz hu hw hn he hv
      go_enter Tryd.func18, Tryd.ntmps18
      go_wp2_with fail
      refine (trim_any _ t _ HT.out).mono ?_
      rintro e w1 ⟨rfl, hb1⟩
      go_wp2_with fail
      refine (unit_q t q 3600000 _ hts HU.out HQ.out).mono ?_
      rintro e w2 ⟨rfl, hb2⟩
      have b2 := hb1.trans (hb2.mono hb1.size)
      clear hb1 hb2
      go_wp2
      go_quiet (first | (go_at_call 29; exact Count_q h 305419 0 9 _ _ hhs (by decide) HN.out HE.out))
      go_wp2
      go_ret3
      exact ⟨ret_iis (by rw [HG.out.1]; rfl) (by rw [HG.out.2.1]; rfl) (mk_of HR.out).symm, Below.dr b2 _⟩
  · -- 60000
    have HU := Lib.hid hu
    rcases count_cases h.data.toList 18325193 with ⟨hw, hn, he⟩ | ⟨hw, hv, hn, he⟩ | ⟨hw, hv, hn, he⟩
    · have HG := Lib.hid (g_no (gOK_whole (l := s.data.toList) (by rw [hh]; exact hw)))
      have HN := Lib.hid hn
      have HE := Lib.hid he
      clear ht hh hq hl hz hu hw hn he
      go_enter Tryd.func18, Tryd.ntmps18
      go_wp2_with fail
      refine (trim_any _ t _ HT.out).mono ?_
      rintro e w1 ⟨rfl, hb1⟩
      go_wp2_with fail
      refine (unit_q t q 60000 _ hts HU.out HQ.out).mono ?_
      rintro e w2 ⟨rfl, hb2⟩
      have b2 := hb1.trans (hb2.mono hb1.size)
      clear hb1 hb2
      go_wp2
      go_quiet (first | (go_at_call 29; exact Count_q h 18325193 0 3 _ _ hhs (by decide) HN.out HE.out))
      go_wp2
      go_ret3
      exact ⟨ret_iis (by rw [HG.out.1]; rfl) (by rw [HG.out.2.1]; rfl) (by rw [HG.out.2.2]), Below.dr b2 _⟩
    · obtain ⟨v, hvv⟩ : ∃ v, val h.data.toList = v := ⟨_, rfl⟩
      rw [hvv] at hv hn
      have HN := Lib.hid hn
      have HE := Lib.hid he
      by_cases hv0 : v = 0
      · have HG := Lib.hid (g_no (gOK_zero (l := s.data.toList) (by rw [hh]; exact hw) (by rw [hh, hvv]; exact hv0)))
        subst hv0
        clear ht hh hq hl hz hu hw hn he hvv hv
        go_enter Tryd.func18, Tryd.ntmps18
        go_wp2_with fail
        refine (trim_any _ t _ HT.out).mono ?_
        rintro e w1 ⟨rfl, hb1⟩
        go_wp2_with fail
        refine (unit_q t q 60000 _ hts HU.out HQ.out).mono ?_
        rintro e w2 ⟨rfl, hb2⟩
        have b2 := hb1.trans (hb2.mono hb1.size)
        clear hb1 hb2
        go_wp2
        go_quiet (first | (go_at_call 29; exact Count_q h 18325193 ((0 : Nat) : Int) 0 _ _ hhs (by decide) HN.out HE.out))
        go_wp2
        go_ret3
        exact ⟨ret_iis (by rw [HG.out.1]; rfl) (by rw [HG.out.2.1]; rfl) (by rw [HG.out.2.2]), Below.dr b2 _⟩
      · have HG := Lib.hid (g_of_ok (l := s.data.toList) (u := 60000) (by rw [ht]; exact hu) (by decide) (by rw [hh]; exact hw) (by rw [hh, hvv]; exact hv0) (by rw [hh, hvv]; exact hv))
        have HL : Hid (gL s.data.toList = v * 60000) := Lib.hid (by rw [HG.out.1, hh, hvv])
        have HR : Hid (gR s.data.toList = q.data.toList) := Lib.hid (by rw [HG.out.2.2, ht, hq])
        have t1 : ((v : Int) == 0) = false := beq_eq_false_iff_ne.2 (by omega)
        have hvi : (v : Int) ≤ 18325193 := by omega
        clear ht hh hq hl hz hu hw hn he hvv
        go_enter Tryd.func18, Tryd.ntmps18
        go_wp2_with fail
        refine (trim_any _ t _ HT.out).mono ?_
        rintro e w1 ⟨rfl, hb1⟩
        go_wp2_with fail
        refine (unit_q t q 60000 _ hts HU.out HQ.out).mono ?_
        rintro e w2 ⟨rfl, hb2⟩
        have b2 := hb1.trans (hb2.mono hb1.size)
        clear hb1 hb2
        go_wp2
        go_quiet (first | (go_at_call 29; exact Count_q h 18325193 (v : Int) 0 _ _ hhs (by decide) HN.out HE.out))
        go_wp2
        go_ret3
        exact ⟨ret_iis (by rw [HL.out]; omega) (by rw [HG.out.2.1]; rfl) (mk_of HR.out).symm, Below.dr b2 _⟩
    · have HG := Lib.hid (g_of_big (l := s.data.toList) (u := 60000) (by rw [ht]; exact hu) (by decide) (by rw [hh]; exact hw) (by rw [hh]; exact hv))
      have HR : Hid (gR s.data.toList = q.data.toList) := Lib.hid (by rw [HG.out.2.2, ht, hq])
      have HN := Lib.hid hn
      have HE := Lib.hid he
      clear ht hh hq hl hz hu hw hn he hv
      go_enter Tryd.func18, Tryd.ntmps18
      go_wp2_with fail
      refine (trim_any _ t _ HT.out).mono ?_
      rintro e w1 ⟨rfl, hb1⟩
      go_wp2_with fail
      refine (unit_q t q 60000 _ hts HU.out HQ.out).mono ?_
      rintro e w2 ⟨rfl, hb2⟩
      have b2 := hb1.trans (hb2.mono hb1.size)
      clear hb1 hb2
      go_wp2
      go_quiet (first | (go_at_call 29; exact Count_q h 18325193 0 9 _ _ hhs (by decide) HN.out HE.out))
      go_wp2
      go_ret3
      exact ⟨ret_iis (by rw [HG.out.1]; rfl) (by rw [HG.out.2.1]; rfl) (mk_of HR.out).symm, Below.dr b2 _⟩
  · -- 1000
    have HU := Lib.hid hu
    rcases count_cases h.data.toList 1099511627 with ⟨hw, hn, he⟩ | ⟨hw, hv, hn, he⟩ | ⟨hw, hv, hn, he⟩
    · have HG := Lib.hid (g_no (gOK_whole (l := s.data.toList) (by rw [hh]; exact hw)))
      have HN := Lib.hid hn
      have HE := Lib.hid he
      clear ht hh hq hl hz hu hw hn he
      go_enter Tryd.func18, Tryd.ntmps18
      go_wp2_with fail
      refine (trim_any _ t _ HT.out).mono ?_
      rintro e w1 ⟨rfl, hb1⟩
      go_wp2_with fail
      refine (unit_q t q 1000 _ hts HU.out HQ.out).mono ?_
      rintro e w2 ⟨rfl, hb2⟩
      have b2 := hb1.trans (hb2.mono hb1.size)
      clear hb1 hb2
      go_wp2
      go_quiet (first | (go_at_call 29; exact Count_q h 1099511627 0 3 _ _ hhs (by decide) HN.out HE.out))
      go_wp2
      go_ret3
      exact ⟨ret_iis (by rw [HG.out.1]; rfl) (by rw [HG.out.2.1]; rfl) (by rw [HG.out.2.2]), Below.dr b2 _⟩
    · obtain ⟨v, hvv⟩ : ∃ v, val h.data.toList = v := ⟨_, rfl⟩
      rw [hvv] at hv hn
      have HN := Lib.hid hn
      have HE := Lib.hid he
      by_cases hv0 : v = 0
      · have HG := Lib.hid (g_no (gOK_zero (l := s.data.toList) (by rw [hh]; exact hw) (by rw [hh, hvv]; exact hv0)))
        subst hv0
        clear ht hh hq hl hz hu hw hn he hvv hv
        go_enter Tryd.func18, Tryd.ntmps18
        go_wp2_with fail
        refine (trim_any _ t _ HT.out).mono ?_
        rintro e w1 ⟨rfl, hb1⟩
        go_wp2_with fail
        refine (unit_q t q 1000 _ hts HU.out HQ.out).mono ?_
        rintro e w2 ⟨rfl, hb2⟩
        have b2 := hb1.trans (hb2.mono hb1.size)
        clear hb1 hb2
        go_wp2
        go_quiet (first | (go_at_call 29; exact Count_q h 1099511627 ((0 : Nat) : Int) 0 _ _ hhs (by decide) HN.out HE.out))
        go_wp2
        go_ret3
        exact ⟨ret_iis (by rw [HG.out.1]; rfl) (by rw [HG.out.2.1]; rfl) (by rw [HG.out.2.2]), Below.dr b2 _⟩
      · have HG := Lib.hid (g_of_ok (l := s.data.toList) (u := 1000) (by rw [ht]; exact hu) (by decide) (by rw [hh]; exact hw) (by rw [hh, hvv]; exact hv0) (by rw [hh, hvv]; exact hv))
        have HL : Hid (gL s.data.toList = v * 1000) := Lib.hid (by rw [HG.out.1, hh, hvv])
        have HR : Hid (gR s.data.toList = q.data.toList) := Lib.hid (by rw [HG.out.2.2, ht, hq])
        have t1 : ((v : Int) == 0) = false := beq_eq_false_iff_ne.2 (by omega)
        have hvi : (v : Int) ≤ 1099511627 := by omega
        clear ht hh hq hl hz hu hw hn he hvv
        go_enter Tryd.func18, Tryd.ntmps18
        go_wp2_with fail
        refine (trim_any _ t _ HT.out).mono ?_
        rintro e w1 ⟨rfl, hb1⟩
        go_wp2_with fail
        refine (unit_q t q 1000 _ hts HU.out HQ.out).mono ?_
        rintro e w2 ⟨rfl, hb2⟩
        have b2 := hb1.trans (hb2.mono hb1.size)
        clear hb1 hb2
        go_wp2
        go_quiet (first | (go_at_call 29; exact Count_q h 1099511627 (v : Int) 0 _ _ hhs (by decide) HN.out HE.out))
        go_wp2
        go_ret3
        exact ⟨ret_iis (by rw [HL.out]; omega) (by rw [HG.out.2.1]; rfl) (mk_of HR.out).symm, Below.dr b2 _⟩
    · have HG := Lib.hid (g_of_big (l := s.data.toList) (u := 1000) (by rw [ht]; exact hu) (by decide) (by rw [hh]; exact hw) (by rw [hh]; exact hv))
      have HR : Hid (gR s.data.toList = q.data.toList) := Lib.hid (by rw [HG.out.2.2, ht, hq])
      have HN := Lib.hid hn
      have HE := Lib.hid he
      clear ht hh hq hl hz hu hw hn he hv
      go_enter Tryd.func18, Tryd.ntmps18
      go_wp2_with fail
      refine (trim_any _ t _ HT.out).mono ?_
      rintro e w1 ⟨rfl, hb1⟩
      go_wp2_with fail
      refine (unit_q t q 1000 _ hts HU.out HQ.out).mono ?_
      rintro e w2 ⟨rfl, hb2⟩
      have b2 := hb1.trans (hb2.mono hb1.size)
      clear hb1 hb2
      go_wp2
      go_quiet (first | (go_at_call 29; exact Count_q h 1099511627 0 9 _ _ hhs (by decide) HN.out HE.out))
      go_wp2
      go_ret3
      exact ⟨ret_iis (by rw [HG.out.1]; rfl) (by rw [HG.out.2.1]; rfl) (mk_of HR.out).symm, Below.dr b2 _⟩
  · -- 1
    have HU := Lib.hid hu
    rcases count_cases h.data.toList 1099511627776 with ⟨hw, hn, he⟩ | ⟨hw, hv, hn, he⟩ | ⟨hw, hv, hn, he⟩
    · have HG := Lib.hid (g_no (gOK_whole (l := s.data.toList) (by rw [hh]; exact hw)))
      have HN := Lib.hid hn
      have HE := Lib.hid he
      clear ht hh hq hl hz hu hw hn he
      go_enter Tryd.func18, Tryd.ntmps18
      go_wp2_with fail
      refine (trim_any _ t _ HT.out).mono ?_
      rintro e w1 ⟨rfl, hb1⟩
      go_wp2_with fail
      refine (unit_q t q 1 _ hts HU.out HQ.out).mono ?_
      rintro e w2 ⟨rfl, hb2⟩
      have b2 := hb1.trans (hb2.mono hb1.size)
      clear hb1 hb2
      go_wp2
      go_quiet (first | (go_at_call 29; exact Count_q h 1099511627776 0 3 _ _ hhs (by decide) HN.out HE.out))
      go_wp2
      go_ret3
      exact ⟨ret_iis (by rw [HG.out.1]; rfl) (by rw [HG.out.2.1]; rfl) (by rw [HG.out.2.2]), Below.dr b2 _⟩
    · obtain ⟨v, hvv⟩ : ∃ v, val h.data.toList = v := ⟨_, rfl⟩
      rw [hvv] at hv hn
      have HN := Lib.hid hn
      have HE := Lib.hid he
      by_cases hv0 : v = 0
      · have HG := Lib.hid (g_no (gOK_zero (l := s.data.toList) (by rw [hh]; exact hw) (by rw [hh, hvv]; exact hv0)))
        subst hv0
        clear ht hh hq hl hz hu hw hn he hvv hv
        go_enter Tryd.func18, Tryd.ntmps18
        go_wp2_with fail
        refine (trim_any _ t _ HT.out).mono ?_
        rintro e w1 ⟨rfl, hb1⟩
        go_wp2_with fail
        refine (unit_q t q 1 _ hts HU.out HQ.out).mono ?_
        rintro e w2 ⟨rfl, hb2⟩
        have b2 := hb1.trans (hb2.mono hb1.size)
        clear hb1 hb2
        go_wp2
        go_quiet (first | (go_at_call 29; exact Count_q h 1099511627776 ((0 : Nat) : Int) 0 _ _ hhs (by decide) HN.out HE.out))
        go_wp2
        go_ret3
        exact ⟨ret_iis (by rw [HG.out.1]; rfl) (by rw [HG.out.2.1]; rfl) (by rw [HG.out.2.2]), Below.dr b2 _⟩
      · have HG := Lib.hid (g_of_ok (l := s.data.toList) (u := 1) (by rw [ht]; exact hu) (by decide) (by rw [hh]; exact hw) (by rw [hh, hvv]; exact hv0) (by rw [hh, hvv]; exact hv))
        have HL : Hid (gL s.data.toList = v * 1) := Lib.hid (by rw [HG.out.1, hh, hvv])
        have HR : Hid (gR s.data.toList = q.data.toList) := Lib.hid (by rw [HG.out.2.2, ht, hq])
        have t1 : ((v : Int) == 0) = false := beq_eq_false_iff_ne.2 (by omega)
        have hvi : (v : Int) ≤ 1099511627776 := by omega
        clear ht hh hq hl hz hu hw hn he hvv
        go_enter Tryd.func18, Tryd.ntmps18
        go_wp2_with fail
        refine (trim_any _ t _ HT.out).mono ?_
        rintro e w1 ⟨rfl, hb1⟩
        go_wp2_with fail
        refine (unit_q t q 1 _ hts HU.out HQ.out).mono ?_
        rintro e w2 ⟨rfl, hb2⟩
        have b2 := hb1.trans (hb2.mono hb1.size)
        clear hb1 hb2
        go_wp2
        go_quiet (first | (go_at_call 29; exact Count_q h 1099511627776 (v : Int) 0 _ _ hhs (by decide) HN.out HE.out))
        go_wp2
        go_ret3
        exact ⟨ret_iis (by rw [HL.out]; omega) (by rw [HG.out.2.1]; rfl) (mk_of HR.out).symm, Below.dr b2 _⟩
    · have HG := Lib.hid (g_of_big (l := s.data.toList) (u := 1) (by rw [ht]; exact hu) (by decide) (by rw [hh]; exact hw) (by rw [hh]; exact hv))
      have HR : Hid (gR s.data.toList = q.data.toList) := Lib.hid (by rw [HG.out.2.2, ht, hq])
      have HN := Lib.hid hn
      have HE := Lib.hid he
      clear ht hh hq hl hz hu hw hn he hv
      go_enter Tryd.func18, Tryd.ntmps18
      go_wp2_with fail
      refine (trim_any _ t _ HT.out).mono ?_
      rintro e w1 ⟨rfl, hb1⟩
      go_wp2_with fail
      refine (unit_q t q 1 _ hts HU.out HQ.out).mono ?_
      rintro e w2 ⟨rfl, hb2⟩
      have b2 := hb1.trans (hb2.mono hb1.size)
      clear hb1 hb2
      go_wp2
      go_quiet (first | (go_at_call 29; exact Count_q h 1099511627776 0 9 _ _ hhs (by decide) HN.out HE.out))
      go_wp2
      go_ret3
      exact ⟨ret_iis (by rw [HG.out.1]; rfl) (by rw [HG.out.2.1]; rfl) (mk_of HR.out).symm, Below.dr b2 _⟩
end Go.Proofs.YtegljoikdfjepaaDoor
