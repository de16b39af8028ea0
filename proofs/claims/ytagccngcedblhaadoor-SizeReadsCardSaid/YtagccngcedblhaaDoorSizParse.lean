/- The contract of size.Parse. -/
import Derived.Test.YtagccngcedblhaaDoorSizSpell
import Derived.Lib.SlTrimSet
import Derived.Laws.Runes
namespace Go.Proofs.YtagccngcedblhaaDoor
open Go.RowKit
open Dg
set_option linter.unusedVariables false
theorem digit_set (c : UInt8) : [48, 49, 50, 51, 52, 53, 54, 55, 56, 57].contains c = isDig c := by
  rw [Bool.eq_iff_iff, List.contains_iff_mem]
  constructor
  · intro h
    simp only [List.mem_cons, List.not_mem_nil, or_false] at h
    rcases h with rfl | rfl | rfl | rfl | rfl | rfl | rfl | rfl | rfl | rfl <;> rfl
  · intro h
    have h1 := dv_le h
    have h2 : c.toNat = 48 ∨ c.toNat = 49 ∨ c.toNat = 50 ∨ c.toNat = 51 ∨ c.toNat = 52 ∨ c.toNat = 53 ∨ c.toNat = 54 ∨ c.toNat = 55 ∨ c.toNat = 56 ∨ c.toNat = 57 := by omega
    simp only [List.mem_cons, List.not_mem_nil, or_false]
    rcases h2 with h | h | h | h | h | h | h | h | h | h
    · left; exact UInt8.toNat_inj.1 h
    · right; left; exact UInt8.toNat_inj.1 h
    · right; right; left; exact UInt8.toNat_inj.1 h
    · right; right; right; left; exact UInt8.toNat_inj.1 h
    · right; right; right; right; left; exact UInt8.toNat_inj.1 h
    · right; right; right; right; right; left; exact UInt8.toNat_inj.1 h
    · right; right; right; right; right; right; left; exact UInt8.toNat_inj.1 h
    · right; right; right; right; right; right; right; left; exact UInt8.toNat_inj.1 h
    · right; right; right; right; right; right; right; right; left; exact UInt8.toNat_inj.1 h
    · right; right; right; right; right; right; right; right; right; exact UInt8.toNat_inj.1 h
theorem trim_tl (l : List UInt8) : Lib.trimLeftS l [48, 49, 50, 51, 52, 53, 54, 55, 56, 57] = tlD l := by
  unfold Lib.trimLeftS tlD
  congr 1
  funext c
  exact digit_set c
theorem trim_any (s t : ByteArray) (w : World) (h : tlD s.data.toList = t.data.toList) :
    Calls Tryd.prog 13 #[.string s, .string ⟨#[48, 49, 50, 51, 52, 53, 54, 55, 56, 57]⟩] w fun e w' => e = .returned (.string t) ∧ Below w.heap.size w w' :=
  (Tryd.strings_TrimLeft_ascii s ⟨#[48, 49, 50, 51, 52, 53, 54, 55, 56, 57]⟩ w (by decide) (ascii_of_all (by decide))).mono fun e w' ⟨h1, h2⟩ => ⟨by rw [h1]; congr 2; exact mk_of ((trim_tl _).trans h), h2⟩
theorem Count_q (h : ByteArray) (k : Nat) (n e0 : Int) (w : World) (m : Nat) (hs : h.size ≤ maxLen) (hk : k ≤ 1125899906842624) (hn : countN h.data.toList k = n) (he : countE h.data.toList k = e0) :
    Calls Tryd.prog 15 #[.string h, .int .i64 (k : Int)] (w.drewN m) fun e w'' => e = .returned (.tuple #[.int .i64 n, .int .i64 e0]) ∧ ∃ m', w'' = w.drewN m' :=
  Calls.quiet_of_same ((Count_any h k _ hs (by omega) (by omega)).mono fun e w' ⟨h1, h2⟩ => ⟨by rw [h1, hn, he], h2.symm⟩)
theorem drewN_below (w : World) (n : Nat) : Below w.heap.size w (w.drewN n) := ⟨rfl, rfl, rfl, Nat.le_refl _, fun _ _ => rfl⟩
theorem Below.dr {w w2 : World} (h : Below w.heap.size w w2) (n : Nat) : Below w.heap.size w (w2.drewN n) := h.trans ((drewN_below w2 n).mono h.size)
theorem spelled_q (t : ByteArray) (u : Nat) (k : Int) (b : Bool) (w : World) (hL : Let4 w) (hs : t.size ≤ maxLen) (hu : uz t.data.toList = u) (hk : kz u = k) (hb : (u != 0) = b) :
    Calls Tryd.prog 14 #[.string t] w fun e w' => e = .returned (.tuple #[.int .i64 k, .bool b]) ∧ w = w' := by
  subst hu; subst hk; subst hb; exact spelled_any t w hL hs
theorem count_bd (l : List UInt8) (k : Nat) : 0 ≤ countN l k ∧ countN l k ≤ (k : Int) := by
  rcases count_cases l k with ⟨-, e, -⟩ | ⟨-, hv, e, -⟩ | ⟨-, -, e, -⟩ <;> rw [e] <;> omega
set_option maxHeartbeats 4000000 in
theorem ZParse_any (s : ByteArray) (w : World) (hL : Let4 w) (hs : s.size ≤ maxLen) :
    Calls Tryd.prog 7 #[.string s] w fun e w' => e = .returned (.tuple #[.int .i64 (zN s.data.toList), .int .i64 (zE s.data.toList)]) ∧ Below w.heap.size w w' := by
  obtain ⟨t, ht⟩ : ∃ t : ByteArray, tlD s.data.toList = t.data.toList := ⟨⟨(tlD s.data.toList).toArray⟩, by simp⟩
  obtain ⟨h, hh⟩ : ∃ h : ByteArray, hdD s.data.toList = h.data.toList := ⟨⟨(hdD s.data.toList).toArray⟩, by simp⟩
  have hl : s.data.toList = h.data.toList ++ t.data.toList := by rw [← hh, ← ht, hd_tl]
  have hz : s.size = h.size + t.size := by rw [← len_eq s, hl, List.length_append, len_eq, len_eq]
  have hx : s.extract 0 h.size = h := bytes_ext (by rw [Lib.extract_data, hl]; exact List.take_left)
  have hts : t.size ≤ maxLen := by omega
  have hhs : h.size ≤ maxLen := by omega
  have hsz : (s.size : Int) - (t.size : Int) = (h.size : Int) := by omega
  have hle : h.size ≤ s.size := by omega
  have hwr : IntKind.i64.wrap (h.size : Int) = (h.size : Int) := wrap_small _ (by omega) (by unfold maxLen at hhs; omega)
  have HT := Lib.hid ht
  have HL := Lib.hid hL
  clear hL
  rcases (show uz t.data.toList = 0 ∨ uz t.data.toList = 1 ∨ uz t.data.toList = 1024 ∨ uz t.data.toList = 1048576 ∨ uz t.data.toList = 1073741824 by
    rcases uz_cases t.data.toList with ⟨e, -⟩ | ⟨e, -⟩ | ⟨e, -⟩ | ⟨e, -⟩ | ⟨e, -⟩ <;> rw [e] <;> decide) with hu | hu | hu | hu | hu
  · have HU := Lib.hid hu
    have HG := Lib.hid (z_no (l := s.data.toList) (by rw [ht]; exact hu))
    clear ht hh hl hz hu hx
    go_enter Tryd.func7, Tryd.ntmps7
    go_wp2_with fail
    refine (trim_any _ t _ HT.out).mono ?_
    rintro e w1 ⟨rfl, hb1⟩
    go_wp2_with fail
    refine (spelled_q t 0 0 false _ (HL.out.keep hb1) hts HU.out rfl rfl).mono ?_
    rintro e w2 ⟨rfl, rfl⟩
    go_wp2
    go_ret2
    exact ⟨ret_ii HG.out.1.symm HG.out.2.symm, hb1⟩
  · have HU := Lib.hid hu
    have hG := z_at (l := s.data.toList) (u := 1) (by rw [ht]; exact hu) (by decide)
    rw [hh] at hG
    obtain ⟨e0, he⟩ : ∃ e0, countE h.data.toList ((1125899906842624 : Nat) : Int) = e0 := ⟨_, rfl⟩
    obtain ⟨c, hc⟩ : ∃ c, countN h.data.toList ((1125899906842624 : Nat) : Int) = c := ⟨_, rfl⟩
    have hcb := count_bd h.data.toList 1125899906842624
    rw [hc] at hcb
    have HG : Hid (zN s.data.toList = c * 1 ∧ zE s.data.toList = e0) := Lib.hid ⟨hG.1.trans (congrArg (· * ((1 : Nat) : Int)) hc), hG.2.trans he⟩
    have HN := Lib.hid hc
    have HE := Lib.hid he
    have hc0 : 0 ≤ c := hcb.1
    have hc1 : c ≤ 1125899906842624 := hcb.2
    have hw1 : IntKind.i64.wrap 0 = 0 := by decide
    have hw2 : IntKind.i64.wrap (c * 1) = c * 1 := wrap_small _ (by omega) (by omega)
    clear ht hh hl hz hu hG hcb hc he
    go_enter Tryd.func7, Tryd.ntmps7
    go_wp2_with fail
    refine (trim_any _ t _ HT.out).mono ?_
    rintro e w1 ⟨rfl, hb1⟩
    go_wp2_with fail
    refine (spelled_q t 1 0 true _ (HL.out.keep hb1) hts HU.out rfl rfl).mono ?_
    rintro e w2 ⟨rfl, rfl⟩
    go_wp2
    go_quiet (first | (go_at_call 15; exact Count_q h 1125899906842624 c e0 _ _ hhs (by decide) HN.out HE.out))
    go_wp2
    go_ret2
    exact ⟨ret_ii (by rw [HG.out.1]; try omega) HG.out.2.symm, Below.dr hb1 _⟩
  · have HU := Lib.hid hu
    have hG := z_at (l := s.data.toList) (u := 1024) (by rw [ht]; exact hu) (by decide)
    rw [hh] at hG
    obtain ⟨e0, he⟩ : ∃ e0, countE h.data.toList ((1099511627776 : Nat) : Int) = e0 := ⟨_, rfl⟩
    obtain ⟨c, hc⟩ : ∃ c, countN h.data.toList ((1099511627776 : Nat) : Int) = c := ⟨_, rfl⟩
    have hcb := count_bd h.data.toList 1099511627776
    rw [hc] at hcb
    have HG : Hid (zN s.data.toList = c * 1024 ∧ zE s.data.toList = e0) := Lib.hid ⟨hG.1.trans (congrArg (· * ((1024 : Nat) : Int)) hc), hG.2.trans he⟩
    have HN := Lib.hid hc
    have HE := Lib.hid he
    have hc0 : 0 ≤ c := hcb.1
    have hc1 : c ≤ 1099511627776 := hcb.2
    have hw1 : IntKind.i64.wrap 10 = 10 := by decide
    have hw2 : IntKind.i64.wrap (c * 1024) = c * 1024 := wrap_small _ (by omega) (by omega)
    clear ht hh hl hz hu hG hcb hc he
    go_enter Tryd.func7, Tryd.ntmps7
    go_wp2_with fail
    refine (trim_any _ t _ HT.out).mono ?_
    rintro e w1 ⟨rfl, hb1⟩
    go_wp2_with fail
    refine (spelled_q t 1024 1 true _ (HL.out.keep hb1) hts HU.out rfl rfl).mono ?_
    rintro e w2 ⟨rfl, rfl⟩
    go_wp2
    go_quiet (first | (go_at_call 15; exact Count_q h 1099511627776 c e0 _ _ hhs (by decide) HN.out HE.out))
    go_wp2
    go_ret2
    exact ⟨ret_ii (by rw [HG.out.1]; try omega) HG.out.2.symm, Below.dr hb1 _⟩
  · have HU := Lib.hid hu
    have hG := z_at (l := s.data.toList) (u := 1048576) (by rw [ht]; exact hu) (by decide)
    rw [hh] at hG
    obtain ⟨e0, he⟩ : ∃ e0, countE h.data.toList ((1073741824 : Nat) : Int) = e0 := ⟨_, rfl⟩
    obtain ⟨c, hc⟩ : ∃ c, countN h.data.toList ((1073741824 : Nat) : Int) = c := ⟨_, rfl⟩
    have hcb := count_bd h.data.toList 1073741824
    rw [hc] at hcb
    have HG : Hid (zN s.data.toList = c * 1048576 ∧ zE s.data.toList = e0) := Lib.hid ⟨hG.1.trans (congrArg (· * ((1048576 : Nat) : Int)) hc), hG.2.trans he⟩
    have HN := Lib.hid hc
    have HE := Lib.hid he
    have hc0 : 0 ≤ c := hcb.1
    have hc1 : c ≤ 1073741824 := hcb.2
    have hw1 : IntKind.i64.wrap 20 = 20 := by decide
    have hw2 : IntKind.i64.wrap (c * 1048576) = c * 1048576 := wrap_small _ (by omega) (by omega)
    clear ht hh hl hz hu hG hcb hc he
    go_enter Tryd.func7, Tryd.ntmps7
    go_wp2_with fail
    refine (trim_any _ t _ HT.out).mono ?_
    rintro e w1 ⟨rfl, hb1⟩
    go_wp2_with fail
    refine (spelled_q t 1048576 2 true _ (HL.out.keep hb1) hts HU.out rfl rfl).mono ?_
    rintro e w2 ⟨rfl, rfl⟩
    go_wp2
    go_quiet (first | (go_at_call 15; exact Count_q h 1073741824 c e0 _ _ hhs (by decide) HN.out HE.out))
    go_wp2
    go_ret2
    exact ⟨ret_ii (by rw [HG.out.1]; try omega) HG.out.2.symm, Below.dr hb1 _⟩
  · have HU := Lib.hid hu
    have hG := z_at (l := s.data.toList) (u := 1073741824) (by rw [ht]; exact hu) (by decide)
    rw [hh] at hG
    obtain ⟨e0, he⟩ : ∃ e0, countE h.data.toList ((1048576 : Nat) : Int) = e0 := ⟨_, rfl⟩
    obtain ⟨c, hc⟩ : ∃ c, countN h.data.toList ((1048576 : Nat) : Int) = c := ⟨_, rfl⟩
    have hcb := count_bd h.data.toList 1048576
    rw [hc] at hcb
    have HG : Hid (zN s.data.toList = c * 1073741824 ∧ zE s.data.toList = e0) := Lib.hid ⟨hG.1.trans (congrArg (· * ((1073741824 : Nat) : Int)) hc), hG.2.trans he⟩
    have HN := Lib.hid hc
    have HE := Lib.hid he
    have hc0 : 0 ≤ c := hcb.1
    have hc1 : c ≤ 1048576 := hcb.2
    have hw1 : IntKind.i64.wrap 30 = 30 := by decide
    have hw2 : IntKind.i64.wrap (c * 1073741824) = c * 1073741824 := wrap_small _ (by omega) (by omega)
    clear ht hh hl hz hu hG hcb hc he
    go_enter Tryd.func7, Tryd.ntmps7
    go_wp2_with fail
    refine (trim_any _ t _ HT.out).mono ?_
    rintro e w1 ⟨rfl, hb1⟩
    go_wp2_with fail
    refine (spelled_q t 1073741824 3 true _ (HL.out.keep hb1) hts HU.out rfl rfl).mono ?_
    rintro e w2 ⟨rfl, rfl⟩
    go_wp2
    go_quiet (first | (go_at_call 15; exact Count_q h 1048576 c e0 _ _ hhs (by decide) HN.out HE.out))
    go_wp2
    go_ret2
    exact ⟨ret_ii (by rw [HG.out.1]; try omega) HG.out.2.symm, Below.dr hb1 _⟩
end Go.Proofs.YtagccngcedblhaaDoor
