/- The contracts of the document's own long, Unit and Text. -/
import Derived.Test.YtagccngcedblhaaDoorSizSpell
import Derived.Test.YtagccngcedblhaaDoorSizText
import Derived.Test.YtagccngcedblhaaDoorRefDig1
namespace Go.Proofs.YtagccngcedblhaaDoor
open Go.RowKit
open Dg
set_option linter.unusedVariables false
set_option maxHeartbeats 4000000 in
theorem long_any (s : ByteArray) (w : World) :
    Calls Tryd.prog 16 #[.string s] w fun e w' => e = .returned (.int .i64 (uz s.data.toList : Int)) ∧ w = w' := by
  rcases uz_cases s.data.toList with ⟨hu, h0, h1, h2, h3, h4, h5, h6, h7⟩ | ⟨hu, h | h⟩ | ⟨hu, h | h⟩ | ⟨hu, h | h⟩ | ⟨hu, h | h⟩
  · obtain ⟨b1, b2⟩ := tl_ne_nil h0
    have c0 := tl_ne h0
    have c1 := tl_ne h1
    have c2 := tl_ne h2
    have c3 := tl_ne h3
    have c4 := tl_ne h4
    have c5 := tl_ne h5
    have c6 := tl_ne h6
    have c7 := tl_ne h7
    have HU := Lib.hid hu
    clear hu h0 h1 h2 h3 h4 h5 h6 h7
    go_enter Tryd.func16, Tryd.ntmps16
    go_wp2
    go_ret
    exact ⟨ret_int (by rw [HU.out]; rfl), rfl⟩
  · obtain rfl : s = ⟨#[]⟩ := bytes_ext h
    clear hu h
    go_enter Tryd.func16, Tryd.ntmps16
    go_wp2
    go_ret
    exact ⟨rfl, rfl⟩
  · obtain rfl : s = ⟨#[98]⟩ := bytes_ext h
    clear hu h
    go_enter Tryd.func16, Tryd.ntmps16
    go_wp2
    go_ret
    exact ⟨rfl, rfl⟩
  · obtain rfl : s = ⟨#[107]⟩ := bytes_ext h
    clear hu h
    go_enter Tryd.func16, Tryd.ntmps16
    go_wp2
    go_ret
    exact ⟨rfl, rfl⟩
  · obtain rfl : s = ⟨#[107, 98]⟩ := bytes_ext h
    clear hu h
    go_enter Tryd.func16, Tryd.ntmps16
    go_wp2
    go_ret
    exact ⟨rfl, rfl⟩
  · obtain rfl : s = ⟨#[109]⟩ := bytes_ext h
    clear hu h
    go_enter Tryd.func16, Tryd.ntmps16
    go_wp2
    go_ret
    exact ⟨rfl, rfl⟩
  · obtain rfl : s = ⟨#[109, 98]⟩ := bytes_ext h
    clear hu h
    go_enter Tryd.func16, Tryd.ntmps16
    go_wp2
    go_ret
    exact ⟨rfl, rfl⟩
  · obtain rfl : s = ⟨#[103]⟩ := bytes_ext h
    clear hu h
    go_enter Tryd.func16, Tryd.ntmps16
    go_wp2
    go_ret
    exact ⟨rfl, rfl⟩
  · obtain rfl : s = ⟨#[103, 98]⟩ := bytes_ext h
    clear hu h
    go_enter Tryd.func16, Tryd.ntmps16
    go_wp2
    go_ret
    exact ⟨rfl, rfl⟩
set_option maxHeartbeats 4000000 in
theorem RUnit_any (n : Int) (w : World) (h1 : -9223372036854775808 ≤ n) (h2 : n ≤ 9223372036854775807) :
    Calls Tryd.prog 12 #[.int .i64 n] w fun e w' => e = .returned (.int .i64 (zU n)) ∧ w = w' := by
  by_cases h : n < 0 ∨ 1125899906842624 < n
  · have HU := Lib.hid (zU_no h)
    by_cases h0 : n < 0
    · clear h
      go_enter Tryd.func12, Tryd.ntmps12
      go_wp2
      go_ret
      exact ⟨ret_int HU.out.symm, rfl⟩
    · have h3 : (1125899906842624 : Int) < n := by omega
      clear h
      go_enter Tryd.func12, Tryd.ntmps12
      go_wp2
      go_ret
      exact ⟨ret_int HU.out.symm, rfl⟩
  · obtain ⟨m, rfl⟩ : ∃ m : Nat, n = (m : Int) := ⟨n.toNat, by omega⟩
    have hm : m ≤ 1125899906842624 := by omega
    have n0 : ¬ (m : Int) < 0 := by omega
    have n1 : ¬ (1125899906842624 : Int) < (m : Int) := by omega
    by_cases h0 : m = 0
    · subst h0
      clear h
      go_enter Tryd.func12, Tryd.ntmps12
      go_wp2
      go_ret
      exact ⟨ret_int rfl, rfl⟩
    · have z0 : ((m : Int) == 0) = false := beq_eq_false_iff_ne.2 (by omega)
      rcases jz_cases m with ⟨-, hb, -, g⟩ | ⟨-, hb, -, g0, g1, g2⟩ | ⟨-, hb, -, g0, g1, g2⟩ | ⟨-, hb, -, g0, g1⟩
      · have HU : Hid (zU (m : Int) = 1) := Lib.hid (by rw [zU_in hm, hb]; rfl)
        have z1 : ((m : Int) % 1024 == 0) = false := beq_eq_false_iff_ne.2 (by omega)
        have z2 : ((m : Int) % 1048576 == 0) = false := beq_eq_false_iff_ne.2 (by omega)
        have z3 : ((m : Int) % 1073741824 == 0) = false := beq_eq_false_iff_ne.2 (by omega)
        clear h hm hb h0 g
        go_enter Tryd.func12, Tryd.ntmps12
        go_wp2
        go_ret
        exact ⟨ret_int HU.out.symm, rfl⟩
      · have HU : Hid (zU (m : Int) = 1024) := Lib.hid (by rw [zU_in hm, hb]; rfl)
        have z1 : ((m : Int) % 1024 == 0) = true := beq_iff_eq.2 (by omega)
        have z2 : ((m : Int) % 1048576 == 0) = false := beq_eq_false_iff_ne.2 (by omega)
        have z3 : ((m : Int) % 1073741824 == 0) = false := beq_eq_false_iff_ne.2 (by omega)
        clear h hm hb h0 g0 g1 g2
        go_enter Tryd.func12, Tryd.ntmps12
        go_wp2
        go_ret
        exact ⟨ret_int HU.out.symm, rfl⟩
      · have HU : Hid (zU (m : Int) = 1048576) := Lib.hid (by rw [zU_in hm, hb]; rfl)
        have z1 : ((m : Int) % 1024 == 0) = true := beq_iff_eq.2 (by omega)
        have z2 : ((m : Int) % 1048576 == 0) = true := beq_iff_eq.2 (by omega)
        have z3 : ((m : Int) % 1073741824 == 0) = false := beq_eq_false_iff_ne.2 (by omega)
        clear h hm hb h0 g0 g1 g2
        go_enter Tryd.func12, Tryd.ntmps12
        go_wp2
        go_ret
        exact ⟨ret_int HU.out.symm, rfl⟩
      · have HU : Hid (zU (m : Int) = 1073741824) := Lib.hid (by rw [zU_in hm, hb]; rfl)
        have z1 : ((m : Int) % 1024 == 0) = true := beq_iff_eq.2 (by omega)
        have z2 : ((m : Int) % 1048576 == 0) = true := beq_iff_eq.2 (by omega)
        have z3 : ((m : Int) % 1073741824 == 0) = true := beq_iff_eq.2 (by omega)
        clear h hm hb h0 g0 g1
        go_enter Tryd.func12, Tryd.ntmps12
        go_wp2
        go_ret
        exact ⟨ret_int HU.out.symm, rfl⟩
theorem RUnit_q (n u : Int) (w : World) (h1 : -9223372036854775808 ≤ n) (h2 : n ≤ 9223372036854775807) (hu : zU n = u) :
    Calls Tryd.prog 12 #[.int .i64 n] w fun e w' => e = .returned (.int .i64 u) ∧ w = w' := by
  subst hu; exact RUnit_any n w h1 h2
theorem RText_q (x : Int) (d : ByteArray) (m : Nat) (w : World) (hx : x = (m : Int)) (hm : m ≤ 1125899906842624) (hd : dgw 1 m = d.data.toList) :
    Calls Tryd.prog 22 #[.int .i64 x] w fun e w' => e = .returned (.string d) ∧ Below w.heap.size w w' := by
  subst hx
  exact (RText_any (m : Int) w (by omega) (by omega)).mono fun e w' ⟨h1, h2⟩ => ⟨by rw [h1, textL_nat, mk_of hd], h2⟩
set_option maxHeartbeats 4000000 in
theorem RZText_any (n : Int) (w : World) (h1 : -9223372036854775808 ≤ n) (h2 : n ≤ 9223372036854775807) :
    Calls Tryd.prog 10 #[.int .i64 n] w fun e w' => e = .returned (.string ⟨(zT n).toArray⟩) ∧ Below w.heap.size w w' := by
  by_cases h : n < 0 ∨ 1125899906842624 < n
  · have HU := Lib.hid (zT_no h)
    have HN := Lib.hid (zU_no h)
    clear h
    go_enter Tryd.func10, Tryd.ntmps10
    go_wp2_with (go_at_call 12; refine (RUnit_q n 0 _ h1 h2 HN.out).mono ?_; rintro e w1 ⟨rfl, rfl⟩)
    go_ret
    exact ⟨ret_str (by rw [HU.out]), Below.refl _ _⟩
  · obtain ⟨m, rfl⟩ : ∃ m : Nat, n = (m : Int) := ⟨n.toNat, by omega⟩
    have hm : m ≤ 1125899906842624 := by omega
    have HM := Lib.hid hm
    rcases jz_cases m with ⟨-, hb, hl, -⟩ | ⟨-, hb, hl, -⟩ | ⟨-, hb, hl, -⟩ | ⟨-, hb, hl, -⟩
    · obtain ⟨d, hd⟩ : ∃ d : ByteArray, dgw 1 (m / 1) = d.data.toList := ⟨⟨(dgw 1 (m / 1)).toArray⟩, by simp⟩
      have hds : d.size ≤ 16 := by rw [size_of hd]; exact dgw_16 (by omega)
      have HT : Hid (zT (m : Int) = d.data.toList ++ []) := Lib.hid (by rw [zT_in hm]; unfold zTN; rw [hb, hl, hd])
      have HB : Hid (zU (m : Int) = 1) := Lib.hid (by rw [zU_in hm, hb]; rfl)
      have HD := Lib.hid hd
      clear hb hl h hm hd
      go_enter Tryd.func10, Tryd.ntmps10
      go_wp2_with (go_at_call 12; refine (RUnit_q (m : Int) 1 _ h1 h2 HB.out).mono ?_; rintro e w1 ⟨rfl, rfl⟩)
      refine (RText_q _ d (m / 1) _ (by omega) (by have := HM.out; omega) HD.out).mono ?_
      rintro e w2 ⟨rfl, hb2⟩
      go_wp2
      go_ret
      exact ⟨ret_str (by rw [HT.out]; exact bytes_ext (by first | rw [data_app] | simp)), hb2⟩
    · obtain ⟨d, hd⟩ : ∃ d : ByteArray, dgw 1 (m / 1024) = d.data.toList := ⟨⟨(dgw 1 (m / 1024)).toArray⟩, by simp⟩
      have hds : d.size ≤ 16 := by rw [size_of hd]; exact dgw_16 (by omega)
      have HT : Hid (zT (m : Int) = d.data.toList ++ [107]) := Lib.hid (by rw [zT_in hm]; unfold zTN; rw [hb, hl, hd])
      have HB : Hid (zU (m : Int) = 1024) := Lib.hid (by rw [zU_in hm, hb]; rfl)
      have HD := Lib.hid hd
      clear hb hl h hm hd
      go_enter Tryd.func10, Tryd.ntmps10
      go_wp2_with (go_at_call 12; refine (RUnit_q (m : Int) 1024 _ h1 h2 HB.out).mono ?_; rintro e w1 ⟨rfl, rfl⟩)
      refine (RText_q _ d (m / 1024) _ (by omega) (by have := HM.out; omega) HD.out).mono ?_
      rintro e w2 ⟨rfl, hb2⟩
      go_wp2
      go_ret
      exact ⟨ret_str (by rw [HT.out]; exact bytes_ext (by first | rw [data_app] | simp)), hb2⟩
    · obtain ⟨d, hd⟩ : ∃ d : ByteArray, dgw 1 (m / 1048576) = d.data.toList := ⟨⟨(dgw 1 (m / 1048576)).toArray⟩, by simp⟩
      have hds : d.size ≤ 16 := by rw [size_of hd]; exact dgw_16 (by omega)
      have HT : Hid (zT (m : Int) = d.data.toList ++ [109]) := Lib.hid (by rw [zT_in hm]; unfold zTN; rw [hb, hl, hd])
      have HB : Hid (zU (m : Int) = 1048576) := Lib.hid (by rw [zU_in hm, hb]; rfl)
      have HD := Lib.hid hd
      clear hb hl h hm hd
      go_enter Tryd.func10, Tryd.ntmps10
      go_wp2_with (go_at_call 12; refine (RUnit_q (m : Int) 1048576 _ h1 h2 HB.out).mono ?_; rintro e w1 ⟨rfl, rfl⟩)
      refine (RText_q _ d (m / 1048576) _ (by omega) (by have := HM.out; omega) HD.out).mono ?_
      rintro e w2 ⟨rfl, hb2⟩
      go_wp2
      go_ret
      exact ⟨ret_str (by rw [HT.out]; exact bytes_ext (by first | rw [data_app] | simp)), hb2⟩
    · obtain ⟨d, hd⟩ : ∃ d : ByteArray, dgw 1 (m / 1073741824) = d.data.toList := ⟨⟨(dgw 1 (m / 1073741824)).toArray⟩, by simp⟩
      have hds : d.size ≤ 16 := by rw [size_of hd]; exact dgw_16 (by omega)
      have HT : Hid (zT (m : Int) = d.data.toList ++ [103]) := Lib.hid (by rw [zT_in hm]; unfold zTN; rw [hb, hl, hd])
      have HB : Hid (zU (m : Int) = 1073741824) := Lib.hid (by rw [zU_in hm, hb]; rfl)
      have HD := Lib.hid hd
      clear hb hl h hm hd
      go_enter Tryd.func10, Tryd.ntmps10
      go_wp2_with (go_at_call 12; refine (RUnit_q (m : Int) 1073741824 _ h1 h2 HB.out).mono ?_; rintro e w1 ⟨rfl, rfl⟩)
      refine (RText_q _ d (m / 1073741824) _ (by omega) (by have := HM.out; omega) HD.out).mono ?_
      rintro e w2 ⟨rfl, hb2⟩
      go_wp2
      go_ret
      exact ⟨ret_str (by rw [HT.out]; exact bytes_ext (by first | rw [data_app] | simp)), hb2⟩
end Go.Proofs.YtagccngcedblhaaDoor
