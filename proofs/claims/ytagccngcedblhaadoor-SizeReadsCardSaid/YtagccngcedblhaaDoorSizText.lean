/- The contract of size.Text. -/
import Derived.Test.YtagccngcedblhaaDoorSizLarge
import Derived.Deep.RegionHeld
import Derived.Laws.Runes
namespace Go.Proofs.YtagccngcedblhaaDoor
open Go.RowKit
open Dg
set_option linter.unusedVariables false
theorem textL_nat (m : Nat) : textL (m : Int) = dgw 1 m := by
  unfold textL; rw [if_neg (by omega), Int.natAbs_natCast]
theorem dgw_16 {m : Nat} (hm : m ≤ 1125899906842624) : (dgw 1 m).length ≤ 16 := dgw_len 1 m 16 (by omega) (by omega)
theorem LText_s (x : Int) (d : ByteArray) (m : Nat) (w w0 : World) (j : Nat) (nm : ByteArray) (hx : x = (m : Int)) (hm : m ≤ 1125899906842624) (hd : dgw 1 m = d.data.toList) (h0 : 0 < w0.heap.size)
    (hS : w.cell? ⟨0, j, none⟩ = some (.string nm) ∧ Below w0.heap.size w0 w) :
    Calls Tryd.prog 21 #[.int .i64 x] w fun e w' => e = .returned (.string d) ∧ w'.cell? ⟨0, j, none⟩ = some (.string nm) ∧ Below w0.heap.size w0 w' := by
  subst hx
  refine (Text_any (m : Int) w (by omega) (by omega)).mono fun e w' ⟨h1, h2⟩ => ⟨by rw [h1, textL_nat, mk_of hd], ?_, hS.2.trans (h2.mono hS.2.size)⟩
  rw [h2.cell (p := ⟨0, j, none⟩) (Nat.lt_of_lt_of_le h0 hS.2.size)]; exact hS.1
theorem shr_q (m k : Nat) (u : Nat) (h : 2 ^ k = u) : ((m : Int) >>> k) = ((m / u : Nat) : Int) := by
  subst h; rw [← Int.natCast_shiftRight, Nat.shiftRight_eq_div_pow]
set_option maxHeartbeats 4000000 in
theorem ZText_any (n : Int) (w : World) (hL : Let4 w) (h1 : -9223372036854775808 ≤ n) (h2 : n ≤ 9223372036854775807) :
    Calls Tryd.prog 9 #[.int .i64 n] w fun e w' => e = .returned (.string ⟨(zT n).toArray⟩) ∧ Below w.heap.size w w' := by
  have HL := Lib.hid hL
  have HZ : Hid (0 < w.heap.size) := Lib.hid (World.block_lt_of_cell? w _ hL.1)
  clear hL
  by_cases h : n < 0 ∨ 1125899906842624 < n
  · have HU := Lib.hid (zT_no h)
    have HN := Lib.hid h
    clear h
    go_enter Tryd.func9, Tryd.ntmps9
    go_wp2_with (go_at_call 19; refine (isAmount_no n _ HN.out).mono ?_; rintro e w1 ⟨rfl, rfl⟩)
    go_ret
    exact ⟨ret_str (by rw [HU.out]), Below.refl _ _⟩
  · obtain ⟨m, rfl⟩ : ∃ m : Nat, n = (m : Int) := ⟨n.toNat, by omega⟩
    have hm : m ≤ 1125899906842624 := by omega
    have HM := Lib.hid hm
    rcases jz_cases m with ⟨hj, hb, hl, -⟩ | ⟨hj, hb, hl, -⟩ | ⟨hj, hb, hl, -⟩ | ⟨hj, hb, hl, -⟩
    · obtain ⟨d, hd⟩ : ∃ d : ByteArray, dgw 1 (m / 1) = d.data.toList := ⟨⟨(dgw 1 (m / 1)).toArray⟩, by simp⟩
      have hds : d.size ≤ 16 := by rw [size_of hd]; exact dgw_16 (by omega)
      have HT : Hid (zT (m : Int) = d.data.toList ++ []) := Lib.hid (by rw [zT_in hm]; unfold zTN; rw [hb, hl, hd])
      have HJ := Lib.hid hj
      have HD := Lib.hid hd
      have hc : w.cell? ⟨0, 0, none⟩ = some (.string ⟨#[]⟩) := HL.out.1
      have hw : IntKind.i64.wrap 0 = 0 := by decide
      clear hj hb hl h hm hd
      go_enter Tryd.func9, Tryd.ntmps9
      go_wp2_with (first | (go_at_call 19; refine (isAmount_yes m _ HM.out).mono ?_; rintro e w1 ⟨rfl, rfl⟩) | (go_at_call 20; refine (largest_q m 0 _ HM.out HJ.out).mono ?_; rintro e w1 ⟨rfl, rfl⟩))
      go_region_held (fun w' => w'.cell? ⟨0, 0, none⟩ = some (.string ⟨#[]⟩) ∧ Below w.heap.size w w') (first | exact ⟨hS1, hS2⟩ | exact ⟨hc, (Below.refl _ _).drew⟩) (first | (go_at_call 21; refine (LText_s _ d (m / 1) _ w 0 ⟨#[]⟩ (by omega) (by have := HM.out; omega) HD.out HZ.out (by assumption)).mono ?_; rintro e w3 ⟨rfl, hS1, hS2⟩))
      go_wp2
      go_ret
      exact ⟨ret_str (by rw [HT.out]; exact bytes_ext (by rw [data_app])), hS2⟩
    · obtain ⟨d, hd⟩ : ∃ d : ByteArray, dgw 1 (m / 1024) = d.data.toList := ⟨⟨(dgw 1 (m / 1024)).toArray⟩, by simp⟩
      have hds : d.size ≤ 16 := by rw [size_of hd]; exact dgw_16 (by omega)
      have HT : Hid (zT (m : Int) = d.data.toList ++ [107]) := Lib.hid (by rw [zT_in hm]; unfold zTN; rw [hb, hl, hd])
      have HJ := Lib.hid hj
      have HD := Lib.hid hd
      have hc : w.cell? ⟨0, 1, none⟩ = some (.string ⟨#[107]⟩) := HL.out.2.1
      have hw : IntKind.i64.wrap 10 = 10 := by decide
      clear hj hb hl h hm hd
      go_enter Tryd.func9, Tryd.ntmps9
      go_wp2_with (first | (go_at_call 19; refine (isAmount_yes m _ HM.out).mono ?_; rintro e w1 ⟨rfl, rfl⟩) | (go_at_call 20; refine (largest_q m 1 _ HM.out HJ.out).mono ?_; rintro e w1 ⟨rfl, rfl⟩))
      go_region_held (fun w' => w'.cell? ⟨0, 1, none⟩ = some (.string ⟨#[107]⟩) ∧ Below w.heap.size w w') (first | exact ⟨hS1, hS2⟩ | exact ⟨hc, (Below.refl _ _).drew⟩) (first | (go_at_call 21; refine (LText_s _ d (m / 1024) _ w 1 ⟨#[107]⟩ (by omega) (by have := HM.out; omega) HD.out HZ.out (by assumption)).mono ?_; rintro e w3 ⟨rfl, hS1, hS2⟩))
      go_wp2
      go_ret
      exact ⟨ret_str (by rw [HT.out]; exact bytes_ext (by rw [data_app])), hS2⟩
    · obtain ⟨d, hd⟩ : ∃ d : ByteArray, dgw 1 (m / 1048576) = d.data.toList := ⟨⟨(dgw 1 (m / 1048576)).toArray⟩, by simp⟩
      have hds : d.size ≤ 16 := by rw [size_of hd]; exact dgw_16 (by omega)
      have HT : Hid (zT (m : Int) = d.data.toList ++ [109]) := Lib.hid (by rw [zT_in hm]; unfold zTN; rw [hb, hl, hd])
      have HJ := Lib.hid hj
      have HD := Lib.hid hd
      have hc : w.cell? ⟨0, 2, none⟩ = some (.string ⟨#[109]⟩) := HL.out.2.2.1
      have hw : IntKind.i64.wrap 20 = 20 := by decide
      clear hj hb hl h hm hd
      go_enter Tryd.func9, Tryd.ntmps9
      go_wp2_with (first | (go_at_call 19; refine (isAmount_yes m _ HM.out).mono ?_; rintro e w1 ⟨rfl, rfl⟩) | (go_at_call 20; refine (largest_q m 2 _ HM.out HJ.out).mono ?_; rintro e w1 ⟨rfl, rfl⟩))
      go_region_held (fun w' => w'.cell? ⟨0, 2, none⟩ = some (.string ⟨#[109]⟩) ∧ Below w.heap.size w w') (first | exact ⟨hS1, hS2⟩ | exact ⟨hc, (Below.refl _ _).drew⟩) (first | (go_at_call 21; refine (LText_s _ d (m / 1048576) _ w 2 ⟨#[109]⟩ (by omega) (by have := HM.out; omega) HD.out HZ.out (by assumption)).mono ?_; rintro e w3 ⟨rfl, hS1, hS2⟩))
      go_wp2
      go_ret
      exact ⟨ret_str (by rw [HT.out]; exact bytes_ext (by rw [data_app])), hS2⟩
    · obtain ⟨d, hd⟩ : ∃ d : ByteArray, dgw 1 (m / 1073741824) = d.data.toList := ⟨⟨(dgw 1 (m / 1073741824)).toArray⟩, by simp⟩
      have hds : d.size ≤ 16 := by rw [size_of hd]; exact dgw_16 (by omega)
      have HT : Hid (zT (m : Int) = d.data.toList ++ [103]) := Lib.hid (by rw [zT_in hm]; unfold zTN; rw [hb, hl, hd])
      have HJ := Lib.hid hj
      have HD := Lib.hid hd
      have hc : w.cell? ⟨0, 3, none⟩ = some (.string ⟨#[103]⟩) := HL.out.2.2.2
      have hw : IntKind.i64.wrap 30 = 30 := by decide
      clear hj hb hl h hm hd
      go_enter Tryd.func9, Tryd.ntmps9
      go_wp2_with (first | (go_at_call 19; refine (isAmount_yes m _ HM.out).mono ?_; rintro e w1 ⟨rfl, rfl⟩) | (go_at_call 20; refine (largest_q m 3 _ HM.out HJ.out).mono ?_; rintro e w1 ⟨rfl, rfl⟩))
      go_region_held (fun w' => w'.cell? ⟨0, 3, none⟩ = some (.string ⟨#[103]⟩) ∧ Below w.heap.size w w') (first | exact ⟨hS1, hS2⟩ | exact ⟨hc, (Below.refl _ _).drew⟩) (first | (go_at_call 21; refine (LText_s _ d (m / 1073741824) _ w 3 ⟨#[103]⟩ (by omega) (by have := HM.out; omega) HD.out HZ.out (by assumption)).mono ?_; rintro e w3 ⟨rfl, hS1, hS2⟩))
      go_wp2
      go_ret
      exact ⟨ret_str (by rw [HT.out]; exact bytes_ext (by rw [data_app])), hS2⟩
end Go.Proofs.YtagccngcedblhaaDoor
