/- The contracts of cutLast, of strings.Cut at a slash, of read. -/
import Derived.Test.YtkgfinhepbipeaaDoorPrtAdr
import Derived.Test.YtkgfinhepbipeaaDoorPrtPrg
import Derived.Test.YtkgfinhepbipeaaDoorDigSmall
import Derived.RegionTactic
import Derived.ChangeAlike
namespace Go.Proofs.YtkgfinhepbipeaaDoor
open Go.RowKit Go.Sort
open Nw Dg P16
set_option linter.unusedVariables false
theorem byteAt (s : ByteArray) (j : Nat) (h : j < s.size) : s.data[j]! = s.data.toList[j]'(by exact h) := by
  rw [getElem!_pos s.data j (by exact h)]; rfl
theorem last_no (s : ByteArray) (h : (58 : UInt8) ∉ s.data.toList) : Lib.lastIndexByte s 58 = -1 := by
  rcases Lib.lastIndexByte_spec s 58 with ⟨h1, _⟩ | ⟨i, hi, h1, h2, _⟩
  · exact h1
  · exfalso
    apply h
    rw [byteAt s i hi] at h2
    have h3 : s.data.toList[i]'(by exact hi) = 58 := UInt8.toNat_inj.1 (by
      have : (58 : UInt8).toNat = 58 := rfl
      omega)
    rw [← h3]; exact List.getElem_mem _
theorem last_yes (s a b : ByteArray) (hl : s.data.toList = a.data.toList ++ 58 :: b.data.toList) (hb : (58 : UInt8) ∉ b.data.toList) : Lib.lastIndexByte s 58 = a.size := by
  have hz : s.size = a.size + (b.size + 1) := by rw [← len_eq s, hl, List.length_append, List.length_cons, len_eq, len_eq]
  have hat : ∀ j (h : j < s.size), (s.data[j]!) = (a.data.toList ++ 58 :: b.data.toList)[j]'(by rw [List.length_append, List.length_cons, len_eq, len_eq]; omega) := fun j h => by
    rw [byteAt s j h]; simp only [hl]
  have hmid : ((s.data[a.size]!).toNat : Int) = 58 := by
    rw [hat _ (by omega), List.getElem_append_right (by rw [len_eq]; exact Nat.le_refl _)]
    simp
  rcases Lib.lastIndexByte_spec s 58 with ⟨_, h2⟩ | ⟨i, hi, h1, h2, h3⟩
  · exact absurd hmid (h2 a.size (by omega))
  · rw [h1]
    rcases Nat.lt_trichotomy i a.size with h4 | h4 | h4
    · exact absurd hmid (h3 a.size h4 (by omega))
    · rw [h4]
    · exfalso
      apply hb
      rw [hat i hi, List.getElem_append_right (by rw [len_eq]; omega)] at h2
      have e : i - a.data.toList.length = (i - a.size - 1) + 1 := by rw [len_eq]; omega
      simp only [e, List.getElem_cons_succ] at h2
      have h5 : b.data.toList[i - a.size - 1]'(by rw [len_eq]; omega) = 58 := UInt8.toNat_inj.1 (by
        have : (58 : UInt8).toNat = 58 := rfl
        omega)
      rw [← h5]; exact List.getElem_mem _
theorem ext_take (s a : ByteArray) (t : L8) (hl : s.data.toList = a.data.toList ++ t) : s.extract 0 a.size = a := bytes_ext (by
  rw [Lib.extract_data, hl]; exact List.take_left)
theorem ext_drop (s a b : ByteArray) (c : UInt8) (hl : s.data.toList = a.data.toList ++ c :: b.data.toList) : s.extract (a.size + 1) s.size = b := bytes_ext (by
  have e1 : (a.data.toList ++ c :: b.data.toList).drop (a.size + 1) = b.data.toList := by
    rw [← List.drop_drop, ← len_eq a, List.drop_left]; rfl
  have hz : s.size = a.size + (b.size + 1) := by rw [← len_eq s, hl, List.length_append, List.length_cons, len_eq, len_eq]
  rw [Lib.extract_data, hl, e1]
  exact List.take_of_length_le (by rw [len_eq]; omega))
set_option maxRecDepth 100000 in
set_option maxHeartbeats 4000000 in
theorem cutLast_no (s : ByteArray) (w : World) (hs : s.size ≤ 100000) (h : (58 : UInt8) ∉ s.data.toList) :
    Calls Tryd.prog 36 #[.string s] w fun e w' => e = .returned (.tuple #[.string ⟨#[]⟩, .string s]) ∧ Below w.heap.size w w' := by
  have HX := Lib.hid (fun W => Tryd.strings_LastIndexByte s 58 (by omega) W)
  rw [last_no s h] at HX
  have HE : Hid (s.extract 0 0 = ⟨#[]⟩) := Lib.hid (by apply bytes_ext; rw [Lib.extract_data]; rfl)
  have HF : Hid (s.extract 0 s.size = s) := Lib.hid (by apply bytes_ext; rw [Lib.extract_data, List.drop_zero]; exact List.take_of_length_le (Nat.le_refl _))
  clear h
  go_enter Tryd.func36, Tryd.ntmps36
  go_wp2_with (go_at_call 50; refine (HX.out _).mono ?_; rintro e w1 ⟨rfl, rfl⟩)
  go_region
  go_wp2
  all_goals
    go_ret2
    exact ⟨by show Ending.returned (.tuple #[.string (s.extract 0 0), .string s]) = _; rw [HE.out], (Below.refl _ _).drew⟩
set_option maxRecDepth 100000 in
set_option maxHeartbeats 4000000 in
theorem cutLast_yes (s a b : ByteArray) (w : World) (hs : s.size ≤ 100000) (hl : s.data.toList = a.data.toList ++ 58 :: b.data.toList) (hb : (58 : UInt8) ∉ b.data.toList) :
    Calls Tryd.prog 36 #[.string s] w fun e w' => e = .returned (.tuple #[.string a, .string b]) ∧ Below w.heap.size w w' := by
  have HX := Lib.hid (fun W => Tryd.strings_LastIndexByte s 58 (by omega) W)
  rw [last_yes s a b hl hb] at HX
  have hz : s.size = a.size + (b.size + 1) := by rw [← len_eq s, hl, List.length_append, List.length_cons, len_eq, len_eq]
  have HA := Lib.hid (ext_take s a _ hl)
  have HB := Lib.hid (ext_drop s a b 58 hl)
  have hk : a.size < s.size := by omega
  have hk2 : a.size ≤ 100000 := by omega
  have hk3 : (a.size : Int) ≤ (s.size : Int) := by omega
  have hk4 : (a.size : Int) + 1 ≤ (s.size : Int) := by omega
  have kw : IntKind.i64.wrap ((a.size : Int) + 1) = (a.size : Int) + 1 := IntWalk.i64_in _ (by omega)
  clear hl hz hb
  go_enter Tryd.func36, Tryd.ntmps36
  go_wp2_with (go_at_call 50; refine (HX.out _).mono ?_; rintro e w1 ⟨rfl, rfl⟩)
  go_region
  go_wp2
  all_goals
    go_ret2
    exact ⟨by rw [HA.out, HB.out]; rfl, (Below.refl _ _).drew⟩
end Go.Proofs.YtkgfinhepbipeaaDoor
