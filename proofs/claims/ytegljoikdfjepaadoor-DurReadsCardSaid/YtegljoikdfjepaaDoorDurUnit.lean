/- The contract of dur.unit. -/
import Derived.Test.YtegljoikdfjepaaDoorDurMath
import Derived.Test.YtegljoikdfjepaaDoorDigSmall
import Derived.Test.YtegljoikdfjepaaDoorShelf
import Derived.RegionTactic
import Derived.ChangeAlike
import Derived.Below
namespace Go.Proofs.YtegljoikdfjepaaDoor
open Go.RowKit
open Dg
set_option linter.unusedVariables false
theorem pre_yes {s r : ByteArray} {t : List UInt8} (h : s.data.toList = 109 :: r.data.toList) (h2 : r.data.toList = 115 :: t) : Lib.hasPrefix s.data.toList [109, 115] = true := by
  rw [h, h2]; rfl
theorem pre_no {s r : ByteArray} (h : s.data.toList = 109 :: r.data.toList) (h2 : r.data.toList.head? ≠ some 115) : Lib.hasPrefix s.data.toList [109, 115] = false := by
  rw [h]
  revert h2
  cases r.data.toList with
  | nil => intro _; rfl
  | cons a t =>
    intro h2
    have : (115 : UInt8) ≠ a := fun e => h2 (by rw [← e]; rfl)
    simp [Lib.hasPrefix, List.isPrefixOf, this]
theorem hp_any (s : ByteArray) (b : Bool) (w : World) (h : Lib.hasPrefix s.data.toList [109, 115] = b) :
    Calls Tryd.prog 34 #[.string s, .string ⟨#[109, 115]⟩] w fun e w' => e = .returned (.bool b) ∧ w = w' :=
  (Tryd.strings_HasPrefix s ⟨#[109, 115]⟩ w).mono fun e w' ⟨h1, h2⟩ => ⟨by rw [h1, ← h], h2.symm⟩

set_option maxHeartbeats 1000000 in
theorem unit_any (s : ByteArray) (w : World) (hs : s.size ≤ maxLen) :
    Calls Tryd.prog 27 #[.string s] w fun e w' => e = .returned (.tuple #[.int .i64 (uS s.data.toList), .string ⟨(uR s.data.toList).toArray⟩]) ∧ Below w.heap.size w w' := by
  unfold maxLen at hs
  by_cases h0 : s.data.toList = []
  · obtain rfl : s = ⟨#[]⟩ := by
      cases s; rename_i a; cases a; simp at h0; simp [h0]
    clear h0
    go_enter Tryd.func27, Tryd.ntmps27
    go_wp2
    go_ret2
    exact ⟨rfl, Below.refl _ _⟩
  · obtain ⟨c, r, hr⟩ : ∃ c, ∃ r : ByteArray, s.data.toList = c :: r.data.toList := by
      cases hx : s.data.toList with
      | nil => exact absurd hx h0
      | cons c t => exact ⟨c, ⟨t.toArray⟩, by simp⟩
    have b1 : s.toList.isEmpty = false := by rw [ByteArray.toList_eq, List.isEmpty_eq_false_iff]; exact h0
    have b2 : ¬ s.toList = [] := by rw [ByteArray.toList_eq]; exact h0
    obtain ⟨hx, -, hpos, hc⟩ := cut1b hr
    clear h0
    by_cases h1 : c = 104
    · have HU : Hid (uS s.data.toList = 3600000 ∧ uR s.data.toList = r.data.toList) := Lib.hid (by rw [hr, h1]; exact ⟨rfl, rfl⟩)
      have t1 : ((s[0].toNat : Int) == 104) = true := byte_yes 104 (by decide) (hc.trans h1)
      clear hr hc h1
      go_enter Tryd.func27, Tryd.ntmps27
      go_wp2
      go_region
      go_wp2
      go_ret2
      exact ⟨ret_is (by rw [HU.out.1]; rfl) (mk_of HU.out.2).symm, (Below.refl _ _).drew⟩
    · have t1 : ((s[0].toNat : Int) == 104) = false := byte_no 104 (by decide) (by rw [hc]; exact h1)
      by_cases h2 : c = 109
      · have t2 : ((s[0].toNat : Int) == 109) = true := byte_yes 109 (by decide) (hc.trans h2)
        subst h2
        by_cases h3 : r.data.toList.head? = some 115
        · obtain ⟨q, hq⟩ : ∃ q : ByteArray, r.data.toList = 115 :: q.data.toList := by
            obtain ⟨t, ht⟩ := List.head?_eq_some_iff.1 h3
            exact ⟨⟨t.toArray⟩, by simp [ht]⟩
          have HU : Hid (uS s.data.toList = 1 ∧ uR s.data.toList = q.data.toList) := Lib.hid (by rw [hr, hq]; exact ⟨rfl, rfl⟩)
          have HP := Lib.hid (pre_yes hr hq)
          obtain ⟨gx, -, gpos, gc⟩ := cut1b hq
          clear hr hc h1 hq h3 gc
          go_enter Tryd.func27, Tryd.ntmps27
          go_wp2_with (go_at_call 34; refine (hp_any s true _ HP.out).mono ?_; rintro e w' ⟨rfl, rfl⟩)
          go_region
          go_wp2
          go_region
          go_wp2
          go_ret2
          exact ⟨ret_is (by rw [HU.out.1]; rfl) (mk_of HU.out.2).symm, (Below.refl _ _).drew.drew⟩
        · have HU : Hid (uS s.data.toList = 60000 ∧ uR s.data.toList = r.data.toList) := Lib.hid (by
            rw [hr, uS_cons, uR_cons, if_neg h1, if_neg h1, if_pos rfl, if_pos rfl, if_neg h3, if_neg h3]; exact ⟨rfl, rfl⟩)
          have HP := Lib.hid (pre_no hr h3)
          clear hr hc h1 h3
          go_enter Tryd.func27, Tryd.ntmps27
          go_wp2_with (go_at_call 34; refine (hp_any s false _ HP.out).mono ?_; rintro e w' ⟨rfl, rfl⟩)
          go_region
          go_wp2
          go_ret2
          exact ⟨ret_is (by rw [HU.out.1]; rfl) (mk_of HU.out.2).symm, (Below.refl _ _).drew⟩
      · have t2 : ((s[0].toNat : Int) == 109) = false := byte_no 109 (by decide) (by rw [hc]; exact h2)
        by_cases h3 : c = 115
        · have HU : Hid (uS s.data.toList = 1000 ∧ uR s.data.toList = r.data.toList) := Lib.hid (by rw [hr, h3]; exact ⟨rfl, rfl⟩)
          have t3 : ((s[0].toNat : Int) == 115) = true := byte_yes 115 (by decide) (hc.trans h3)
          clear hr hc h1 h2 h3
          go_enter Tryd.func27, Tryd.ntmps27
          go_wp2
          go_region
          go_wp2
          go_ret2
          exact ⟨ret_is (by rw [HU.out.1]; rfl) (mk_of HU.out.2).symm, (Below.refl _ _).drew⟩
        · have t3 : ((s[0].toNat : Int) == 115) = false := byte_no 115 (by decide) (by rw [hc]; exact h3)
          have HU : Hid (uS s.data.toList = 0 ∧ uR s.data.toList = []) := Lib.hid (by
            rw [hr, uS_cons, uR_cons, if_neg h1, if_neg h1, if_neg h2, if_neg h2, if_neg h3, if_neg h3]; exact ⟨rfl, rfl⟩)
          clear hr hc h1 h2 h3
          go_enter Tryd.func27, Tryd.ntmps27
          go_wp2
          go_ret2
          exact ⟨ret_is (by rw [HU.out.1]; rfl) (by rw [HU.out.2]), Below.refl _ _⟩
end Go.Proofs.YtegljoikdfjepaaDoor
