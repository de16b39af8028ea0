/- The contract of the document's own one. -/
import Derived.Test.YtemndagaicamiaaGreatDoorRefGood
namespace Go.Proofs.YtemndagaicamiaaGreatDoor
open Go.RowKit
open Q6
set_option linter.unusedVariables false
theorem getd_in {l : List UInt8} {j : Nat} (hj : j < l.length) : l.getD j 0 = l[j] := by rw [List.getD_eq_getElem?_getD, List.getElem?_eq_getElem hj]; rfl
theorem has_no {l : List UInt8} {c : UInt8} (h : ∀ j, j < l.length → l.getD j 0 ≠ c) : has l c = false := by
  unfold has
  rw [decide_eq_false_iff_not]
  intro hm
  obtain ⟨j, hj, e⟩ := List.mem_iff_getElem.1 hm
  exact h j hj ((getd_in hj).trans e)
theorem has_yes {l : List UInt8} {c : UInt8} {j : Nat} (hj : j < l.length) (h : l.getD j 0 = c) : has l c = true := by
  unfold has
  rw [decide_eq_true_eq]
  exact List.mem_iff_getElem.2 ⟨j, hj, (getd_in hj).symm.trans h⟩
theorem getd_s (s : ByteArray) (k : Nat) (h : k < s.size) : s.data.toList.getD k 0 = s[k] := by
  rw [List.getD_eq_getElem?_getD, List.getElem?_eq_getElem (by rw [len_eq]; exact h)]; rfl
set_option maxHeartbeats 1600000 in
theorem one_any (c : UInt8) (t : ByteArray) (w : World) (ht : t.size ≤ 1000) :
    Calls Tryz.prog 37 #[.int .u8 c.toNat, .string t] w fun e w' => e = .returned (.bool (has t.data.toList c)) ∧ w = w' := by
  have HLEN := Lib.hid (len_eq t)
  go_enter Tryz.func37, Tryz.ntmps37
  go_wp2
  go_loop [5] (fun i => ∃ k : Nat, k ≤ t.size ∧ i = .int .i64 k ∧ ∀ j, j < k → t.data.toList.getD j 0 ≠ c) (fun i => t.size - (intOf i).toNat)
  case atStart => exact ⟨0, Nat.zero_le _, rfl, fun j h => absurd h (Nat.not_lt_zero _)⟩
  case round =>
    obtain ⟨k, hk, rfl, hall⟩ := hrel
    have HA := Lib.hid hall; clear hall
    by_cases hlt : k < t.size
    · have hkl : k < t.data.toList.length := by rw [HLEN.out]; exact hlt
      have hd : t.data.toList.getD k 0 = t[k]'hlt := getd_s t k hlt
      obtain ⟨d, hdd⟩ : ∃ d, t[k]'hlt = d := ⟨_, rfl⟩
      rw [hdd] at hd
      have HD := Lib.hid hd
      have HKL := Lib.hid hkl
      clear hd hkl
      by_cases h : d = c
      · have m : ((d.toNat : Int) == (c.toNat : Int)) = true := by rw [h]; exact beq_self_eq_true _
        have HY := Lib.hid (has_yes HKL.out (HD.out.trans h))
        clear h
        go_wp2
        go_ret
        exact ⟨ret_b HY.out.symm, rfl⟩
      · have m : ((d.toNat : Int) == (c.toNat : Int)) = false := beq_eq_false_iff_ne.2 (fun e => h (UInt8.toNat_inj.1 (by omega)))
        have HN := Lib.hid h
        clear h
        go_wp2
        go_round
        case rel =>
          refine ⟨k + 1, by omega, by go_num, fun j hjk => ?_⟩
          rcases Nat.lt_succ_iff_lt_or_eq.1 hjk with h | h
          · exact HA.out j h
          · subst h; rw [HD.out]; exact HN.out
        case measure => simp [intOf]; omega
    · go_wp2
      go_ret
      exact ⟨ret_b (has_no (fun j hj => HA.out j (by rw [HLEN.out] at hj; omega))).symm, rfl⟩
theorem one_row (c : UInt8) (b : Bool) (w : World) (h : has marks c = b) : Calls Tryz.prog 37 #[.int .u8 c.toNat, .string ⟨#[44, 91, 93, 123, 125]⟩] w fun e w' => e = .returned (.bool b) ∧ w = w' := by
  subst h; exact one_any c _ w (by decide)
theorem one_first (c : UInt8) (b : Bool) (w : World) (h : has firsts c = b) : Calls Tryz.prog 37 #[.int .u8 c.toNat, .string ⟨#[63, 58, 44, 91, 93, 123, 125, 35, 38, 42, 33, 124, 62, 39, 34, 37, 64, 96]⟩] w fun e w' => e = .returned (.bool b) ∧ w = w' := by
  rw [← has_ref] at h
  subst h; exact one_any c _ w (by decide)
end Go.Proofs.YtemndagaicamiaaGreatDoor
