/- Contracts of the document's own answers that read: Whole, Count, Parse. -/
import Derived.Test.YtagccngcedblhaaDoorDigSmall
namespace Go.Proofs.YtagccngcedblhaaDoor
open Go.RowKit
open Dg
set_option linter.unusedVariables false

theorem head_of {s : ByteArray} (h : 0 < s.size) : s.data.toList.headD 0 = s[0] := by
  rw [List.headD_eq_head?_getD, List.head?_eq_getElem?, List.getElem?_eq_getElem (by rw [len_eq]; exact h)]; rfl
theorem u8_eq {c : UInt8} {k : Nat} (hk : k < 256) (h : (c.toNat : Int) = k) : c = UInt8.ofNat k := by
  apply UInt8.toNat_inj.1; rw [UInt8.toNat_ofNat']; omega

set_option maxHeartbeats 1000000 in
theorem RWhole_any (s : ByteArray) (w : World) (hs : s.size ≤ maxLen) :
    Calls Tryd.prog 17 #[.string s] w fun e w' => e = .returned (.bool (whole s.data.toList)) ∧ w = w' := by
  unfold maxLen at hs
  by_cases h0 : s.size = 0
  · have HW : Hid (whole s.data.toList = false) := Lib.hid (by
      have : s.data.toList = [] := List.length_eq_zero_iff.1 (by rw [len_eq]; exact h0)
      rw [this]; rfl)
    have h0' : ((s.size : Int) == 0) = true := by rw [h0]; rfl
    clear h0
    go_enter Tryd.func17, Tryd.ntmps17
    go_wp2
    go_ret
    exact ⟨ret_bool HW.out.symm, rfl⟩
  · have hpos : 0 < s.size := by omega
    have h0' : ((s.size : Int) == 0) = false := beq_eq_false_iff_ne.2 (by omega)
    have hhead := head_of hpos
    by_cases hlead : 1 < s.size ∧ (s[0].toNat : Int) = 48
    · obtain ⟨hl1, hl2⟩ := hlead
      have HW : Hid (whole s.data.toList = false) := Lib.hid (whole_head (by
        intro h
        have := congrArg List.length h
        rw [len_eq] at this; simp at this; omega) (by rw [hhead]; exact u8_eq (k := 48) (by decide) hl2))
      have hl1' : (1 : Int) < (s.size : Int) := by omega
      clear hhead h0
      go_enter Tryd.func17, Tryd.ntmps17
      go_wp2
      go_ret
      exact ⟨ret_bool HW.out.symm, rfl⟩
    · have HW : Hid (whole s.data.toList = digs s.data.toList) := Lib.hid (by
        have hne : s.data.toList ≠ [] := fun h => by have hh := congrArg List.length h; rw [len_eq] at hh; have h9 : s.size = 0 := hh; omega
        by_cases h1 : 1 < s.size
        · have h48 : ¬ (s[0].toNat : Int) = 48 := fun h => hlead ⟨h1, h⟩
          exact whole_digs (fun h => by have hh := congrArg List.length h; rw [len_eq] at hh; have h9 : s.size = 1 := hh; omega) hne (by rw [hhead]; intro h; apply h48; rw [h]; rfl)
        · unfold whole digs
          have e1 : s.data.toList.isEmpty = false := by rw [List.isEmpty_eq_false_iff]; exact hne
          have e2 : decide (s.data.toList.length ≤ 1) = true := decide_eq_true (by rw [len_eq]; omega)
          rw [e1, e2]; simp)
      clear hhead h0
      by_cases h1 : 1 < s.size
      · have h48 : ((s[0].toNat : Int) == 48) = false := beq_eq_false_iff_ne.2 fun h => hlead ⟨h1, h⟩
        have hl1' : (1 : Int) < (s.size : Int) := by omega
        clear hlead
        go_enter Tryd.func17, Tryd.ntmps17
        go_wp2
        go_loop [3] (fun i => ∃ k : Nat, k ≤ s.size ∧ i = .int .i64 k ∧ digs (s.data.toList.take k) = true) (fun i => s.size - (intOf i).toNat)
        case atStart => exact ⟨0, Nat.zero_le _, rfl, rfl⟩
        case round =>
          obtain ⟨k, hk, rfl, hall⟩ := hrel
          have HA := Lib.hid hall; clear hall
          by_cases hlt : k < s.size
          · by_cases hc1 : (s[k].toNat : Int) < 48
            · go_wp2
              go_ret
              exact ⟨ret_bool (by rw [HW.out]; exact (digs_not (k := k) hlt (isDig_lo hc1)).symm), rfl⟩
            · by_cases hc2 : (57 : Int) < (s[k].toNat : Int)
              · go_wp2
                go_ret
                exact ⟨ret_bool (by rw [HW.out]; exact (digs_not (k := k) hlt (isDig_hi hc2)).symm), rfl⟩
              · go_wp2
                go_round
                case rel => exact ⟨k + 1, by omega, by go_num, digs_take_succ hlt HA.out (isDig_of (c := s[k]) (by omega) (by omega))⟩
                case measure => simp [intOf]; omega
          · go_wp2
            go_ret
            exact ⟨ret_bool (by rw [HW.out]; exact (digs_all (k := k) (by rw [len_eq]; omega) HA.out).symm), rfl⟩
      · have hl1' : decide ((1 : Int) < (s.size : Int)) = false := by simp; omega
        clear hlead
        go_enter Tryd.func17, Tryd.ntmps17
        go_wp2
        go_loop [3] (fun i => ∃ k : Nat, k ≤ s.size ∧ i = .int .i64 k ∧ digs (s.data.toList.take k) = true) (fun i => s.size - (intOf i).toNat)
        case atStart => exact ⟨0, Nat.zero_le _, rfl, rfl⟩
        case round =>
          obtain ⟨k, hk, rfl, hall⟩ := hrel
          have HA := Lib.hid hall; clear hall
          by_cases hlt : k < s.size
          · by_cases hc1 : (s[k].toNat : Int) < 48
            · go_wp2
              go_ret
              exact ⟨ret_bool (by rw [HW.out]; exact (digs_not (k := k) hlt (isDig_lo hc1)).symm), rfl⟩
            · by_cases hc2 : (57 : Int) < (s[k].toNat : Int)
              · go_wp2
                go_ret
                exact ⟨ret_bool (by rw [HW.out]; exact (digs_not (k := k) hlt (isDig_hi hc2)).symm), rfl⟩
              · go_wp2
                go_round
                case rel => exact ⟨k + 1, by omega, by go_num, digs_take_succ hlt HA.out (isDig_of (c := s[k]) (by omega) (by omega))⟩
                case measure => simp [intOf]; omega
          · go_wp2
            go_ret
            exact ⟨ret_bool (by rw [HW.out]; exact (digs_all (k := k) (by rw [len_eq]; omega) HA.out).symm), rfl⟩

theorem val_zero {l : List UInt8} (h : whole l = true) (hv : val l = 0) : l = [48] := by
  match l, h with
  | [], h => simp [whole] at h
  | [c], h =>
    have hd : isDig c = true := by simp [whole] at h; exact h
    have h2 := dv_le hd
    have h3 : dv c = 0 := by simpa [val] using hv
    have : c = 48 := by
      apply UInt8.toNat_inj.1
      unfold dv at h3
      show _ = 48
      omega
    rw [this]
  | c :: d :: r, h =>
    have := val_long h 0 (by simp)
    omega
end Go.Proofs.YtagccngcedblhaaDoor
