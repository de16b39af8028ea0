/- Contracts of the document's own answers that read: Whole, Count, Parse. -/
import Derived.Test.YtkgfinhepbipeaaDoorDigSmall
namespace Go.Proofs.YtkgfinhepbipeaaDoor
open Go.RowKit
open Dg
set_option linter.unusedVariables false

theorem head_of {s : ByteArray} (h : 0 < s.size) : s.data.toList.headD 0 = s[0] := by
  rw [List.headD_eq_head?_getD, List.head?_eq_getElem?, List.getElem?_eq_getElem (by rw [len_eq]; exact h)]; rfl
theorem u8_eq {c : UInt8} {k : Nat} (hk : k < 256) (h : (c.toNat : Int) = k) : c = UInt8.ofNat k := by
  apply UInt8.toNat_inj.1; rw [UInt8.toNat_ofNat']; omega

set_option maxHeartbeats 1000000 in
theorem RWhole_any (s : ByteArray) (w : World) (hs : s.size ≤ maxLen) :
    Calls Tryd.prog 38 #[.string s] w fun e w' => e = .returned (.bool (whole s.data.toList)) ∧ w = w' := by
  unfold maxLen at hs
  by_cases h0 : s.size = 0
  · have HW : Hid (whole s.data.toList = false) := Lib.hid (by
      have : s.data.toList = [] := List.length_eq_zero_iff.1 (by rw [len_eq]; exact h0)
      rw [this]; rfl)
    have h0' : ((s.size : Int) == 0) = true := by rw [h0]; rfl
    clear h0
    go_enter Tryd.func38, Tryd.ntmps38
    go_wp2
    go_ret
    exact ⟨ret_bool HW.out.symm, rfl⟩
  · have hpos : 0 < s.size := by omega
    have h0' : ((s.size : Int) == 0) = false := beq_eq_false_iff_ne.2 (by omega)
    have hhead := head_of hpos
    by_cases hlead : 1 < s.size ∧ (s[0].toNat : Int) = 48
    · obtain ⟨hl1, hl2⟩ := hlead
      have HW : Hid (whole s.data.toList = false) := Lib.hid (whole_head (by
        intro h
        have := congrArg List.length h
        rw [len_eq] at this; simp at this; omega) (by rw [hhead]; exact u8_eq (k := 48) (by decide) hl2))
      have hl1' : (1 : Int) < (s.size : Int) := by omega
      clear hhead h0
      go_enter Tryd.func38, Tryd.ntmps38
      go_wp2
      go_ret
      exact ⟨ret_bool HW.out.symm, rfl⟩
    · have HW : Hid (whole s.data.toList = digs s.data.toList) := Lib.hid (by
        have hne : s.data.toList ≠ [] := fun h => by have hh := congrArg List.length h; rw [len_eq] at hh; have h9 : s.size = 0 := hh; omega
        by_cases h1 : 1 < s.size
        · have h48 : ¬ (s[0].toNat : Int) = 48 := fun h => hlead ⟨h1, h⟩
          exact whole_digs (fun h => by have hh := congrArg List.length h; rw [len_eq] at hh; have h9 : s.size = 1 := hh; omega) hne (by rw [hhead]; intro h; apply h48; rw [h]; rfl)
        · unfold whole digs
          have e1 : s.data.toList.isEmpty = false := by rw [List.isEmpty_eq_false_iff]; exact hne
          have e2 : decide (s.data.toList.length ≤ 1) = true := decide_eq_true (by rw [len_eq]; omega)
          rw [e1, e2]; simp)
      clear hhead h0
      by_cases h1 : 1 < s.size
      · have h48 : ((s[0].toNat : Int) == 48) = false := beq_eq_false_iff_ne.2 fun h => hlead ⟨h1, h⟩
        have hl1' : (1 : Int) < (s.size : Int) := by omega
        clear hlead
        go_enter Tryd.func38, Tryd.ntmps38
        go_wp2
        go_loop [3] (fun i => ∃ k : Nat, k ≤ s.size ∧ i = .int .i64 k ∧ digs (s.data.toList.take k) = true) (fun i => s.size - (intOf i).toNat)
        case atStart => exact ⟨0, Nat.zero_le _, rfl, rfl⟩
        case round =>
          obtain ⟨k, hk, rfl, hall⟩ := hrel
          have HA := Lib.hid hall; clear hall
          by_cases hlt : k < s.size
          · by_cases hc1 : (s[k].toNat : Int) < 48
            · go_wp2
              go_ret
              exact ⟨ret_bool (by rw [HW.out]; exact (digs_not (k := k) hlt (isDig_lo hc1)).symm), rfl⟩
            · by_cases hc2 : (57 : Int) < (s[k].toNat : Int)
              · go_wp2
                go_ret
                exact ⟨ret_bool (by rw [HW.out]; exact (digs_not (k := k) hlt (isDig_hi hc2)).symm), rfl⟩
              · go_wp2
                go_round
                case rel => exact ⟨k + 1, by omega, by go_num, digs_take_succ hlt HA.out (isDig_of (c := s[k]) (by omega) (by omega))⟩
                case measure => simp [intOf]; omega
          · go_wp2
            go_ret
            exact ⟨ret_bool (by rw [HW.out]; exact (digs_all (k := k) (by rw [len_eq]; omega) HA.out).symm), rfl⟩
      · have hl1' : decide ((1 : Int) < (s.size : Int)) = false := by simp; omega
        clear hlead
        go_enter Tryd.func38, Tryd.ntmps38
        go_wp2
        go_loop [3] (fun i => ∃ k : Nat, k ≤ s.size ∧ i = .int .i64 k ∧ digs (s.data.toList.take k) = true) (fun i => s.size - (intOf i).toNat)
        case atStart => exact ⟨0, Nat.zero_le _, rfl, rfl⟩
        case round =>
          obtain ⟨k, hk, rfl, hall⟩ := hrel
          have HA := Lib.hid hall; clear hall
          by_cases hlt : k < s.size
          · by_cases hc1 : (s[k].toNat : Int) < 48
            · go_wp2
              go_ret
              exact ⟨ret_bool (by rw [HW.out]; exact (digs_not (k := k) hlt (isDig_lo hc1)).symm), rfl⟩
            · by_cases hc2 : (57 : Int) < (s[k].toNat : Int)
              · go_wp2
                go_ret
                exact ⟨ret_bool (by rw [HW.out]; exact (digs_not (k := k) hlt (isDig_hi hc2)).symm), rfl⟩
              · go_wp2
                go_round
                case rel => exact ⟨k + 1, by omega, by go_num, digs_take_succ hlt HA.out (isDig_of (c := s[k]) (by omega) (by omega))⟩
                case measure => simp [intOf]; omega
          · go_wp2
            go_ret
            exact ⟨ret_bool (by rw [HW.out]; exact (digs_all (k := k) (by rw [len_eq]; omega) HA.out).symm), rfl⟩

set_option maxHeartbeats 1000000 in
theorem RCount_any (s : ByteArray) (most : Int) (w : World) (hs : s.size ≤ maxLen) (h1 : most ≤ 9223372036854775807) (h2 : -9223372036854775808 ≤ most) :
    Calls Tryd.prog 22 #[.string s, .int .i64 most] w fun e w' => e = .returned (.tuple #[.int .i64 (countN s.data.toList most), .int .i64 (countE s.data.toList most)]) ∧ w = w' := by
  by_cases h0 : most < 0
  · have H : Hid (countN s.data.toList most = 0 ∧ countE s.data.toList most = 2) := Lib.hid ⟨if_pos h0, if_pos h0⟩
    go_enter Tryd.func22, Tryd.ntmps22
    go_wp2
    go_ret2
    exact ⟨ret_ii H.out.1.symm H.out.2.symm, rfl⟩
  · by_cases hw : whole s.data.toList = true
    · have H : Hid (countN s.data.toList most = valN s.data.toList most ∧ countE s.data.toList most = valE s.data.toList most) :=
        Lib.hid ⟨by unfold countN; rw [if_neg h0, if_pos hw], by unfold countE; rw [if_neg h0, if_pos hw]⟩
      have h0' : 0 ≤ most := by omega
      by_cases hlong : 19 < s.size
      · have hbig := val_long hw 18 (by rw [len_eq]; omega)
        have hbig' : most < (val s.data.toList : Int) := by omega
        have H2 : Hid (valN s.data.toList most = 0 ∧ valE s.data.toList most = 9) := Lib.hid ⟨valN_big hbig', valE_big hbig'⟩
        have hlong' : (19 : Int) < (s.size : Int) := by omega
        clear hbig hbig'
        go_enter Tryd.func22, Tryd.ntmps22
        go_wp2_with (go_at_call 38; refine (RWhole_any _ _ hs).mono ?_; rintro e w' ⟨rfl, rfl⟩)
        go_ret2
        exact ⟨ret_ii (by rw [H.out.1, H2.out.1]) (by rw [H.out.2, H2.out.2]), rfl⟩
      · have hd := Lib.hid (digs_of_whole hw)
        have hshort : (s.size : Int) ≤ 19 := by omega
        go_enter Tryd.func22, Tryd.ntmps22
        go_wp2_with (go_at_call 38; refine (RWhole_any _ _ hs).mono ?_; rintro e w' ⟨rfl, rfl⟩)
        clear hw
        go_loop [6, 7] (fun u i => ∃ k : Nat, k ≤ s.size ∧ i = .int .i64 k ∧ u = .int .u64 (val (s.data.toList.take k))) (fun _ i => s.size - (intOf i).toNat)
        case atStart => exact ⟨0, Nat.zero_le _, rfl, rfl⟩
        case round =>
          obtain ⟨k, hk, rfl, rfl⟩ := hrel
          by_cases hlt : k < s.size
          · have hg := digs_get hd.out k (by rw [len_eq]; exact hlt)
            rw [getl s k hlt] at hg
            obtain ⟨hdv, h48, h57⟩ := dv_le hg
            have h48' : (48 : Int) ≤ (s[k].toNat : Int) := by omega
            have h57' : (s[k].toNat : Int) ≤ 57 := by omega
            have HV := Lib.hid (val_take s.data.toList k (by rw [len_eq]; exact hlt))
            have HDv : Hid ((dv s[k] : Int) = (s[k].toNat : Int) - 48) := Lib.hid (by unfold dv; omega)
            have hvl : (val (s.data.toList.take k) : Int) < 1000000000000000000 := by
              have a1 := val_take_lt hd.out k
              have a2 : 10 ^ k ≤ 10 ^ 18 := Nat.pow_le_pow_right (by omega) (by omega)
              omega
            have hv0 : (0 : Int) ≤ (val (s.data.toList.take k) : Int) := by omega
            clear hg h48 h57 hdv
            go_wp2
            go_round
            case rel =>
              have h3 := HDv.out
              have h4 := HV.out
              rw [getl s k hlt] at h4
              exact ⟨k + 1, by omega, by go_num, by rw [h4]; congr 1; omega⟩
            case measure => simp [intOf]; omega
          · have e : s.data.toList.take k = s.data.toList := List.take_of_length_le (by rw [len_eq]; omega)
            have hvl : (val s.data.toList : Int) < 18446744073709551616 := by
              have a1 := val_lt hd.out
              have a2 : 10 ^ s.data.toList.length ≤ 10 ^ 19 := Nat.pow_le_pow_right (by omega) (by rw [len_eq]; omega)
              omega
            have hv0 : (0 : Int) ≤ (val s.data.toList : Int) := by omega
            by_cases hm : most < (val s.data.toList : Int)
            · have H2 : Hid (valN s.data.toList most = 0 ∧ valE s.data.toList most = 9) := Lib.hid ⟨valN_big hm, valE_big hm⟩
              rw [e]
              clear e
              go_wp2
              go_ret2
              exact ⟨ret_ii (by rw [H.out.1, H2.out.1]) (by rw [H.out.2, H2.out.2]), rfl⟩
            · have H2 : Hid (valN s.data.toList most = val s.data.toList ∧ valE s.data.toList most = 0) := Lib.hid ⟨valN_ok (by omega), valE_ok (by omega)⟩
              rw [e]
              clear e
              go_wp2
              go_ret2
              exact ⟨ret_ii (by rw [H.out.1, H2.out.1]) (by rw [H.out.2, H2.out.2]), rfl⟩
    · have hw' : whole s.data.toList = false := by simpa using hw
      have H : Hid (countN s.data.toList most = 0 ∧ countE s.data.toList most = 3) :=
        Lib.hid ⟨by unfold countN; rw [if_neg h0, if_neg hw], by unfold countE; rw [if_neg h0, if_neg hw]⟩
      clear hw
      go_enter Tryd.func22, Tryd.ntmps22
      go_wp2_with (go_at_call 38; refine (RWhole_any _ _ hs).mono ?_; rintro e w' ⟨rfl, rfl⟩)
      go_ret2
      exact ⟨ret_ii H.out.1.symm H.out.2.symm, rfl⟩

theorem val_zero {l : List UInt8} (h : whole l = true) (hv : val l = 0) : l = [48] := by
  match l, h with
  | [], h => simp [whole] at h
  | [c], h =>
    have hd : isDig c = true := by simp [whole] at h; exact h
    have h2 := dv_le hd
    have h3 : dv c = 0 := by simpa [val] using hv
    have : c = 48 := by
      apply UInt8.toNat_inj.1
      unfold dv at h3
      show _ = 48
      omega
    rw [this]
  | c :: d :: r, h =>
    have := val_long h 0 (by simp)
    omega
theorem count_zero {l : List UInt8} (hN : countN l 9007199254740992 = 0) (hE : countE l 9007199254740992 = 0) : l = [48] := by
  unfold countN at hN
  unfold countE at hE
  rw [if_neg (by decide)] at hN hE
  by_cases hw : whole l = true
  · rw [if_pos hw] at hN hE
    unfold valN at hN
    unfold valE at hE
    by_cases hb : (val l : Int) ≤ 9007199254740992
    · rw [if_pos hb] at hN
      exact val_zero hw (by omega)
    · rw [if_neg hb] at hE; exact absurd hE (by decide)
  · rw [if_neg hw] at hE; exact absurd hE (by decide)
theorem count_48 : countN [48] 9007199254740992 = 0 ∧ countE [48] 9007199254740992 = 0 := by decide

end Go.Proofs.YtkgfinhepbipeaaDoor
