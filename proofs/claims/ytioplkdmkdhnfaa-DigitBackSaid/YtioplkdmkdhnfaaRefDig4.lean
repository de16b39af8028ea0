/- Contracts of the document's own answers Value and Milli. -/
import Derived.Test.YtioplkdmkdhnfaaRefDig3
import Derived.Test.YtioplkdmkdhnfaaDigWalk3
import Derived.Test.YtioplkdmkdhnfaaRefDig2
namespace Go.Proofs.Ytioplkdmkdhnfaa
open Go.RowKit
open Dg
set_option linter.unusedVariables false
/-- The value of digits, or 2^60 where it is 2^56 or more. -/
def capN (l : List UInt8) : Int := if 72057594037927936 ≤ (val l : Int) then 1152921504606846976 else (val l : Int)
theorem capN_big {l : List UInt8} (h : 72057594037927936 ≤ (val l : Int)) : capN l = 1152921504606846976 := if_pos h
theorem capN_ok {l : List UInt8} (h : ¬ 72057594037927936 ≤ (val l : Int)) : capN l = (val l : Int) := if_neg h

set_option maxHeartbeats 1000000 in
theorem RValue_any (s : ByteArray) (w : World) (hs : s.size ≤ maxLen) (hd : digs s.data.toList = true) :
    Calls Try.prog 26 #[.string s] w fun e w' => e = .returned (.int .i64 (capN s.data.toList)) ∧ w = w' := by
  unfold maxLen at hs
  have HD := Lib.hid hd; clear hd
  go_enter Try.func26, Try.ntmps26
  go_wp2
  go_loop [3, 4] (fun n i => ∃ k : Nat, k ≤ s.size ∧ i = .int .i64 k ∧ n = .int .i64 (val (s.data.toList.take k)) ∧ (val (s.data.toList.take k) : Int) < 72057594037927936) (fun _ i => s.size - (intOf i).toNat)
  case atStart => exact ⟨0, Nat.zero_le _, rfl, rfl, by rw [List.take_zero]; decide⟩
  case round =>
    obtain ⟨k, hk, rfl, rfl, hn⟩ := hrel
    have hn0 : (0 : Int) ≤ (val (s.data.toList.take k) : Int) := by omega
    by_cases hlt : k < s.size
    · have hg := digs_get HD.out k (by rw [len_eq]; exact hlt)
      rw [getl s k hlt] at hg
      obtain ⟨hdv, h48, h57⟩ := dv_le hg
      have h48' : (48 : Int) ≤ (s[k].toNat : Int) := by omega
      have h57' : (s[k].toNat : Int) ≤ 57 := by omega
      have HV := Lib.hid (val_take s.data.toList k (by rw [len_eq]; exact hlt))
      have HDv : Hid ((dv s[k] : Int) = (s[k].toNat : Int) - 48) := Lib.hid (by unfold dv; omega)
      clear hg h48 h57 hdv
      by_cases hb : 72057594037927936 ≤ (val (s.data.toList.take k) : Int) * 10 + (s[k].toNat : Int) - 48
      · go_wp2
        go_ret
        refine ⟨ret_int (capN_big ?_).symm, rfl⟩
        have h3 := HDv.out
        have h4 := HV.out
        rw [getl s k hlt] at h4
        have := val_take_le s.data.toList (k + 1)
        omega
      · go_wp2
        go_round
        case rel =>
          have h3 := HDv.out
          have h4 := HV.out
          rw [getl s k hlt] at h4
          exact ⟨k + 1, by omega, by go_num, by rw [h4]; congr 1; omega, by omega⟩
        case measure => simp [intOf]; omega
    · have e : s.data.toList.take k = s.data.toList := List.take_of_length_le (by rw [len_eq]; omega)
      rw [e] at hn hn0 ⊢
      clear e
      go_wp2
      go_ret
      exact ⟨ret_int (capN_ok (by omega)).symm, rfl⟩

theorem val_app (x y : List UInt8) : val (x ++ y) = val x * 10 ^ y.length + val y := by
  rw [val_append]
  suffices H : ∀ n, y.foldl (fun n c => n * 10 + dv c) n = n * 10 ^ y.length + val y from H _
  induction y with
  | nil => intro n; simp [val]
  | cons c r ih =>
    intro n
    rw [List.foldl_cons, ih (n * 10 + dv c), List.length_cons, Nat.pow_succ]
    have h2 : val (c :: r) = dv c * 10 ^ r.length + val r := by
      show r.foldl (fun n c => n * 10 + dv c) (0 * 10 + dv c) = _
      rw [Nat.zero_mul, Nat.zero_add]; exact ih (dv c)
    rw [h2, Nat.add_mul, Nat.mul_assoc, Nat.mul_comm 10 (10 ^ r.length)]
    omega

theorem cap_small {l : List UInt8} (h : digs l = true) (hl : l.length = 3) : capN l = (val l : Int) ∧ (val l : Int) ≤ 999 := by
  have h1 := val_lt h
  rw [hl] at h1
  exact ⟨capN_ok (by omega), by omega⟩
/-- The last test of Milli: what the bound says of the two parts' values. -/
theorem milli_end {a t : List UInt8} (ht : digs t = true) (hl : t.length = 3) :
    (9007199254740 < capN a ∧ valN (a ++ t) 9007199254740992 = 0 ∧ valE (a ++ t) 9007199254740992 = 9) ∨
    (capN a ≤ 9007199254740 ∧ 0 ≤ capN a ∧ 0 ≤ capN t ∧ capN t ≤ 999 ∧ 9007199254740992 < capN a * 1000 + capN t ∧ valN (a ++ t) 9007199254740992 = 0 ∧ valE (a ++ t) 9007199254740992 = 9) ∨
    (capN a ≤ 9007199254740 ∧ 0 ≤ capN a ∧ 0 ≤ capN t ∧ capN t ≤ 999 ∧ capN a * 1000 + capN t ≤ 9007199254740992 ∧ valN (a ++ t) 9007199254740992 = capN a * 1000 + capN t ∧ valE (a ++ t) 9007199254740992 = 0) := by
  obtain ⟨c1, c2⟩ := cap_small ht hl
  have hv : (val (a ++ t) : Int) = (val a : Int) * 1000 + (val t : Int) := by rw [val_app, hl]; omega
  by_cases hb : 72057594037927936 ≤ (val a : Int)
  · have hc := capN_big hb
    exact .inl ⟨by omega, valN_big (by omega), valE_big (by omega)⟩
  · have hc := capN_ok hb
    by_cases h1 : 9007199254740 < (val a : Int)
    · exact .inl ⟨by omega, valN_big (by omega), valE_big (by omega)⟩
    · by_cases h2 : 9007199254740992 < (val (a ++ t) : Int)
      · exact .inr (.inl ⟨by omega, by omega, by omega, by omega, by omega, valN_big h2, valE_big h2⟩)
      · exact .inr (.inr ⟨by omega, by omega, by omega, by omega, by omega, by rw [valN_ok (by omega)]; omega, valE_ok (by omega)⟩)

set_option maxHeartbeats 2000000 in
theorem RMilli_no (s : ByteArray) (w : World) (hs : s.size ≤ 1048576) (hp : 46 ∉ s.data.toList) :
    Calls Try.prog 16 #[.string s] w fun e w' => e = .returned (.tuple #[.int .i64 (milliN s.data.toList), .int .i64 (milliE s.data.toList)]) ∧ Below w.heap.size w w' := by
  have hm : s.size ≤ maxLen := by unfold maxLen; omega
  obtain ⟨e1, e2⟩ := mOk_no hp
  have hne : ∀ (k : Nat) (h : k < s.size), ((s[k].toNat : Int) == 46) = false := by
    intro k h
    rw [beq_eq_false_iff_ne]
    intro h2
    apply hp
    have h3 := u8_eq (k := 46) (by decide) h2
    have h4 : s[k] ∈ s.data.toList := by
      rw [← getl s k h (by rw [len_eq]; exact h)]; exact List.getElem_mem _
    rw [h3] at h4; exact h4
  have HN := Lib.hid hne
  have HE1 := Lib.hid e1
  have HE2 := Lib.hid e2
  clear hne hp e1 e2
  go_enter Try.func16, Try.ntmps16
  go_wp2
  go_loop [4] (fun i => ∃ k : Nat, k ≤ s.size ∧ i = .int .i64 k) (fun i => s.size - (intOf i).toNat)
  case atStart => exact ⟨0, Nat.zero_le _, rfl⟩
  case round =>
    obtain ⟨k, hk, rfl⟩ := hrel
    by_cases hlt : k < s.size
    · have h46 := HN.out k hlt
      have h46' : ((s[k].toNat : Int) != 46) = true := by rw [bne, h46]; rfl
      go_wp2
      go_round
      case rel => exact ⟨k + 1, by omega, by go_num⟩
      case measure => simp [intOf]; omega
    · obtain rfl : k = s.size := by omega
      have hx : s.extract 0 s.size = s := bytes_ext (by rw [Lib.extract_data]; exact List.take_of_length_le (by simp))
      by_cases hw : whole s.data.toList = true
      · go_wp2_with (go_at_call 25; refine (RWhole_any _ _ hm).mono ?_; rintro e w' ⟨rfl, rfl⟩)
        go_loop [6] (fun i => i = .int .i64 0) (fun _ => 0)
        case atStart => rfl
        case round =>
          obtain rfl := hrel
          go_wp2
          go_loop [5] (fun st => ∃ t : ByteArray, ∃ j : Nat, st = .string t ∧ t.data.toList = List.replicate j 48 ∧ j ≤ 3) (fun st => 3 - strSize st)
          case atStart => exact ⟨⟨#[]⟩, 0, rfl, rfl, by omega⟩
          case round =>
            obtain ⟨t, j, rfl, ht, hj⟩ := hrel
            have hts : t.size = j := by rw [← len_eq, ht, List.length_replicate]
            by_cases hj3 : j < 3
            · have hts' : (t.size : Int) < 3 := by omega
              have HTs := Lib.hid hts
              have HT := Lib.hid ht
              clear hts ht
              go_wp2
              go_round
              case rel => exact ⟨_, j + 1, rfl, by rw [data_app, HT.out, List.replicate_succ'], by omega⟩
              case measure =>
                show 3 - (t ++ ⟨#[48]⟩).size < 3 - t.size
                have : (t ++ ⟨#[48]⟩ : ByteArray).size = t.size + 1 := by rw [← len_eq, data_app, List.length_append, len_eq]; rfl
                omega
            · obtain rfl : j = 3 := by omega
              have htd : digs t.data.toList = true := by rw [ht]; exact digs_zeros 3
              have hd := digs_of_whole hw
              have HMd : Hid (mD s.data.toList = s.data.toList ++ t.data.toList) := Lib.hid (by rw [HE2.out, ht])
              have hend := milli_end (a := s.data.toList) htd (by rw [ht]; rfl)
              rw [← HMd.out] at hend
              have HM : Hid (milliN s.data.toList = valN (mD s.data.toList) 9007199254740992 ∧ milliE s.data.toList = valE (mD s.data.toList) 9007199254740992) := Lib.hid ⟨by unfold milliN; rw [HE1.out, hw]; rfl, by unfold milliE; rw [HE1.out, hw]; rfl⟩
              have hts3 : ¬ ((t.size : Int) < 3) := by omega
              have htm : t.size ≤ maxLen := by unfold maxLen; omega
              clear ht hts
              rcases hend with ⟨h1, h2, h3⟩ | ⟨h1, h1a, h1b, h1c, h1d, h2, h3⟩ | ⟨h1, h1a, h1b, h1c, h1d, h2, h3⟩
              all_goals
                have H2 := Lib.hid h2
                have H3 := Lib.hid h3
                clear h2 h3
                go_wp2_with (go_at_call 26; refine (RValue_any _ _ (by assumption) (by assumption)).mono ?_; rintro e w' ⟨rfl, rfl⟩)
                go_ret2
                exact ⟨ret_ii (by rw [HM.out.1, H2.out]) (by rw [HM.out.2, H3.out]), Below.refl _ _⟩
      · have hw' : whole s.data.toList = false := by simpa using hw
        have H : Hid (milliN s.data.toList = 0 ∧ milliE s.data.toList = 3) := Lib.hid ⟨by unfold milliN; rw [HE1.out, hw']; rfl, by unfold milliE; rw [HE1.out, hw']; rfl⟩
        clear hw
        go_wp2_with (go_at_call 25; refine (RWhole_any _ _ hm).mono ?_; rintro e w' ⟨rfl, rfl⟩)
        go_ret2
        exact ⟨ret_ii H.out.1.symm H.out.2.symm, Below.refl _ _⟩

set_option maxHeartbeats 4000000 in
theorem RMilli_yes (s a b : ByteArray) (w : World) (hs : s.size ≤ 1048576) (hl : s.data.toList = a.data.toList ++ 46 :: b.data.toList) (ha : 46 ∉ a.data.toList) :
    Calls Try.prog 16 #[.string s] w fun e w' => e = .returned (.tuple #[.int .i64 (milliN s.data.toList), .int .i64 (milliE s.data.toList)]) ∧ Below w.heap.size w w' := by
  have hz : s.size = a.size + (b.size + 1) := by rw [← len_eq s, hl, List.length_append, List.length_cons, len_eq, len_eq]
  have hma : a.size ≤ maxLen := by unfold maxLen; omega
  have hmb : b.size ≤ 1048576 := by omega
  have hlt0 : a.size < s.size := by omega
  have hle0 : a.size + 1 ≤ s.size := by omega
  obtain ⟨e1, e2⟩ := mOk_yes (b := b.data.toList) ha
  rw [← hl] at e1 e2
  have HA : Hid (s.extract 0 a.size = a) := Lib.hid (bytes_ext (by rw [Lib.extract_data, hl]; exact List.take_left))
  have HB : Hid (s.extract (a.size + 1) s.size = b) := Lib.hid (bytes_ext (by
    have e1 : (a.data.toList ++ 46 :: b.data.toList).drop (a.size + 1) = b.data.toList := by
      rw [← List.drop_drop, ← len_eq a, List.drop_left]; rfl
    rw [Lib.extract_data, hl, e1]
    exact List.take_of_length_le (by rw [len_eq]; omega)))
  have h46a : s[a.size] = 46 := by
    have h1 : s.data.toList[a.size]? = some 46 := by rw [hl, ← len_eq a]; simp
    have h2 : s.data.toList[a.size]? = some s[a.size] := by
      rw [List.getElem?_eq_getElem (by rw [len_eq]; exact hlt0)]; rfl
    rw [h2] at h1; exact Option.some.inj h1
  have hne : ∀ (k : Nat) (h : k < a.size) (h' : k < s.size), ((s[k].toNat : Int) == 46) = false := by
    intro k h h'
    rw [beq_eq_false_iff_ne]
    intro h2
    apply ha
    have h3 := u8_eq (k := 46) (by decide) h2
    have h4 : s.data.toList[k]? = some s[k] := by
      rw [List.getElem?_eq_getElem (by rw [len_eq]; exact h')]; rfl
    rw [hl, List.getElem?_append_left (by rw [len_eq]; exact h), h3] at h4
    exact List.mem_of_getElem? h4
  have HN := Lib.hid hne
  have H46 := Lib.hid h46a
  have HE1 := Lib.hid e1
  have HE2 := Lib.hid e2
  have HZ := Lib.hid hz
  clear hne h46a ha e1 e2 hl hz
  go_enter Try.func16, Try.ntmps16
  go_wp2
  go_loop [4] (fun i => ∃ k : Nat, k ≤ a.size ∧ i = .int .i64 k) (fun i => s.size - (intOf i).toNat)
  case atStart => exact ⟨0, Nat.zero_le _, rfl⟩
  case round =>
    obtain ⟨k, hk, rfl⟩ := hrel
    by_cases hlt : k < a.size
    · have hks : k < s.size := by omega
      have h46 := HN.out k hlt hks
      have h46' : ((s[k].toNat : Int) != 46) = true := by rw [bne, h46]; rfl
      go_wp2
      go_round
      case rel => exact ⟨k + 1, by omega, by go_num⟩
      case measure => simp [intOf]; omega
    · obtain rfl : k = a.size := by omega
      have h46 : ((s[a.size].toNat : Int) == 46) = true := by rw [H46.out]; rfl
      have h46' : ((s[a.size].toNat : Int) != 46) = false := by rw [bne, h46]; rfl
      have hxa := HA.out
      have hxb := HB.out
      -- the text behind the point is not of the form
      have bad : frac b.data.toList = false → milliN s.data.toList = 0 ∧ milliE s.data.toList = 3 := fun hf => ⟨by unfold milliN; rw [HE1.out, hf, Bool.and_false]; rfl, by unfold milliE; rw [HE1.out, hf, Bool.and_false]; rfl⟩
      have BAD := Lib.hid bad
      clear bad
      by_cases hb0 : b.size = 0
      · have H := Lib.hid (BAD.out (by
          have : b.data.toList = [] := List.length_eq_zero_iff.1 (by rw [len_eq]; exact hb0)
          rw [this]; rfl))
        have hb1 : (b.size : Int) < 1 := by omega
        clear hb0
        go_wp2
        go_ret2
        exact ⟨ret_ii H.out.1.symm H.out.2.symm, Below.refl _ _⟩
      · have hb1 : ¬ (b.size : Int) < 1 := by omega
        have hbp : 0 < b.size := by omega
        clear hb0
        by_cases hb3 : 3 < b.size
        · have H := Lib.hid (BAD.out (frac_long (by rw [len_eq]; exact hb3)))
          have hb3' : (3 : Int) < (b.size : Int) := by omega
          go_wp2
          go_ret2
          exact ⟨ret_ii H.out.1.symm H.out.2.symm, Below.refl _ _⟩
        · have hb3' : ¬ (3 : Int) < (b.size : Int) := by omega
          have hlast : b.data.toList.getLastD 48 = b[b.size - 1] := getLastD_eq (l := b.data.toList) hbp
          have c1 : (0 : Int) ≤ (b.size : Int) - 1 := by omega
          have c2 : ((b.size : Int) - 1).toNat = b.size - 1 := by omega
          have c3 : b.size - 1 < b.size := by omega
          by_cases h2 : (b[b.size - 1].toNat : Int) = 48
          · have H := Lib.hid (BAD.out (frac_last (by rw [hlast]; exact u8_eq (k := 48) (by decide) h2)))
            clear hlast
            go_wp2
            go_ret2
            exact ⟨ret_ii H.out.1.symm H.out.2.symm, Below.refl _ _⟩
          · have HF : Hid (frac b.data.toList = digs b.data.toList) := Lib.hid (frac_digs (by
              intro h
              have hh := congrArg List.length h
              rw [len_eq] at hh
              have h9 : b.size = 0 := hh
              omega) (by rw [len_eq]; omega) (by rw [hlast]; intro h; apply h2; rw [h]; rfl))
            have h2' : ((b[b.size - 1].toNat : Int) == 48) = false := beq_eq_false_iff_ne.2 h2
            clear hlast h2
            by_cases hw : whole a.data.toList = true
            · go_wp2_with (go_at_call 25; refine (RWhole_any _ _ hma).mono ?_; rintro e w' ⟨rfl, rfl⟩)
              go_loop [6] (fun i => ∃ k : Nat, k ≤ b.size ∧ i = .int .i64 k ∧ digs (b.data.toList.take k) = true) (fun i => b.size - (intOf i).toNat)
              case atStart => exact ⟨0, Nat.zero_le _, rfl, rfl⟩
              case round =>
                obtain ⟨k, hk, rfl, hall⟩ := hrel
                have HAl := Lib.hid hall; clear hall
                by_cases hlt : k < b.size
                · by_cases hc1 : (b[k].toNat : Int) < 48
                  · have H := Lib.hid (BAD.out (by rw [HF.out]; exact digs_not (k := k) hlt (isDig_lo hc1)))
                    go_wp2
                    go_ret2
                    exact ⟨ret_ii H.out.1.symm H.out.2.symm, Below.refl _ _⟩
                  · by_cases hc2 : (57 : Int) < (b[k].toNat : Int)
                    · have H := Lib.hid (BAD.out (by rw [HF.out]; exact digs_not (k := k) hlt (isDig_hi hc2)))
                      go_wp2
                      go_ret2
                      exact ⟨ret_ii H.out.1.symm H.out.2.symm, Below.refl _ _⟩
                    · go_wp2
                      go_round
                      case rel => exact ⟨k + 1, by omega, by go_num, digs_take_succ hlt HAl.out (isDig_of (c := b[k]) (by omega) (by omega))⟩
                      case measure => simp [intOf]; omega
                · have hdb := digs_all (k := k) (by rw [len_eq]; omega) HAl.out
                  have HM : Hid (milliN s.data.toList = valN (mD s.data.toList) 9007199254740992 ∧ milliE s.data.toList = valE (mD s.data.toList) 9007199254740992) := Lib.hid ⟨by unfold milliN; rw [HE1.out, hw, HF.out, hdb]; rfl, by unfold milliE; rw [HE1.out, hw, HF.out, hdb]; rfl⟩
                  go_wp2
                  go_loop [5] (fun st => ∃ t : ByteArray, ∃ j : Nat, st = .string t ∧ t.data.toList = b.data.toList ++ List.replicate j 48 ∧ b.size + j ≤ 3) (fun st => 3 - strSize st)
                  case atStart => exact ⟨b, 0, rfl, by simp, by omega⟩
                  case round =>
                    obtain ⟨t, j, rfl, ht, hj⟩ := hrel
                    have hts : t.size = b.size + j := by rw [← len_eq, ht, List.length_append, List.length_replicate, len_eq]
                    by_cases hj3 : b.size + j < 3
                    · have hts' : (t.size : Int) < 3 := by omega
                      have HTs := Lib.hid hts
                      have HT := Lib.hid ht
                      clear hts ht
                      go_wp2
                      go_round
                      case rel => exact ⟨_, j + 1, rfl, by rw [data_app, HT.out, List.replicate_succ', List.append_assoc], by omega⟩
                      case measure =>
                        show 3 - (t ++ ⟨#[48]⟩).size < 3 - t.size
                        have : (t ++ ⟨#[48]⟩ : ByteArray).size = t.size + 1 := by rw [← len_eq, data_app, List.length_append, len_eq]; rfl
                        have := HTs.out
                        omega
                    · have hj' : j = 3 - b.size := by omega
                      have htd : digs t.data.toList = true := by rw [ht]; exact digs_append hdb (digs_zeros j)
                      have hd := digs_of_whole hw
                      have HMd : Hid (mD s.data.toList = a.data.toList ++ t.data.toList) := Lib.hid (by rw [HE2.out, ht, len_eq, hj', List.append_assoc])
                      have hend := milli_end (a := a.data.toList) htd (by rw [len_eq]; omega)
                      rw [← HMd.out] at hend
                      have hts3 : ¬ ((t.size : Int) < 3) := by omega
                      have htm : t.size ≤ maxLen := by unfold maxLen; omega
                      clear ht hts hj' hj3
                      rcases hend with ⟨h1, h2, h3⟩ | ⟨h1, h1a, h1b, h1c, h1d, h2, h3⟩ | ⟨h1, h1a, h1b, h1c, h1d, h2, h3⟩
                      all_goals
                        have H2 := Lib.hid h2
                        have H3 := Lib.hid h3
                        clear h2 h3
                        go_wp2_with (go_at_call 26; refine (RValue_any _ _ (by assumption) (by assumption)).mono ?_; rintro e w' ⟨rfl, rfl⟩)
                        go_ret2
                        exact ⟨ret_ii (by rw [HM.out.1, H2.out]) (by rw [HM.out.2, H3.out]), Below.refl _ _⟩
            · have hw' : whole a.data.toList = false := by simpa using hw
              have H : Hid (milliN s.data.toList = 0 ∧ milliE s.data.toList = 3) := Lib.hid ⟨by unfold milliN; rw [HE1.out, hw']; rfl, by unfold milliE; rw [HE1.out, hw']; rfl⟩
              clear hw
              go_wp2_with (go_at_call 25; refine (RWhole_any _ _ hma).mono ?_; rintro e w' ⟨rfl, rfl⟩)
              go_ret2
              exact ⟨ret_ii H.out.1.symm H.out.2.symm, Below.refl _ _⟩

theorem RMilli_any (s : ByteArray) (w : World) (hs : s.size ≤ 1048576) :
    Calls Try.prog 16 #[.string s] w fun e w' => e = .returned (.tuple #[.int .i64 (milliN s.data.toList), .int .i64 (milliE s.data.toList)]) ∧ Below w.heap.size w w' := by
  by_cases hp : 46 ∈ s.data.toList
  · obtain ⟨a', b', ha, hl⟩ := pt_split hp
    obtain ⟨a, rfl⟩ : ∃ a : ByteArray, a' = a.data.toList := ⟨⟨a'.toArray⟩, by simp⟩
    obtain ⟨b, rfl⟩ : ∃ b : ByteArray, b' = b.data.toList := ⟨⟨b'.toArray⟩, by simp⟩
    exact RMilli_yes s a b w hs hl ha
  · exact RMilli_no s w hs hp
end Go.Proofs.Ytioplkdmkdhnfaa
