/- The contract of the document's own Say. -/
import Derived.Test.YtjhojedicehcfaaDoorRefBegins
import Derived.Test.YtjhojedicehcfaaDoorLinParse
namespace Go.Proofs.YtjhojedicehcfaaDoor
open Go.RowKit Go.Sort
open Q6
set_option linter.unusedVariables false
theorem trimN_succ (l : List UInt8) (n : Nat) : trimN l (n + 1) = if l.getD n 0 = 32 then trimN l n else n + 1 := rfl
/-- What a line says, its end known. -/
def outS (l : List UInt8) (R : Option Nat) : List UInt8 := match R with | some e => l.take (trimN l e) | none => []
def outSB (R : Option Nat) : Bool := R.isSome
set_option maxRecDepth 100000 in
set_option maxHeartbeats 4000000 in
theorem Say_any (s : ByteArray) (w : World) (hs : s.size ≤ 100000) (q : ByteArray) (b : Bool) (hq : outS s.data.toList (endAt s.data.toList 0) = q.data.toList) (hb : outSB (endAt s.data.toList 0) = b) :
    Calls Tryd.prog 16 #[.string s] w fun e w' => e = .returned (.tuple #[.string q, .bool b]) ∧ Below w.heap.size w w' := by
  obtain ⟨R, hR⟩ : ∃ R, endAt s.data.toList 0 = R := ⟨_, rfl⟩
  rw [hR] at hq hb
  have HOUT : Hid (outS s.data.toList R = q.data.toList ∧ outSB R = b) := Lib.hid ⟨hq, hb⟩
  have HR0 := Lib.hid hR
  clear hq hb hR
  have HLEN := Lib.hid (len_eq s)
  obtain ⟨n, hn⟩ : ∃ n, s.size = n := ⟨_, rfl⟩
  have hsn : n ≤ 100000 := by omega
  go_enter Tryd.func16, Tryd.ntmps16
  go_wp2
  go_loopw [0, 4] (fun s0 si wr => ∃ k : Nat, k ≤ n ∧ s0 = .string s ∧ si = .int .i64 (k : Int) ∧ Hid (Below w.heap.size w wr) ∧ Hid (endAt s.data.toList k = R)) (fun _ si _ => n - (intOf si).toNat)
  case atStart => exact ⟨0, Nat.zero_le _, rfl, rfl, Lib.hid (Below.refl _ _), HR0⟩
  case round =>
    clear HR0
    obtain ⟨k, hk, rfl, rfl, HB, HR⟩ := hrel
    by_cases hlt : k < n
    · have hks : k < s.size := by omega
      have hkl : k < s.data.toList.length := by rw [HLEN.out]; exact hks
      have hskz : (k : Int) < (n : Int) := by omega
      have HKL := Lib.hid hkl
      obtain ⟨c, hc⟩ : ∃ c, s[k]'hks = c := ⟨_, rfl⟩
      have HG : Hid (s.data.toList.getD k 0 = c) := Lib.hid ((getd s k hks).trans hc)
      clear hkl
      rcases begK_cases s.data.toList k with hb | hb | hb
      · have HC := Lib.hid (fun w0 => begins_any s k w0 hs hks 0 (by rw [hb]; rfl))
        rcases Bool.eq_false_or_eq_true (good c) with hg | hg
        · have HN := Lib.hid ((endAt_next HKL.out hb (by rw [HG.out]; exact hg)).symm.trans HR.out)
          have HP := Lib.hid (fun w0 => Good_q c true w0 hg)
          clear hb hg
          go_wp2_with (first | (go_at_call 24; refine (HC.out _).mono ?_; rintro e w' ⟨rfl, rfl⟩) | (go_at_call 26; refine (HP.out _).mono ?_; rintro e w' ⟨rfl, rfl⟩))
          go_roundw
          case rel => exact ⟨k + 1, by omega, rfl, by go_num, HB, HN⟩
          case measure => simp [intOf]; omega
        · have HE := Lib.hid (HR.out.symm.trans (endAt_raw HKL.out hb (by rw [HG.out]; exact hg)))
          have HP := Lib.hid (fun w0 => Good_q c false w0 hg)
          clear hb hg
          go_wp2_with (first | (go_at_call 24; refine (HC.out _).mono ?_; rintro e w' ⟨rfl, rfl⟩) | (go_at_call 26; refine (HP.out _).mono ?_; rintro e w' ⟨rfl, rfl⟩))
          go_ret2
          exact ⟨ret_sb (bytes_ext (by rw [← HOUT.out.1, HE.out]; rfl)) (by rw [← HOUT.out.2, HE.out]; rfl), HB.out⟩
      · have HC := Lib.hid (fun w0 => begins_any s k w0 hs hks 1 (by rw [hb]; rfl))
        rcases scanE_cases s.data.toList k with hse | ⟨v, m, hse, hv, hm, hkm, hml⟩
        · have HE := Lib.hid (HR.out.symm.trans (endAt_bad HKL.out hb hse))
          obtain ⟨q2, hqq⟩ : ∃ q : ByteArray, scanV s.data.toList (k : Int) = q.data.toList := ⟨⟨(scanV s.data.toList (k : Int)).toArray⟩, by simp⟩
          obtain ⟨X, hX⟩ : ∃ X, scanN s.data.toList (k : Int) = X := ⟨_, rfl⟩
          obtain ⟨Y, hY⟩ : ∃ Y, scanE s.data.toList (k : Int) = Y := ⟨_, rfl⟩
          have HSC := Lib.hid (fun w0 => RScan_any s (k : Int) w0 hs (by omega) (by omega) q2 X Y hqq hX hY)
          have y0 : (Y != 0) = true := bne_iff_ne.2 (by rw [← hY]; exact hse)
          clear hse hqq hX hY hb
          go_wp2_with fail
          refine (HC.out _).mono ?_
          rintro e w' ⟨rfl, rfl⟩
          go_wp2_with fail
          refine (HSC.out _).mono ?_
          rintro e w2 ⟨rfl, hb2⟩
          have HB2 := Lib.hid (HB.out.trans (hb2.mono HB.out.size))
          clear hb2
          go_wp2
          go_ret2
          exact ⟨ret_sb (bytes_ext (by rw [← HOUT.out.1, HE.out]; rfl)) (by rw [← HOUT.out.2, HE.out]; rfl), HB2.out⟩
        · have HN := Lib.hid ((endAt_quote HKL.out hb hse hm hkm).symm.trans HR.out)
          obtain ⟨q2, hqq⟩ : ∃ q : ByteArray, scanV s.data.toList (k : Int) = q.data.toList := ⟨⟨(scanV s.data.toList (k : Int)).toArray⟩, by simp⟩
          have HSC := Lib.hid (fun w0 => RScan_any s (k : Int) w0 hs (by omega) (by omega) q2 (m : Int) 0 hqq hm hse)
          have hmn : m ≤ n := by rw [HLEN.out, hn] at hml; exact hml
          clear hse hqq hm hb hv hml
          go_wp2_with fail
          refine (HC.out _).mono ?_
          rintro e w' ⟨rfl, rfl⟩
          go_wp2_with fail
          refine (HSC.out _).mono ?_
          rintro e w2 ⟨rfl, hb2⟩
          have HB2 := Lib.hid (HB.out.trans (hb2.mono HB.out.size))
          clear hb2
          go_wp2
          go_roundw
          case rel => exact ⟨m, hmn, rfl, rfl, HB2, HN⟩
          case measure => simp [intOf]; omega
      · have HC := Lib.hid (fun w0 => begins_any s k w0 hs hks 2 (by rw [hb]; rfl))
        have HE := Lib.hid (HR.out.symm.trans (endAt_mark HKL.out hb))
        have HD : Hid ((s.extract 0 k).data.toList = s.data.toList.take k) := Lib.hid (upto_data s k)
        have HSZ : Hid ((s.extract 0 k).size = k) := Lib.hid (by rw [ByteArray.size_extract]; omega)
        have hskz' : (k : Int) ≤ (n : Int) := by omega
        clear hb hc
        go_wp2_with (go_at_call 24; refine (HC.out _).mono ?_; rintro e w' ⟨rfl, rfl⟩)
        go_loop [0] (fun s0 => ∃ (m : Nat) (u : ByteArray), m ≤ n ∧ s0 = .string u ∧ u.size = m ∧ Hid (u.data.toList = s.data.toList.take m ∧ trimN s.data.toList m = trimN s.data.toList k)) (fun s0 => Lib.strSize s0)
        case atStart => exact ⟨k, _, hk, rfl, HSZ.out, Lib.hid ⟨HD.out, rfl⟩⟩
        case round =>
          obtain ⟨m, u, hm, rfl, hum, HU⟩ := hrel
          cases m with
          | zero =>
            have hu0 : u.data.toList = [] := by rw [HU.out.1]; rfl
            obtain rfl := bytes_of (l := #[]) hu0
            have HT := Lib.hid HU.out.2
            clear hum HU hu0
            go_wp2
            go_ret2
            refine ⟨ret_sb (bytes_ext ?_) ?_, HB.out⟩
            · rw [← HOUT.out.1, HE.out]
              show [] = s.data.toList.take (trimN s.data.toList k)
              rw [← HT.out]; rfl
            · rw [← HOUT.out.2, HE.out]; rfl
          | succ j =>
            have hju : j < u.size := by omega
            obtain ⟨d, hd⟩ : ∃ d, u[j]'hju = d := ⟨_, rfl⟩
            have hgd : s.data.toList.getD j 0 = d := by
              have h1 := (getd u j hju).trans hd
              rw [HU.out.1, getD_take (Nat.lt_succ_self j)] at h1
              exact h1
            have e0 : (0 : Int) < (j : Int) + 1 := by omega
            have e2 : IntKind.i64.wrap ((j : Int) + 1 - 1) = (j : Int) := by rw [Int.add_sub_cancel]; exact IntWalk.i64_in _ (by omega)
            have ejz : (j : Int) < (j : Int) + 1 := by omega
            have ejz' : (j : Int) ≤ (j : Int) + 1 := by omega
            by_cases h32 : d = 32
            · have m32 : ((d.toNat : Int) == 32) = true := byte_beq d 32 true (by rw [h32]; decide)
              have HT : Hid (trimN s.data.toList j = trimN s.data.toList k) := Lib.hid (by
                have := HU.out.2
                rw [trimN_succ] at this
                rw [if_pos (hgd.trans h32)] at this; exact this)
              have HD : Hid ((u.extract 0 j).data.toList = s.data.toList.take j) := Lib.hid (by rw [upto_data, HU.out.1, List.take_take, Nat.min_eq_left (by omega)])
              have HS : Hid ((u.extract 0 j).size = j) := Lib.hid (by rw [ByteArray.size_extract]; omega)
              clear h32 hgd
              go_wp2
              go_round
              case rel => exact ⟨j, u.extract 0 j, by omega, rfl, HS.out, Lib.hid ⟨HD.out, HT.out⟩⟩
              case measure => simp [Lib.strSize]; omega
            · have m32 : ((d.toNat : Int) == 32) = false := byte_beq d 32 false (decide_eq_false (fun e => h32 (UInt8.toNat_inj.1 e)))
              have HT : Hid (j + 1 = trimN s.data.toList k) := Lib.hid (by
                have := HU.out.2
                rw [trimN_succ] at this
                rw [if_neg (fun e => h32 (hgd.symm.trans e))] at this; exact this)
              have HD := Lib.hid HU.out.1
              clear h32 hgd HU
              go_wp2
              go_ret2
              refine ⟨ret_sb (bytes_ext ?_) ?_, HB.out⟩
              · rw [← HOUT.out.1, HE.out, HD.out, HT.out]; rfl
              · rw [← HOUT.out.2, HE.out]; rfl
    · obtain rfl : k = n := by omega
      have HE := Lib.hid (HR.out.symm.trans (endAt_out (by rw [HLEN.out, hn]; exact Nat.le_refl _)))
      rw [HLEN.out, hn] at HE
      have HD : Hid (s.data.toList = s.data.toList.take k) := Lib.hid (by rw [List.take_of_length_le (by rw [HLEN.out, hn]; exact Nat.le_refl _)])
      go_wp2
      go_loop [0] (fun s0 => ∃ (m : Nat) (u : ByteArray), m ≤ k ∧ s0 = .string u ∧ u.size = m ∧ Hid (u.data.toList = s.data.toList.take m ∧ trimN s.data.toList m = trimN s.data.toList k)) (fun s0 => Lib.strSize s0)
      case atStart => exact ⟨k, _, Nat.le_refl _, rfl, hn, Lib.hid ⟨HD.out, rfl⟩⟩
      case round =>
        obtain ⟨m, u, hm, rfl, hum, HU⟩ := hrel
        cases m with
        | zero =>
          have hu0 : u.data.toList = [] := by rw [HU.out.1]; rfl
          obtain rfl := bytes_of (l := #[]) hu0
          have HT := Lib.hid HU.out.2
          clear hum HU hu0
          go_wp2
          go_ret2
          refine ⟨ret_sb (bytes_ext ?_) ?_, HB.out⟩
          · rw [← HOUT.out.1, HE.out]
            show [] = s.data.toList.take (trimN s.data.toList k)
            rw [← HT.out]; rfl
          · rw [← HOUT.out.2, HE.out]; rfl
        | succ j =>
          have hju : j < u.size := by omega
          obtain ⟨d, hd⟩ : ∃ d, u[j]'hju = d := ⟨_, rfl⟩
          have hgd : s.data.toList.getD j 0 = d := by
            have h1 := (getd u j hju).trans hd
            rw [HU.out.1, getD_take (Nat.lt_succ_self j)] at h1
            exact h1
          have e0 : (0 : Int) < (j : Int) + 1 := by omega
          have e2 : IntKind.i64.wrap ((j : Int) + 1 - 1) = (j : Int) := by rw [Int.add_sub_cancel]; exact IntWalk.i64_in _ (by omega)
          have ejz : (j : Int) < (j : Int) + 1 := by omega
          have ejz' : (j : Int) ≤ (j : Int) + 1 := by omega
          by_cases h32 : d = 32
          · have m32 : ((d.toNat : Int) == 32) = true := byte_beq d 32 true (by rw [h32]; decide)
            have HT : Hid (trimN s.data.toList j = trimN s.data.toList k) := Lib.hid (by
              have := HU.out.2
              rw [trimN_succ] at this
              rw [if_pos (hgd.trans h32)] at this; exact this)
            have HD : Hid ((u.extract 0 j).data.toList = s.data.toList.take j) := Lib.hid (by rw [upto_data, HU.out.1, List.take_take, Nat.min_eq_left (by omega)])
            have HS : Hid ((u.extract 0 j).size = j) := Lib.hid (by rw [ByteArray.size_extract]; omega)
            clear h32 hgd
            go_wp2
            go_round
            case rel => exact ⟨j, u.extract 0 j, by omega, rfl, HS.out, Lib.hid ⟨HD.out, HT.out⟩⟩
            case measure => simp [Lib.strSize]; omega
          · have m32 : ((d.toNat : Int) == 32) = false := byte_beq d 32 false (decide_eq_false (fun e => h32 (UInt8.toNat_inj.1 e)))
            have HT : Hid (j + 1 = trimN s.data.toList k) := Lib.hid (by
              have := HU.out.2
              rw [trimN_succ] at this
              rw [if_neg (fun e => h32 (hgd.symm.trans e))] at this; exact this)
            have HD := Lib.hid HU.out.1
            clear h32 hgd HU
            go_wp2
            go_ret2
            refine ⟨ret_sb (bytes_ext ?_) ?_, HB.out⟩
            · rw [← HOUT.out.1, HE.out, HD.out, HT.out]; rfl
            · rw [← HOUT.out.2, HE.out]; rfl
end Go.Proofs.YtjhojedicehcfaaDoor
