/- The contract of the document's own Hex. -/
import Derived.Test.YtefjdbgmakddjaaShaHex
namespace Go.Proofs.Ytefjdbgmakddjaa
open Go.RowKit Go.Sort
open Sh
set_option linter.unusedVariables false
theorem dg_nat (u : Nat) (h : u < 16) : ((dg u).toNat : Int) = if u < 10 then 48 + (u : Int) else 87 + (u : Int) := by
  unfold dg
  split
  · rw [UInt8.toNat_ofNat']; omega
  · rw [UInt8.toNat_ofNat']; omega
theorem digit_any (u : Nat) (w : World) (h : u < 16) :
    Calls Try.prog 28 #[.int .u8 (u : Int)] w fun e w' => e = .returned (.int .u8 ((dg u).toNat : Int)) ∧ w = w' := by
  have HD := Lib.hid (dg_nat u h)
  by_cases h1 : u < 10
  · have hw : IntKind.u8.wrap (48 + (u : Int)) = 48 + (u : Int) := by simp [IntKind.wrap, IntKind.bits, IntKind.signed]; omega
    have h1z : (u : Int) < 10 := by omega
    go_enter Try.func28, Try.ntmps28
    go_wp2
    go_ret
    exact ⟨by rw [HD.out, if_pos h1]; rfl, rfl⟩
  · have hw : IntKind.u8.wrap (87 + (u : Int)) = 87 + (u : Int) := by simp [IntKind.wrap, IntKind.bits, IntKind.signed]; omega
    have h1z : ¬ (u : Int) < 10 := by omega
    go_enter Try.func28, Try.ntmps28
    go_wp2
    go_ret
    exact ⟨by rw [HD.out, if_neg h1]; rfl, rfl⟩
theorem digit_q (u : Nat) (x : Int) (w : World) (h : u < 16) (hx : ((dg u).toNat : Int) = x) :
    Calls Try.prog 28 #[.int .u8 (u : Int)] w fun e w' => e = .returned (.int .u8 x) ∧ w = w' := by
  subst hx; exact digit_any u w h
set_option maxHeartbeats 4000000 in
theorem RHex_any (s : ByteArray) (w : World) (hs : s.size ≤ 4000) :
    Calls Try.prog 16 #[.string s] w fun e w' => e = .returned (.string ⟨(hexL s.data.toList).toArray⟩) ∧ Below w.heap.size w w' := by
  obtain ⟨i0, hi, hz0, hz1, hz2⟩ := infoB
  obtain ⟨n, hn⟩ : ∃ n, s.size = n := ⟨_, rfl⟩
  have hlen : s.data.toList.length = n := by rw [← hn]; rfl
  have HLEN := Lib.hid hlen
  have HO1 := Lib.hid (own_nil w 5)
  have HB1 := Lib.hid ((Below.refl _ w).alloc (Nat.le_refl _) (.cells #[] 5))
  have HS : Hid (∀ k (h : k < s.size) (h2 : k < s.data.toList.length), s[k] = s.data.toList[k]) := Lib.hid fun k h h2 => rfl
  clear hlen
  go_enter Try.func16, Try.ntmps16
  go_wp2
  go_loopw [3, 4] (fun sv si wr => ∃ k : Nat, k ≤ n ∧ si = .int .i64 (k : Int) ∧ wr.ownsRow w.heap.size 5 1 sv (2 * k) ((hexL (s.data.toList.take k)).map encB) ∧ Below w.heap.size w wr ∧ sv ≠ .slice none 0 0) (fun _ si _ => n - (intOf si).toNat)
  case atStart => exact ⟨0, Nat.zero_le _, rfl, HO1.out, HB1.out, by simp⟩
  case round =>
    clear HO1 HB1
    obtain ⟨k, hk, rfl, hown, hbel, hnn⟩ := hrel
    have HNN := Lib.hid hnn
    clear hnn
    have HO := Lib.hid hown
    have HB := Lib.hid hbel
    clear hbel
    by_cases hlt : k < n
    · have hks : k < s.size := by omega
      have hkl : k < s.data.toList.length := by rw [HLEN.out]; exact hlt
      have HX := Lib.hid (hexL_snoc hkl)
      obtain ⟨c, hc⟩ : ∃ c, s.data.toList[k]'hkl = c := ⟨_, rfl⟩
      have hsk : s[k]'hks = c := (HS.out k hks hkl).trans hc
      rw [hc] at HX
      have hskz : (k : Int) < (s.size : Int) := by omega
      have q0 := c.toNat_lt
      obtain ⟨m, hm⟩ : ∃ m, c.toNat = m := ⟨_, rfl⟩
      rw [hm] at q0
      obtain ⟨u, hu⟩ : ∃ u, m / 16 = u := ⟨_, rfl⟩
      obtain ⟨l, hl⟩ : ∃ l, m % 16 = l := ⟨_, rfl⟩
      have f1 : (m : Int) / 16 = (u : Int) := by omega
      have f2 : (m : Int) % 16 = (l : Int) := by omega
      have f3 : (m : Int).tdiv 16 = (u : Int) := by rw [Int.tdiv_eq_ediv_of_nonneg (by omega)]; omega
      have f4 : (m : Int).tmod 16 = (l : Int) := by rw [Int.tmod_eq_emod_of_nonneg (by omega)]; omega
      have f5 : IntKind.u8.wrap (u : Int) = (u : Int) := by simp [IntKind.wrap, IntKind.bits, IntKind.signed]; omega
      have u16 : u < 16 := by omega
      have l16 : l < 16 := by omega
      have HH : Hid ((hexB c).map encB = [.int .u8 ((dg u).toNat : Int), .int .u8 ((dg l).toNat : Int)]) := Lib.hid (by unfold hexB; rw [hm, hu, hl]; rfl)
      clear hc hu hl hkl
      obtain ⟨YS, hYS⟩ : ∃ YS, YS = (hexL (s.data.toList.take k)).map encB := ⟨_, rfl⟩
      rw [← hYS] at hown
      have HYS := Lib.hid hYS
      clear hYS
      have hHb := HB.out.size
      go_wp2
      go_region_law (first
        | (refine step_append_own rfl _ _ 46 rfl w.heap.size 5 i0 _ 1 1 Try.underlying46 hi hz0 hz1 hz2 rfl (by decide) _ _ _ rfl ((owns_drew hown).alloc _) ⟨wr.heap.size, 0, none⟩ 2 2 [.int .u8 ((dg u).toNat : Int), .int .u8 ((dg l).toNat : Int)] rfl rfl ?c1 ?c2 ?c3 ?c4 ?c5 ?_; (case c1 => exact cells_new wr.drew _ _); (case c2 => exact two_one _ _); (case c3 => (unfold maxLen; omega)); (case c4 => omega); (case c5 => (simp; omega)); intro v' w2 hown' hgrow hnil)
        | (go_simp; go_at_call 28; refine (digit_any _ _ ?hd).mono ?_; (case hd => omega); rintro e wq ⟨rfl, rfl⟩))
      all_goals
        have HW2 := Lib.hid hown'
        have HNil := Lib.hid hnil
        clear hnil
        have HG2 := Lib.hid hgrow
        have HOy := Lib.hid hown
        clear hown' hgrow hown
        go_wp2
        go_roundw
        case measure => simp [intOf]; omega
        case rel =>
          refine ⟨k + 1, by omega, by go_num, ?_, ?_, fun e => HNN.out (HNil.out.1 e).1⟩
          · rw [HX.out, List.map_append, HH.out, ← HYS.out]; exact HW2.out
          · refine ((HB.out.drew).alloc (by show _ ≤ wr.heap.size; exact HB.out.size) _).grown HG2.out (by have := HB.out.size; simp; omega) ?_
            intro q hq
            exact (HOy.out.lt q hq).1
    · obtain rfl : k = n := by omega
      have HT : Hid (s.data.toList.take k = s.data.toList) := Lib.hid (List.take_of_length_le (by rw [HLEN.out]; exact Nat.le_refl _))
      obtain ⟨g, cap, hv, hcv⟩ := own_conv (l := hexL s.data.toList) (by rw [HT.out] at hown; exact hown) HNN.out
      subst hv
      clear hown
      obtain ⟨R, hR⟩ : ∃ R, hexL s.data.toList = R := ⟨_, rfl⟩
      rw [hR] at hcv
      have HR := Lib.hid hR
      clear hR
      go_wp2
      go_ret
      exact ⟨ret_s (by rw [HR.out]), HB.out⟩
end Go.Proofs.Ytefjdbgmakddjaa
