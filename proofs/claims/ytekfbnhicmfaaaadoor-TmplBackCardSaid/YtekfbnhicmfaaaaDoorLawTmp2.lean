/- TmplBack, over the contracts of the program's Parse and Text. (written by gen_lawtmp2.py) -/
import Derived.Test.YtekfbnhicmfaaaaDoorLawTmp1
import Derived.Test.YtekfbnhicmfaaaaDoorRefTmp4
namespace Go.Proofs.YtekfbnhicmfaaaaDoor
open Go.RowKit Go.Sort
open Nw T13
set_option linter.unusedVariables false
/-- How many dollars. -/
def n36 : L8 → Nat
  | [] => 0
  | c :: t => (if c = 36 then 1 else 0) + n36 t
theorem n36_take : ∀ (l : L8) (j : Nat) (h : j < l.length), n36 (l.take (j + 1)) = n36 (l.take j) + (if l[j]'h = 36 then 1 else 0)
  | c :: t, 0, _ => by simp [n36]
  | c :: t, j + 1, h => by
    have := n36_take t j (Nat.lt_of_succ_lt_succ h)
    simp only [List.take_succ_cons, n36, List.getElem_cons_succ]
    omega
theorem n36_le : ∀ (l : L8), n36 l ≤ l.length
  | [] => Nat.le_refl _
  | c :: t => by
    have := n36_le t
    rw [n36, List.length_cons]
    split <;> omega
theorem n36_zero : ∀ (l : L8), n36 l = 0 → ∀ c ∈ l, c ≠ 36
  | [], _, c, hc => by cases hc
  | x :: t, h, c, hc => by
    rw [n36] at h
    rcases List.mem_cons.1 hc with rfl | hc
    · intro e; rw [if_pos e] at h; omega
    · exact n36_zero t (by omega) c hc
theorem wf_size {ps : List Pt} (h : WfL 1 ps) : cntL ps ≤ (txtL ps).length := cntL_le ps 1 h
section
variable (Pw : World → Prop) (hPw : ∀ w w', Pw w → Below w.heap.size w w' → Pw w')
variable (HParse : ∀ (s : ByteArray) (W : World), Pw W → s.size ≤ 100000 → Calls Tryd.prog 6 #[.string s] W (GivesP (prsT s.data.toList) W))
variable (HText : ∀ (v : Value) (ps : List Pt) (q : ByteArray) (W : World), Pw W → PtW W v ps → WfL 1 ps → cntL ps ≤ 100000 → q.size ≤ 100000 → q.data.toList = txtL ps → Calls Tryd.prog 8 #[v] W fun e w' => e = .returned (.string q) ∧ Below W.heap.size W w')
include hPw HParse HText
set_option maxRecDepth 100000 in
set_option maxHeartbeats 32000000 in
theorem TmplBack_walk (s t : ByteArray) (w : World) (hw : Pw w) (hs : s.size ≤ maxLen) (ht : t.size ≤ maxLen) : Calls Tryd.prog 4 #[.string s, .string t] w fun e w' => e = .returned (.bool true) ∧ Below w.heap.size w w' := by
  have HAW := Lib.hid (fun W hW => Awake13 Pw hPw HParse W hW)
  have HW := Lib.hid hw
  have HP := Lib.hid hPw
  have BB : Hid (Below w.heap.size w w) := Lib.hid (Below.refl _ _)
  unfold maxLen at hs ht
  by_cases hl : (2000 : Int) < (s.size : Int)
  · clear HParse HText hw hPw
    go_enter Tryd.func4, Tryd.ntmps4
    go_wp2_with first
      | (go_at_call 5; refine (HAW.out _ HW.out).mono ?_; rintro e w1 ⟨rfl, b1⟩; replace BB := Lib.hid (BB.out.trans (b1.mono BB.out.size)); clear b1)
    go_ret
    exact ⟨by simp, BB.out⟩
  by_cases hl2 : (2000 : Int) < (t.size : Int)
  · clear HParse HText hw hPw
    go_enter Tryd.func4, Tryd.ntmps4
    go_wp2_with first
      | (go_at_call 5; refine (HAW.out _ HW.out).mono ?_; rintro e w1 ⟨rfl, b1⟩; replace BB := Lib.hid (BB.out.trans (b1.mono BB.out.size)); clear b1)
    go_ret
    exact ⟨by simp, BB.out⟩
  have HA := Lib.hid (fun W hW => HParse s W hW (by omega))
  cases hR : prsT s.data.toList with
  | err er =>
    rw [hR] at HA
    have hne : (er != 0) = true := bne_iff_ne.2 (prsT_err hR)
    clear HParse HText hw hPw hR
    go_enter Tryd.func4, Tryd.ntmps4
    go_wp2_with first
      | (go_at_call 6; (with_reducible refine (HA.out _ HW.out).mono ?_); rintro e w1 ⟨v1, rfl, -, b1⟩; (try (replace HV := Lib.hid (PtW.below HV.out b1))); (try (replace HV2 := Lib.hid (PtW.below HV2.out b1))); (try (replace HVK := Lib.hid (PtW.below HVK.out b1))); (try (replace HVR := Lib.hid (PtW.below HVR.out b1))); (try (replace HU1 := Lib.hid (PtW.below HU1.out b1))); (try (replace HU2 := Lib.hid (PtW.below HU2.out b1))); replace HW := Lib.hid (HP.out _ _ HW.out b1); replace BB := Lib.hid (BB.out.trans (b1.mono BB.out.size)); clear b1)
      | (go_at_call 5; refine (HAW.out _ HW.out).mono ?_; rintro e w1 ⟨rfl, b1⟩; replace BB := Lib.hid (BB.out.trans (b1.mono BB.out.size)); clear b1)
    go_ret
    exact ⟨by simp, BB.out⟩
  | ok ps r =>
    rw [hR] at HA
    obtain rfl := prsT_all hR
    have hRR := Lib.hid hR
    obtain ⟨hwf, hcalm⟩ := prsT_wf hR
    have hsz := prsT_size hR
    have hcn := cntL_le ps 1 hwf
    rw [show s.data.toList.length = s.size from rfl] at hsz
    obtain ⟨q, hq⟩ := exq (txtL ps)
    have hqs : q.size ≤ 4000 := by rw [← len_eq13, hq]; omega
    have hb := back_txt hwf hcalm
    have HA2 := Lib.hid (fun W hW => HParse q W hW (by omega))
    rw [hq, hb] at HA2
    have HTX := Lib.hid (fun (v : Value) (W : World) (hW : Pw W) (h : PtW W v ps) => HText v ps q W hW h hwf (by omega) (by omega) hq)
    have HTK : Hid (∀ (v : Value) (W : World), PtW W v ps → Calls Tryd.prog 7 #[v] W fun e w' => ∃ v', e = .returned v' ∧ PtW w' v' ps ∧ Below W.heap.size W w') := Lib.hid (fun v W h =>
      (taken_any13 1000000 ps (by omega) (Nat.le_refl _) v W h).mono fun e w' ⟨v', he, h1, h2⟩ => ⟨v', he, h1.more fun b hb => hb.2, h2⟩)
    have HSM : Hid (∀ (v u : Value) (W : World), PtW W v ps → PtW W u ps → Calls Tryd.prog 15 #[v, u] W fun e w' => e = .returned (.bool true) ∧ Below W.heap.size W w') := Lib.hid (fun v u W h h' =>
      (RSame13_eq 1000000 ps (by omega) _ _ v u W h h').mono fun e w' ⟨he, n, hn⟩ => ⟨he, by rw [hn]; exact below_drewN _ _⟩)
    obtain ⟨kp, eg, hkw, hks, HK0⟩ : ∃ (kp : List Pt) (eg : Int), WfL 1 kp ∧ (txtL kp).length ≤ 4000 ∧ ∀ (W : World), Pw W → Calls Tryd.prog 6 #[.string t] W fun e w' => ∃ v, e = .returned (.tuple #[v, .int .i64 eg]) ∧ PtW w' v kp ∧ Below W.heap.size W w' := by
      have h0 := fun W hW => HParse t W hW (by omega)
      cases hT : prsT t.data.toList with
      | err er => rw [hT] at h0; exact ⟨[], er, by rw [WfL]; trivial, by rw [txtL]; exact Nat.zero_le _, h0⟩
      | ok ks r =>
        rw [hT] at h0
        have h1 := prsT_size hT
        rw [show t.data.toList.length = t.size from rfl] at h1
        exact ⟨ks, 0, (prsT_wf hT).1, by omega, h0⟩
    have hkc := cntL_le kp 1 hkw
    obtain ⟨q2, hq2⟩ := exq (txtL kp)
    have hq2s : q2.size ≤ 4000 := by rw [← len_eq13, hq2]; omega
    have HK := Lib.hid HK0
    have HTK2 := Lib.hid (fun (v : Value) (W : World) (hW : Pw W) (h : PtW W v kp) => HText v kp q2 W hW h hkw (by omega) (by omega) hq2)
    have h12 : (q ++ q2).data.toList = txtL ps ++ txtL kp := by rw [data_app13, hq, hq2]
    have h12s : (q ++ q2).size ≤ 8000 := by rw [ByteArray.size_append]; omega
    obtain ⟨R, hR1, hR2⟩ := both_txt hwf hkw
    have hRw := (prsT_wf hR1).1
    have hRc := cntL_le R 1 hRw
    rw [hR2, List.length_append, ← hq, ← hq2, len_eq13, len_eq13] at hRc
    have HR := Lib.hid (fun W hW => HParse (q ++ q2) W hW (by omega))
    rw [h12, hR1] at HR
    have HTR := Lib.hid (fun (v : Value) (W : World) (hW : Pw W) (h : PtW W v R) => HText v R (q ++ q2) W hW h hRw (by omega) (by omega) (h12.trans hR2.symm))
    have f1 : (9223372036854775807 < q.size + q2.size) = False := eq_false (by omega)
    have t1 : ((q ++ q2).toList == (q ++ q2).toList) = true := by simp
    obtain ⟨n, hn⟩ : ∃ n, ps.length = n := ⟨_, rfl⟩
    have HN := Lib.hid hn
    obtain ⟨N, hN⟩ : ∃ N, N = s.size := ⟨_, rfl⟩
    have hNs : N ≤ 2000 := by omega
    clear HParse HText hw hPw hwf hcalm hsz hcn hq hb HK0 hkw hks hkc hq2 h12 hR1 hR2 hRw hRc hn hR
    go_enter Tryd.func4, Tryd.ntmps4
    go_wp2_with first
      | (go_at_call 6; (with_reducible refine (HA.out _ HW.out).mono ?_); rintro e w1 ⟨v1, rfl, h1, b1⟩; (try (replace HV := Lib.hid (PtW.below HV.out b1))); (try (replace HV2 := Lib.hid (PtW.below HV2.out b1))); (try (replace HVK := Lib.hid (PtW.below HVK.out b1))); (try (replace HVR := Lib.hid (PtW.below HVR.out b1))); (try (replace HU1 := Lib.hid (PtW.below HU1.out b1))); (try (replace HU2 := Lib.hid (PtW.below HU2.out b1))); replace HW := Lib.hid (HP.out _ _ HW.out b1); replace BB := Lib.hid (BB.out.trans (b1.mono BB.out.size)); obtain ⟨A, cap, hv, hcap⟩ := PtL.shape h1; rw [HN.out] at hv hcap; subst hv; have HV := Lib.hid h1; have HCAP := Lib.hid hcap; clear h1; clear b1)
      | (go_at_call 8; (with_reducible refine (HTX.out _ _ HW.out HV.out).mono ?_); rintro e w1 ⟨rfl, b1⟩; (try (replace HV := Lib.hid (PtW.below HV.out b1))); (try (replace HV2 := Lib.hid (PtW.below HV2.out b1))); (try (replace HVK := Lib.hid (PtW.below HVK.out b1))); (try (replace HVR := Lib.hid (PtW.below HVR.out b1))); (try (replace HU1 := Lib.hid (PtW.below HU1.out b1))); (try (replace HU2 := Lib.hid (PtW.below HU2.out b1))); replace HW := Lib.hid (HP.out _ _ HW.out b1); replace BB := Lib.hid (BB.out.trans (b1.mono BB.out.size)); clear b1)
      | (go_at_call 6; (with_reducible refine (HA2.out _ HW.out).mono ?_); rintro e w1 ⟨v2, rfl, h1, b1⟩; (try (replace HV := Lib.hid (PtW.below HV.out b1))); (try (replace HV2 := Lib.hid (PtW.below HV2.out b1))); (try (replace HVK := Lib.hid (PtW.below HVK.out b1))); (try (replace HVR := Lib.hid (PtW.below HVR.out b1))); (try (replace HU1 := Lib.hid (PtW.below HU1.out b1))); (try (replace HU2 := Lib.hid (PtW.below HU2.out b1))); replace HW := Lib.hid (HP.out _ _ HW.out b1); replace BB := Lib.hid (BB.out.trans (b1.mono BB.out.size)); have HV2 := Lib.hid h1; clear h1; clear b1)
      | (go_at_call 7; (with_reducible refine (HTK.out _ _ HV.out).mono ?_); rintro e w1 ⟨u1, rfl, h1, b1⟩; (try (replace HV := Lib.hid (PtW.below HV.out b1))); (try (replace HV2 := Lib.hid (PtW.below HV2.out b1))); (try (replace HVK := Lib.hid (PtW.below HVK.out b1))); (try (replace HVR := Lib.hid (PtW.below HVR.out b1))); (try (replace HU1 := Lib.hid (PtW.below HU1.out b1))); (try (replace HU2 := Lib.hid (PtW.below HU2.out b1))); replace HW := Lib.hid (HP.out _ _ HW.out b1); replace BB := Lib.hid (BB.out.trans (b1.mono BB.out.size)); have HU1 := Lib.hid h1; clear h1; clear b1)
      | (go_at_call 7; (with_reducible refine (HTK.out _ _ HV2.out).mono ?_); rintro e w1 ⟨u2, rfl, h1, b1⟩; (try (replace HV := Lib.hid (PtW.below HV.out b1))); (try (replace HV2 := Lib.hid (PtW.below HV2.out b1))); (try (replace HVK := Lib.hid (PtW.below HVK.out b1))); (try (replace HVR := Lib.hid (PtW.below HVR.out b1))); (try (replace HU1 := Lib.hid (PtW.below HU1.out b1))); (try (replace HU2 := Lib.hid (PtW.below HU2.out b1))); replace HW := Lib.hid (HP.out _ _ HW.out b1); replace BB := Lib.hid (BB.out.trans (b1.mono BB.out.size)); have HU2 := Lib.hid h1; clear h1; clear b1)
      | (go_at_call 15; refine (HSM.out _ _ _ HU1.out HU2.out).mono ?_; rintro e w1 ⟨rfl, b1⟩; (try (replace HV := Lib.hid (PtW.below HV.out b1))); (try (replace HV2 := Lib.hid (PtW.below HV2.out b1))); (try (replace HVK := Lib.hid (PtW.below HVK.out b1))); (try (replace HVR := Lib.hid (PtW.below HVR.out b1))); (try (replace HU1 := Lib.hid (PtW.below HU1.out b1))); (try (replace HU2 := Lib.hid (PtW.below HU2.out b1))); replace HW := Lib.hid (HP.out _ _ HW.out b1); replace BB := Lib.hid (BB.out.trans (b1.mono BB.out.size)); clear b1)
    go_loop [10, 11] (fun d i => ∃ (j c : Nat), j ≤ s.size ∧ c ≤ j ∧ i = .int .i64 (j : Int) ∧ d = .int .i64 (c : Int) ∧ Hid (c = n36 (s.data.toList.take j))) (fun _ i => s.size - (intOf i).toNat)
    case atStart => exact ⟨0, 0, Nat.zero_le _, Nat.zero_le _, rfl, rfl, Lib.hid (by rw [List.take_zero]; rfl)⟩
    case round =>
      obtain ⟨j, c, hj, hc, rfl, rfl, HC⟩ := hrel
      by_cases hlj : j < s.size
      · have hlz : (j : Int) < (s.size : Int) := by omega
        have hst := n36_take s.data.toList j hlj
        obtain ⟨x, hx⟩ : ∃ x, s[j]'hlj = x := ⟨_, rfl⟩
        have hxx : s.data.toList[j]'hlj = x := by rw [← hx]; rfl
        rw [hxx] at hst
        by_cases h36 : x = 36
        · rw [if_pos h36] at hst
          have HC2 : Hid (c + 1 = n36 (s.data.toList.take (j + 1))) := Lib.hid (by rw [hst, HC.out])
          have m36 : ((x.toNat : Int) == 36) = true := by rw [h36]; rfl
          clear hst hxx h36
          go_wp2
          go_round
          case rel => exact ⟨j + 1, c + 1, by omega, by omega, by go_num, by go_num, HC2⟩
          case measure => simp [intOf]; omega
        · rw [if_neg h36] at hst
          have HC2 : Hid (c = n36 (s.data.toList.take (j + 1))) := Lib.hid (by rw [hst, HC.out]; rfl)
          have m36 : ((x.toNat : Int) == 36) = false := beq_eq_false_iff_ne.2 (fun e => h36 (UInt8.toNat_inj.1 (by show x.toNat = 36; omega)))
          clear hst hxx h36
          go_wp2
          go_round
          case rel => exact ⟨j + 1, c, by omega, by omega, by go_num, rfl, HC2⟩
          case measure => simp [intOf]; omega
      · obtain rfl : j = s.size := by omega
        by_cases hc0 : c = 0
        · subst hc0
          have hall := n36_zero s.data.toList (by
            have := HC.out
            rw [List.take_of_length_le (by rw [len_eq13]; exact Nat.le_refl _)] at this
            exact this.symm)
          have hpl := prsT_plain hall
          rw [hRR.out] at hpl
          injection hpl with hpl
          by_cases hs0 : s.size = 0
          · have hnil : s.data.toList = [] := List.length_eq_zero_iff.1 hs0
            have hn0 : n = 0 := by
              rw [← HN.out, hpl, hnil]; rfl
            subst hn0
            have hsz0 : (s.size : Int) ≤ 0 := by omega
            clear hall hpl hnil
            by_cases he : eg = 0
            · have m1 : (eg != 0) = false := by rw [he]; rfl
              have m2 : (eg == 0) = true := by rw [he]; rfl
              go_wp2_with first
                | (go_at_call 6; (with_reducible refine (HK.out _ HW.out).mono ?_); rintro e w1 ⟨v3, rfl, h1, b1⟩; (try (replace HV := Lib.hid (PtW.below HV.out b1))); (try (replace HV2 := Lib.hid (PtW.below HV2.out b1))); (try (replace HVK := Lib.hid (PtW.below HVK.out b1))); (try (replace HVR := Lib.hid (PtW.below HVR.out b1))); (try (replace HU1 := Lib.hid (PtW.below HU1.out b1))); (try (replace HU2 := Lib.hid (PtW.below HU2.out b1))); replace HW := Lib.hid (HP.out _ _ HW.out b1); replace BB := Lib.hid (BB.out.trans (b1.mono BB.out.size)); have HVK := Lib.hid h1; clear h1; clear b1)
                | (go_at_call 8; (with_reducible refine (HTK2.out _ _ HW.out HVK.out).mono ?_); rintro e w1 ⟨rfl, b1⟩; (try (replace HV := Lib.hid (PtW.below HV.out b1))); (try (replace HV2 := Lib.hid (PtW.below HV2.out b1))); (try (replace HVK := Lib.hid (PtW.below HVK.out b1))); (try (replace HVR := Lib.hid (PtW.below HVR.out b1))); (try (replace HU1 := Lib.hid (PtW.below HU1.out b1))); (try (replace HU2 := Lib.hid (PtW.below HU2.out b1))); replace HW := Lib.hid (HP.out _ _ HW.out b1); replace BB := Lib.hid (BB.out.trans (b1.mono BB.out.size)); clear b1)
                | (go_at_call 6; (with_reducible refine (HR.out _ HW.out).mono ?_); rintro e w1 ⟨v4, rfl, h1, b1⟩; (try (replace HV := Lib.hid (PtW.below HV.out b1))); (try (replace HV2 := Lib.hid (PtW.below HV2.out b1))); (try (replace HVK := Lib.hid (PtW.below HVK.out b1))); (try (replace HVR := Lib.hid (PtW.below HVR.out b1))); (try (replace HU1 := Lib.hid (PtW.below HU1.out b1))); (try (replace HU2 := Lib.hid (PtW.below HU2.out b1))); replace HW := Lib.hid (HP.out _ _ HW.out b1); replace BB := Lib.hid (BB.out.trans (b1.mono BB.out.size)); have HVR := Lib.hid h1; clear h1; clear b1)
                | (go_at_call 8; (with_reducible refine (HTR.out _ _ HW.out HVR.out).mono ?_); rintro e w1 ⟨rfl, b1⟩; (try (replace HV := Lib.hid (PtW.below HV.out b1))); (try (replace HV2 := Lib.hid (PtW.below HV2.out b1))); (try (replace HVK := Lib.hid (PtW.below HVK.out b1))); (try (replace HVR := Lib.hid (PtW.below HVR.out b1))); (try (replace HU1 := Lib.hid (PtW.below HU1.out b1))); (try (replace HU2 := Lib.hid (PtW.below HU2.out b1))); replace HW := Lib.hid (HP.out _ _ HW.out b1); replace BB := Lib.hid (BB.out.trans (b1.mono BB.out.size)); clear b1)
                | (go_at_call 5; refine (HAW.out _ HW.out).mono ?_; rintro e w1 ⟨rfl, b1⟩; replace BB := Lib.hid (BB.out.trans (b1.mono BB.out.size)); clear b1)
              go_ret
              exact ⟨by simp, BB.out⟩
            · have m1 : (eg != 0) = true := bne_iff_ne.2 he
              have m2 : (eg == 0) = false := beq_eq_false_iff_ne.2 he
              go_wp2_with first
                | (go_at_call 6; (with_reducible refine (HK.out _ HW.out).mono ?_); rintro e w1 ⟨v3, rfl, h1, b1⟩; (try (replace HV := Lib.hid (PtW.below HV.out b1))); (try (replace HV2 := Lib.hid (PtW.below HV2.out b1))); (try (replace HVK := Lib.hid (PtW.below HVK.out b1))); (try (replace HVR := Lib.hid (PtW.below HVR.out b1))); (try (replace HU1 := Lib.hid (PtW.below HU1.out b1))); (try (replace HU2 := Lib.hid (PtW.below HU2.out b1))); replace HW := Lib.hid (HP.out _ _ HW.out b1); replace BB := Lib.hid (BB.out.trans (b1.mono BB.out.size)); have HVK := Lib.hid h1; clear h1; clear b1)
                | (go_at_call 8; (with_reducible refine (HTK2.out _ _ HW.out HVK.out).mono ?_); rintro e w1 ⟨rfl, b1⟩; (try (replace HV := Lib.hid (PtW.below HV.out b1))); (try (replace HV2 := Lib.hid (PtW.below HV2.out b1))); (try (replace HVK := Lib.hid (PtW.below HVK.out b1))); (try (replace HVR := Lib.hid (PtW.below HVR.out b1))); (try (replace HU1 := Lib.hid (PtW.below HU1.out b1))); (try (replace HU2 := Lib.hid (PtW.below HU2.out b1))); replace HW := Lib.hid (HP.out _ _ HW.out b1); replace BB := Lib.hid (BB.out.trans (b1.mono BB.out.size)); clear b1)
                | (go_at_call 6; (with_reducible refine (HR.out _ HW.out).mono ?_); rintro e w1 ⟨v4, rfl, h1, b1⟩; (try (replace HV := Lib.hid (PtW.below HV.out b1))); (try (replace HV2 := Lib.hid (PtW.below HV2.out b1))); (try (replace HVK := Lib.hid (PtW.below HVK.out b1))); (try (replace HVR := Lib.hid (PtW.below HVR.out b1))); (try (replace HU1 := Lib.hid (PtW.below HU1.out b1))); (try (replace HU2 := Lib.hid (PtW.below HU2.out b1))); replace HW := Lib.hid (HP.out _ _ HW.out b1); replace BB := Lib.hid (BB.out.trans (b1.mono BB.out.size)); have HVR := Lib.hid h1; clear h1; clear b1)
                | (go_at_call 8; (with_reducible refine (HTR.out _ _ HW.out HVR.out).mono ?_); rintro e w1 ⟨rfl, b1⟩; (try (replace HV := Lib.hid (PtW.below HV.out b1))); (try (replace HV2 := Lib.hid (PtW.below HV2.out b1))); (try (replace HVK := Lib.hid (PtW.below HVK.out b1))); (try (replace HVR := Lib.hid (PtW.below HVR.out b1))); (try (replace HU1 := Lib.hid (PtW.below HU1.out b1))); (try (replace HU2 := Lib.hid (PtW.below HU2.out b1))); replace HW := Lib.hid (HP.out _ _ HW.out b1); replace BB := Lib.hid (BB.out.trans (b1.mono BB.out.size)); clear b1)
                | (go_at_call 5; refine (HAW.out _ HW.out).mono ?_; rintro e w1 ⟨rfl, b1⟩; replace BB := Lib.hid (BB.out.trans (b1.mono BB.out.size)); clear b1)
              go_ret
              exact ⟨by simp, BB.out⟩
          · have hne : s.data.toList ≠ [] := fun e => hs0 (List.length_eq_zero_iff.2 e)
            have hp1 : ps = [.mk [] s.data.toList 0 []] := by
              rw [hpl]; unfold fl; rw [if_neg hne]; rfl
            have hn1 : n = 1 := by rw [← HN.out, hp1]; rfl
            subst hn1
            have hps : 0 < ps.length := by rw [hp1]; exact Nat.one_pos
            obtain ⟨b, o, e0, e1, e2, e3, rfl, -, x0, x1, x2, x3, hsub⟩ := PtL.at_ HV.out 0 hps
            have hp0 : ps[0]'hps = .mk [] s.data.toList 0 [] := by simp only [hp1, List.getElem_cons_zero]
            rw [hp0] at hsub
            obtain ⟨rfl, rfl, rfl, -⟩ := PtC.sub hsub
            rw [ba_of] at x1
            have hcz : (0 : Int) < (cap : Int) := by have := HCAP.out; omega
            have hsz1 : (0 : Int) < (s.size : Int) := by omega
            have t2 : (s.toList == s.toList) = true := by simp
            have t3 : (s.toList != s.toList) = false := by simp
            clear hall hpl hne hp1 hps hp0 hsub
            by_cases he : eg = 0
            · have m1 : (eg != 0) = false := by rw [he]; rfl
              have m2 : (eg == 0) = true := by rw [he]; rfl
              go_wp2_with first
                | (go_at_call 6; (with_reducible refine (HK.out _ HW.out).mono ?_); rintro e w1 ⟨v3, rfl, h1, b1⟩; (try (replace HV := Lib.hid (PtW.below HV.out b1))); (try (replace HV2 := Lib.hid (PtW.below HV2.out b1))); (try (replace HVK := Lib.hid (PtW.below HVK.out b1))); (try (replace HVR := Lib.hid (PtW.below HVR.out b1))); (try (replace HU1 := Lib.hid (PtW.below HU1.out b1))); (try (replace HU2 := Lib.hid (PtW.below HU2.out b1))); replace HW := Lib.hid (HP.out _ _ HW.out b1); replace BB := Lib.hid (BB.out.trans (b1.mono BB.out.size)); have HVK := Lib.hid h1; clear h1; clear b1)
                | (go_at_call 8; (with_reducible refine (HTK2.out _ _ HW.out HVK.out).mono ?_); rintro e w1 ⟨rfl, b1⟩; (try (replace HV := Lib.hid (PtW.below HV.out b1))); (try (replace HV2 := Lib.hid (PtW.below HV2.out b1))); (try (replace HVK := Lib.hid (PtW.below HVK.out b1))); (try (replace HVR := Lib.hid (PtW.below HVR.out b1))); (try (replace HU1 := Lib.hid (PtW.below HU1.out b1))); (try (replace HU2 := Lib.hid (PtW.below HU2.out b1))); replace HW := Lib.hid (HP.out _ _ HW.out b1); replace BB := Lib.hid (BB.out.trans (b1.mono BB.out.size)); clear b1)
                | (go_at_call 6; (with_reducible refine (HR.out _ HW.out).mono ?_); rintro e w1 ⟨v4, rfl, h1, b1⟩; (try (replace HV := Lib.hid (PtW.below HV.out b1))); (try (replace HV2 := Lib.hid (PtW.below HV2.out b1))); (try (replace HVK := Lib.hid (PtW.below HVK.out b1))); (try (replace HVR := Lib.hid (PtW.below HVR.out b1))); (try (replace HU1 := Lib.hid (PtW.below HU1.out b1))); (try (replace HU2 := Lib.hid (PtW.below HU2.out b1))); replace HW := Lib.hid (HP.out _ _ HW.out b1); replace BB := Lib.hid (BB.out.trans (b1.mono BB.out.size)); have HVR := Lib.hid h1; clear h1; clear b1)
                | (go_at_call 8; (with_reducible refine (HTR.out _ _ HW.out HVR.out).mono ?_); rintro e w1 ⟨rfl, b1⟩; (try (replace HV := Lib.hid (PtW.below HV.out b1))); (try (replace HV2 := Lib.hid (PtW.below HV2.out b1))); (try (replace HVK := Lib.hid (PtW.below HVK.out b1))); (try (replace HVR := Lib.hid (PtW.below HVR.out b1))); (try (replace HU1 := Lib.hid (PtW.below HU1.out b1))); (try (replace HU2 := Lib.hid (PtW.below HU2.out b1))); replace HW := Lib.hid (HP.out _ _ HW.out b1); replace BB := Lib.hid (BB.out.trans (b1.mono BB.out.size)); clear b1)
                | (go_at_call 5; refine (HAW.out _ HW.out).mono ?_; rintro e w1 ⟨rfl, b1⟩; replace BB := Lib.hid (BB.out.trans (b1.mono BB.out.size)); clear b1)
              go_ret
              exact ⟨by simp, BB.out⟩
            · have m1 : (eg != 0) = true := bne_iff_ne.2 he
              have m2 : (eg == 0) = false := beq_eq_false_iff_ne.2 he
              go_wp2_with first
                | (go_at_call 6; (with_reducible refine (HK.out _ HW.out).mono ?_); rintro e w1 ⟨v3, rfl, h1, b1⟩; (try (replace HV := Lib.hid (PtW.below HV.out b1))); (try (replace HV2 := Lib.hid (PtW.below HV2.out b1))); (try (replace HVK := Lib.hid (PtW.below HVK.out b1))); (try (replace HVR := Lib.hid (PtW.below HVR.out b1))); (try (replace HU1 := Lib.hid (PtW.below HU1.out b1))); (try (replace HU2 := Lib.hid (PtW.below HU2.out b1))); replace HW := Lib.hid (HP.out _ _ HW.out b1); replace BB := Lib.hid (BB.out.trans (b1.mono BB.out.size)); have HVK := Lib.hid h1; clear h1; clear b1)
                | (go_at_call 8; (with_reducible refine (HTK2.out _ _ HW.out HVK.out).mono ?_); rintro e w1 ⟨rfl, b1⟩; (try (replace HV := Lib.hid (PtW.below HV.out b1))); (try (replace HV2 := Lib.hid (PtW.below HV2.out b1))); (try (replace HVK := Lib.hid (PtW.below HVK.out b1))); (try (replace HVR := Lib.hid (PtW.below HVR.out b1))); (try (replace HU1 := Lib.hid (PtW.below HU1.out b1))); (try (replace HU2 := Lib.hid (PtW.below HU2.out b1))); replace HW := Lib.hid (HP.out _ _ HW.out b1); replace BB := Lib.hid (BB.out.trans (b1.mono BB.out.size)); clear b1)
                | (go_at_call 6; (with_reducible refine (HR.out _ HW.out).mono ?_); rintro e w1 ⟨v4, rfl, h1, b1⟩; (try (replace HV := Lib.hid (PtW.below HV.out b1))); (try (replace HV2 := Lib.hid (PtW.below HV2.out b1))); (try (replace HVK := Lib.hid (PtW.below HVK.out b1))); (try (replace HVR := Lib.hid (PtW.below HVR.out b1))); (try (replace HU1 := Lib.hid (PtW.below HU1.out b1))); (try (replace HU2 := Lib.hid (PtW.below HU2.out b1))); replace HW := Lib.hid (HP.out _ _ HW.out b1); replace BB := Lib.hid (BB.out.trans (b1.mono BB.out.size)); have HVR := Lib.hid h1; clear h1; clear b1)
                | (go_at_call 8; (with_reducible refine (HTR.out _ _ HW.out HVR.out).mono ?_); rintro e w1 ⟨rfl, b1⟩; (try (replace HV := Lib.hid (PtW.below HV.out b1))); (try (replace HV2 := Lib.hid (PtW.below HV2.out b1))); (try (replace HVK := Lib.hid (PtW.below HVK.out b1))); (try (replace HVR := Lib.hid (PtW.below HVR.out b1))); (try (replace HU1 := Lib.hid (PtW.below HU1.out b1))); (try (replace HU2 := Lib.hid (PtW.below HU2.out b1))); replace HW := Lib.hid (HP.out _ _ HW.out b1); replace BB := Lib.hid (BB.out.trans (b1.mono BB.out.size)); clear b1)
                | (go_at_call 5; refine (HAW.out _ HW.out).mono ?_; rintro e w1 ⟨rfl, b1⟩; replace BB := Lib.hid (BB.out.trans (b1.mono BB.out.size)); clear b1)
              go_ret
              exact ⟨by simp, BB.out⟩
        · have mc : ((c : Int) == 0) = false := beq_eq_false_iff_ne.2 (by omega)
          by_cases he : eg = 0
          · have m1 : (eg != 0) = false := by rw [he]; rfl
            have m2 : (eg == 0) = true := by rw [he]; rfl
            go_wp2_with first
              | (go_at_call 6; (with_reducible refine (HK.out _ HW.out).mono ?_); rintro e w1 ⟨v3, rfl, h1, b1⟩; (try (replace HV := Lib.hid (PtW.below HV.out b1))); (try (replace HV2 := Lib.hid (PtW.below HV2.out b1))); (try (replace HVK := Lib.hid (PtW.below HVK.out b1))); (try (replace HVR := Lib.hid (PtW.below HVR.out b1))); (try (replace HU1 := Lib.hid (PtW.below HU1.out b1))); (try (replace HU2 := Lib.hid (PtW.below HU2.out b1))); replace HW := Lib.hid (HP.out _ _ HW.out b1); replace BB := Lib.hid (BB.out.trans (b1.mono BB.out.size)); have HVK := Lib.hid h1; clear h1; clear b1)
              | (go_at_call 8; (with_reducible refine (HTK2.out _ _ HW.out HVK.out).mono ?_); rintro e w1 ⟨rfl, b1⟩; (try (replace HV := Lib.hid (PtW.below HV.out b1))); (try (replace HV2 := Lib.hid (PtW.below HV2.out b1))); (try (replace HVK := Lib.hid (PtW.below HVK.out b1))); (try (replace HVR := Lib.hid (PtW.below HVR.out b1))); (try (replace HU1 := Lib.hid (PtW.below HU1.out b1))); (try (replace HU2 := Lib.hid (PtW.below HU2.out b1))); replace HW := Lib.hid (HP.out _ _ HW.out b1); replace BB := Lib.hid (BB.out.trans (b1.mono BB.out.size)); clear b1)
              | (go_at_call 6; (with_reducible refine (HR.out _ HW.out).mono ?_); rintro e w1 ⟨v4, rfl, h1, b1⟩; (try (replace HV := Lib.hid (PtW.below HV.out b1))); (try (replace HV2 := Lib.hid (PtW.below HV2.out b1))); (try (replace HVK := Lib.hid (PtW.below HVK.out b1))); (try (replace HVR := Lib.hid (PtW.below HVR.out b1))); (try (replace HU1 := Lib.hid (PtW.below HU1.out b1))); (try (replace HU2 := Lib.hid (PtW.below HU2.out b1))); replace HW := Lib.hid (HP.out _ _ HW.out b1); replace BB := Lib.hid (BB.out.trans (b1.mono BB.out.size)); have HVR := Lib.hid h1; clear h1; clear b1)
              | (go_at_call 8; (with_reducible refine (HTR.out _ _ HW.out HVR.out).mono ?_); rintro e w1 ⟨rfl, b1⟩; (try (replace HV := Lib.hid (PtW.below HV.out b1))); (try (replace HV2 := Lib.hid (PtW.below HV2.out b1))); (try (replace HVK := Lib.hid (PtW.below HVK.out b1))); (try (replace HVR := Lib.hid (PtW.below HVR.out b1))); (try (replace HU1 := Lib.hid (PtW.below HU1.out b1))); (try (replace HU2 := Lib.hid (PtW.below HU2.out b1))); replace HW := Lib.hid (HP.out _ _ HW.out b1); replace BB := Lib.hid (BB.out.trans (b1.mono BB.out.size)); clear b1)
              | (go_at_call 5; refine (HAW.out _ HW.out).mono ?_; rintro e w1 ⟨rfl, b1⟩; replace BB := Lib.hid (BB.out.trans (b1.mono BB.out.size)); clear b1)
            go_ret
            exact ⟨by simp, BB.out⟩
          · have m1 : (eg != 0) = true := bne_iff_ne.2 he
            have m2 : (eg == 0) = false := beq_eq_false_iff_ne.2 he
            go_wp2_with first
              | (go_at_call 6; (with_reducible refine (HK.out _ HW.out).mono ?_); rintro e w1 ⟨v3, rfl, h1, b1⟩; (try (replace HV := Lib.hid (PtW.below HV.out b1))); (try (replace HV2 := Lib.hid (PtW.below HV2.out b1))); (try (replace HVK := Lib.hid (PtW.below HVK.out b1))); (try (replace HVR := Lib.hid (PtW.below HVR.out b1))); (try (replace HU1 := Lib.hid (PtW.below HU1.out b1))); (try (replace HU2 := Lib.hid (PtW.below HU2.out b1))); replace HW := Lib.hid (HP.out _ _ HW.out b1); replace BB := Lib.hid (BB.out.trans (b1.mono BB.out.size)); have HVK := Lib.hid h1; clear h1; clear b1)
              | (go_at_call 8; (with_reducible refine (HTK2.out _ _ HW.out HVK.out).mono ?_); rintro e w1 ⟨rfl, b1⟩; (try (replace HV := Lib.hid (PtW.below HV.out b1))); (try (replace HV2 := Lib.hid (PtW.below HV2.out b1))); (try (replace HVK := Lib.hid (PtW.below HVK.out b1))); (try (replace HVR := Lib.hid (PtW.below HVR.out b1))); (try (replace HU1 := Lib.hid (PtW.below HU1.out b1))); (try (replace HU2 := Lib.hid (PtW.below HU2.out b1))); replace HW := Lib.hid (HP.out _ _ HW.out b1); replace BB := Lib.hid (BB.out.trans (b1.mono BB.out.size)); clear b1)
              | (go_at_call 6; (with_reducible refine (HR.out _ HW.out).mono ?_); rintro e w1 ⟨v4, rfl, h1, b1⟩; (try (replace HV := Lib.hid (PtW.below HV.out b1))); (try (replace HV2 := Lib.hid (PtW.below HV2.out b1))); (try (replace HVK := Lib.hid (PtW.below HVK.out b1))); (try (replace HVR := Lib.hid (PtW.below HVR.out b1))); (try (replace HU1 := Lib.hid (PtW.below HU1.out b1))); (try (replace HU2 := Lib.hid (PtW.below HU2.out b1))); replace HW := Lib.hid (HP.out _ _ HW.out b1); replace BB := Lib.hid (BB.out.trans (b1.mono BB.out.size)); have HVR := Lib.hid h1; clear h1; clear b1)
              | (go_at_call 8; (with_reducible refine (HTR.out _ _ HW.out HVR.out).mono ?_); rintro e w1 ⟨rfl, b1⟩; (try (replace HV := Lib.hid (PtW.below HV.out b1))); (try (replace HV2 := Lib.hid (PtW.below HV2.out b1))); (try (replace HVK := Lib.hid (PtW.below HVK.out b1))); (try (replace HVR := Lib.hid (PtW.below HVR.out b1))); (try (replace HU1 := Lib.hid (PtW.below HU1.out b1))); (try (replace HU2 := Lib.hid (PtW.below HU2.out b1))); replace HW := Lib.hid (HP.out _ _ HW.out b1); replace BB := Lib.hid (BB.out.trans (b1.mono BB.out.size)); clear b1)
              | (go_at_call 5; refine (HAW.out _ HW.out).mono ?_; rintro e w1 ⟨rfl, b1⟩; replace BB := Lib.hid (BB.out.trans (b1.mono BB.out.size)); clear b1)
            go_ret
            exact ⟨by simp, BB.out⟩
end
end Go.Proofs.YtekfbnhicmfaaaaDoor
