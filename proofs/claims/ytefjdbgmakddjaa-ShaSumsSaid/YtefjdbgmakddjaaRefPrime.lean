/- The contract of the document's own Primes. -/
import Derived.Test.YtefjdbgmakddjaaShaPrime
namespace Go.Proofs.Ytefjdbgmakddjaa
open Go.RowKit Go.Sort Go.Lib
open Sh Pr
set_option linter.unusedVariables false
theorem all_take_succ {l : List Nat} {q : Nat → Bool} {k : Nat} (hk : k < l.length) : (l.take (k + 1)).all q = ((l.take k).all q && q l[k]) := by
  rw [List.take_succ_eq_append_getElem hk, List.all_append]; simp

set_option maxHeartbeats 3200000 in
theorem RPrimes_own (n : Int) (w : World) :
    Calls Try.prog 9 #[.int .i64 n] w fun e w' => ∃ v, e = .returned v ∧ w'.ownsRow w.heap.size 3 1 v (primesL n).length ((primesL n).map encN) ∧ Below w.heap.size w w' := by
  obtain ⟨i0, hi, hz0, hz1, hz2⟩ := infoN
  have HO0 := Lib.hid (own_nil w 3)
  have HB0 := Lib.hid ((Below.refl _ w).alloc (Nat.le_refl _) (.cells #[] 3))
  by_cases hout : n < 0 ∨ 100 < n
  · have HP := Lib.hid (primesL_out hout)
    by_cases h1 : n < 0
    · have h2 : ¬ 100 < n := by omega
      have h3 : ¬ 0 < n := by omega
      clear hout
      go_enter Try.func9, Try.ntmps9
      go_wp2
      refine wp_loop_rounds 1 ?_
      rw [rounds_succ]
      go_wp2
      go_ret
      exact ⟨_, rfl, by rw [HP.out]; exact HO0.out, HB0.out⟩
    · have h2 : 100 < n := by omega
      clear hout
      go_enter Try.func9, Try.ntmps9
      go_wp2
      go_ret
      exact ⟨_, rfl, by rw [HP.out]; exact HO0.out, HB0.out⟩
  · obtain ⟨m, rfl⟩ : ∃ m : Nat, n = (m : Int) := ⟨n.toNat, by omega⟩
    have hm : m ≤ 100 := by omega
    have hg : ¬ (100 : Int) < (m : Int) := by omega
    clear hout
    go_enter Try.func9, Try.ntmps9
    go_wp2
    go_loopw [3, 4] (fun sv sc wr => ∃ c C : Nat, c ≤ 540 ∧ c + 2 = C ∧ sc = .int .i64 (C : Int) ∧ (found c).length ≤ m ∧ wr.ownsRow w.heap.size 3 1 sv (found c).length ((found c).map encN) ∧ Below w.heap.size w wr) (fun _ sc _ => 542 - (intOf sc).toNat)
    case atStart => exact ⟨0, 2, Nat.zero_le _, rfl, rfl, Nat.zero_le _, HO0.out, HB0.out⟩
    case round =>
      obtain ⟨c, C, hc, hC, rfl, hlen, hown, hbel⟩ := hrel
      have HC2 := Lib.hid hC
      have HB := Lib.hid hbel
      have HO := Lib.hid hown
      have HR := Lib.hid (re_of_owns hown)
      obtain ⟨a, cap, hv, hcap, hmx, hcells⟩ := HR.out
      subst hv
      unfold maxLen at hmx
      clear hbel
      by_cases hlt : (found c).length < m
      · have hc4 : c < 540 := found_open hc hm hlt
        have hltz : ((found c).length : Int) < (m : Int) := by omega
        obtain ⟨YS, hYS⟩ : ∃ YS, YS = (found c).map encN := ⟨_, rfl⟩
        rw [← hYS] at hown
        have HYS := Lib.hid hYS
        have HN := Lib.hid hown
        have HC := Lib.hid hcells
        clear hYS hown hcells
        obtain ⟨T, hT⟩ : ∃ T, T = (found c).length := ⟨_, rfl⟩
        have HT := Lib.hid hT
        rw [← hT] at hlt hltz hlen hcap ⊢
        clear hT
        obtain ⟨w0, hw0⟩ : ∃ w0, w0 = wr := ⟨_, rfl⟩
        subst hw0
        have hC542 : C ≤ 542 := by omega
        have hC0 : 542 - (C + 1) < 542 - C := by omega
        clear hC
        go_wp2
        go_loopw [5, 6] (fun sp i wr => ∃ k : Nat, ∃ b : Bool, k ≤ T ∧ i = .int .i64 k ∧ sp = .bool b ∧ b = ((found c).take k).all (fun p => C % p != 0) ∧ w0 = wr) (fun _ i _ => T - (intOf i).toNat)
        case atStart => exact ⟨0, true, Nat.zero_le _, rfl, rfl, by simp, rfl⟩
        case round =>
          obtain ⟨k, b, hk, rfl, rfl, hb, hwr⟩ := hrel
          subst hwr
          have HBb := Lib.hid hb
          clear hb
          by_cases hkt : k < T
          · have hkl : k < (found c).length := by rw [← HT.out]; exact hkt
            rcases HC.out with ⟨h0, -⟩ | ⟨bl, ha, hlt2, hcs⟩
            · rw [h0] at hkl; exact absurd hkl (Nat.not_lt_zero _)
            subst ha
            have hcell : w0.cell? ⟨bl, k, none⟩ = some (.int .i64 (((found c)[k]'hkl : Nat) : Int)) := hcs k hkl
            obtain ⟨p1, p2⟩ := found_bd hc _ (List.getElem_mem hkl)
            have HS := Lib.hid (all_take_succ (q := fun p => C % p != 0) hkl)
            clear hcs
            obtain ⟨p, hp⟩ : ∃ p, (found c)[k]'hkl = p := ⟨_, rfl⟩
            rw [hp] at hcell p1 p2 HS
            clear hp
            have hmod := mod_nat C p
            have hm1 : C % p ≤ 1000 := Nat.le_trans (Nat.mod_le _ _) (by omega)
            have hpz : ((p : Int) == 0) = false := beq_eq_false_iff_ne.2 (by omega)
            have hpn : ¬ (p : Int) = 0 := by omega
            have HkT := Lib.hid hkl
            clear hkl
            by_cases hz : C % p = 0
            · have HZ := Lib.hid (ne_false hz)
              rw [hz] at hmod
              clear hz hm1
              go_wp2
              go_roundw
              case measure => simp [intOf]; omega
              case rel => exact ⟨k + 1, false, by omega, by go_num, rfl, by rw [HS.out, HZ.out, Bool.and_false], trivial⟩
            · have HZ : Hid (((C % p) != 0) = true) := Lib.hid (ne_true hz)
              have hmz : (((C % p : Nat) : Int) == 0) = false := beq_eq_false_iff_ne.2 (by omega)
              obtain ⟨mm, hmm⟩ : ∃ mm, C % p = mm := ⟨_, rfl⟩
              rw [hmm] at hmod hmz hm1
              clear hz hmm
              go_wp2
              go_roundw
              case measure => simp [intOf]; omega
              case rel => exact ⟨k + 1, b, by omega, by go_num, rfl, by rw [HS.out, ← HBb.out, HZ.out, Bool.and_true], trivial⟩
          · obtain rfl : k = T := by omega
            have HD : Hid (b = (found c).all (fun p => C % p != 0)) := Lib.hid (by rw [HBb.out, HT.out, List.take_length])
            cases b with
            | true =>
              have HF := Lib.hid (found_yes (c := c) (by rw [HC2.out]; exact HD.out.symm))
              have hown := HN.out
              rw [← HT.out] at hown
              go_wp2_with (at_builtin; refine wpList_append_own _ rfl _ _ 23 rfl w.heap.size 3 i0 _ 1 8 Try.underlying23 hi hz0 hz1 hz2 rfl (by decide) _ _ _ rfl (hown.alloc _) ⟨w0.heap.size, 0, none⟩ 1 1 [.int .i64 (C : Int)] rfl rfl ?c1 ?c2 ?c3 ?c4 ?c5 ?_)
              case c1 =>
                intro j u hj
                match j, hj with
                | 0, hj => simp at hj; subst hj; simp [Addr.add]
              case c2 => intro u hu; simp at hu; subst hu; rfl
              case c3 => unfold maxLen; omega
              case c4 => omega
              case c5 => have := HB.out.size; simp; omega
              · intro v' w2 hown' hgrow _
                have HW2 := Lib.hid hown'
                have HG2 := Lib.hid hgrow
                clear hown' hgrow hown
                go_wp2
                go_roundw
                case measure => simp [intOf]; omega
                case rel =>
                  refine ⟨c + 1, C + 1, by omega, by have := HC2.out; omega, by go_num, ?_, ?_, ?_⟩
                  · rw [HF.out, List.length_append, ← HT.out, List.length_singleton]; omega
                  · have := HW2.out
                    rw [HF.out, List.length_append, ← HT.out, List.length_singleton, map_snoc, ← HYS.out, HC2.out]; exact this
                  · refine (HB.out.alloc HB.out.size _).grown HG2.out (by have := HB.out.size; simp; omega) ?_
                    intro p hp
                    rw [HT.out] at hp
                    exact (HN.out.lt p hp).1
            | false =>
              have HF := Lib.hid (found_no (c := c) (by rw [HC2.out]; exact HD.out.symm))
              go_wp2
              go_roundw
              case measure => simp [intOf]; omega
              case rel =>
                refine ⟨c + 1, C + 1, by omega, by have := HC2.out; omega, by go_num, ?_, ?_, HB.out⟩
                · rw [HF.out, ← HT.out]; omega
                · have := HO.out
                  rw [HF.out]
                  rw [← HT.out] at this ⊢
                  exact this
      · have heq : (found c).length = m := by omega
        have HPr := Lib.hid (primesL_of hc hm heq)
        have hltz : ¬ ((found c).length : Int) < (m : Int) := by omega
        clear hown hcells
        rw [heq] at hltz ⊢
        have HO2 := HO.out
        rw [heq] at HO2
        have HO3 := Lib.hid HO2
        have HQ : Hid ((primesL (m : Int)).length = m) := Lib.hid (primesL_length hm)
        clear HO2
        go_wp2
        go_ret
        exact ⟨_, rfl, by rw [HQ.out, ← HPr.out]; exact HO3.out, HB.out⟩
theorem RPrimes_any (n : Int) (w : World) :
    Calls Try.prog 9 #[.int .i64 n] w fun e w' => ∃ v, e = .returned v ∧ RE encN w' v (primesL n) ∧ Below w.heap.size w w' :=
  (RPrimes_own n w).mono fun e w' ⟨v, h1, h2, h3⟩ => ⟨v, h1, re_of_owns h2, h3⟩
end Go.Proofs.Ytefjdbgmakddjaa
