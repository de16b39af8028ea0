/- NameMembers: whoever is in one of two lists is in both together, and nobody else; what is without a list has nobody of it; an order's order is itself. -/
import Derived.Test.YtbbijhgiddbonaaNamLaw2
import Derived.RegionTactic
import Derived.ChangeAlike
import Derived.Laws.Cover1
namespace Go.Proofs.Ytbbijhgiddbonaa
open Go.RowKit Go.Sort
open Nw
set_option linter.unusedVariables false

theorem mem_both (l m : List L8) (s : L8) : decide (s ∈ sortL (l ++ m)) = (decide (s ∈ l) || decide (s ∈ m)) := by
  rw [Bool.eq_iff_iff]; simp [mem_sortL]
theorem mem_less (l m : List L8) (s : L8) : decide (s ∈ (sortL l).filter (notIn m)) = (decide (s ∈ l) && !decide (s ∈ m)) := by
  rw [Bool.eq_iff_iff]; simp [mem_sortL, notIn, List.mem_filter]

set_option maxHeartbeats 8000000 in
theorem NameMembers_walk (v u : Value) (l m : List L8) (s : ByteArray) (w : World) (h : Rd w v l) (k : Rd w u m) (hs : s.size ≤ maxLen) :
    Calls Try.prog 5 #[v, u, .string s] w fun e w' => e = .returned (.bool true) ∧ Below w.heap.size w w' := by
  have HL := Lib.hid h
  have HM := Lib.hid k
  have HFa : Hid (∀ W, Rd W v l → Calls Try.prog 13 #[v, .int .i64 60] W fun e w' => e = .returned (.bool (fewL l 60)) ∧ W = w') := Lib.hid fun W hW => Few_any v l 60 W hW (by omega) (by omega)
  have HFb : Hid (∀ W, Rd W u m → Calls Try.prog 13 #[u, .int .i64 60] W fun e w' => e = .returned (.bool (fewL m 60)) ∧ W = w') := Lib.hid fun W hW => Few_any u m 60 W hW (by omega) (by omega)
  obtain ⟨av, cv, rfl, _⟩ := h
  obtain ⟨au, cu, rfl, _⟩ := k
  cases hfa : fewL l 60 with
  | false =>
    rw [hfa] at HFa
    clear hfa
    go_enter Try.func5, Try.ntmps5
    go_wp2_with fail
    refine (HFa.out _ HL.out).mono ?_
    rintro e w' ⟨rfl, rfl⟩
    go_wp2_with fail
    refine (awake_any _).mono ?_
    rintro e w' ⟨rfl, hb⟩
    go_wp2
    go_ret
    exact ⟨rfl, hb⟩
  | true =>
  have HNa := Lib.hid (few_len hfa)
  rw [hfa] at HFa
  clear hfa
  cases hfb : fewL m 60 with
  | false =>
    rw [hfb] at HFb
    clear hfb
    go_enter Try.func5, Try.ntmps5
    go_wp2_with fail
    refine (HFa.out _ HL.out).mono ?_
    rintro e w' ⟨rfl, rfl⟩
    go_wp2_with fail
    refine (HFb.out _ HM.out).mono ?_
    rintro e w' ⟨rfl, rfl⟩
    go_wp2_with fail
    refine (awake_any _).mono ?_
    rintro e w' ⟨rfl, hb⟩
    go_wp2
    go_ret
    exact ⟨rfl, hb⟩
  | true =>
    have HNb := Lib.hid (few_len hfb)
    rw [hfb] at HFb
    clear hfb
    have HB0 : Hid (Below w.heap.size w w) := Lib.hid (Below.refl _ _)
    have na : Hid (l.length ≤ 4398046511103) := Lib.hid (by have := HNa.out; omega)
    have nb : Hid (m.length ≤ 4398046511103) := Lib.hid (by have := HNb.out; omega)
    have nab : Hid (l.length + m.length ≤ 4398046511103) := Lib.hid (by have := HNa.out; have := HNb.out; omega)
    have nba : Hid (m.length + l.length ≤ 4398046511103) := Lib.hid (by have := HNa.out; have := HNb.out; omega)
    have HInP : Hid (∀ (x : Value) W, Rd W x (sortL (l ++ m)) → Calls Try.prog 21 #[x, .string s] W fun e w' => e = .returned (.bool (decide (s.data.toList ∈ l) || decide (s.data.toList ∈ m))) ∧ W = w') := Lib.hid fun x W hW => by
      have := In_any x _ s W hW
      rwa [mem_both] at this
    have HInQ : Hid (∀ (x : Value) W, Rd W x ((sortL l).filter (notIn m)) → Calls Try.prog 21 #[x, .string s] W fun e w' => e = .returned (.bool (decide (s.data.toList ∈ l) && !decide (s.data.toList ∈ m))) ∧ W = w') := Lib.hid fun x W hW => by
      have := In_any x _ s W hW
      rwa [mem_less] at this
    have HInA := Lib.hid fun W (hW : Rd W (.slice av l.length cv) l) => In_any _ l s W hW
    have HInB := Lib.hid fun W (hW : Rd W (.slice au m.length cu) m) => In_any _ m s W hW
    have HCount := Lib.hid (count_eq l m)
    have HQ : Hid ((sortL l).filter (fun x => !decide (x ∈ m)) = (sortL l).filter (notIn m)) := Lib.hid rfl
    rw [HQ.out] at HCount
    have GB := Lib.hid fun W (hW : Rd W (.slice av l.length cv) l) (hW' : Rd W (.slice au m.length cu) m) => Both_gives hW hW' nab.out
    have GW := Lib.hid fun W (hW : Rd W (.slice av l.length cv) l) (hW' : Rd W (.slice au m.length cu) m) => Without_gives hW hW' na.out nb.out
    have GC : Hid (∀ W, Rd W (.slice av l.length cv) l → Rd W (.slice au m.length cu) m → Gives 17 #[.slice au m.length cu, .slice av l.length cv] W (sortL (l ++ m))) := Lib.hid fun W hW hW' => by
      have := Both_gives hW' hW nba.out
      rwa [sortL_comm l m] at this
    have GS := Lib.hid fun W (hW' : Rd W (.slice au m.length cu) m) => Sorted_gives hW' nb.out
    have hPl : (sortL (l ++ m)).length ≤ 4398046511103 := Nat.le_trans (sortL_length_le _) (by rw [List.length_append]; exact nab.out)
    have GT : Hid (∀ (x : Value) W, Rd W x (sortL (l ++ m)) → Gives 15 #[x] W (sortL (l ++ m))) := Lib.hid fun x W hW => by
      have := Sorted_gives hW hPl
      rwa [sortL_sortL] at this
    have HAsc := Lib.hid (sortL_asc (l ++ m))
    generalize decide (s.data.toList ∈ l) = ra at HInP HInQ HInA
    generalize decide (s.data.toList ∈ m) = rb at HInP HInQ HInB
    generalize sortL (l ++ m) = P at HInP HCount GB GC GT HAsc hPl
    generalize (sortL l).filter (notIn m) = Q at HInQ HCount GW
    clear HQ
    generalize sortL m = SM at HCount GS
    have HPl := Lib.hid hPl
    clear hPl
    cases ra with
    | false =>
      cases rb
      all_goals
        go_enter Try.func5, Try.ntmps5
        go_wp2_with fail
        refine (HFa.out _ HL.out).mono ?_
        rintro e w' ⟨rfl, rfl⟩
        go_wp2_with fail
        refine (HFb.out _ HM.out).mono ?_
        rintro e w' ⟨rfl, rfl⟩
        go_wp2_with fail
        refine (GB.out _ (HL.out.below HB0.out) (HM.out.below HB0.out)).mono ?_
        rintro e w1 ⟨x1, rfl, r1, b1⟩
        have R1 := Lib.hid r1
        obtain ⟨a1, c1, rfl, _, q1, _⟩ := r1
        unfold maxLen at q1
        have HB1 : Hid (Below w.heap.size w w1) := Lib.hid (HB0.out.trans (b1.mono HB0.out.size))
        have D1 := Lib.hid b1
        clear b1
        go_wp2_with fail
        refine (GW.out _ (HL.out.below HB1.out) (HM.out.below HB1.out)).mono ?_
        rintro e w2 ⟨x2, rfl, r2, b2⟩
        have R2 := Lib.hid r2
        obtain ⟨a2, c2, rfl, _, q2, _⟩ := r2
        unfold maxLen at q2
        have HB2 : Hid (Below w.heap.size w w2) := Lib.hid (HB1.out.trans (b2.mono HB1.out.size))
        have D2 := Lib.hid b2
        clear b2
        go_wp2_with fail
        refine (HInP.out _ _ (R1.out.below D2.out)).mono ?_
        rintro e w' ⟨rfl, rfl⟩
        go_wp2_with fail
        refine (HInA.out _ (HL.out.below HB2.out)).mono ?_
        rintro e w' ⟨rfl, rfl⟩
        go_wp2_with fail
        refine (HInB.out _ (HM.out.below HB2.out)).mono ?_
        rintro e w' ⟨rfl, rfl⟩
        go_wp2_with fail
        refine (HInQ.out _ _ R2.out).mono ?_
        rintro e w' ⟨rfl, rfl⟩
        go_wp2_with fail
        refine (HInA.out _ (HL.out.below HB2.out)).mono ?_
        rintro e w' ⟨rfl, rfl⟩
        have R1b := Lib.hid (R1.out.below D2.out)
        have HNq : Hid ((P.length : Int) - (Q.length : Int) = (SM.length : Int)) := Lib.hid (by have := HCount.out; omega)
        obtain ⟨NP, hNP⟩ : ∃ NP, NP = P.length := ⟨_, rfl⟩
        have HNP := Lib.hid hNP
        rw [← hNP]
        clear hNP
        go_wp2
        go_loopw [9] (fun i wr => ∃ k : Nat, 1 ≤ k ∧ k ≤ NP + 1 ∧ i = .int .i64 k ∧ Below w2.heap.size w2 wr) (fun i _ => NP - (intOf i).toNat)
        case atStart => exact ⟨1, Nat.le_refl _, by omega, rfl, Below.refl _ _⟩
        case round =>
          obtain ⟨k, hk1, hk, rfl, hbel⟩ := hrel
          have HBL := Lib.hid hbel
          clear hbel
          have hNb : NP ≤ 4398046511103 := by have := HPl.out; have := HNP.out; omega
          by_cases hlt : k < NP
          · have hltz : (k : Int) < (NP : Int) := by omega
            obtain ⟨ax, cx, e0, _, _, hcells⟩ := R1b.out
            cases e0
            rcases hcells with ⟨e0, _⟩ | ⟨b, o, ha, h4, h5⟩
            · have := HNP.out; rw [e0] at this; simp at this; omega
            subst ha
            have hkP : Hid (k < P.length) := Lib.hid (by have := HNP.out; omega)
            have hkP' : Hid (k - 1 < P.length) := Lib.hid (by have := HNP.out; omega)
            have hc1 := (HBL.out.cell (p := ⟨b, o + (k - 1), none⟩) h4).trans (h5 (k - 1) hkP'.out)
            have hc2 := (HBL.out.cell (p := ⟨b, o + k, none⟩) h4).trans (h5 k hkP.out)
            have t1 := less_true (asc_get HAsc.out (show k - 1 < k by omega) hkP.out)
            clear h5
            have d1 : (0 : Int) ≤ (k : Int) - 1 := by omega
            have d2 : ((k : Int) - 1).toNat = k - 1 := by omega
            have d3 : (k : Int) - 1 < (NP : Int) := by omega
            have d6 : IntKind.i64.wrap ((k : Int) - 1) = (k : Int) - 1 := wrap_small _ (by omega) (by omega)
            generalize ba (P[k - 1]'hkP'.out) = X at hc1 t1
            generalize ba (P[k]'hkP.out) = Y at hc2 t1
            go_wp2
            go_quiet (fail)
            go_wp2
            go_roundw
            case measure => simp [intOf]; omega
            case rel => exact ⟨k + 1, by omega, by omega, by go_num, HBL.out.trans ((below_drewN _ _).mono HBL.out.size)⟩
          · have HB3 : Hid (Below w.heap.size w wr) := Lib.hid (HB2.out.trans (HBL.out.mono HB2.out.size))
            have R3b : Hid (Rd wr (.slice a1 NP c1) P) := Lib.hid (by rw [HNP.out]; exact R1b.out.below HBL.out)
            go_wp2_with fail
            refine (GT.out _ _ R3b.out).mono ?_
            rintro e w4 ⟨x4, rfl, r4, b4⟩
            have HB4 : Hid (Below w.heap.size w w4) := Lib.hid (HB3.out.trans (b4.mono HB3.out.size))
            have R4 := Lib.hid r4
            have R4b := Lib.hid (R3b.out.below b4)
            clear r4 b4
            go_wp2_with fail
            refine (Same_yes R4.out R4b.out).mono ?_
            rintro e w5 ⟨rfl, b5⟩
            have HB5 : Hid (Below w.heap.size w w5) := Lib.hid (HB4.out.trans (b5.mono HB4.out.size))
            have R5b := Lib.hid (R4b.out.below b5)
            clear b5
            go_wp2_with fail
            refine (GC.out _ (HL.out.below HB5.out) (HM.out.below HB5.out)).mono ?_
            rintro e w6 ⟨x6, rfl, r6, b6⟩
            have HB6 : Hid (Below w.heap.size w w6) := Lib.hid (HB5.out.trans (b6.mono HB5.out.size))
            have R6 := Lib.hid r6
            have R6b := Lib.hid (R5b.out.below b6)
            clear r6 b6
            go_wp2_with fail
            refine (Same_yes R6.out R6b.out).mono ?_
            rintro e w7 ⟨rfl, b7⟩
            have HB7 : Hid (Below w.heap.size w w7) := Lib.hid (HB6.out.trans (b7.mono HB6.out.size))
            clear b7
            go_wp2_with fail
            refine (GS.out _ (HM.out.below HB7.out)).mono ?_
            rintro e w8 ⟨x8, rfl, r8, b8⟩
            obtain ⟨a8, c8, rfl, _, q8, _⟩ := r8
            have HB8 : Hid (Below w.heap.size w w8) := Lib.hid (HB7.out.trans (b8.mono HB7.out.size))
            clear b8
            have hsub : (NP : Int) - (Q.length : Int) = (SM.length : Int) := by have := HNq.out; have := HNP.out; omega
            have hwrap : IntKind.i64.wrap ((SM.length : Nat) : Int) = ((SM.length : Nat) : Int) := wrap_small _ (by omega) (by have := HNq.out; have := HNP.out; omega)
            go_wp2_with fail
            refine (awake_any _).mono ?_
            rintro e w9 ⟨rfl, b9⟩
            have HB9 : Hid (Below w.heap.size w w9) := Lib.hid (HB8.out.trans (b9.mono HB8.out.size))
            clear b9
            go_wp2
            go_ret
            exact ⟨rfl, HB9.out⟩

    | true =>
      cases rb
      all_goals
        go_enter Try.func5, Try.ntmps5
        go_wp2_with fail
        refine (HFa.out _ HL.out).mono ?_
        rintro e w' ⟨rfl, rfl⟩
        go_wp2_with fail
        refine (HFb.out _ HM.out).mono ?_
        rintro e w' ⟨rfl, rfl⟩
        go_wp2_with fail
        refine (GB.out _ (HL.out.below HB0.out) (HM.out.below HB0.out)).mono ?_
        rintro e w1 ⟨x1, rfl, r1, b1⟩
        have R1 := Lib.hid r1
        obtain ⟨a1, c1, rfl, _, q1, _⟩ := r1
        unfold maxLen at q1
        have HB1 : Hid (Below w.heap.size w w1) := Lib.hid (HB0.out.trans (b1.mono HB0.out.size))
        have D1 := Lib.hid b1
        clear b1
        go_wp2_with fail
        refine (GW.out _ (HL.out.below HB1.out) (HM.out.below HB1.out)).mono ?_
        rintro e w2 ⟨x2, rfl, r2, b2⟩
        have R2 := Lib.hid r2
        obtain ⟨a2, c2, rfl, _, q2, _⟩ := r2
        unfold maxLen at q2
        have HB2 : Hid (Below w.heap.size w w2) := Lib.hid (HB1.out.trans (b2.mono HB1.out.size))
        have D2 := Lib.hid b2
        clear b2
        go_wp2_with fail
        refine (HInP.out _ _ (R1.out.below D2.out)).mono ?_
        rintro e w' ⟨rfl, rfl⟩
        go_wp2_with fail
        refine (HInA.out _ (HL.out.below HB2.out)).mono ?_
        rintro e w' ⟨rfl, rfl⟩
        go_wp2_with fail
        refine (HInQ.out _ _ R2.out).mono ?_
        rintro e w' ⟨rfl, rfl⟩
        go_wp2_with fail
        refine (HInA.out _ (HL.out.below HB2.out)).mono ?_
        rintro e w' ⟨rfl, rfl⟩
        go_wp2_with fail
        refine (HInB.out _ (HM.out.below HB2.out)).mono ?_
        rintro e w' ⟨rfl, rfl⟩
        have R1b := Lib.hid (R1.out.below D2.out)
        have HNq : Hid ((P.length : Int) - (Q.length : Int) = (SM.length : Int)) := Lib.hid (by have := HCount.out; omega)
        obtain ⟨NP, hNP⟩ : ∃ NP, NP = P.length := ⟨_, rfl⟩
        have HNP := Lib.hid hNP
        rw [← hNP]
        clear hNP
        go_wp2
        go_loopw [9] (fun i wr => ∃ k : Nat, 1 ≤ k ∧ k ≤ NP + 1 ∧ i = .int .i64 k ∧ Below w2.heap.size w2 wr) (fun i _ => NP - (intOf i).toNat)
        case atStart => exact ⟨1, Nat.le_refl _, by omega, rfl, Below.refl _ _⟩
        case round =>
          obtain ⟨k, hk1, hk, rfl, hbel⟩ := hrel
          have HBL := Lib.hid hbel
          clear hbel
          have hNb : NP ≤ 4398046511103 := by have := HPl.out; have := HNP.out; omega
          by_cases hlt : k < NP
          · have hltz : (k : Int) < (NP : Int) := by omega
            obtain ⟨ax, cx, e0, _, _, hcells⟩ := R1b.out
            cases e0
            rcases hcells with ⟨e0, _⟩ | ⟨b, o, ha, h4, h5⟩
            · have := HNP.out; rw [e0] at this; simp at this; omega
            subst ha
            have hkP : Hid (k < P.length) := Lib.hid (by have := HNP.out; omega)
            have hkP' : Hid (k - 1 < P.length) := Lib.hid (by have := HNP.out; omega)
            have hc1 := (HBL.out.cell (p := ⟨b, o + (k - 1), none⟩) h4).trans (h5 (k - 1) hkP'.out)
            have hc2 := (HBL.out.cell (p := ⟨b, o + k, none⟩) h4).trans (h5 k hkP.out)
            have t1 := less_true (asc_get HAsc.out (show k - 1 < k by omega) hkP.out)
            clear h5
            have d1 : (0 : Int) ≤ (k : Int) - 1 := by omega
            have d2 : ((k : Int) - 1).toNat = k - 1 := by omega
            have d3 : (k : Int) - 1 < (NP : Int) := by omega
            have d6 : IntKind.i64.wrap ((k : Int) - 1) = (k : Int) - 1 := wrap_small _ (by omega) (by omega)
            generalize ba (P[k - 1]'hkP'.out) = X at hc1 t1
            generalize ba (P[k]'hkP.out) = Y at hc2 t1
            go_wp2
            go_quiet (fail)
            go_wp2
            go_roundw
            case measure => simp [intOf]; omega
            case rel => exact ⟨k + 1, by omega, by omega, by go_num, HBL.out.trans ((below_drewN _ _).mono HBL.out.size)⟩
          · have HB3 : Hid (Below w.heap.size w wr) := Lib.hid (HB2.out.trans (HBL.out.mono HB2.out.size))
            have R3b : Hid (Rd wr (.slice a1 NP c1) P) := Lib.hid (by rw [HNP.out]; exact R1b.out.below HBL.out)
            go_wp2_with fail
            refine (GT.out _ _ R3b.out).mono ?_
            rintro e w4 ⟨x4, rfl, r4, b4⟩
            have HB4 : Hid (Below w.heap.size w w4) := Lib.hid (HB3.out.trans (b4.mono HB3.out.size))
            have R4 := Lib.hid r4
            have R4b := Lib.hid (R3b.out.below b4)
            clear r4 b4
            go_wp2_with fail
            refine (Same_yes R4.out R4b.out).mono ?_
            rintro e w5 ⟨rfl, b5⟩
            have HB5 : Hid (Below w.heap.size w w5) := Lib.hid (HB4.out.trans (b5.mono HB4.out.size))
            have R5b := Lib.hid (R4b.out.below b5)
            clear b5
            go_wp2_with fail
            refine (GC.out _ (HL.out.below HB5.out) (HM.out.below HB5.out)).mono ?_
            rintro e w6 ⟨x6, rfl, r6, b6⟩
            have HB6 : Hid (Below w.heap.size w w6) := Lib.hid (HB5.out.trans (b6.mono HB5.out.size))
            have R6 := Lib.hid r6
            have R6b := Lib.hid (R5b.out.below b6)
            clear r6 b6
            go_wp2_with fail
            refine (Same_yes R6.out R6b.out).mono ?_
            rintro e w7 ⟨rfl, b7⟩
            have HB7 : Hid (Below w.heap.size w w7) := Lib.hid (HB6.out.trans (b7.mono HB6.out.size))
            clear b7
            go_wp2_with fail
            refine (GS.out _ (HM.out.below HB7.out)).mono ?_
            rintro e w8 ⟨x8, rfl, r8, b8⟩
            obtain ⟨a8, c8, rfl, _, q8, _⟩ := r8
            have HB8 : Hid (Below w.heap.size w w8) := Lib.hid (HB7.out.trans (b8.mono HB7.out.size))
            clear b8
            have hsub : (NP : Int) - (Q.length : Int) = (SM.length : Int) := by have := HNq.out; have := HNP.out; omega
            have hwrap : IntKind.i64.wrap ((SM.length : Nat) : Int) = ((SM.length : Nat) : Int) := wrap_small _ (by omega) (by have := HNq.out; have := HNP.out; omega)
            go_wp2_with fail
            refine (awake_any _).mono ?_
            rintro e w9 ⟨rfl, b9⟩
            have HB9 : Hid (Below w.heap.size w w9) := Lib.hid (HB8.out.trans (b9.mono HB8.out.size))
            clear b9
            go_wp2
            go_ret
            exact ⟨rfl, HB9.out⟩

end Go.Proofs.Ytbbijhgiddbonaa
