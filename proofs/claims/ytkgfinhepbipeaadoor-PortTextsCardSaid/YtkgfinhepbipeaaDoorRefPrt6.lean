/- The reference's Parse. -/
import Derived.Test.YtkgfinhepbipeaaDoorRefPrt5a
import Derived.Test.YtkgfinhepbipeaaDoorRefPrt5b
import Derived.Test.YtkgfinhepbipeaaDoorRefPrt5c
import Derived.Test.YtkgfinhepbipeaaDoorRefPrt5d
namespace Go.Proofs.YtkgfinhepbipeaaDoor
open Go.RowKit Go.Sort
open Nw Dg P16
set_option linter.unusedVariables false
/-- What Parse answers. -/
def PrsE : Option Po → Ending
  | none => .returned (.tuple #[.agg #[.string ⟨#[]⟩, .int .i64 0, .int .i64 0, .string ⟨#[]⟩], .int .i64 3])
  | some p => .returned (.tuple #[.agg #[.string (ba p.host), .int .i64 p.out, .int .i64 p.inn, .string (ba p.proto)], .int .i64 0])
theorem prsE_some (h pr : ByteArray) (o i : Int) : PrsE (some ⟨h.data.toList, o, i, pr.data.toList⟩) = .returned (.tuple #[.agg #[.string h, .int .i64 o, .int .i64 i, .string pr], .int .i64 0]) := by
  show Ending.returned (.tuple #[.agg #[.string (ba h.data.toList), .int .i64 o, .int .i64 i, .string (ba pr.data.toList)], .int .i64 0]) = _
  rw [ba_of, ba_of]
theorem prsL_e3 (pr o i : L8) : prsL pr [[], o, i] = none := by simp [prsL]
theorem fin_yes {h : L8} {o : Int} {i pr : L8} (hE : countE i 65535 = 0) (hr : rightB ⟨h, o, countN i 65535, pr⟩ = true) : finP h o i pr = some ⟨h, o, countN i 65535, pr⟩ := if_pos ⟨beq_iff_eq.2 hE, hr⟩
theorem fin_bad {h : L8} {o : Int} {i pr : L8} (hE : ¬ countE i 65535 = 0) : finP h o i pr = none := if_neg fun k => hE (beq_iff_eq.1 k.1)
theorem fin_no {h : L8} {o : Int} {i pr : L8} (hr : rightB ⟨h, o, countN i 65535, pr⟩ = false) : finP h o i pr = none := if_neg fun k => by rw [hr] at k; cases k.2
theorem oko_yes {o : L8} (hF : countE o 65535 = 0) (hZ : ¬ countN o 65535 = 0) : okO o = true := by
  unfold okO okN; rw [hF, decide_eq_true hZ]; rfl
theorem oko_f {o : L8} (hF : ¬ countE o 65535 = 0) : okO o = false := by
  unfold okO okN; rw [beq_eq_false_iff_ne.2 hF]; rfl
theorem oko_z {o : L8} (hZ : countN o 65535 = 0) : okO o = false := by
  unfold okO; rw [decide_eq_false (fun k => k hZ), Bool.and_false]
theorem RPs_a (s : ByteArray) (hs : s.size ≤ 100000) (hn4 : s.size ≤ 4) (w : World) :
    Calls Tryd.prog 8 #[.string s] w fun e w' => e = PrsE (prsL tcpL (cutL 58 s.data.toList)) ∧ Below w.heap.size w w' := by
  have bs : ∀ x : L8, ∃ a : ByteArray, a.data.toList = x := fun x => ⟨ba x, ba_data x⟩
  rcases hl : cutL 58 s.data.toList with _ | ⟨x1, _ | ⟨x2, _ | ⟨x3, _ | ⟨x4, l4⟩⟩⟩⟩
  · exact absurd hl (cutA_ne 58 _ [])
  · obtain ⟨aa, rfl⟩ := bs x1
    by_cases hE : countE aa.data.toList 65535 = 0
    · cases hr : rightB ⟨[], 0, countN aa.data.toList 65535, tcpL⟩ with
      | true =>
        rw [show prsL tcpL [aa.data.toList] = some _ from fin_yes hE hr]
        exact (RPs_a_k1g s hs hn4 aa hl hE hr w).mono fun e w' k => ⟨k.1.trans (prsE_some ⟨#[]⟩ ⟨#[116, 99, 112]⟩ _ _).symm, k.2⟩
      | false =>
        rw [show prsL tcpL [aa.data.toList] = none from fin_no hr]
        exact (RPs_a_k1r s hs hn4 aa hl hE hr w).mono fun e w' k => ⟨k.1.trans rfl, k.2⟩
    · rw [show prsL tcpL [aa.data.toList] = none from fin_bad hE]
      exact (RPs_a_k1e s hs hn4 aa hl hE w).mono fun e w' k => ⟨k.1.trans rfl, k.2⟩
  · obtain ⟨oo, rfl⟩ := bs x1
    obtain ⟨aa, rfl⟩ := bs x2
    by_cases hF : countE oo.data.toList 65535 = 0
    · by_cases hZ : countN oo.data.toList 65535 = 0
      · rw [show prsL tcpL [oo.data.toList, aa.data.toList] = none from if_neg (by rw [oko_z hZ]; exact Bool.false_ne_true)]
        exact (RPs_a_k2z s hs hn4 oo aa hl hF hZ w).mono fun e w' k => ⟨k.1.trans rfl, k.2⟩
      · have e8 : prsL tcpL [oo.data.toList, aa.data.toList] = finP [] (countN oo.data.toList 65535) aa.data.toList tcpL := if_pos (oko_yes hF hZ)
        rw [e8]
        by_cases hE : countE aa.data.toList 65535 = 0
        · cases hr : rightB ⟨[], (countN oo.data.toList 65535), countN aa.data.toList 65535, tcpL⟩ with
          | true =>
            rw [show finP [] (countN oo.data.toList 65535) aa.data.toList tcpL = some _ from fin_yes hE hr]
            exact (RPs_a_k2g s hs hn4 oo aa hl hF hZ hE hr w).mono fun e w' k => ⟨k.1.trans (prsE_some ⟨#[]⟩ ⟨#[116, 99, 112]⟩ _ _).symm, k.2⟩
          | false =>
            rw [show finP [] (countN oo.data.toList 65535) aa.data.toList tcpL = none from fin_no hr]
            exact (RPs_a_k2r s hs hn4 oo aa hl hF hZ hE hr w).mono fun e w' k => ⟨k.1.trans rfl, k.2⟩
        · rw [show finP [] (countN oo.data.toList 65535) aa.data.toList tcpL = none from fin_bad hE]
          exact (RPs_a_k2e s hs hn4 oo aa hl hF hZ hE w).mono fun e w' k => ⟨k.1.trans rfl, k.2⟩
    · rw [show prsL tcpL [oo.data.toList, aa.data.toList] = none from if_neg (by rw [oko_f hF]; exact Bool.false_ne_true)]
      exact (RPs_a_k2f s hs hn4 oo aa hl hF w).mono fun e w' k => ⟨k.1.trans rfl, k.2⟩
  · obtain ⟨hh, rfl⟩ := bs x1
    obtain ⟨oo, rfl⟩ := bs x2
    obtain ⟨aa, rfl⟩ := bs x3
    by_cases hh0 : 0 < hh.size
    · have hhn : ¬ hh.data.toList = [] := fun e => by rw [show hh.size = hh.data.toList.length from rfl, e] at hh0; exact absurd hh0 (by decide)
      by_cases oo0 : 0 < oo.size
      · have oon : ¬ oo.data.toList = [] := fun e => by rw [show oo.size = oo.data.toList.length from rfl, e] at oo0; exact absurd oo0 (by decide)
        by_cases hF : countE oo.data.toList 65535 = 0
        · by_cases hZ : countN oo.data.toList 65535 = 0
          · rw [show prsL tcpL [hh.data.toList, oo.data.toList, aa.data.toList] = none from (if_neg hhn).trans ((if_neg oon).trans (if_neg (by rw [oko_z hZ]; exact Bool.false_ne_true)))]
            exact (RPs_a_k3z s hs hn4 hh oo aa hl hh0 oo0 hF hZ w).mono fun e w' k => ⟨k.1.trans rfl, k.2⟩
          · have e8 : prsL tcpL [hh.data.toList, oo.data.toList, aa.data.toList] = finP hh.data.toList (countN oo.data.toList 65535) aa.data.toList tcpL := (if_neg hhn).trans ((if_neg oon).trans (if_pos (oko_yes hF hZ)))
            rw [e8]
            by_cases hE : countE aa.data.toList 65535 = 0
            · cases hr : rightB ⟨hh.data.toList, (countN oo.data.toList 65535), countN aa.data.toList 65535, tcpL⟩ with
              | true =>
                rw [show finP hh.data.toList (countN oo.data.toList 65535) aa.data.toList tcpL = some _ from fin_yes hE hr]
                exact (RPs_a_k3g s hs hn4 hh oo aa hl hh0 oo0 hF hZ hE hr w).mono fun e w' k => ⟨k.1.trans (prsE_some hh ⟨#[116, 99, 112]⟩ _ _).symm, k.2⟩
              | false =>
                rw [show finP hh.data.toList (countN oo.data.toList 65535) aa.data.toList tcpL = none from fin_no hr]
                exact (RPs_a_k3r s hs hn4 hh oo aa hl hh0 oo0 hF hZ hE hr w).mono fun e w' k => ⟨k.1.trans rfl, k.2⟩
            · rw [show finP hh.data.toList (countN oo.data.toList 65535) aa.data.toList tcpL = none from fin_bad hE]
              exact (RPs_a_k3e s hs hn4 hh oo aa hl hh0 oo0 hF hZ hE w).mono fun e w' k => ⟨k.1.trans rfl, k.2⟩
        · rw [show prsL tcpL [hh.data.toList, oo.data.toList, aa.data.toList] = none from (if_neg hhn).trans ((if_neg oon).trans (if_neg (by rw [oko_f hF]; exact Bool.false_ne_true)))]
          exact (RPs_a_k3f s hs hn4 hh oo aa hl hh0 oo0 hF w).mono fun e w' k => ⟨k.1.trans rfl, k.2⟩
      · have ooe : oo = ByteArray.empty := ba_extP (List.length_eq_zero_iff.1 (show oo.size = 0 by omega))
        subst ooe
        have e8 : prsL tcpL [hh.data.toList, ByteArray.empty.data.toList, aa.data.toList] = finP hh.data.toList 0 aa.data.toList tcpL := (if_neg hhn).trans (if_pos rfl)
        rw [e8]
        by_cases hE : countE aa.data.toList 65535 = 0
        · cases hr : rightB ⟨hh.data.toList, 0, countN aa.data.toList 65535, tcpL⟩ with
          | true =>
            rw [show finP hh.data.toList 0 aa.data.toList tcpL = some _ from fin_yes hE hr]
            exact (RPs_a_k3mg s hs hn4 hh aa hl hh0 hE hr w).mono fun e w' k => ⟨k.1.trans (prsE_some hh ⟨#[116, 99, 112]⟩ _ _).symm, k.2⟩
          | false =>
            rw [show finP hh.data.toList 0 aa.data.toList tcpL = none from fin_no hr]
            exact (RPs_a_k3mr s hs hn4 hh aa hl hh0 hE hr w).mono fun e w' k => ⟨k.1.trans rfl, k.2⟩
        · rw [show finP hh.data.toList 0 aa.data.toList tcpL = none from fin_bad hE]
          exact (RPs_a_k3me s hs hn4 hh aa hl hh0 hE w).mono fun e w' k => ⟨k.1.trans rfl, k.2⟩
    · have hhe : hh = ByteArray.empty := ba_extP (List.length_eq_zero_iff.1 (show hh.size = 0 by omega))
      subst hhe
      rw [show prsL tcpL [ByteArray.empty.data.toList, oo.data.toList, aa.data.toList] = none from prsL_e3 _ _ _]
      exact (RPs_a_k3zx s hs hn4 oo aa hl w).mono fun e w' k => ⟨k.1.trans rfl, k.2⟩
  · exact (RPs_a_k4x s hs hn4 _ hl (by simp) w).mono fun e w' k => ⟨k.1.trans rfl, k.2⟩
theorem RPs_b (s : ByteArray) (hs : s.size ≤ 100000) (m : Nat) (hm : s.size = m + 4) (hm0 : 0 < m) (hq1 : (s.extract m s.size).data.toList ≠ 47 :: tcpL) (hq2 : (s.extract m s.size).data.toList ≠ 47 :: udpL) (w : World) :
    Calls Tryd.prog 8 #[.string s] w fun e w' => e = PrsE (prsL tcpL (cutL 58 s.data.toList)) ∧ Below w.heap.size w w' := by
  have bs : ∀ x : L8, ∃ a : ByteArray, a.data.toList = x := fun x => ⟨ba x, ba_data x⟩
  rcases hl : cutL 58 s.data.toList with _ | ⟨x1, _ | ⟨x2, _ | ⟨x3, _ | ⟨x4, l4⟩⟩⟩⟩
  · exact absurd hl (cutA_ne 58 _ [])
  · obtain ⟨aa, rfl⟩ := bs x1
    by_cases hE : countE aa.data.toList 65535 = 0
    · cases hr : rightB ⟨[], 0, countN aa.data.toList 65535, tcpL⟩ with
      | true =>
        rw [show prsL tcpL [aa.data.toList] = some _ from fin_yes hE hr]
        exact (RPs_b_k1g s hs m hm hm0 hq1 hq2 aa hl hE hr w).mono fun e w' k => ⟨k.1.trans (prsE_some ⟨#[]⟩ ⟨#[116, 99, 112]⟩ _ _).symm, k.2⟩
      | false =>
        rw [show prsL tcpL [aa.data.toList] = none from fin_no hr]
        exact (RPs_b_k1r s hs m hm hm0 hq1 hq2 aa hl hE hr w).mono fun e w' k => ⟨k.1.trans rfl, k.2⟩
    · rw [show prsL tcpL [aa.data.toList] = none from fin_bad hE]
      exact (RPs_b_k1e s hs m hm hm0 hq1 hq2 aa hl hE w).mono fun e w' k => ⟨k.1.trans rfl, k.2⟩
  · obtain ⟨oo, rfl⟩ := bs x1
    obtain ⟨aa, rfl⟩ := bs x2
    by_cases hF : countE oo.data.toList 65535 = 0
    · by_cases hZ : countN oo.data.toList 65535 = 0
      · rw [show prsL tcpL [oo.data.toList, aa.data.toList] = none from if_neg (by rw [oko_z hZ]; exact Bool.false_ne_true)]
        exact (RPs_b_k2z s hs m hm hm0 hq1 hq2 oo aa hl hF hZ w).mono fun e w' k => ⟨k.1.trans rfl, k.2⟩
      · have e8 : prsL tcpL [oo.data.toList, aa.data.toList] = finP [] (countN oo.data.toList 65535) aa.data.toList tcpL := if_pos (oko_yes hF hZ)
        rw [e8]
        by_cases hE : countE aa.data.toList 65535 = 0
        · cases hr : rightB ⟨[], (countN oo.data.toList 65535), countN aa.data.toList 65535, tcpL⟩ with
          | true =>
            rw [show finP [] (countN oo.data.toList 65535) aa.data.toList tcpL = some _ from fin_yes hE hr]
            exact (RPs_b_k2g s hs m hm hm0 hq1 hq2 oo aa hl hF hZ hE hr w).mono fun e w' k => ⟨k.1.trans (prsE_some ⟨#[]⟩ ⟨#[116, 99, 112]⟩ _ _).symm, k.2⟩
          | false =>
            rw [show finP [] (countN oo.data.toList 65535) aa.data.toList tcpL = none from fin_no hr]
            exact (RPs_b_k2r s hs m hm hm0 hq1 hq2 oo aa hl hF hZ hE hr w).mono fun e w' k => ⟨k.1.trans rfl, k.2⟩
        · rw [show finP [] (countN oo.data.toList 65535) aa.data.toList tcpL = none from fin_bad hE]
          exact (RPs_b_k2e s hs m hm hm0 hq1 hq2 oo aa hl hF hZ hE w).mono fun e w' k => ⟨k.1.trans rfl, k.2⟩
    · rw [show prsL tcpL [oo.data.toList, aa.data.toList] = none from if_neg (by rw [oko_f hF]; exact Bool.false_ne_true)]
      exact (RPs_b_k2f s hs m hm hm0 hq1 hq2 oo aa hl hF w).mono fun e w' k => ⟨k.1.trans rfl, k.2⟩
  · obtain ⟨hh, rfl⟩ := bs x1
    obtain ⟨oo, rfl⟩ := bs x2
    obtain ⟨aa, rfl⟩ := bs x3
    by_cases hh0 : 0 < hh.size
    · have hhn : ¬ hh.data.toList = [] := fun e => by rw [show hh.size = hh.data.toList.length from rfl, e] at hh0; exact absurd hh0 (by decide)
      by_cases oo0 : 0 < oo.size
      · have oon : ¬ oo.data.toList = [] := fun e => by rw [show oo.size = oo.data.toList.length from rfl, e] at oo0; exact absurd oo0 (by decide)
        by_cases hF : countE oo.data.toList 65535 = 0
        · by_cases hZ : countN oo.data.toList 65535 = 0
          · rw [show prsL tcpL [hh.data.toList, oo.data.toList, aa.data.toList] = none from (if_neg hhn).trans ((if_neg oon).trans (if_neg (by rw [oko_z hZ]; exact Bool.false_ne_true)))]
            exact (RPs_b_k3z s hs m hm hm0 hq1 hq2 hh oo aa hl hh0 oo0 hF hZ w).mono fun e w' k => ⟨k.1.trans rfl, k.2⟩
          · have e8 : prsL tcpL [hh.data.toList, oo.data.toList, aa.data.toList] = finP hh.data.toList (countN oo.data.toList 65535) aa.data.toList tcpL := (if_neg hhn).trans ((if_neg oon).trans (if_pos (oko_yes hF hZ)))
            rw [e8]
            by_cases hE : countE aa.data.toList 65535 = 0
            · cases hr : rightB ⟨hh.data.toList, (countN oo.data.toList 65535), countN aa.data.toList 65535, tcpL⟩ with
              | true =>
                rw [show finP hh.data.toList (countN oo.data.toList 65535) aa.data.toList tcpL = some _ from fin_yes hE hr]
                exact (RPs_b_k3g s hs m hm hm0 hq1 hq2 hh oo aa hl hh0 oo0 hF hZ hE hr w).mono fun e w' k => ⟨k.1.trans (prsE_some hh ⟨#[116, 99, 112]⟩ _ _).symm, k.2⟩
              | false =>
                rw [show finP hh.data.toList (countN oo.data.toList 65535) aa.data.toList tcpL = none from fin_no hr]
                exact (RPs_b_k3r s hs m hm hm0 hq1 hq2 hh oo aa hl hh0 oo0 hF hZ hE hr w).mono fun e w' k => ⟨k.1.trans rfl, k.2⟩
            · rw [show finP hh.data.toList (countN oo.data.toList 65535) aa.data.toList tcpL = none from fin_bad hE]
              exact (RPs_b_k3e s hs m hm hm0 hq1 hq2 hh oo aa hl hh0 oo0 hF hZ hE w).mono fun e w' k => ⟨k.1.trans rfl, k.2⟩
        · rw [show prsL tcpL [hh.data.toList, oo.data.toList, aa.data.toList] = none from (if_neg hhn).trans ((if_neg oon).trans (if_neg (by rw [oko_f hF]; exact Bool.false_ne_true)))]
          exact (RPs_b_k3f s hs m hm hm0 hq1 hq2 hh oo aa hl hh0 oo0 hF w).mono fun e w' k => ⟨k.1.trans rfl, k.2⟩
      · have ooe : oo = ByteArray.empty := ba_extP (List.length_eq_zero_iff.1 (show oo.size = 0 by omega))
        subst ooe
        have e8 : prsL tcpL [hh.data.toList, ByteArray.empty.data.toList, aa.data.toList] = finP hh.data.toList 0 aa.data.toList tcpL := (if_neg hhn).trans (if_pos rfl)
        rw [e8]
        by_cases hE : countE aa.data.toList 65535 = 0
        · cases hr : rightB ⟨hh.data.toList, 0, countN aa.data.toList 65535, tcpL⟩ with
          | true =>
            rw [show finP hh.data.toList 0 aa.data.toList tcpL = some _ from fin_yes hE hr]
            exact (RPs_b_k3mg s hs m hm hm0 hq1 hq2 hh aa hl hh0 hE hr w).mono fun e w' k => ⟨k.1.trans (prsE_some hh ⟨#[116, 99, 112]⟩ _ _).symm, k.2⟩
          | false =>
            rw [show finP hh.data.toList 0 aa.data.toList tcpL = none from fin_no hr]
            exact (RPs_b_k3mr s hs m hm hm0 hq1 hq2 hh aa hl hh0 hE hr w).mono fun e w' k => ⟨k.1.trans rfl, k.2⟩
        · rw [show finP hh.data.toList 0 aa.data.toList tcpL = none from fin_bad hE]
          exact (RPs_b_k3me s hs m hm hm0 hq1 hq2 hh aa hl hh0 hE w).mono fun e w' k => ⟨k.1.trans rfl, k.2⟩
    · have hhe : hh = ByteArray.empty := ba_extP (List.length_eq_zero_iff.1 (show hh.size = 0 by omega))
      subst hhe
      rw [show prsL tcpL [ByteArray.empty.data.toList, oo.data.toList, aa.data.toList] = none from prsL_e3 _ _ _]
      exact (RPs_b_k3zx s hs m hm hm0 hq1 hq2 oo aa hl w).mono fun e w' k => ⟨k.1.trans rfl, k.2⟩
  · exact (RPs_b_k4x s hs m hm hm0 hq1 hq2 _ hl (by simp) w).mono fun e w' k => ⟨k.1.trans rfl, k.2⟩
theorem RPs_c (s S : ByteArray) (hs : s.size ≤ 100000) (hSs : S.size ≤ 100000) (m : Nat) (hm : s.size = m + 4) (hm0 : 0 < m) (hQ : s.extract m s.size = ⟨#[47, 116, 99, 112]⟩) (hP : s.extract (m + 1) s.size = ⟨#[116, 99, 112]⟩) (hS : s.extract 0 m = S) (w : World) :
    Calls Tryd.prog 8 #[.string s] w fun e w' => e = PrsE (prsL tcpL (cutL 58 S.data.toList)) ∧ Below w.heap.size w w' := by
  have bs : ∀ x : L8, ∃ a : ByteArray, a.data.toList = x := fun x => ⟨ba x, ba_data x⟩
  rcases hl : cutL 58 S.data.toList with _ | ⟨x1, _ | ⟨x2, _ | ⟨x3, _ | ⟨x4, l4⟩⟩⟩⟩
  · exact absurd hl (cutA_ne 58 _ [])
  · obtain ⟨aa, rfl⟩ := bs x1
    by_cases hE : countE aa.data.toList 65535 = 0
    · cases hr : rightB ⟨[], 0, countN aa.data.toList 65535, tcpL⟩ with
      | true =>
        rw [show prsL tcpL [aa.data.toList] = some _ from fin_yes hE hr]
        exact (RPs_c_k1g s S hs hSs m hm hm0 hQ hP hS aa hl hE hr w).mono fun e w' k => ⟨k.1.trans (prsE_some ⟨#[]⟩ ⟨#[116, 99, 112]⟩ _ _).symm, k.2⟩
      | false =>
        rw [show prsL tcpL [aa.data.toList] = none from fin_no hr]
        exact (RPs_c_k1r s S hs hSs m hm hm0 hQ hP hS aa hl hE hr w).mono fun e w' k => ⟨k.1.trans rfl, k.2⟩
    · rw [show prsL tcpL [aa.data.toList] = none from fin_bad hE]
      exact (RPs_c_k1e s S hs hSs m hm hm0 hQ hP hS aa hl hE w).mono fun e w' k => ⟨k.1.trans rfl, k.2⟩
  · obtain ⟨oo, rfl⟩ := bs x1
    obtain ⟨aa, rfl⟩ := bs x2
    by_cases hF : countE oo.data.toList 65535 = 0
    · by_cases hZ : countN oo.data.toList 65535 = 0
      · rw [show prsL tcpL [oo.data.toList, aa.data.toList] = none from if_neg (by rw [oko_z hZ]; exact Bool.false_ne_true)]
        exact (RPs_c_k2z s S hs hSs m hm hm0 hQ hP hS oo aa hl hF hZ w).mono fun e w' k => ⟨k.1.trans rfl, k.2⟩
      · have e8 : prsL tcpL [oo.data.toList, aa.data.toList] = finP [] (countN oo.data.toList 65535) aa.data.toList tcpL := if_pos (oko_yes hF hZ)
        rw [e8]
        by_cases hE : countE aa.data.toList 65535 = 0
        · cases hr : rightB ⟨[], (countN oo.data.toList 65535), countN aa.data.toList 65535, tcpL⟩ with
          | true =>
            rw [show finP [] (countN oo.data.toList 65535) aa.data.toList tcpL = some _ from fin_yes hE hr]
            exact (RPs_c_k2g s S hs hSs m hm hm0 hQ hP hS oo aa hl hF hZ hE hr w).mono fun e w' k => ⟨k.1.trans (prsE_some ⟨#[]⟩ ⟨#[116, 99, 112]⟩ _ _).symm, k.2⟩
          | false =>
            rw [show finP [] (countN oo.data.toList 65535) aa.data.toList tcpL = none from fin_no hr]
            exact (RPs_c_k2r s S hs hSs m hm hm0 hQ hP hS oo aa hl hF hZ hE hr w).mono fun e w' k => ⟨k.1.trans rfl, k.2⟩
        · rw [show finP [] (countN oo.data.toList 65535) aa.data.toList tcpL = none from fin_bad hE]
          exact (RPs_c_k2e s S hs hSs m hm hm0 hQ hP hS oo aa hl hF hZ hE w).mono fun e w' k => ⟨k.1.trans rfl, k.2⟩
    · rw [show prsL tcpL [oo.data.toList, aa.data.toList] = none from if_neg (by rw [oko_f hF]; exact Bool.false_ne_true)]
      exact (RPs_c_k2f s S hs hSs m hm hm0 hQ hP hS oo aa hl hF w).mono fun e w' k => ⟨k.1.trans rfl, k.2⟩
  · obtain ⟨hh, rfl⟩ := bs x1
    obtain ⟨oo, rfl⟩ := bs x2
    obtain ⟨aa, rfl⟩ := bs x3
    by_cases hh0 : 0 < hh.size
    · have hhn : ¬ hh.data.toList = [] := fun e => by rw [show hh.size = hh.data.toList.length from rfl, e] at hh0; exact absurd hh0 (by decide)
      by_cases oo0 : 0 < oo.size
      · have oon : ¬ oo.data.toList = [] := fun e => by rw [show oo.size = oo.data.toList.length from rfl, e] at oo0; exact absurd oo0 (by decide)
        by_cases hF : countE oo.data.toList 65535 = 0
        · by_cases hZ : countN oo.data.toList 65535 = 0
          · rw [show prsL tcpL [hh.data.toList, oo.data.toList, aa.data.toList] = none from (if_neg hhn).trans ((if_neg oon).trans (if_neg (by rw [oko_z hZ]; exact Bool.false_ne_true)))]
            exact (RPs_c_k3z s S hs hSs m hm hm0 hQ hP hS hh oo aa hl hh0 oo0 hF hZ w).mono fun e w' k => ⟨k.1.trans rfl, k.2⟩
          · have e8 : prsL tcpL [hh.data.toList, oo.data.toList, aa.data.toList] = finP hh.data.toList (countN oo.data.toList 65535) aa.data.toList tcpL := (if_neg hhn).trans ((if_neg oon).trans (if_pos (oko_yes hF hZ)))
            rw [e8]
            by_cases hE : countE aa.data.toList 65535 = 0
            · cases hr : rightB ⟨hh.data.toList, (countN oo.data.toList 65535), countN aa.data.toList 65535, tcpL⟩ with
              | true =>
                rw [show finP hh.data.toList (countN oo.data.toList 65535) aa.data.toList tcpL = some _ from fin_yes hE hr]
                exact (RPs_c_k3g s S hs hSs m hm hm0 hQ hP hS hh oo aa hl hh0 oo0 hF hZ hE hr w).mono fun e w' k => ⟨k.1.trans (prsE_some hh ⟨#[116, 99, 112]⟩ _ _).symm, k.2⟩
              | false =>
                rw [show finP hh.data.toList (countN oo.data.toList 65535) aa.data.toList tcpL = none from fin_no hr]
                exact (RPs_c_k3r s S hs hSs m hm hm0 hQ hP hS hh oo aa hl hh0 oo0 hF hZ hE hr w).mono fun e w' k => ⟨k.1.trans rfl, k.2⟩
            · rw [show finP hh.data.toList (countN oo.data.toList 65535) aa.data.toList tcpL = none from fin_bad hE]
              exact (RPs_c_k3e s S hs hSs m hm hm0 hQ hP hS hh oo aa hl hh0 oo0 hF hZ hE w).mono fun e w' k => ⟨k.1.trans rfl, k.2⟩
        · rw [show prsL tcpL [hh.data.toList, oo.data.toList, aa.data.toList] = none from (if_neg hhn).trans ((if_neg oon).trans (if_neg (by rw [oko_f hF]; exact Bool.false_ne_true)))]
          exact (RPs_c_k3f s S hs hSs m hm hm0 hQ hP hS hh oo aa hl hh0 oo0 hF w).mono fun e w' k => ⟨k.1.trans rfl, k.2⟩
      · have ooe : oo = ByteArray.empty := ba_extP (List.length_eq_zero_iff.1 (show oo.size = 0 by omega))
        subst ooe
        have e8 : prsL tcpL [hh.data.toList, ByteArray.empty.data.toList, aa.data.toList] = finP hh.data.toList 0 aa.data.toList tcpL := (if_neg hhn).trans (if_pos rfl)
        rw [e8]
        by_cases hE : countE aa.data.toList 65535 = 0
        · cases hr : rightB ⟨hh.data.toList, 0, countN aa.data.toList 65535, tcpL⟩ with
          | true =>
            rw [show finP hh.data.toList 0 aa.data.toList tcpL = some _ from fin_yes hE hr]
            exact (RPs_c_k3mg s S hs hSs m hm hm0 hQ hP hS hh aa hl hh0 hE hr w).mono fun e w' k => ⟨k.1.trans (prsE_some hh ⟨#[116, 99, 112]⟩ _ _).symm, k.2⟩
          | false =>
            rw [show finP hh.data.toList 0 aa.data.toList tcpL = none from fin_no hr]
            exact (RPs_c_k3mr s S hs hSs m hm hm0 hQ hP hS hh aa hl hh0 hE hr w).mono fun e w' k => ⟨k.1.trans rfl, k.2⟩
        · rw [show finP hh.data.toList 0 aa.data.toList tcpL = none from fin_bad hE]
          exact (RPs_c_k3me s S hs hSs m hm hm0 hQ hP hS hh aa hl hh0 hE w).mono fun e w' k => ⟨k.1.trans rfl, k.2⟩
    · have hhe : hh = ByteArray.empty := ba_extP (List.length_eq_zero_iff.1 (show hh.size = 0 by omega))
      subst hhe
      rw [show prsL tcpL [ByteArray.empty.data.toList, oo.data.toList, aa.data.toList] = none from prsL_e3 _ _ _]
      exact (RPs_c_k3zx s S hs hSs m hm hm0 hQ hP hS oo aa hl w).mono fun e w' k => ⟨k.1.trans rfl, k.2⟩
  · exact (RPs_c_k4x s S hs hSs m hm hm0 hQ hP hS _ hl (by simp) w).mono fun e w' k => ⟨k.1.trans rfl, k.2⟩
theorem RPs_d (s S : ByteArray) (hs : s.size ≤ 100000) (hSs : S.size ≤ 100000) (m : Nat) (hm : s.size = m + 4) (hm0 : 0 < m) (hQ : s.extract m s.size = ⟨#[47, 117, 100, 112]⟩) (hP : s.extract (m + 1) s.size = ⟨#[117, 100, 112]⟩) (hS : s.extract 0 m = S) (w : World) :
    Calls Tryd.prog 8 #[.string s] w fun e w' => e = PrsE (prsL udpL (cutL 58 S.data.toList)) ∧ Below w.heap.size w w' := by
  have bs : ∀ x : L8, ∃ a : ByteArray, a.data.toList = x := fun x => ⟨ba x, ba_data x⟩
  rcases hl : cutL 58 S.data.toList with _ | ⟨x1, _ | ⟨x2, _ | ⟨x3, _ | ⟨x4, l4⟩⟩⟩⟩
  · exact absurd hl (cutA_ne 58 _ [])
  · obtain ⟨aa, rfl⟩ := bs x1
    by_cases hE : countE aa.data.toList 65535 = 0
    · cases hr : rightB ⟨[], 0, countN aa.data.toList 65535, udpL⟩ with
      | true =>
        rw [show prsL udpL [aa.data.toList] = some _ from fin_yes hE hr]
        exact (RPs_d_k1g s S hs hSs m hm hm0 hQ hP hS aa hl hE hr w).mono fun e w' k => ⟨k.1.trans (prsE_some ⟨#[]⟩ ⟨#[117, 100, 112]⟩ _ _).symm, k.2⟩
      | false =>
        rw [show prsL udpL [aa.data.toList] = none from fin_no hr]
        exact (RPs_d_k1r s S hs hSs m hm hm0 hQ hP hS aa hl hE hr w).mono fun e w' k => ⟨k.1.trans rfl, k.2⟩
    · rw [show prsL udpL [aa.data.toList] = none from fin_bad hE]
      exact (RPs_d_k1e s S hs hSs m hm hm0 hQ hP hS aa hl hE w).mono fun e w' k => ⟨k.1.trans rfl, k.2⟩
  · obtain ⟨oo, rfl⟩ := bs x1
    obtain ⟨aa, rfl⟩ := bs x2
    by_cases hF : countE oo.data.toList 65535 = 0
    · by_cases hZ : countN oo.data.toList 65535 = 0
      · rw [show prsL udpL [oo.data.toList, aa.data.toList] = none from if_neg (by rw [oko_z hZ]; exact Bool.false_ne_true)]
        exact (RPs_d_k2z s S hs hSs m hm hm0 hQ hP hS oo aa hl hF hZ w).mono fun e w' k => ⟨k.1.trans rfl, k.2⟩
      · have e8 : prsL udpL [oo.data.toList, aa.data.toList] = finP [] (countN oo.data.toList 65535) aa.data.toList udpL := if_pos (oko_yes hF hZ)
        rw [e8]
        by_cases hE : countE aa.data.toList 65535 = 0
        · cases hr : rightB ⟨[], (countN oo.data.toList 65535), countN aa.data.toList 65535, udpL⟩ with
          | true =>
            rw [show finP [] (countN oo.data.toList 65535) aa.data.toList udpL = some _ from fin_yes hE hr]
            exact (RPs_d_k2g s S hs hSs m hm hm0 hQ hP hS oo aa hl hF hZ hE hr w).mono fun e w' k => ⟨k.1.trans (prsE_some ⟨#[]⟩ ⟨#[117, 100, 112]⟩ _ _).symm, k.2⟩
          | false =>
            rw [show finP [] (countN oo.data.toList 65535) aa.data.toList udpL = none from fin_no hr]
            exact (RPs_d_k2r s S hs hSs m hm hm0 hQ hP hS oo aa hl hF hZ hE hr w).mono fun e w' k => ⟨k.1.trans rfl, k.2⟩
        · rw [show finP [] (countN oo.data.toList 65535) aa.data.toList udpL = none from fin_bad hE]
          exact (RPs_d_k2e s S hs hSs m hm hm0 hQ hP hS oo aa hl hF hZ hE w).mono fun e w' k => ⟨k.1.trans rfl, k.2⟩
    · rw [show prsL udpL [oo.data.toList, aa.data.toList] = none from if_neg (by rw [oko_f hF]; exact Bool.false_ne_true)]
      exact (RPs_d_k2f s S hs hSs m hm hm0 hQ hP hS oo aa hl hF w).mono fun e w' k => ⟨k.1.trans rfl, k.2⟩
  · obtain ⟨hh, rfl⟩ := bs x1
    obtain ⟨oo, rfl⟩ := bs x2
    obtain ⟨aa, rfl⟩ := bs x3
    by_cases hh0 : 0 < hh.size
    · have hhn : ¬ hh.data.toList = [] := fun e => by rw [show hh.size = hh.data.toList.length from rfl, e] at hh0; exact absurd hh0 (by decide)
      by_cases oo0 : 0 < oo.size
      · have oon : ¬ oo.data.toList = [] := fun e => by rw [show oo.size = oo.data.toList.length from rfl, e] at oo0; exact absurd oo0 (by decide)
        by_cases hF : countE oo.data.toList 65535 = 0
        · by_cases hZ : countN oo.data.toList 65535 = 0
          · rw [show prsL udpL [hh.data.toList, oo.data.toList, aa.data.toList] = none from (if_neg hhn).trans ((if_neg oon).trans (if_neg (by rw [oko_z hZ]; exact Bool.false_ne_true)))]
            exact (RPs_d_k3z s S hs hSs m hm hm0 hQ hP hS hh oo aa hl hh0 oo0 hF hZ w).mono fun e w' k => ⟨k.1.trans rfl, k.2⟩
          · have e8 : prsL udpL [hh.data.toList, oo.data.toList, aa.data.toList] = finP hh.data.toList (countN oo.data.toList 65535) aa.data.toList udpL := (if_neg hhn).trans ((if_neg oon).trans (if_pos (oko_yes hF hZ)))
            rw [e8]
            by_cases hE : countE aa.data.toList 65535 = 0
            · cases hr : rightB ⟨hh.data.toList, (countN oo.data.toList 65535), countN aa.data.toList 65535, udpL⟩ with
              | true =>
                rw [show finP hh.data.toList (countN oo.data.toList 65535) aa.data.toList udpL = some _ from fin_yes hE hr]
                exact (RPs_d_k3g s S hs hSs m hm hm0 hQ hP hS hh oo aa hl hh0 oo0 hF hZ hE hr w).mono fun e w' k => ⟨k.1.trans (prsE_some hh ⟨#[117, 100, 112]⟩ _ _).symm, k.2⟩
              | false =>
                rw [show finP hh.data.toList (countN oo.data.toList 65535) aa.data.toList udpL = none from fin_no hr]
                exact (RPs_d_k3r s S hs hSs m hm hm0 hQ hP hS hh oo aa hl hh0 oo0 hF hZ hE hr w).mono fun e w' k => ⟨k.1.trans rfl, k.2⟩
            · rw [show finP hh.data.toList (countN oo.data.toList 65535) aa.data.toList udpL = none from fin_bad hE]
              exact (RPs_d_k3e s S hs hSs m hm hm0 hQ hP hS hh oo aa hl hh0 oo0 hF hZ hE w).mono fun e w' k => ⟨k.1.trans rfl, k.2⟩
        · rw [show prsL udpL [hh.data.toList, oo.data.toList, aa.data.toList] = none from (if_neg hhn).trans ((if_neg oon).trans (if_neg (by rw [oko_f hF]; exact Bool.false_ne_true)))]
          exact (RPs_d_k3f s S hs hSs m hm hm0 hQ hP hS hh oo aa hl hh0 oo0 hF w).mono fun e w' k => ⟨k.1.trans rfl, k.2⟩
      · have ooe : oo = ByteArray.empty := ba_extP (List.length_eq_zero_iff.1 (show oo.size = 0 by omega))
        subst ooe
        have e8 : prsL udpL [hh.data.toList, ByteArray.empty.data.toList, aa.data.toList] = finP hh.data.toList 0 aa.data.toList udpL := (if_neg hhn).trans (if_pos rfl)
        rw [e8]
        by_cases hE : countE aa.data.toList 65535 = 0
        · cases hr : rightB ⟨hh.data.toList, 0, countN aa.data.toList 65535, udpL⟩ with
          | true =>
            rw [show finP hh.data.toList 0 aa.data.toList udpL = some _ from fin_yes hE hr]
            exact (RPs_d_k3mg s S hs hSs m hm hm0 hQ hP hS hh aa hl hh0 hE hr w).mono fun e w' k => ⟨k.1.trans (prsE_some hh ⟨#[117, 100, 112]⟩ _ _).symm, k.2⟩
          | false =>
            rw [show finP hh.data.toList 0 aa.data.toList udpL = none from fin_no hr]
            exact (RPs_d_k3mr s S hs hSs m hm hm0 hQ hP hS hh aa hl hh0 hE hr w).mono fun e w' k => ⟨k.1.trans rfl, k.2⟩
        · rw [show finP hh.data.toList 0 aa.data.toList udpL = none from fin_bad hE]
          exact (RPs_d_k3me s S hs hSs m hm hm0 hQ hP hS hh aa hl hh0 hE w).mono fun e w' k => ⟨k.1.trans rfl, k.2⟩
    · have hhe : hh = ByteArray.empty := ba_extP (List.length_eq_zero_iff.1 (show hh.size = 0 by omega))
      subst hhe
      rw [show prsL udpL [ByteArray.empty.data.toList, oo.data.toList, aa.data.toList] = none from prsL_e3 _ _ _]
      exact (RPs_d_k3zx s S hs hSs m hm hm0 hQ hP hS oo aa hl w).mono fun e w' k => ⟨k.1.trans rfl, k.2⟩
  · exact (RPs_d_k4x s S hs hSs m hm hm0 hQ hP hS _ hl (by simp) w).mono fun e w' k => ⟨k.1.trans rfl, k.2⟩
/-- The document's own Parse. -/
theorem RParse16_any (s : ByteArray) (w : World) (hs : s.size ≤ 100000) :
    Calls Tryd.prog 8 #[.string s] w fun e w' => e = PrsE (prsP s.data.toList) ∧ Below w.heap.size w w' := by
  have hlen : s.data.toList.length = s.size := rfl
  unfold prsP
  by_cases h4 : s.size ≤ 4
  · have e1 : sufP s.data.toList = (tcpL, s.data.toList) := by
      unfold sufP
      rw [if_neg (fun k => by have := k.1; omega), if_neg (fun k => by have := k.1; omega)]
    rw [e1]
    exact RPs_a s hs h4 w
  · obtain ⟨m, hm⟩ : ∃ m, s.size = m + 4 := ⟨s.size - 4, by omega⟩
    have hm0 : 0 < m := by omega
    have hx : (s.extract m s.size).data.toList = s.data.toList.drop m := by
      rw [ext_takeP, List.take_of_length_le (by rw [List.length_drop, hlen]; exact Nat.le_refl _)]
    have hl4 : s.data.toList.length - 4 = m := by omega
    have hx3 : ∀ c r, s.data.toList.drop m = c :: r → (s.extract (m + 1) s.size).data.toList = r := fun c r e => by
      rw [ext_takeP, List.take_of_length_le (by rw [List.length_drop, hlen]; exact Nat.le_refl _), ← List.drop_drop, e]; rfl
    obtain ⟨S, hS⟩ : ∃ S, s.extract 0 m = S := ⟨_, rfl⟩
    have hSd : S.data.toList = s.data.toList.take m := by rw [← hS, ext_takeP]; rfl
    have hSs : S.size ≤ 100000 := by
      show S.data.toList.length ≤ _
      rw [hSd, List.length_take]; omega
    by_cases ht : s.data.toList.drop m = 47 :: tcpL
    · have e1 : sufP s.data.toList = (tcpL, S.data.toList) := by
        unfold sufP
        rw [hl4, if_pos ⟨by omega, ht⟩, hSd]
      rw [e1]
      exact RPs_c s S hs hSs m hm hm0 (ba_extP (hx.trans ht)) (ba_extP (hx3 _ _ ht)) hS w
    · by_cases hu : s.data.toList.drop m = 47 :: udpL
      · have e1 : sufP s.data.toList = (udpL, S.data.toList) := by
          unfold sufP
          rw [hl4, if_neg (fun k => ht k.2), if_pos ⟨by omega, hu⟩, hSd]
        rw [e1]
        exact RPs_d s S hs hSs m hm hm0 (ba_extP (hx.trans hu)) (ba_extP (hx3 _ _ hu)) hS w
      · have e1 : sufP s.data.toList = (tcpL, s.data.toList) := by
          unfold sufP
          rw [hl4, if_neg (fun k => ht k.2), if_neg (fun k => hu k.2)]
        rw [e1]
        exact RPs_b s hs m hm hm0 (by rw [hx]; exact ht) (by rw [hx]; exact hu) w
end Go.Proofs.YtkgfinhepbipeaaDoor
