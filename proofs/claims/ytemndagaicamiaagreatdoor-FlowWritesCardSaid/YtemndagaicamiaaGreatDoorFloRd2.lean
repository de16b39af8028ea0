/- The contract of the program's Scalar. -/
import Derived.Test.YtemndagaicamiaaGreatDoorFloRd1
namespace Go.Proofs.YtemndagaicamiaaGreatDoor
open Go.RowKit Go.Sort
open Nw N8 Q6 F9 Go.ChangeShapes Go.WideShapes
set_option linter.unusedVariables false
theorem FText_any (s : ByteArray) (w : World) :
    Calls Tryz.prog 58 #[.string s] w fun e w' => e = .returned (.agg #[.int .i64 1, .string s, .slice none 0 0, .slice none 0 0]) ∧ Below w.heap.size w w' := by
  go_enter Tryz.func58, Tryz.ntmps58
  go_wp2
  refine bodyPost_ret (v := .agg #[.int .i64 1, .string s, .slice none 0 0, .slice none 0 0]) (by simp [results, Tryz.results58, go_sem]) rfl ⟨rfl, (Below.refl _ _).alloc (Nat.le_refl _) _⟩
/-- The error's number: ErrSyntax, or none. -/
def scE (P : Option Nd) : Int := match P with | none => 3 | some _ => 0
set_option maxRecDepth 100000 in
set_option maxHeartbeats 16000000 in
theorem FScalar_any (s : ByteArray) (row : Bool) (w : World) (hs : s.size ≤ 1000000) (P : Option Nd) (hP : sclS row s.data.toList = P) :
    Calls Tryz.prog 42 #[.string s, .bool row] w fun e w' => e = .returned (.tuple #[.agg #[.int .i64 (scK P), .string (scT P), .slice none 0 0, .slice none 0 0], .int .i64 (scE P)]) ∧ Below w.heap.size w w' := by
  by_cases h0 : s.data.toList = []
  · obtain rfl := bytes_of (l := #[]) h0
    have HE : Hid (P = some nul) := Lib.hid (by rw [← hP]; rfl)
    clear hP h0
    go_enter Tryz.func42, Tryz.ntmps42
    go_wp2
    refine bodyPost_ret (v := .tuple #[.agg #[.int .i64 0, .string ⟨#[]⟩, .slice none 0 0, .slice none 0 0], .int .i64 0]) (by simp [results, Tryz.results42, go_sem]) rfl ⟨by rw [HE.out]; rfl, (Below.refl _ _).alloc (Nat.le_refl _) _⟩
  by_cases h1 : s.data.toList = [126]
  · obtain rfl := bytes_of (l := #[126]) h1
    have HE : Hid (P = some nul) := Lib.hid (by rw [← hP]; rfl)
    clear hP h0 h1
    go_enter Tryz.func42, Tryz.ntmps42
    go_wp2
    refine bodyPost_ret (v := .tuple #[.agg #[.int .i64 0, .string ⟨#[]⟩, .slice none 0 0, .slice none 0 0], .int .i64 0]) (by simp [results, Tryz.results42, go_sem]) rfl ⟨by rw [HE.out]; rfl, (Below.refl _ _).alloc (Nat.le_refl _) _⟩
  by_cases h2 : s.data.toList = [110, 117, 108, 108]
  · obtain rfl := bytes_of (l := #[110, 117, 108, 108]) h2
    have HE : Hid (P = some nul) := Lib.hid (by rw [← hP]; rfl)
    clear hP h0 h1 h2
    go_enter Tryz.func42, Tryz.ntmps42
    go_wp2
    refine bodyPost_ret (v := .tuple #[.agg #[.int .i64 0, .string ⟨#[]⟩, .slice none 0 0, .slice none 0 0], .int .i64 0]) (by simp [results, Tryz.results42, go_sem]) rfl ⟨by rw [HE.out]; rfl, (Below.refl _ _).alloc (Nat.le_refl _) _⟩
  have b0 : s.toList.isEmpty = false := by rw [ByteArray.toList_eq, List.isEmpty_eq_false_iff]; exact h0
  have b0' : ¬ s.toList = [] := by rw [ByteArray.toList_eq]; exact h0
  have b1 : (s.toList == [126]) = false := by rw [ByteArray.toList_eq]; exact beq_eq_false_iff_ne.2 h1
  have b2 : (s.toList == [110, 117, 108, 108]) = false := by rw [ByteArray.toList_eq]; exact beq_eq_false_iff_ne.2 h2
  have h3 : bad3 s.data.toList = false := by unfold bad3; rw [decide_eq_false h0, decide_eq_false h1, decide_eq_false h2]; rfl
  obtain ⟨z1, z2⟩ := scan_zero h0
  obtain ⟨n, hn⟩ : ∃ n, s.size = n := ⟨_, rfl⟩
  have hlen : s.data.toList.length = n := (len_eq s).trans hn
  have HROW := Lib.hid (fun b (h : rowB s.data.toList = b) W => Row_q s b W (by unfold maxLen; omega) h)
  have HPLA := Lib.hid (fun b (h : plainB s.data.toList = b) W => Plain_q s b W (by unfold maxLen; omega) h)
  have hsc := fun W q x y => Scan_any s 0 W hs (by omega) (by omega) q x y
  have HTX := Lib.hid FText_any
  have hW0 : Below w.heap.size w (w.alloc (.cells #[.int .i64 0, .string ⟨#[]⟩, .slice none 0 0, .slice none 0 0] 25)) := (Below.refl _ _).alloc (Nat.le_refl _) _
  have HR0 := Lib.hid (Row4.make w 25 (.int .i64 0) (.string ⟨#[]⟩) (.slice none 0 0) (.slice none 0 0))
  have HW0 := Lib.hid hW0
  clear hW0
  unfold sclS at hP
  rw [h3, if_neg Bool.false_ne_true] at hP
  cases hq : isQ (s.data.toList.headD 0) with
  | true =>
    obtain ⟨v1, v2, v3⟩ := z1 hq
    obtain ⟨p1, p2⟩ := plain_notQ hq
    rw [hq, p1, p2, Bool.true_and, ite_self] at hP
    have HB := Lib.hid (HPLA.out false p1)
    cases hc : scnP s.data.toList with
    | none =>
      rw [hc] at hP v1 v2 v3
      have HE : Hid (P = none) := Lib.hid (by rw [← hP]; rfl)
      have HSC := Lib.hid (hsc (w.alloc (.cells #[.int .i64 0, .string ⟨#[]⟩, .slice none 0 0, .slice none 0 0] 25)) ⟨#[]⟩ 0 3 (by rw [v1]; rfl) (by rw [v2]; rfl) (by rw [v3]; rfl))
      clear hP z1 z2 hsc h0 h1 h2 h3 hlen hq hc v1 v2 v3 p1 p2 HROW HPLA
      go_enter Tryz.func42, Tryz.ntmps42
      go_wp2_with fail
      refine HSC.out.mono ?_
      rintro e w2 ⟨rfl, hb⟩
      have HW := Lib.hid (HW0.out.trans (hb.mono HW0.out.size))
      have HR := Lib.hid (HR0.out.below hb HR0.out.lt)
      clear hb HR0 HSC
      obtain ⟨r0, r1, r2, r3⟩ := HR.out.cells
      obtain ⟨fr0, fr1, fr2, fr3⟩ := HR.out.frozen
      go_wp2_with (first
        | (go_at_call 34; refine (HB.out _).mono ?_; rintro e w3 ⟨rfl, rfl⟩)
        | fail)
      refine bodyPost_ret (v := .tuple #[.agg #[.int .i64 0, .string ⟨#[]⟩, .slice none 0 0, .slice none 0 0], .int .i64 3]) (by simp [results, Tryz.results42, go_sem, r0, r1, r2, r3]) rfl ⟨by rw [HE.out]; rfl, below_p4 HW.out (Nat.le_refl _) _ _ _ _⟩
    | some p =>
      obtain ⟨t, m⟩ := p
      rw [hc] at hP v1 v2 v3
      obtain ⟨q, hqq⟩ : ∃ q, ba t = q := ⟨_, rfl⟩
      have hql : q.data.toList = t := by rw [← hqq, ba_data]
      have HSC := Lib.hid (hsc (w.alloc (.cells #[.int .i64 0, .string ⟨#[]⟩, .slice none 0 0, .slice none 0 0] 25)) q (m : Int) 0 (by rw [v1, hql]; rfl) (by rw [v2]; rfl) (by rw [v3]; rfl))
      by_cases hm : m = n
      · have HE : Hid (P = some (txt q.data.toList)) := Lib.hid (by rw [← hP, if_pos (by rw [hlen, hm]; exact decide_eq_true rfl), hql]; rfl)
        have HT : Hid (scT P = q) := Lib.hid (by rw [HE.out]; exact ba_of q)
        subst hm
        clear hP z1 z2 hsc h0 h1 h2 h3 hlen hq hc v1 v2 v3 p1 p2 HROW HPLA hqq hql HB
        go_enter Tryz.func42, Tryz.ntmps42
        go_wp2_with fail
        refine HSC.out.mono ?_
        rintro e w2 ⟨rfl, hb⟩
        have HW := Lib.hid (HW0.out.trans (hb.mono HW0.out.size))
        have HR := Lib.hid (HR0.out.below hb HR0.out.lt)
        clear hb HR0 HSC
        obtain ⟨r0, r1, r2, r3⟩ := HR.out.cells
        obtain ⟨fr0, fr1, fr2, fr3⟩ := HR.out.frozen
        go_wp2_with (first
          | (go_at_call 58; refine (HTX.out _ _).mono ?_; rintro e w4 ⟨rfl, hb⟩; replace HW := Lib.hid (HW.out.trans (hb.mono HW.out.size)); replace HR := Lib.hid (HR.out.below hb HR.out.lt); obtain ⟨r0, r1, r2, r3⟩ := HR.out.cells; obtain ⟨fr0, fr1, fr2, fr3⟩ := HR.out.frozen))
        refine bodyPost_ret (v := .tuple #[.agg #[.int .i64 1, .string q, .slice none 0 0, .slice none 0 0], .int .i64 0]) (by simp [results, Tryz.results42, go_sem, r0, r1, r2, r3]) rfl ⟨by rw [HT.out, HE.out]; rfl, below_p4 HW.out (Nat.le_refl _) _ _ _ _⟩
      · have HE : Hid (P = none) := Lib.hid (by rw [← hP, if_neg (by rw [hlen]; intro e; exact hm (by have e := of_decide_eq_true e; injection e))]; rfl)
        have hmz : ((m : Int) == (n : Int)) = false := beq_eq_false_iff_ne.2 (by omega)
        clear hP z1 z2 hsc h0 h1 h2 h3 hlen hq hc v1 v2 v3 p1 p2 HROW HPLA hqq hql hm
        go_enter Tryz.func42, Tryz.ntmps42
        go_wp2_with fail
        refine HSC.out.mono ?_
        rintro e w2 ⟨rfl, hb⟩
        have HW := Lib.hid (HW0.out.trans (hb.mono HW0.out.size))
        have HR := Lib.hid (HR0.out.below hb HR0.out.lt)
        clear hb HR0 HSC
        obtain ⟨r0, r1, r2, r3⟩ := HR.out.cells
        obtain ⟨fr0, fr1, fr2, fr3⟩ := HR.out.frozen
        go_wp2_with (first
          | (go_at_call 34; refine (HB.out _).mono ?_; rintro e w3 ⟨rfl, rfl⟩)
          | fail)
        refine bodyPost_ret (v := .tuple #[.agg #[.int .i64 0, .string ⟨#[]⟩, .slice none 0 0, .slice none 0 0], .int .i64 3]) (by simp [results, Tryz.results42, go_sem, r0, r1, r2, r3]) rfl ⟨by rw [HE.out]; rfl, below_p4 HW.out (Nat.le_refl _) _ _ _ _⟩
  | false =>
    have v3 := z2 hq
    have vv : scanV s.data.toList 0 = [] ∧ scanN s.data.toList 0 = 0 := by
      have e : isQuote s.data.toList 0 = false := by
        cases hx : isQuote s.data.toList 0 with
        | false => rfl
        | true =>
          have := (scan_is hx).2.2
          rw [v3] at this
          unfold outE at this
          split at this <;> cases this
      exact ⟨(scan_no e).1, (scan_no e).2.1⟩
    have HSC := Lib.hid (hsc (w.alloc (.cells #[.int .i64 0, .string ⟨#[]⟩, .slice none 0 0, .slice none 0 0] 25)) ⟨#[]⟩ 0 2 (by rw [vv.1]) vv.2 v3)
    rw [hq, Bool.false_and, if_neg Bool.false_ne_true] at hP
    cases hpl : plainB s.data.toList with
    | false =>
      have hrf : rowB s.data.toList = false := Bool.eq_false_iff.2 fun e => by rw [row_plain e] at hpl; cases hpl
      rw [hpl, hrf, ite_self, if_neg Bool.false_ne_true] at hP
      have HE : Hid (P = none) := Lib.hid hP.symm
      have HB := Lib.hid (HPLA.out false hpl)
      clear hP z1 z2 hsc h0 h1 h2 h3 hlen hq v3 vv hpl hrf HROW HPLA
      go_enter Tryz.func42, Tryz.ntmps42
      go_wp2_with fail
      refine HSC.out.mono ?_
      rintro e w2 ⟨rfl, hb⟩
      have HW := Lib.hid (HW0.out.trans (hb.mono HW0.out.size))
      have HR := Lib.hid (HR0.out.below hb HR0.out.lt)
      clear hb HR0 HSC
      obtain ⟨r0, r1, r2, r3⟩ := HR.out.cells
      obtain ⟨fr0, fr1, fr2, fr3⟩ := HR.out.frozen
      go_wp2_with (first
        | (go_at_call 34; refine (HB.out _).mono ?_; rintro e w3 ⟨rfl, rfl⟩)
        | fail)
      refine bodyPost_ret (v := .tuple #[.agg #[.int .i64 0, .string ⟨#[]⟩, .slice none 0 0, .slice none 0 0], .int .i64 3]) (by simp [results, Tryz.results42, go_sem, r0, r1, r2, r3]) rfl ⟨by rw [HE.out]; rfl, below_p4 HW.out (Nat.le_refl _) _ _ _ _⟩
    | true =>
      have HB := Lib.hid (HPLA.out true hpl)
      cases row with
      | false =>
        rw [if_neg Bool.false_ne_true, hpl, if_pos rfl] at hP
        have HE : Hid (P = some (txt s.data.toList)) := Lib.hid hP.symm
        have HT : Hid (scT P = s) := Lib.hid (by rw [HE.out]; exact ba_of s)
        clear hP z1 z2 hsc h0 h1 h2 h3 hlen hq v3 vv hpl HROW HPLA
        go_enter Tryz.func42, Tryz.ntmps42
        go_wp2_with fail
        refine HSC.out.mono ?_
        rintro e w2 ⟨rfl, hb⟩
        have HW := Lib.hid (HW0.out.trans (hb.mono HW0.out.size))
        have HR := Lib.hid (HR0.out.below hb HR0.out.lt)
        clear hb HR0 HSC
        obtain ⟨r0, r1, r2, r3⟩ := HR.out.cells
        obtain ⟨fr0, fr1, fr2, fr3⟩ := HR.out.frozen
        go_wp2_with (first
          | (go_at_call 34; refine (HB.out _).mono ?_; rintro e w3 ⟨rfl, rfl⟩)
          | (go_at_call 58; refine (HTX.out _ _).mono ?_; rintro e w4 ⟨rfl, hb⟩; replace HW := Lib.hid (HW.out.trans (hb.mono HW.out.size)); replace HR := Lib.hid (HR.out.below hb HR.out.lt); obtain ⟨r0, r1, r2, r3⟩ := HR.out.cells; obtain ⟨fr0, fr1, fr2, fr3⟩ := HR.out.frozen))
        refine bodyPost_ret (v := .tuple #[.agg #[.int .i64 1, .string s, .slice none 0 0, .slice none 0 0], .int .i64 0]) (by simp [results, Tryz.results42, go_sem, r0, r1, r2, r3]) rfl ⟨by rw [HT.out, HE.out]; rfl, below_p4 HW.out (Nat.le_refl _) _ _ _ _⟩
      | true =>
        rw [if_pos rfl] at hP
        cases hrw : rowB s.data.toList with
        | false =>
          rw [hrw, if_neg Bool.false_ne_true] at hP
          have HE : Hid (P = none) := Lib.hid hP.symm
          have HB2 := Lib.hid (HROW.out false hrw)
          clear hP z1 z2 hsc h0 h1 h2 h3 hlen hq v3 vv hpl hrw HROW HPLA
          go_enter Tryz.func42, Tryz.ntmps42
          go_wp2_with fail
          refine HSC.out.mono ?_
          rintro e w2 ⟨rfl, hb⟩
          have HW := Lib.hid (HW0.out.trans (hb.mono HW0.out.size))
          have HR := Lib.hid (HR0.out.below hb HR0.out.lt)
          clear hb HR0 HSC
          obtain ⟨r0, r1, r2, r3⟩ := HR.out.cells
          obtain ⟨fr0, fr1, fr2, fr3⟩ := HR.out.frozen
          go_wp2_with (first
            | (go_at_call 34; refine (HB.out _).mono ?_; rintro e w3 ⟨rfl, rfl⟩)
            | (go_at_call 35; refine (HB2.out _).mono ?_; rintro e w3 ⟨rfl, rfl⟩))
          refine bodyPost_ret (v := .tuple #[.agg #[.int .i64 0, .string ⟨#[]⟩, .slice none 0 0, .slice none 0 0], .int .i64 3]) (by simp [results, Tryz.results42, go_sem, r0, r1, r2, r3]) rfl ⟨by rw [HE.out]; rfl, below_p4 HW.out (Nat.le_refl _) _ _ _ _⟩
        | true =>
          rw [hrw, if_pos rfl] at hP
          have HE : Hid (P = some (txt s.data.toList)) := Lib.hid hP.symm
          have HT : Hid (scT P = s) := Lib.hid (by rw [HE.out]; exact ba_of s)
          have HB2 := Lib.hid (HROW.out true hrw)
          clear hP z1 z2 hsc h0 h1 h2 h3 hlen hq v3 vv hpl hrw HROW HPLA
          go_enter Tryz.func42, Tryz.ntmps42
          go_wp2_with fail
          refine HSC.out.mono ?_
          rintro e w2 ⟨rfl, hb⟩
          have HW := Lib.hid (HW0.out.trans (hb.mono HW0.out.size))
          have HR := Lib.hid (HR0.out.below hb HR0.out.lt)
          clear hb HR0 HSC
          obtain ⟨r0, r1, r2, r3⟩ := HR.out.cells
          obtain ⟨fr0, fr1, fr2, fr3⟩ := HR.out.frozen
          go_wp2_with (first
            | (go_at_call 34; refine (HB.out _).mono ?_; rintro e w3 ⟨rfl, rfl⟩)
            | (go_at_call 35; refine (HB2.out _).mono ?_; rintro e w3 ⟨rfl, rfl⟩)
            | (go_at_call 58; refine (HTX.out _ _).mono ?_; rintro e w4 ⟨rfl, hb⟩; replace HW := Lib.hid (HW.out.trans (hb.mono HW.out.size)); replace HR := Lib.hid (HR.out.below hb HR.out.lt); obtain ⟨r0, r1, r2, r3⟩ := HR.out.cells; obtain ⟨fr0, fr1, fr2, fr3⟩ := HR.out.frozen))
          refine bodyPost_ret (v := .tuple #[.agg #[.int .i64 1, .string s, .slice none 0 0, .slice none 0 0], .int .i64 0]) (by simp [results, Tryz.results42, go_sem, r0, r1, r2, r3]) rfl ⟨by rw [HT.out, HE.out]; rfl, below_p4 HW.out (Nat.le_refl _) _ _ _ _⟩
end Go.Proofs.YtemndagaicamiaaGreatDoor
