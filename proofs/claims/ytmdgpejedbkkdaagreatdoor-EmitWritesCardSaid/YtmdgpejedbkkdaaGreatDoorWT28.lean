/- FloRd1, FloRd2 -/
import Derived.Deep.LoopGhost
import Derived.Test.YtmdgpejedbkkdaaGreatDoorWT16
import Derived.Test.YtmdgpejedbkkdaaGreatDoorWT26
import Derived.Test.YtmdgpejedbkkdaaGreatDoorWT27
import Derived.Test.YtmdgpejedbkkdaaGreatDoorWT9
set_option linter.unusedVariables false
set_option linter.unusedSimpArgs false
set_option maxRecDepth 100000
set_option maxHeartbeats 16000000
open Go.Lib (hid)
namespace Go.Proofs.YtmdgpejedbkkdaaGreatDoor
section
open Go.RowKit Go.Sort
open Nw N8 Q6 F9 Go.ChangeShapes Go.WideShapes
theorem fcontains_any (s : ByteArray) (l : List UInt8) (hl : s.data.toList = l) (c : UInt8) (b : Bool) (hb : has l c = b) (w : World) :
  Calls Tryz.prog 186 #[.string s, .int .u8 c.toNat] w fun e w' => e = .returned (.bool b) ∧ w = w' := by
 subst hl; subst hb
 have H := hid (index_has s.data.toList c)
 have hc : ((c.toNat : Int)).toNat.toUInt8 = c := by simp
 have hI := Tryz.strings_IndexByte s (c.toNat : Int)
 rw [hc] at hI
 generalize Lib.indexByte s.data.toList c = x at *
 clear hc
 go_enter Tryz.func186, Tryz.ntmps186
 go_wp2_with (go_at_call 61; refine (hI _).mono ?_; rintro e w' ⟨rfl, hw⟩; subst hw)
 go_ret
 exact ⟨ret_b H.out, rfl⟩
theorem has_sp (c : UInt8) : has [44, 91, 93, 123, 125, 32] c = (isC 32 c || has marks c) := by
 have h1 : has marks c = (isC 44 c || (isC 91 c || (isC 93 c || (isC 123 c || isC 125 c)))) := by
  unfold has marks isC
  simp only [List.mem_cons, List.not_mem_nil, or_false, Bool.decide_or]
 have h2 : has [44, 91, 93, 123, 125, 32] c = (isC 44 c || (isC 91 c || (isC 93 c || (isC 123 c || (isC 125 c || isC 32 c))))) := by
  unfold has isC
  simp only [List.mem_cons, List.not_mem_nil, or_false, Bool.decide_or]
 rw [h1, h2]
 cases isC 44 c <;> cases isC 91 c <;> cases isC 93 c <;> cases isC 123 c <;> cases isC 125 c <;> cases isC 32 c <;> rfl
theorem colonEnd_any (s : ByteArray) (b : Bool) (h : (decide (s.data.toList = []) || isC 32 (s.data.toList.headD 0) || has marks (s.data.toList.headD 0)) = b) (w : World) :
  Calls Tryz.prog 187 #[.string s] w fun e w' => e = .returned (.bool b) ∧ w = w' := by
 by_cases h0 : s.data.toList = []
 ·obtain rfl := bytes_of (l := #[]) h0
  have HB : Hid (true = b) := hid (by rw [← h]; rfl)
  clear h h0
  go_enter Tryz.func187, Tryz.ntmps187
  go_wp2
  go_ret
  exact ⟨ret_b HB.out, rfl⟩
 ·have b0 : s.toList.isEmpty = false := by rw [ByteArray.toList_eq, List.isEmpty_eq_false_iff]; exact h0
  have b0' : ¬ s.toList = [] := by rw [ByteArray.toList_eq]; exact h0
  have hp : 0 < s.size := List.length_pos_iff.2 h0
  obtain ⟨c, hc⟩ : ∃ c, s[0]'hp = c := ⟨_, rfl⟩
  have hhd : s.data.toList.headD 0 = c := by rw [headD_getD, getd s 0 hp, hc]
  rw [decide_eq_false h0, Bool.false_or, hhd, ← has_sp] at h
  have HC := hid (fun W => fcontains_any ⟨#[44, 91, 93, 123, 125, 32]⟩ _ rfl c b h W)
  have hpz : (0 : Int) < (s.size : Int) := by omega
  clear h h0 hhd
  go_enter Tryz.func187, Tryz.ntmps187
  go_wp2_with (go_at_call 186; refine (HC.out _).mono ?_; rintro e w' ⟨rfl, rfl⟩)
  go_ret
  exact ⟨rfl, rfl⟩
theorem fpln_cons (c : UInt8) (l : L8) : pln (c :: l) = if stops c l then 0 else pln l + 1 := rfl
theorem plainEnd_any (s : ByteArray) (w : World) (n : Nat) (hn : s.size = n) (hs : n ≤ 1000000) (R : Nat) (hR : pln s.data.toList = R) :
  Calls Tryz.prog 172 #[.string s] w fun e w' => e = .returned (.int .i64 (R : Int)) ∧ w = w' := by
 have HR0 : Hid (0 + pln (s.data.toList.drop 0) = R) := hid (by rw [List.drop_zero, Nat.zero_add]; exact hR)
 have HLEN : Hid (s.data.toList.length = n) := hid ((len_eq s).trans hn)
 clear hR
 go_enter Tryz.func172, Tryz.ntmps172
 go_wp2
 go_loop [3, 6] (fun s3 si => ∃ j : Nat, j ≤ n ∧ si = .int .i64 (j : Int) ∧ Hid (j + pln (s.data.toList.drop j) = R)) (fun _ si => n - (intOf si).toNat)
 case atStart => exact ⟨0, Nat.zero_le _, rfl, HR0⟩
 case round =>
  clear HR0
  obtain ⟨j, hj, rfl, HR⟩ := hrel
  by_cases hlt : j < n
  ·have hjs : j < s.size := by omega
   have hjz : (j : Int) < (n : Int) := by omega
   have wj : IntKind.i64.wrap ((j : Int) + 1) = (j : Int) + 1 := IntWalk.i64_in _ (by omega)
   have pj : 0 ≤ (j : Int) + 1 := by omega
   have tj : ((j : Int) + 1).toNat = j + 1 := by omega
   have lj : (j : Int) + 1 ≤ (n : Int) := by omega
   obtain ⟨c, hc⟩ : ∃ c, s[j]'hjs = c := ⟨_, rfl⟩
   have hdr := drop_cons (l := s.data.toList) (k := j) (by rw [HLEN.out]; exact hlt)
   rw [getd s j hjs, hc] at hdr
   have HSTOP : Hid (stops c (s.data.toList.drop (j + 1)) = true → j = R) := hid (fun h => by
    have := HR.out
    rw [hdr, fpln_cons, if_pos h] at this
    omega)
   have HGO : Hid (stops c (s.data.toList.drop (j + 1)) = false → j + 1 + pln (s.data.toList.drop (j + 1)) = R) := hid (fun h => by
    have := HR.out
    rw [hdr, fpln_cons, h, if_neg Bool.false_ne_true] at this
    omega)
   clear hdr
   cases hm : has marks c with
   | true =>
    have HM := hid (fun W => fcontains_any ⟨#[44, 91, 93, 123, 125]⟩ _ rfl c true hm W)
    have HX : Hid (j = R) := hid (HSTOP.out (by unfold stops; rw [hm]; rfl))
    clear hm
    go_wp2_with (go_at_call 186; refine (HM.out _).mono ?_; rintro e w' ⟨rfl, rfl⟩)
    go_ret
    exact ⟨ret_i (by rw [HX.out]), rfl⟩
   | false =>
   have HM := hid (fun W => fcontains_any ⟨#[44, 91, 93, 123, 125]⟩ _ rfl c false hm W)
   cases h58 : isC 58 c with
   | false =>
    have m58 := (isC_beq 58 c 58 rfl).trans h58
    have HX := hid (HGO.out (by unfold stops; rw [hm, h58]; rfl))
    clear hm h58
    go_wp2_with (go_at_call 186; refine (HM.out _).mono ?_; rintro e w' ⟨rfl, rfl⟩)
    go_round
    case rel => exact ⟨j + 1, by omega, by go_num, HX⟩
    case measure => simp [intOf]; omega
   | true =>
   have m58 := (isC_beq 58 c 58 rfl).trans h58
   obtain ⟨t, ht⟩ : ∃ t, s.extract (j + 1) n = t := ⟨_, rfl⟩
   have htd : t.data.toList = s.data.toList.drop (j + 1) := by rw [← ht, ← hn]; exact rest_data s (j + 1)
   cases hst : stops c (s.data.toList.drop (j + 1)) with
   | true =>
    have HX : Hid (j = R) := hid (HSTOP.out hst)
    have HC := hid (fun W => colonEnd_any t true (by rw [htd]; unfold stops at hst; rw [hm, h58, Bool.false_or, Bool.true_and] at hst; exact hst) W)
    clear hm h58 hst htd HSTOP HGO
    go_wp2_with (first
     | (go_at_call 186; refine (HM.out _).mono ?_; rintro e w' ⟨rfl, rfl⟩)
     | (go_at_call 187; refine (HC.out _).mono ?_; rintro e w' ⟨rfl, rfl⟩))
    go_ret
    exact ⟨ret_i (by rw [HX.out]), rfl⟩
   | false =>
    have HX := hid (HGO.out hst)
    have HC := hid (fun W => colonEnd_any t false (by rw [htd]; unfold stops at hst; rw [hm, h58, Bool.false_or, Bool.true_and] at hst; exact hst) W)
    clear hm h58 hst htd HSTOP HGO
    go_wp2_with (first
     | (go_at_call 186; refine (HM.out _).mono ?_; rintro e w' ⟨rfl, rfl⟩)
     | (go_at_call 187; refine (HC.out _).mono ?_; rintro e w' ⟨rfl, rfl⟩))
    go_round
    case rel => exact ⟨j + 1, by omega, by go_num, HX⟩
    case measure => simp [intOf]; omega
  ·obtain rfl : j = n := by omega
   have HX : Hid (j = R) := hid (by
    have := HR.out
    rw [List.drop_of_length_le (by rw [HLEN.out]; exact Nat.le_refl _)] at this
    exact this)
   go_wp2
   go_ret
   exact ⟨ret_i (by rw [HX.out]), rfl⟩
end
section
open Go.RowKit Go.Sort
open Nw N8 Q6 F9 Go.ChangeShapes Go.WideShapes
theorem FText_any (s : ByteArray) (w : World) :
  Calls Tryz.prog 142 #[.string s] w fun e w' => e = .returned (.agg #[.int .i64 1, .string s, .slice none 0 0, .slice none 0 0]) ∧ Below w.heap.size w w' := by
 go_enter Tryz.func142, Tryz.ntmps142
 go_wp2
 refine bodyPost_ret (v := .agg #[.int .i64 1, .string s, .slice none 0 0, .slice none 0 0]) (by simp [results, Tryz.results142, go_sem]) rfl ⟨rfl, (Below.refl _ _).alloc (Nat.le_refl _) _⟩
def scE (P : Option Nd) : Int := match P with | none => 3 | some _ => 0
theorem FScalar_any (s : ByteArray) (row : Bool) (w : World) (hs : s.size ≤ 1000000) (P : Option Nd) (hP : sclS row s.data.toList = P) :
  Calls Tryz.prog 133 #[.string s, .bool row] w fun e w' => e = .returned (.tuple #[.agg #[.int .i64 (scK P), .string (scT P), .slice none 0 0, .slice none 0 0], .int .i64 (scE P)]) ∧ Below w.heap.size w w' := by
 by_cases h0 : s.data.toList = []
 ·obtain rfl := bytes_of (l := #[]) h0
  have HE : Hid (P = some nul) := hid (by rw [← hP]; rfl)
  clear hP h0
  go_enter Tryz.func133, Tryz.ntmps133
  go_wp2
  refine bodyPost_ret (v := .tuple #[.agg #[.int .i64 0, .string ⟨#[]⟩, .slice none 0 0, .slice none 0 0], .int .i64 0]) (by simp [results, Tryz.results133, go_sem]) rfl ⟨by rw [HE.out]; rfl, (Below.refl _ _).alloc (Nat.le_refl _) _⟩
 by_cases h1 : s.data.toList = [126]
 ·obtain rfl := bytes_of (l := #[126]) h1
  have HE : Hid (P = some nul) := hid (by rw [← hP]; rfl)
  clear hP h0 h1
  go_enter Tryz.func133, Tryz.ntmps133
  go_wp2
  refine bodyPost_ret (v := .tuple #[.agg #[.int .i64 0, .string ⟨#[]⟩, .slice none 0 0, .slice none 0 0], .int .i64 0]) (by simp [results, Tryz.results133, go_sem]) rfl ⟨by rw [HE.out]; rfl, (Below.refl _ _).alloc (Nat.le_refl _) _⟩
 by_cases h2 : s.data.toList = [110, 117, 108, 108]
 ·obtain rfl := bytes_of (l := #[110, 117, 108, 108]) h2
  have HE : Hid (P = some nul) := hid (by rw [← hP]; rfl)
  clear hP h0 h1 h2
  go_enter Tryz.func133, Tryz.ntmps133
  go_wp2
  refine bodyPost_ret (v := .tuple #[.agg #[.int .i64 0, .string ⟨#[]⟩, .slice none 0 0, .slice none 0 0], .int .i64 0]) (by simp [results, Tryz.results133, go_sem]) rfl ⟨by rw [HE.out]; rfl, (Below.refl _ _).alloc (Nat.le_refl _) _⟩
 have b0 : s.toList.isEmpty = false := by rw [ByteArray.toList_eq, List.isEmpty_eq_false_iff]; exact h0
 have b0' : ¬ s.toList = [] := by rw [ByteArray.toList_eq]; exact h0
 have b1 : (s.toList == [126]) = false := by rw [ByteArray.toList_eq]; exact beq_eq_false_iff_ne.2 h1
 have b2 : (s.toList == [110, 117, 108, 108]) = false := by rw [ByteArray.toList_eq]; exact beq_eq_false_iff_ne.2 h2
 have h3 : bad3 s.data.toList = false := by unfold bad3; rw [decide_eq_false h0, decide_eq_false h1, decide_eq_false h2]; rfl
 obtain ⟨z1, z2⟩ := scan_zero h0
 obtain ⟨n, hn⟩ : ∃ n, s.size = n := ⟨_, rfl⟩
 have hlen : s.data.toList.length = n := (len_eq s).trans hn
 have HROW := hid (fun b (h : rowB s.data.toList = b) W => Row_q s b W (by unfold maxLen; omega) h)
 have HPLA := hid (fun b (h : plainB s.data.toList = b) W => Plain_q s b W (by unfold maxLen; omega) h)
 have hsc := fun W q x y => Scan_any s 0 W hs (by omega) (by omega) q x y
 have HTX := hid FText_any
 have hW0 : Below w.heap.size w (w.alloc (.cells #[.int .i64 0, .string ⟨#[]⟩, .slice none 0 0, .slice none 0 0] 25)) := (Below.refl _ _).alloc (Nat.le_refl _) _
 have HR0 := hid (Row4.make w 25 (.int .i64 0) (.string ⟨#[]⟩) (.slice none 0 0) (.slice none 0 0))
 have HW0 := hid hW0
 clear hW0
 unfold sclS at hP
 rw [h3, if_neg Bool.false_ne_true] at hP
 cases hq : isQ (s.data.toList.headD 0) with
 | true =>
  obtain ⟨v1, v2, v3⟩ := z1 hq
  obtain ⟨p1, p2⟩ := plain_notQ hq
  rw [hq, p1, p2, Bool.true_and, ite_self] at hP
  have HB := hid (HPLA.out false p1)
  cases hc : scnP s.data.toList with
  | none =>
   rw [hc] at hP v1 v2 v3
   have HE : Hid (P = none) := hid (by rw [← hP]; rfl)
   have HSC := hid (hsc (w.alloc (.cells #[.int .i64 0, .string ⟨#[]⟩, .slice none 0 0, .slice none 0 0] 25)) ⟨#[]⟩ 0 3 (by rw [v1]; rfl) (by rw [v2]; rfl) (by rw [v3]; rfl))
   clear hP z1 z2 hsc h0 h1 h2 h3 hlen hq hc v1 v2 v3 p1 p2 HROW HPLA
   go_enter Tryz.func133, Tryz.ntmps133
   go_wp2_with fail
   refine HSC.out.mono ?_
   rintro e w2 ⟨rfl, hb⟩
   have HW := hid (HW0.out.trans (hb.mono HW0.out.size))
   have HR := hid (HR0.out.below hb HR0.out.lt)
   clear hb HR0 HSC
   obtain ⟨r0, r1, r2, r3⟩ := HR.out.cells
   obtain ⟨fr0, fr1, fr2, fr3⟩ := HR.out.frozen
   go_wp2_with (first
    | (go_at_call 24; refine (HB.out _).mono ?_; rintro e w3 ⟨rfl, rfl⟩)
    | fail)
   refine bodyPost_ret (v := .tuple #[.agg #[.int .i64 0, .string ⟨#[]⟩, .slice none 0 0, .slice none 0 0], .int .i64 3]) (by simp [results, Tryz.results133, go_sem, r0, r1, r2, r3]) rfl ⟨by rw [HE.out]; rfl, below_p4 HW.out (Nat.le_refl _) _ _ _ _⟩
  | some p =>
   obtain ⟨t, m⟩ := p
   rw [hc] at hP v1 v2 v3
   obtain ⟨q, hqq⟩ : ∃ q, ba t = q := ⟨_, rfl⟩
   have hql : q.data.toList = t := by rw [← hqq, ba_data]
   have HSC := hid (hsc (w.alloc (.cells #[.int .i64 0, .string ⟨#[]⟩, .slice none 0 0, .slice none 0 0] 25)) q (m : Int) 0 (by rw [v1, hql]; rfl) (by rw [v2]; rfl) (by rw [v3]; rfl))
   by_cases hm : m = n
   ·have HE : Hid (P = some (txt q.data.toList)) := hid (by rw [← hP, if_pos (by rw [hlen, hm]; exact decide_eq_true rfl), hql]; rfl)
    have HT : Hid (scT P = q) := hid (by rw [HE.out]; exact ba_of q)
    subst hm
    clear hP z1 z2 hsc h0 h1 h2 h3 hlen hq hc v1 v2 v3 p1 p2 HROW HPLA hqq hql HB
    go_enter Tryz.func133, Tryz.ntmps133
    go_wp2_with fail
    refine HSC.out.mono ?_
    rintro e w2 ⟨rfl, hb⟩
    have HW := hid (HW0.out.trans (hb.mono HW0.out.size))
    have HR := hid (HR0.out.below hb HR0.out.lt)
    clear hb HR0 HSC
    obtain ⟨r0, r1, r2, r3⟩ := HR.out.cells
    obtain ⟨fr0, fr1, fr2, fr3⟩ := HR.out.frozen
    go_wp2_with (first
     | (go_at_call 142; refine (HTX.out _ _).mono ?_; rintro e w4 ⟨rfl, hb⟩; replace HW := hid (HW.out.trans (hb.mono HW.out.size)); replace HR := hid (HR.out.below hb HR.out.lt); obtain ⟨r0, r1, r2, r3⟩ := HR.out.cells; obtain ⟨fr0, fr1, fr2, fr3⟩ := HR.out.frozen))
    refine bodyPost_ret (v := .tuple #[.agg #[.int .i64 1, .string q, .slice none 0 0, .slice none 0 0], .int .i64 0]) (by simp [results, Tryz.results133, go_sem, r0, r1, r2, r3]) rfl ⟨by rw [HT.out, HE.out]; rfl, below_p4 HW.out (Nat.le_refl _) _ _ _ _⟩
   ·have HE : Hid (P = none) := hid (by rw [← hP, if_neg (by rw [hlen]; intro e; exact hm (by have e := of_decide_eq_true e; injection e))]; rfl)
    have hmz : ((m : Int) == (n : Int)) = false := beq_eq_false_iff_ne.2 (by omega)
    clear hP z1 z2 hsc h0 h1 h2 h3 hlen hq hc v1 v2 v3 p1 p2 HROW HPLA hqq hql hm
    go_enter Tryz.func133, Tryz.ntmps133
    go_wp2_with fail
    refine HSC.out.mono ?_
    rintro e w2 ⟨rfl, hb⟩
    have HW := hid (HW0.out.trans (hb.mono HW0.out.size))
    have HR := hid (HR0.out.below hb HR0.out.lt)
    clear hb HR0 HSC
    obtain ⟨r0, r1, r2, r3⟩ := HR.out.cells
    obtain ⟨fr0, fr1, fr2, fr3⟩ := HR.out.frozen
    go_wp2_with (first
     | (go_at_call 24; refine (HB.out _).mono ?_; rintro e w3 ⟨rfl, rfl⟩)
     | fail)
    refine bodyPost_ret (v := .tuple #[.agg #[.int .i64 0, .string ⟨#[]⟩, .slice none 0 0, .slice none 0 0], .int .i64 3]) (by simp [results, Tryz.results133, go_sem, r0, r1, r2, r3]) rfl ⟨by rw [HE.out]; rfl, below_p4 HW.out (Nat.le_refl _) _ _ _ _⟩
 | false =>
  have v3 := z2 hq
  have vv : scanV s.data.toList 0 = [] ∧ scanN s.data.toList 0 = 0 := by
   have e : isQuote s.data.toList 0 = false := by
    cases hx : isQuote s.data.toList 0 with
    | false => rfl
    | true =>
     have := (scan_is hx).2.2
     rw [v3] at this
     unfold outE at this
     split at this <;> cases this
   exact ⟨(scan_no e).1, (scan_no e).2.1⟩
  have HSC := hid (hsc (w.alloc (.cells #[.int .i64 0, .string ⟨#[]⟩, .slice none 0 0, .slice none 0 0] 25)) ⟨#[]⟩ 0 2 (by rw [vv.1]) vv.2 v3)
  rw [hq, Bool.false_and, if_neg Bool.false_ne_true] at hP
  cases hpl : plainB s.data.toList with
  | false =>
   have hrf : rowB s.data.toList = false := Bool.eq_false_iff.2 fun e => by rw [row_plain e] at hpl; cases hpl
   rw [hpl, hrf, ite_self, if_neg Bool.false_ne_true] at hP
   have HE : Hid (P = none) := hid hP.symm
   have HB := hid (HPLA.out false hpl)
   clear hP z1 z2 hsc h0 h1 h2 h3 hlen hq v3 vv hpl hrf HROW HPLA
   go_enter Tryz.func133, Tryz.ntmps133
   go_wp2_with fail
   refine HSC.out.mono ?_
   rintro e w2 ⟨rfl, hb⟩
   have HW := hid (HW0.out.trans (hb.mono HW0.out.size))
   have HR := hid (HR0.out.below hb HR0.out.lt)
   clear hb HR0 HSC
   obtain ⟨r0, r1, r2, r3⟩ := HR.out.cells
   obtain ⟨fr0, fr1, fr2, fr3⟩ := HR.out.frozen
   go_wp2_with (first
    | (go_at_call 24; refine (HB.out _).mono ?_; rintro e w3 ⟨rfl, rfl⟩)
    | fail)
   refine bodyPost_ret (v := .tuple #[.agg #[.int .i64 0, .string ⟨#[]⟩, .slice none 0 0, .slice none 0 0], .int .i64 3]) (by simp [results, Tryz.results133, go_sem, r0, r1, r2, r3]) rfl ⟨by rw [HE.out]; rfl, below_p4 HW.out (Nat.le_refl _) _ _ _ _⟩
  | true =>
   have HB := hid (HPLA.out true hpl)
   cases row with
   | false =>
    rw [if_neg Bool.false_ne_true, hpl, if_pos rfl] at hP
    have HE : Hid (P = some (txt s.data.toList)) := hid hP.symm
    have HT : Hid (scT P = s) := hid (by rw [HE.out]; exact ba_of s)
    clear hP z1 z2 hsc h0 h1 h2 h3 hlen hq v3 vv hpl HROW HPLA
    go_enter Tryz.func133, Tryz.ntmps133
    go_wp2_with fail
    refine HSC.out.mono ?_
    rintro e w2 ⟨rfl, hb⟩
    have HW := hid (HW0.out.trans (hb.mono HW0.out.size))
    have HR := hid (HR0.out.below hb HR0.out.lt)
    clear hb HR0 HSC
    obtain ⟨r0, r1, r2, r3⟩ := HR.out.cells
    obtain ⟨fr0, fr1, fr2, fr3⟩ := HR.out.frozen
    go_wp2_with (first
     | (go_at_call 24; refine (HB.out _).mono ?_; rintro e w3 ⟨rfl, rfl⟩)
     | (go_at_call 142; refine (HTX.out _ _).mono ?_; rintro e w4 ⟨rfl, hb⟩; replace HW := hid (HW.out.trans (hb.mono HW.out.size)); replace HR := hid (HR.out.below hb HR.out.lt); obtain ⟨r0, r1, r2, r3⟩ := HR.out.cells; obtain ⟨fr0, fr1, fr2, fr3⟩ := HR.out.frozen))
    refine bodyPost_ret (v := .tuple #[.agg #[.int .i64 1, .string s, .slice none 0 0, .slice none 0 0], .int .i64 0]) (by simp [results, Tryz.results133, go_sem, r0, r1, r2, r3]) rfl ⟨by rw [HT.out, HE.out]; rfl, below_p4 HW.out (Nat.le_refl _) _ _ _ _⟩
   | true =>
    rw [if_pos rfl] at hP
    cases hrw : rowB s.data.toList with
    | false =>
     rw [hrw, if_neg Bool.false_ne_true] at hP
     have HE : Hid (P = none) := hid hP.symm
     have HB2 := hid (HROW.out false hrw)
     clear hP z1 z2 hsc h0 h1 h2 h3 hlen hq v3 vv hpl hrw HROW HPLA
     go_enter Tryz.func133, Tryz.ntmps133
     go_wp2_with fail
     refine HSC.out.mono ?_
     rintro e w2 ⟨rfl, hb⟩
     have HW := hid (HW0.out.trans (hb.mono HW0.out.size))
     have HR := hid (HR0.out.below hb HR0.out.lt)
     clear hb HR0 HSC
     obtain ⟨r0, r1, r2, r3⟩ := HR.out.cells
     obtain ⟨fr0, fr1, fr2, fr3⟩ := HR.out.frozen
     go_wp2_with (first
      | (go_at_call 24; refine (HB.out _).mono ?_; rintro e w3 ⟨rfl, rfl⟩)
      | (go_at_call 143; refine (HB2.out _).mono ?_; rintro e w3 ⟨rfl, rfl⟩))
     refine bodyPost_ret (v := .tuple #[.agg #[.int .i64 0, .string ⟨#[]⟩, .slice none 0 0, .slice none 0 0], .int .i64 3]) (by simp [results, Tryz.results133, go_sem, r0, r1, r2, r3]) rfl ⟨by rw [HE.out]; rfl, below_p4 HW.out (Nat.le_refl _) _ _ _ _⟩
    | true =>
     rw [hrw, if_pos rfl] at hP
     have HE : Hid (P = some (txt s.data.toList)) := hid hP.symm
     have HT : Hid (scT P = s) := hid (by rw [HE.out]; exact ba_of s)
     have HB2 := hid (HROW.out true hrw)
     clear hP z1 z2 hsc h0 h1 h2 h3 hlen hq v3 vv hpl hrw HROW HPLA
     go_enter Tryz.func133, Tryz.ntmps133
     go_wp2_with fail
     refine HSC.out.mono ?_
     rintro e w2 ⟨rfl, hb⟩
     have HW := hid (HW0.out.trans (hb.mono HW0.out.size))
     have HR := hid (HR0.out.below hb HR0.out.lt)
     clear hb HR0 HSC
     obtain ⟨r0, r1, r2, r3⟩ := HR.out.cells
     obtain ⟨fr0, fr1, fr2, fr3⟩ := HR.out.frozen
     go_wp2_with (first
      | (go_at_call 24; refine (HB.out _).mono ?_; rintro e w3 ⟨rfl, rfl⟩)
      | (go_at_call 143; refine (HB2.out _).mono ?_; rintro e w3 ⟨rfl, rfl⟩)
      | (go_at_call 142; refine (HTX.out _ _).mono ?_; rintro e w4 ⟨rfl, hb⟩; replace HW := hid (HW.out.trans (hb.mono HW.out.size)); replace HR := hid (HR.out.below hb HR.out.lt); obtain ⟨r0, r1, r2, r3⟩ := HR.out.cells; obtain ⟨fr0, fr1, fr2, fr3⟩ := HR.out.frozen))
     refine bodyPost_ret (v := .tuple #[.agg #[.int .i64 1, .string s, .slice none 0 0, .slice none 0 0], .int .i64 0]) (by simp [results, Tryz.results133, go_sem, r0, r1, r2, r3]) rfl ⟨by rw [HT.out, HE.out]; rfl, below_p4 HW.out (Nat.le_refl _) _ _ _ _⟩
end
end Go.Proofs.YtmdgpejedbkkdaaGreatDoor
