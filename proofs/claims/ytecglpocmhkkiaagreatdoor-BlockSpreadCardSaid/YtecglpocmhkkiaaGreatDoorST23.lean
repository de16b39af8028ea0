/- FloRd3, FloRd4 -/
import Derived.Deep.CutRange
import Derived.Deep.RegionHeld3
import Derived.Test.YtecglpocmhkkiaaGreatDoorST22
set_option linter.unusedVariables false
set_option linter.unusedSimpArgs false
set_option maxRecDepth 100000
set_option maxHeartbeats 16000000
open Go.Lib (hid)
namespace Go.Proofs.YtecglpocmhkkiaaGreatDoor
open Go.RowKit Go.Sort
open Nw N8 Q6 F9 Go.ChangeShapes Go.WideShapes
namespace F9
theorem trimL_blk (l : L8) : Lib.trimLeftB l 32 = l.drop (blk l) := by
 unfold Lib.trimLeftB
 induction l with
 | nil => rfl
 | cons c l ih =>
  rw [List.dropWhile_cons, blk_cons]
  by_cases h : c = 32
  ·subst h
   rw [if_pos rfl, if_pos (show ((32 : UInt8) == 32) = true from rfl), List.drop_succ_cons]
   exact ih
  ·rw [beq_eq_false_iff_ne.2 h, if_neg Bool.false_ne_true, if_neg h]; rfl
theorem pre_one (c : UInt8) (hc : c ≠ 0) (l : L8) : Lib.hasPrefix l [c] = isC c (l.headD 0) := by
 unfold Lib.hasPrefix
 cases l with
 | nil => show false = isC c 0; exact (decide_eq_false (fun e => hc e.symm)).symm
 | cons d l =>
  show (c == d && [].isPrefixOf l) = isC c d
  rw [List.isPrefixOf_nil_left, Bool.and_true]
  unfold isC
  rw [Bool.eq_iff_iff]
  simp only [beq_iff_eq, decide_eq_true_eq]
  exact ⟨fun h => h.symm, fun h => h.symm⟩
end F9
section
variable {b0 g B m n cap lo : Nat} {w : World} {r : ByteArray} {q : Q4} {qs : List Q4} {f : Fr} {S : List Fr}
theorem skip_rs (h : RS b0 g B m n cap w r lo q qs f S) (r' : ByteArray) (hr : r'.data.toList = r.data.toList.drop (blk r.data.toList)) :
  Calls Tryz.prog 167 #[.pointer (some ⟨g, 0, none⟩)] w fun e w' => e = .returned (.tuple #[]) ∧ RS b0 g B m n cap w' r' lo q qs f S ∧ Below b0 w w' := by
 have hT : ∀ W, Calls Tryz.prog 53 #[.string r, .string ⟨#[32]⟩] W fun e w' => e = .returned (.string r') ∧ w' = W := fun W => by
  refine (Tryz.strings_TrimLeft_one r 32 (by decide) W).mono ?_
  rintro e w' ⟨rfl, rfl⟩
  refine ⟨?_, rfl⟩
  rw [trimL_blk, ← hr]
 have HT := hid hT
 have HF := hid (h.text r')
 have HB := hid (below_text (Below.refl b0 w) h.below_g r')
 obtain ⟨⟨c0, c1⟩, f0, f1⟩ := h.cells
 clear h hT hr
 go_enter Tryz.func167, Tryz.ntmps167
 go_wp2_with (go_at_call 53; refine (HT.out _).mono ?_; rintro e w' ⟨rfl, rfl⟩)
 go_end0
 exact ⟨rfl, HF.out, HB.out⟩
theorem isNext_rs (h : RS b0 g B m n cap w r lo q qs f S) (c : UInt8) (hc : c ≠ 0) (r' : ByteArray) (hr : r'.data.toList = r.data.toList.drop (blk r.data.toList)) (b : Bool) (hb : isC c (r'.data.toList.headD 0) = b) :
  Calls Tryz.prog 164 #[.pointer (some ⟨g, 0, none⟩), .string ⟨#[c]⟩] w fun e w' => e = .returned (.bool b) ∧ RS b0 g B m n cap w' r' lo q qs f S ∧ Below b0 w w' := by
 have HS := hid (skip_rs h r' hr)
 have HP := hid (fun W => (Tryz.strings_HasPrefix r' ⟨#[c]⟩ W).mono (R' := fun e w' => e = .returned (.bool b) ∧ w' = W) fun e w' ⟨h1, h2⟩ => ⟨by rw [h1]; exact ret_b ((pre_one c hc _).trans hb), h2⟩)
 clear h hr hb
 go_enter Tryz.func164, Tryz.ntmps164
 go_wp2_with fail
 refine HS.out.mono ?_
 rintro e w1 ⟨rfl, hR, hB⟩
 obtain ⟨⟨c0, c1⟩, f0, f1⟩ := hR.cells
 have HR := hid hR
 have HB := hid hB
 clear hR hB
 go_wp2_with (go_at_call 31; refine (HP.out _).mono ?_; rintro e w' ⟨rfl, rfl⟩)
 go_ret
 exact ⟨rfl, HR.out, HB.out⟩
theorem take_rs (h : RS b0 g B m n cap w r lo q qs f S) (c : UInt8) (hc : c ≠ 0) (hs : r.size ≤ 1000000) (b : Bool) (hb : isC c ((r.data.toList.drop (blk r.data.toList)).headD 0) = b) (r2 : ByteArray) (hr : r2.data.toList = if b then r.data.toList.drop (blk r.data.toList + 1) else r.data.toList.drop (blk r.data.toList)) :
  Calls Tryz.prog 154 #[.pointer (some ⟨g, 0, none⟩), .string ⟨#[c]⟩] w fun e w' => e = .returned (.bool b) ∧ RS b0 g B m n cap w' r2 lo q qs f S ∧ Below b0 w w' := by
 obtain ⟨r', hr'⟩ : ∃ r' : ByteArray, r'.data.toList = r.data.toList.drop (blk r.data.toList) := ⟨ba (r.data.toList.drop (blk r.data.toList)), ba_data _⟩
 rw [← hr'] at hb
 have HS := hid (isNext_rs h c hc r' hr' b hb)
 cases b with
 | false =>
  have HE : Hid (r' = r2) := hid (bytes_ext (by rw [hr', hr]; rfl))
  clear h hr hr' hb
  go_enter Tryz.func154, Tryz.ntmps154
  go_wp2_with fail
  refine HS.out.mono ?_
  rintro e w1 ⟨rfl, hR, hB⟩
  rw [HE.out] at hR
  have HR := hid hR
  have HB := hid hB
  clear hR hB
  go_wp2
  go_ret
  exact ⟨rfl, HR.out, HB.out⟩
 | true =>
  have hne : r'.data.toList ≠ [] := fun e => by rw [e] at hb; exact hc (isC_iff.1 hb).symm
  have hp : 1 ≤ r'.size := List.length_pos_iff.2 hne
  have hp1 : (1 : Int) ≤ (r'.size : Int) := by omega
  have hx : r'.extract 1 r'.size = r2 := bytes_ext (by
   rw [rest_data, hr, hr', if_pos rfl, List.drop_drop])
  clear h hr hr' hb hne
  go_enter Tryz.func154, Tryz.ntmps154
  go_wp2_with fail
  refine HS.out.mono ?_
  rintro e w1 ⟨rfl, hR, hB⟩
  obtain ⟨⟨c0, c1⟩, f0, f1⟩ := hR.cells
  have HR := hid (hR.text r2)
  have HB := hid (below_text hB hR.below_g r2)
  clear hR hB
  go_wp2
  go_ret
  exact ⟨rfl, HR.out, HB.out⟩
theorem isDone_rs (h : RS b0 g B m n cap w r lo q qs f S) (b : Bool) (hb : decide (r.data.toList.length = blk r.data.toList) = b) :
  Calls Tryz.prog 153 #[.pointer (some ⟨g, 0, none⟩)] w fun e w' => e = .returned (.bool b) ∧ (∃ r', RS b0 g B m n cap w' r' lo q qs f S) ∧ Below b0 w w' := by
 obtain ⟨r', hr'⟩ : ∃ r' : ByteArray, r'.data.toList = r.data.toList.drop (blk r.data.toList) := ⟨ba (r.data.toList.drop (blk r.data.toList)), ba_data _⟩
 have HS := hid (skip_rs h r' hr')
 have hle := blk_le r.data.toList
 have hl : r'.data.toList.length = r.data.toList.length - blk r.data.toList := by rw [hr', List.length_drop]
 by_cases h0 : r'.data.toList = []
 ·have HE : Hid (true = b) := hid (by
   rw [← hb]
   refine (decide_eq_true ?_).symm
   rw [h0, List.length_nil] at hl
   omega)
  obtain rfl := bytes_of (l := #[]) h0
  clear h hr' hb hle hl h0
  go_enter Tryz.func153, Tryz.ntmps153
  go_wp2_with fail
  refine HS.out.mono ?_
  rintro e w1 ⟨rfl, hR, hB⟩
  obtain ⟨⟨c0, c1⟩, f0, f1⟩ := hR.cells
  have HR := hid hR
  have HB := hid hB
  clear hR hB
  go_wp2
  go_ret
  exact ⟨ret_b HE.out, ⟨_, HR.out⟩, HB.out⟩
 ·have HE : Hid (false = b) := hid (by
   rw [← hb]
   refine (decide_eq_false fun e => h0 ?_).symm
   exact List.length_eq_zero_iff.1 (by omega))
  have b0 : r'.toList.isEmpty = false := by rw [ByteArray.toList_eq, List.isEmpty_eq_false_iff]; exact h0
  have b0' : ¬ r'.toList = [] := by rw [ByteArray.toList_eq]; exact h0
  clear h hr' hb hle hl h0
  go_enter Tryz.func153, Tryz.ntmps153
  go_wp2_with fail
  refine HS.out.mono ?_
  rintro e w1 ⟨rfl, hR, hB⟩
  obtain ⟨⟨c0, c1⟩, f0, f1⟩ := hR.cells
  have HR := hid hR
  have HB := hid hB
  clear hR hB
  go_wp2
  go_ret
  exact ⟨ret_b HE.out, ⟨_, HR.out⟩, HB.out⟩
end
end Go.Proofs.YtecglpocmhkkiaaGreatDoor
namespace Go.Proofs.YtecglpocmhkkiaaGreatDoor
section
open Go.RowKit Go.Sort
open Nw N8 Q6 F9 Go.ChangeShapes Go.WideShapes
section
variable {b0 g B m n cap lo : Nat} {w : World} {r : ByteArray} {q : Q4} {qs : List Q4} {f : Fr} {S : List Fr}
theorem RS.bb {w1 w2 : World} (h : RS b0 g B m n cap w1 r lo q qs f S) (hB : Below b0 w w1) (hb : Below w1.heap.size w1 w2) : Below b0 w w2 := hB.trans (hb.mono (by have := h.lt; have := h.below_g; omega))
theorem takeScalar_rs (h : RS b0 g B m n cap w r lo q qs f S) (hs : r.size ≤ 1000000) (l : L8) (hl : r.data.toList.drop (blk r.data.toList) = l) (fm r2 : ByteArray) (hf : fm.data.toList = frm l) (h2 : r2.data.toList = l.drop (tkn l)) :
  Calls Tryz.prog 163 #[.pointer (some ⟨g, 0, none⟩)] w fun e w' => e = .returned (.string fm) ∧ RS b0 g B m n cap w' r2 lo q qs f S ∧ Below b0 w w' := by
 obtain ⟨r', hr'⟩ : ∃ r' : ByteArray, r'.data.toList = l := ⟨ba l, ba_data _⟩
 have HS := hid (skip_rs h r' (hr'.trans hl.symm))
 obtain ⟨sz, hsz⟩ : ∃ sz, r'.size = sz := ⟨_, rfl⟩
 have hlen : l.length = sz := by rw [← hr', ← hsz]; rfl
 have hszs : sz ≤ 1000000 := by
  have h1 : r.data.toList.length = r.size := rfl
  rw [← hl, List.length_drop, h1] at hlen
  omega
 have hk := tkn_le l
 rw [hlen] at hk
 obtain ⟨t, ht⟩ : ∃ t, r'.extract 0 (tkn l) = t := ⟨_, rfl⟩
 have htd : t.data.toList = l.take (tkn l) := by rw [← ht, Lib.extract_data, List.drop_zero, Nat.sub_zero, hr']
 have htz : t.size ≤ 9223372036854775807 := by
  have h1 : t.data.toList.length = t.size := rfl
  rw [htd, List.length_take] at h1
  omega
 have hT : ∀ W, Calls Tryz.prog 55 #[.string t, .string ⟨#[32]⟩] W fun e w' => e = .returned (.string fm) ∧ w' = W := fun W => by
  refine (Tryz.strings_TrimRight_one t 32 (by decide) W htz).mono ?_
  rintro e w' ⟨rfl, rfl⟩
  refine ⟨?_, rfl⟩
  have e9 : (Lib.trimRightB t.data.toList 32) = fm.data.toList := by rw [htd, hf]; rfl
  rw [e9]
 have HT := hid hT
 have hx2 : r'.extract (tkn l) sz = r2 := bytes_ext (by rw [← hsz, rest_data, hr', h2])
 have hsc := fun W q x y => Scan_any r' 0 W (by omega) (by omega) (by omega) q x y
 rw [hr'] at hsc
 obtain ⟨k, hkk⟩ : ∃ k, tkn l = k := ⟨_, rfl⟩
 rw [hkk] at ht hx2 hk
 have hkz : (k : Int) ≤ (sz : Int) := by omega
 have kz : (0 : Int) ≤ (k : Int) := by omega
 have good_case : isQ (l.headD 0) = true → ∀ v j, scnP l = some (v, j) → k = j ∧ ∃ qq : ByteArray, ∀ W, Calls Tryz.prog 43 #[.string r', .int .i64 0] W fun e w' => e = .returned (.tuple #[.string qq, .int .i64 (j : Int), .int .i64 0]) ∧ Below W.heap.size W w' := fun hq v j hsn => by
  have hne : l ≠ [] := fun e => by rw [e] at hq; exact absurd hq (by decide)
  obtain ⟨v1, v2, v3⟩ := (scan_zero hne).1 hq
  rw [hsn] at v1 v2 v3
  refine ⟨?_, ba v, fun W => hsc W (ba v) (j : Int) 0 (by rw [v1, ba_data]; rfl) (by rw [v2]; rfl) (by rw [v3]; rfl)⟩
  rw [← hkk]
  unfold tkn
  rw [hq, if_pos rfl, hsn]
 have bad_case : (isQ (l.headD 0) = true → scnP l = none) → k = pln l ∧ ∃ (qq : ByteArray) (x y : Int), (y != 0) = true ∧ ∀ W, Calls Tryz.prog 43 #[.string r', .int .i64 0] W fun e w' => e = .returned (.tuple #[.string qq, .int .i64 x, .int .i64 y]) ∧ Below W.heap.size W w' := fun hno => by
  cases hq : isQ (l.headD 0) with
  | true =>
   have hne : l ≠ [] := fun e => by rw [e] at hq; exact absurd hq (by decide)
   obtain ⟨v1, v2, v3⟩ := (scan_zero hne).1 hq
   rw [hno hq] at v1 v2 v3
   refine ⟨?_, ⟨#[]⟩, 0, 3, rfl, fun W => hsc W ⟨#[]⟩ 0 3 (by rw [v1]; rfl) (by rw [v2]; rfl) (by rw [v3]; rfl)⟩
   rw [← hkk]
   unfold tkn
   rw [hq, if_pos rfl, hno hq]
  | false =>
   have hiq : isQuote l 0 = false := by
    cases hx : isQuote l 0 with
    | false => rfl
    | true =>
     by_cases hne : l = []
     ·subst hne; exact absurd hx (by decide)
     ·have h9 := (scan_zero hne).2 hq
      have := (scan_is hx).2.2
      rw [h9] at this
      unfold outE at this
      split at this <;> cases this
   obtain ⟨v1, v2, v3⟩ := scan_no hiq
   refine ⟨?_, ⟨#[]⟩, 0, 2, rfl, fun W => hsc W ⟨#[]⟩ 0 2 (by rw [v1]) v2 v3⟩
   rw [← hkk]
   unfold tkn
   rw [hq, if_neg Bool.false_ne_true]
 have hP : k = pln l → ∀ W, Calls Tryz.prog 172 #[.string r'] W fun e w' => e = .returned (.int .i64 (k : Int)) ∧ W = w' := fun e W => plainEnd_any r' W sz hsz hszs k (by rw [hr']; exact e.symm)
 by_cases hgood : isQ (l.headD 0) = true ∧ ∃ p, scnP l = some p
 ·obtain ⟨hq, ⟨v, j⟩, hsn⟩ := hgood
  obtain ⟨rfl, qq, hS⟩ := good_case hq v j hsn
  have HSC := hid hS
  clear h hr' hl hlen hk htd htz hT hsc hkk good_case bad_case hP hS hq hsn hf h2
  go_enter Tryz.func163, Tryz.ntmps163
  go_wp2_with fail
  refine HS.out.mono ?_
  rintro e w1 ⟨rfl, hR, hB⟩
  obtain ⟨⟨c0, c1⟩, f0, f1⟩ := hR.cells
  have HR := hid hR
  have HB := hid hB
  clear hR hB
  go_wp2_with fail
  refine (HSC.out _).mono ?_
  rintro e w2 ⟨rfl, hb⟩
  replace HB := hid (HR.out.bb HB.out hb)
  replace HR := hid (HR.out.go hb)
  clear c0 c1 f0 f1 hb
  obtain ⟨⟨c0, c1⟩, f0, f1⟩ := HR.out.cells
  go_wp2_with (go_at_call 55; refine (HT.out _).mono ?_; rintro e w3 ⟨rfl, rfl⟩)
  go_ret
  exact ⟨rfl, HR.out.text r2, below_text HB.out HR.out.below_g r2⟩
 ·obtain ⟨hkp, qq, x, y, hy, hS⟩ := bad_case fun hq => by
   cases hsn : scnP l with
   | none => rfl
   | some p => exact absurd ⟨hq, p, hsn⟩ hgood
  have HSC := hid hS
  have HP := hid (hP hkp)
  clear h hr' hl hlen hk htd htz hT hsc hkk good_case bad_case hP hS hgood hkp hf h2
  go_enter Tryz.func163, Tryz.ntmps163
  go_wp2_with fail
  refine HS.out.mono ?_
  rintro e w1 ⟨rfl, hR, hB⟩
  obtain ⟨⟨c0, c1⟩, f0, f1⟩ := hR.cells
  have HR := hid hR
  have HB := hid hB
  clear hR hB
  go_wp2_with fail
  refine (HSC.out _).mono ?_
  rintro e w2 ⟨rfl, hb⟩
  replace HB := hid (HR.out.bb HB.out hb)
  replace HR := hid (HR.out.go hb)
  clear c0 c1 f0 f1 hb
  obtain ⟨⟨c0, c1⟩, f0, f1⟩ := HR.out.cells
  go_wp2_with (first
   | (go_at_call 172; refine (HP.out _).mono ?_; rintro e w3 ⟨rfl, rfl⟩)
   | (go_at_call 55; refine (HT.out _).mono ?_; rintro e w3 ⟨rfl, rfl⟩))
  go_ret
  exact ⟨rfl, HR.out.text r2, below_text HB.out HR.out.below_g r2⟩
theorem innermost_rs (h : RS b0 g B m n cap w r lo q qs f S) :
  Calls Tryz.prog 162 #[.pointer (some ⟨g, 0, none⟩)] w fun e w' => e = .returned (.pointer (some ⟨B, m * 4, none⟩)) ∧ Below w.heap.size w w' := by
 obtain ⟨⟨c0, c1⟩, f0, f1⟩ := h.cells
 obtain ⟨h1, -, h3, h4, -⟩ := h.nums
 unfold maxLen at h4
 have wn : IntKind.i64.wrap ((n : Int) - 1) = (m : Int) := by
  rw [IntWalk.i64_in _ (by omega)]; omega
 have mz : (0 : Int) ≤ (m : Int) := by omega
 have mn : (m : Int) < (n : Int) := by omega
 clear h h1 h3 h4
 go_enter Tryz.func162, Tryz.ntmps162
 go_wp2
 go_quiet (fail)
 go_wp2
 go_ret
 exact ⟨rfl, below_drewN _ _⟩
theorem isEnding0_rs (h : RS b0 g B m n cap w r lo q qs f S) (hk : f.k = 0) :
  Calls Tryz.prog 150 #[.pointer (some ⟨g, 0, none⟩)] w fun e w' => e = .returned (.bool false) ∧ Below w.heap.size w w' := by
 have HI := hid (innermost_rs h)
 have HH := hid h
 have HK := hid hk
 clear h hk
 go_enter Tryz.func150, Tryz.ntmps150
 go_wp2_with fail
 refine HI.out.mono ?_
 rintro e w1 ⟨rfl, hb⟩
 obtain ⟨⟨t0, t1, t2, t3⟩, -, -⟩ := (HH.out.go hb).top
 rw [HK.out] at t0
 have HB := hid hb
 clear hb HH HI
 go_wp2
 go_ret
 exact ⟨rfl, HB.out⟩
theorem isEnding_rs (h : RS b0 g B m n cap w r lo q qs f S) (hk : f.k = 2 ∨ f.k = 3) (r' : ByteArray) (hr : r'.data.toList = r.data.toList.drop (blk r.data.toList)) (b : Bool) (hb : isC (clo f.k) (r'.data.toList.headD 0) = b) :
  Calls Tryz.prog 150 #[.pointer (some ⟨g, 0, none⟩)] w fun e w' => e = .returned (.bool b) ∧ RS b0 g B m n cap w' r' lo q qs f S ∧ Below b0 w w' := by
 have HI := hid (innermost_rs h)
 have HH := hid h
 have HRR := hid hr
 have HBB := hid (show Below b0 w w from Below.refl _ _)
 rcases hk with hk | hk
 ·rw [hk] at hb
  have HC := hid hb
  have HK := hid hk
  clear h hr hb hk
  go_enter Tryz.func150, Tryz.ntmps150
  go_wp2_with fail
  refine HI.out.mono ?_
  rintro e w1 ⟨rfl, hb⟩
  have HR := hid (HH.out.go hb)
  have HB := hid (HH.out.bb HBB.out hb)
  clear hb HH HI HBB
  obtain ⟨⟨t0, t1, t2, t3⟩, -, -⟩ := HR.out.top
  rw [HK.out] at t0
  have HN := hid (isNext_rs HR.out 93 (by decide) r' HRR.out b HC.out)
  clear t1 t2 t3
  go_wp2_with fail
  refine HN.out.mono ?_
  rintro e w2 ⟨rfl, hR2, hB2⟩
  have HR2 := hid hR2
  have HB2 := hid (HB.out.trans hB2)
  clear hR2 hB2 t0
  go_wp2
  go_ret
  exact ⟨rfl, HR2.out, HB2.out⟩
 ·rw [hk] at hb
  have HC := hid hb
  have HK := hid hk
  clear h hr hb hk
  go_enter Tryz.func150, Tryz.ntmps150
  go_wp2_with fail
  refine HI.out.mono ?_
  rintro e w1 ⟨rfl, hb⟩
  have HR := hid (HH.out.go hb)
  have HB := hid (HH.out.bb HBB.out hb)
  clear hb HH HI HBB
  obtain ⟨⟨t0, t1, t2, t3⟩, -, -⟩ := HR.out.top
  rw [HK.out] at t0
  have HN := hid (isNext_rs HR.out 125 (by decide) r' HRR.out b HC.out)
  clear t1 t2 t3
  go_wp2_with fail
  refine HN.out.mono ?_
  rintro e w2 ⟨rfl, hR2, hB2⟩
  have HR2 := hid hR2
  have HB2 := hid (HB.out.trans hB2)
  clear hR2 hB2 t0
  go_wp2
  go_ret
  exact ⟨rfl, HR2.out, HB2.out⟩
end
end
end Go.Proofs.YtecglpocmhkkiaaGreatDoor
