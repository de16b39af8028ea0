/- FloRd3, FloRd4, FloTwc2 -/
import Derived.Deep.CutRange
import Derived.Deep.RegionHeld3
import Derived.Test.YtmdgpejedbkkdaaGreatDoorWT28
import Derived.Test.YtmdgpejedbkkdaaGreatDoorWT29
import Derived.Test.YtmdgpejedbkkdaaGreatDoorWT30
set_option linter.unusedVariables false
set_option linter.unusedSimpArgs false
set_option maxRecDepth 100000
set_option maxHeartbeats 16000000
open Go.Lib (hid)
namespace Go.Proofs.YtmdgpejedbkkdaaGreatDoor
open Go.RowKit Go.Sort
open Nw N8 Q6 F9 Go.ChangeShapes Go.WideShapes
namespace F9
theorem trimL_blk (l : L8) : Lib.trimLeftB l 32 = l.drop (blk l) := by
 unfold Lib.trimLeftB
 induction l with
 | nil => rfl
 | cons c l ih =>
  rw [List.dropWhile_cons, blk_cons]
  by_cases h : c = 32
  ·subst h
   rw [if_pos rfl, if_pos (show ((32 : UInt8) == 32) = true from rfl), List.drop_succ_cons]
   exact ih
  ·rw [beq_eq_false_iff_ne.2 h, if_neg Bool.false_ne_true, if_neg h]; rfl
theorem pre_one (c : UInt8) (hc : c ≠ 0) (l : L8) : Lib.hasPrefix l [c] = isC c (l.headD 0) := by
 unfold Lib.hasPrefix
 cases l with
 | nil => show false = isC c 0; exact (decide_eq_false (fun e => hc e.symm)).symm
 | cons d l =>
  show (c == d && [].isPrefixOf l) = isC c d
  rw [List.isPrefixOf_nil_left, Bool.and_true]
  unfold isC
  rw [Bool.eq_iff_iff]
  simp only [beq_iff_eq, decide_eq_true_eq]
  exact ⟨fun h => h.symm, fun h => h.symm⟩
end F9
section
variable {b0 g B m n cap lo : Nat} {w : World} {r : ByteArray} {q : Q4} {qs : List Q4} {f : Fr} {S : List Fr}
theorem skip_rs (h : RS b0 g B m n cap w r lo q qs f S) (r' : ByteArray) (hr : r'.data.toList = r.data.toList.drop (blk r.data.toList)) :
  Calls Tryz.prog 167 #[.pointer (some ⟨g, 0, none⟩)] w fun e w' => e = .returned (.tuple #[]) ∧ RS b0 g B m n cap w' r' lo q qs f S ∧ Below b0 w w' := by
 have hT : ∀ W, Calls Tryz.prog 67 #[.string r, .string ⟨#[32]⟩] W fun e w' => e = .returned (.string r') ∧ w' = W := fun W => by
  refine (Tryz.strings_TrimLeft_one r 32 (by decide) W).mono ?_
  rintro e w' ⟨rfl, rfl⟩
  refine ⟨?_, rfl⟩
  rw [trimL_blk, ← hr]
 have HT := hid hT
 have HF := hid (h.text r')
 have HB := hid (below_text (Below.refl b0 w) h.below_g r')
 obtain ⟨⟨c0, c1⟩, f0, f1⟩ := h.cells
 clear h hT hr
 go_enter Tryz.func167, Tryz.ntmps167
 go_wp2_with (go_at_call 67; refine (HT.out _).mono ?_; rintro e w' ⟨rfl, rfl⟩)
 go_end0
 exact ⟨rfl, HF.out, HB.out⟩
theorem isNext_rs (h : RS b0 g B m n cap w r lo q qs f S) (c : UInt8) (hc : c ≠ 0) (r' : ByteArray) (hr : r'.data.toList = r.data.toList.drop (blk r.data.toList)) (b : Bool) (hb : isC c (r'.data.toList.headD 0) = b) :
  Calls Tryz.prog 164 #[.pointer (some ⟨g, 0, none⟩), .string ⟨#[c]⟩] w fun e w' => e = .returned (.bool b) ∧ RS b0 g B m n cap w' r' lo q qs f S ∧ Below b0 w w' := by
 have HS := hid (skip_rs h r' hr)
 have HP := hid (fun W => (Tryz.strings_HasPrefix r' ⟨#[c]⟩ W).mono (R' := fun e w' => e = .returned (.bool b) ∧ w' = W) fun e w' ⟨h1, h2⟩ => ⟨by rw [h1]; exact ret_b ((pre_one c hc _).trans hb), h2⟩)
 clear h hr hb
 go_enter Tryz.func164, Tryz.ntmps164
 go_wp2_with fail
 refine HS.out.mono ?_
 rintro e w1 ⟨rfl, hR, hB⟩
 obtain ⟨⟨c0, c1⟩, f0, f1⟩ := hR.cells
 have HR := hid hR
 have HB := hid hB
 clear hR hB
 go_wp2_with (go_at_call 101; refine (HP.out _).mono ?_; rintro e w' ⟨rfl, rfl⟩)
 go_ret
 exact ⟨rfl, HR.out, HB.out⟩
theorem take_rs (h : RS b0 g B m n cap w r lo q qs f S) (c : UInt8) (hc : c ≠ 0) (hs : r.size ≤ 1000000) (b : Bool) (hb : isC c ((r.data.toList.drop (blk r.data.toList)).headD 0) = b) (r2 : ByteArray) (hr : r2.data.toList = if b then r.data.toList.drop (blk r.data.toList + 1) else r.data.toList.drop (blk r.data.toList)) :
  Calls Tryz.prog 155 #[.pointer (some ⟨g, 0, none⟩), .string ⟨#[c]⟩] w fun e w' => e = .returned (.bool b) ∧ RS b0 g B m n cap w' r2 lo q qs f S ∧ Below b0 w w' := by
 obtain ⟨r', hr'⟩ : ∃ r' : ByteArray, r'.data.toList = r.data.toList.drop (blk r.data.toList) := ⟨ba (r.data.toList.drop (blk r.data.toList)), ba_data _⟩
 rw [← hr'] at hb
 have HS := hid (isNext_rs h c hc r' hr' b hb)
 cases b with
 | false =>
  have HE : Hid (r' = r2) := hid (bytes_ext (by rw [hr', hr]; rfl))
  clear h hr hr' hb
  go_enter Tryz.func155, Tryz.ntmps155
  go_wp2_with fail
  refine HS.out.mono ?_
  rintro e w1 ⟨rfl, hR, hB⟩
  rw [HE.out] at hR
  have HR := hid hR
  have HB := hid hB
  clear hR hB
  go_wp2
  go_ret
  exact ⟨rfl, HR.out, HB.out⟩
 | true =>
  have hne : r'.data.toList ≠ [] := fun e => by rw [e] at hb; exact hc (isC_iff.1 hb).symm
  have hp : 1 ≤ r'.size := List.length_pos_iff.2 hne
  have hp1 : (1 : Int) ≤ (r'.size : Int) := by omega
  have hx : r'.extract 1 r'.size = r2 := bytes_ext (by
   rw [rest_data, hr, hr', if_pos rfl, List.drop_drop])
  clear h hr hr' hb hne
  go_enter Tryz.func155, Tryz.ntmps155
  go_wp2_with fail
  refine HS.out.mono ?_
  rintro e w1 ⟨rfl, hR, hB⟩
  obtain ⟨⟨c0, c1⟩, f0, f1⟩ := hR.cells
  have HR := hid (hR.text r2)
  have HB := hid (below_text hB hR.below_g r2)
  clear hR hB
  go_wp2
  go_ret
  exact ⟨rfl, HR.out, HB.out⟩
theorem isDone_rs (h : RS b0 g B m n cap w r lo q qs f S) (b : Bool) (hb : decide (r.data.toList.length = blk r.data.toList) = b) :
  Calls Tryz.prog 154 #[.pointer (some ⟨g, 0, none⟩)] w fun e w' => e = .returned (.bool b) ∧ (∃ r', RS b0 g B m n cap w' r' lo q qs f S) ∧ Below b0 w w' := by
 obtain ⟨r', hr'⟩ : ∃ r' : ByteArray, r'.data.toList = r.data.toList.drop (blk r.data.toList) := ⟨ba (r.data.toList.drop (blk r.data.toList)), ba_data _⟩
 have HS := hid (skip_rs h r' hr')
 have hle := blk_le r.data.toList
 have hl : r'.data.toList.length = r.data.toList.length - blk r.data.toList := by rw [hr', List.length_drop]
 by_cases h0 : r'.data.toList = []
 ·have HE : Hid (true = b) := hid (by
   rw [← hb]
   refine (decide_eq_true ?_).symm
   rw [h0, List.length_nil] at hl
   omega)
  obtain rfl := bytes_of (l := #[]) h0
  clear h hr' hb hle hl h0
  go_enter Tryz.func154, Tryz.ntmps154
  go_wp2_with fail
  refine HS.out.mono ?_
  rintro e w1 ⟨rfl, hR, hB⟩
  obtain ⟨⟨c0, c1⟩, f0, f1⟩ := hR.cells
  have HR := hid hR
  have HB := hid hB
  clear hR hB
  go_wp2
  go_ret
  exact ⟨ret_b HE.out, ⟨_, HR.out⟩, HB.out⟩
 ·have HE : Hid (false = b) := hid (by
   rw [← hb]
   refine (decide_eq_false fun e => h0 ?_).symm
   exact List.length_eq_zero_iff.1 (by omega))
  have b0 : r'.toList.isEmpty = false := by rw [ByteArray.toList_eq, List.isEmpty_eq_false_iff]; exact h0
  have b0' : ¬ r'.toList = [] := by rw [ByteArray.toList_eq]; exact h0
  clear h hr' hb hle hl h0
  go_enter Tryz.func154, Tryz.ntmps154
  go_wp2_with fail
  refine HS.out.mono ?_
  rintro e w1 ⟨rfl, hR, hB⟩
  obtain ⟨⟨c0, c1⟩, f0, f1⟩ := hR.cells
  have HR := hid hR
  have HB := hid hB
  clear hR hB
  go_wp2
  go_ret
  exact ⟨ret_b HE.out, ⟨_, HR.out⟩, HB.out⟩
end
end Go.Proofs.YtmdgpejedbkkdaaGreatDoor
namespace Go.Proofs.YtmdgpejedbkkdaaGreatDoor
section
open Go.RowKit Go.Sort
open Nw N8 Q6 F9 Go.ChangeShapes Go.WideShapes
section
variable {b0 g B m n cap lo : Nat} {w : World} {r : ByteArray} {q : Q4} {qs : List Q4} {f : Fr} {S : List Fr}
theorem RS.bb {w1 w2 : World} (h : RS b0 g B m n cap w1 r lo q qs f S) (hB : Below b0 w w1) (hb : Below w1.heap.size w1 w2) : Below b0 w w2 := hB.trans (hb.mono (by have := h.lt; have := h.below_g; omega))
theorem takeScalar_rs (h : RS b0 g B m n cap w r lo q qs f S) (hs : r.size ≤ 1000000) (l : L8) (hl : r.data.toList.drop (blk r.data.toList) = l) (fm r2 : ByteArray) (hf : fm.data.toList = frm l) (h2 : r2.data.toList = l.drop (tkn l)) :
  Calls Tryz.prog 163 #[.pointer (some ⟨g, 0, none⟩)] w fun e w' => e = .returned (.string fm) ∧ RS b0 g B m n cap w' r2 lo q qs f S ∧ Below b0 w w' := by
 obtain ⟨r', hr'⟩ : ∃ r' : ByteArray, r'.data.toList = l := ⟨ba l, ba_data _⟩
 have HS := hid (skip_rs h r' (hr'.trans hl.symm))
 obtain ⟨sz, hsz⟩ : ∃ sz, r'.size = sz := ⟨_, rfl⟩
 have hlen : l.length = sz := by rw [← hr', ← hsz]; rfl
 have hszs : sz ≤ 1000000 := by
  have h1 : r.data.toList.length = r.size := rfl
  rw [← hl, List.length_drop, h1] at hlen
  omega
 have hk := tkn_le l
 rw [hlen] at hk
 obtain ⟨t, ht⟩ : ∃ t, r'.extract 0 (tkn l) = t := ⟨_, rfl⟩
 have htd : t.data.toList = l.take (tkn l) := by rw [← ht, Lib.extract_data, List.drop_zero, Nat.sub_zero, hr']
 have htz : t.size ≤ 9223372036854775807 := by
  have h1 : t.data.toList.length = t.size := rfl
  rw [htd, List.length_take] at h1
  omega
 have hT : ∀ W, Calls Tryz.prog 69 #[.string t, .string ⟨#[32]⟩] W fun e w' => e = .returned (.string fm) ∧ w' = W := fun W => by
  refine (Tryz.strings_TrimRight_one t 32 (by decide) W htz).mono ?_
  rintro e w' ⟨rfl, rfl⟩
  refine ⟨?_, rfl⟩
  have e9 : (Lib.trimRightB t.data.toList 32) = fm.data.toList := by rw [htd, hf]; rfl
  rw [e9]
 have HT := hid hT
 have hx2 : r'.extract (tkn l) sz = r2 := bytes_ext (by rw [← hsz, rest_data, hr', h2])
 have hsc := fun W q x y => Scan_any r' 0 W (by omega) (by omega) (by omega) q x y
 rw [hr'] at hsc
 obtain ⟨k, hkk⟩ : ∃ k, tkn l = k := ⟨_, rfl⟩
 rw [hkk] at ht hx2 hk
 have hkz : (k : Int) ≤ (sz : Int) := by omega
 have kz : (0 : Int) ≤ (k : Int) := by omega
 have good_case : isQ (l.headD 0) = true → ∀ v j, scnP l = some (v, j) → k = j ∧ ∃ qq : ByteArray, ∀ W, Calls Tryz.prog 96 #[.string r', .int .i64 0] W fun e w' => e = .returned (.tuple #[.string qq, .int .i64 (j : Int), .int .i64 0]) ∧ Below W.heap.size W w' := fun hq v j hsn => by
  have hne : l ≠ [] := fun e => by rw [e] at hq; exact absurd hq (by decide)
  obtain ⟨v1, v2, v3⟩ := (scan_zero hne).1 hq
  rw [hsn] at v1 v2 v3
  refine ⟨?_, ba v, fun W => hsc W (ba v) (j : Int) 0 (by rw [v1, ba_data]; rfl) (by rw [v2]; rfl) (by rw [v3]; rfl)⟩
  rw [← hkk]
  unfold tkn
  rw [hq, if_pos rfl, hsn]
 have bad_case : (isQ (l.headD 0) = true → scnP l = none) → k = pln l ∧ ∃ (qq : ByteArray) (x y : Int), (y != 0) = true ∧ ∀ W, Calls Tryz.prog 96 #[.string r', .int .i64 0] W fun e w' => e = .returned (.tuple #[.string qq, .int .i64 x, .int .i64 y]) ∧ Below W.heap.size W w' := fun hno => by
  cases hq : isQ (l.headD 0) with
  | true =>
   have hne : l ≠ [] := fun e => by rw [e] at hq; exact absurd hq (by decide)
   obtain ⟨v1, v2, v3⟩ := (scan_zero hne).1 hq
   rw [hno hq] at v1 v2 v3
   refine ⟨?_, ⟨#[]⟩, 0, 3, rfl, fun W => hsc W ⟨#[]⟩ 0 3 (by rw [v1]; rfl) (by rw [v2]; rfl) (by rw [v3]; rfl)⟩
   rw [← hkk]
   unfold tkn
   rw [hq, if_pos rfl, hno hq]
  | false =>
   have hiq : isQuote l 0 = false := by
    cases hx : isQuote l 0 with
    | false => rfl
    | true =>
     by_cases hne : l = []
     ·subst hne; exact absurd hx (by decide)
     ·have h9 := (scan_zero hne).2 hq
      have := (scan_is hx).2.2
      rw [h9] at this
      unfold outE at this
      split at this <;> cases this
   obtain ⟨v1, v2, v3⟩ := scan_no hiq
   refine ⟨?_, ⟨#[]⟩, 0, 2, rfl, fun W => hsc W ⟨#[]⟩ 0 2 (by rw [v1]) v2 v3⟩
   rw [← hkk]
   unfold tkn
   rw [hq, if_neg Bool.false_ne_true]
 have hP : k = pln l → ∀ W, Calls Tryz.prog 172 #[.string r'] W fun e w' => e = .returned (.int .i64 (k : Int)) ∧ W = w' := fun e W => plainEnd_any r' W sz hsz hszs k (by rw [hr']; exact e.symm)
 by_cases hgood : isQ (l.headD 0) = true ∧ ∃ p, scnP l = some p
 ·obtain ⟨hq, ⟨v, j⟩, hsn⟩ := hgood
  obtain ⟨rfl, qq, hS⟩ := good_case hq v j hsn
  have HSC := hid hS
  clear h hr' hl hlen hk htd htz hT hsc hkk good_case bad_case hP hS hq hsn hf h2
  go_enter Tryz.func163, Tryz.ntmps163
  go_wp2_with fail
  refine HS.out.mono ?_
  rintro e w1 ⟨rfl, hR, hB⟩
  obtain ⟨⟨c0, c1⟩, f0, f1⟩ := hR.cells
  have HR := hid hR
  have HB := hid hB
  clear hR hB
  go_wp2_with fail
  refine (HSC.out _).mono ?_
  rintro e w2 ⟨rfl, hb⟩
  replace HB := hid (HR.out.bb HB.out hb)
  replace HR := hid (HR.out.go hb)
  clear c0 c1 f0 f1 hb
  obtain ⟨⟨c0, c1⟩, f0, f1⟩ := HR.out.cells
  go_wp2_with (go_at_call 69; refine (HT.out _).mono ?_; rintro e w3 ⟨rfl, rfl⟩)
  go_ret
  exact ⟨rfl, HR.out.text r2, below_text HB.out HR.out.below_g r2⟩
 ·obtain ⟨hkp, qq, x, y, hy, hS⟩ := bad_case fun hq => by
   cases hsn : scnP l with
   | none => rfl
   | some p => exact absurd ⟨hq, p, hsn⟩ hgood
  have HSC := hid hS
  have HP := hid (hP hkp)
  clear h hr' hl hlen hk htd htz hT hsc hkk good_case bad_case hP hS hgood hkp hf h2
  go_enter Tryz.func163, Tryz.ntmps163
  go_wp2_with fail
  refine HS.out.mono ?_
  rintro e w1 ⟨rfl, hR, hB⟩
  obtain ⟨⟨c0, c1⟩, f0, f1⟩ := hR.cells
  have HR := hid hR
  have HB := hid hB
  clear hR hB
  go_wp2_with fail
  refine (HSC.out _).mono ?_
  rintro e w2 ⟨rfl, hb⟩
  replace HB := hid (HR.out.bb HB.out hb)
  replace HR := hid (HR.out.go hb)
  clear c0 c1 f0 f1 hb
  obtain ⟨⟨c0, c1⟩, f0, f1⟩ := HR.out.cells
  go_wp2_with (first
   | (go_at_call 172; refine (HP.out _).mono ?_; rintro e w3 ⟨rfl, rfl⟩)
   | (go_at_call 69; refine (HT.out _).mono ?_; rintro e w3 ⟨rfl, rfl⟩))
  go_ret
  exact ⟨rfl, HR.out.text r2, below_text HB.out HR.out.below_g r2⟩
theorem innermost_rs (h : RS b0 g B m n cap w r lo q qs f S) :
  Calls Tryz.prog 162 #[.pointer (some ⟨g, 0, none⟩)] w fun e w' => e = .returned (.pointer (some ⟨B, m * 4, none⟩)) ∧ Below w.heap.size w w' := by
 obtain ⟨⟨c0, c1⟩, f0, f1⟩ := h.cells
 obtain ⟨h1, -, h3, h4, -⟩ := h.nums
 unfold maxLen at h4
 have wn : IntKind.i64.wrap ((n : Int) - 1) = (m : Int) := by
  rw [IntWalk.i64_in _ (by omega)]; omega
 have mz : (0 : Int) ≤ (m : Int) := by omega
 have mn : (m : Int) < (n : Int) := by omega
 clear h h1 h3 h4
 go_enter Tryz.func162, Tryz.ntmps162
 go_wp2
 go_quiet (fail)
 go_wp2
 go_ret
 exact ⟨rfl, below_drewN _ _⟩
theorem isEnding0_rs (h : RS b0 g B m n cap w r lo q qs f S) (hk : f.k = 0) :
  Calls Tryz.prog 151 #[.pointer (some ⟨g, 0, none⟩)] w fun e w' => e = .returned (.bool false) ∧ Below w.heap.size w w' := by
 have HI := hid (innermost_rs h)
 have HH := hid h
 have HK := hid hk
 clear h hk
 go_enter Tryz.func151, Tryz.ntmps151
 go_wp2_with fail
 refine HI.out.mono ?_
 rintro e w1 ⟨rfl, hb⟩
 obtain ⟨⟨t0, t1, t2, t3⟩, -, -⟩ := (HH.out.go hb).top
 rw [HK.out] at t0
 have HB := hid hb
 clear hb HH HI
 go_wp2
 go_ret
 exact ⟨rfl, HB.out⟩
theorem isEnding_rs (h : RS b0 g B m n cap w r lo q qs f S) (hk : f.k = 2 ∨ f.k = 3) (r' : ByteArray) (hr : r'.data.toList = r.data.toList.drop (blk r.data.toList)) (b : Bool) (hb : isC (clo f.k) (r'.data.toList.headD 0) = b) :
  Calls Tryz.prog 151 #[.pointer (some ⟨g, 0, none⟩)] w fun e w' => e = .returned (.bool b) ∧ RS b0 g B m n cap w' r' lo q qs f S ∧ Below b0 w w' := by
 have HI := hid (innermost_rs h)
 have HH := hid h
 have HRR := hid hr
 have HBB := hid (show Below b0 w w from Below.refl _ _)
 rcases hk with hk | hk
 ·rw [hk] at hb
  have HC := hid hb
  have HK := hid hk
  clear h hr hb hk
  go_enter Tryz.func151, Tryz.ntmps151
  go_wp2_with fail
  refine HI.out.mono ?_
  rintro e w1 ⟨rfl, hb⟩
  have HR := hid (HH.out.go hb)
  have HB := hid (HH.out.bb HBB.out hb)
  clear hb HH HI HBB
  obtain ⟨⟨t0, t1, t2, t3⟩, -, -⟩ := HR.out.top
  rw [HK.out] at t0
  have HN := hid (isNext_rs HR.out 93 (by decide) r' HRR.out b HC.out)
  clear t1 t2 t3
  go_wp2_with fail
  refine HN.out.mono ?_
  rintro e w2 ⟨rfl, hR2, hB2⟩
  have HR2 := hid hR2
  have HB2 := hid (HB.out.trans hB2)
  clear hR2 hB2 t0
  go_wp2
  go_ret
  exact ⟨rfl, HR2.out, HB2.out⟩
 ·rw [hk] at hb
  have HC := hid hb
  have HK := hid hk
  clear h hr hb hk
  go_enter Tryz.func151, Tryz.ntmps151
  go_wp2_with fail
  refine HI.out.mono ?_
  rintro e w1 ⟨rfl, hb⟩
  have HR := hid (HH.out.go hb)
  have HB := hid (HH.out.bb HBB.out hb)
  clear hb HH HI HBB
  obtain ⟨⟨t0, t1, t2, t3⟩, -, -⟩ := HR.out.top
  rw [HK.out] at t0
  have HN := hid (isNext_rs HR.out 125 (by decide) r' HRR.out b HC.out)
  clear t1 t2 t3
  go_wp2_with fail
  refine HN.out.mono ?_
  rintro e w2 ⟨rfl, hR2, hB2⟩
  have HR2 := hid hR2
  have HB2 := hid (HB.out.trans hB2)
  clear hR2 hB2 t0
  go_wp2
  go_ret
  exact ⟨rfl, HR2.out, HB2.out⟩
end
end
section
open Go.RowKit Go.Shelf Go.Sort
open Nw N8 Q6 F9 Go.ChangeShapes Go.WideShapes
attribute [local go_sem] Oper.semAt_some
theorem appendSeq_in (F : Fence) (n : Nat) (hA : F.fn 196) (hV : F.fn 189) (hro : F.round = none) (hn : 3 ≤ n) (Bs : Nat) (v : Value) (zs : List L8) (hlen : zs.length ≤ 1000000) (w : World) (hBs : Bs < w.heap.size) (hc : w.cell? ⟨Bs, 0, none⟩ = some v) (hv : Rd w v zs) :
  CallsIn F n Tryz.prog 196 #[.slice none 0 0, .func (.func 189) #[] #[.pointer (some ⟨Bs, 0, none⟩)]] w fun e w' => ∃ u, e = .returned u ∧ w'.ownsRow w.heap.size 9 1 u zs.length (zs.map encStr) ∧ Below w.heap.size w w' := by
 have h1 : 1 ≤ n := by omega
 obtain ⟨i0, hi, hz0, hz1, hz2⟩ := infoS
 refine callsIn_of_wp_marks Tryz.func196 rfl hA ?_ hro
 simp only [Tryz.ntmps196, List.size_toArray, List.length_cons, List.length_nil, Nat.reduceAdd, Nat.reduceSub, Array.replicate_succ, Array.replicate_zero, List.push_toArray, List.append_toArray, List.nil_append, List.cons_append]
 gi_wp2
 have bO := Go.Boxed.new w 22 (.slice none 0 0)
 have hB0 : Below w.heap.size w (w.alloc (.cells #[.slice none 0 0] 22)) := (Below.refl _ w).alloc (Nat.le_refl _) _
 refine wpIn_rangeFunc_ownG hro h1 (gf := 189) (lb := #[.pointer (some ⟨Bs, 0, none⟩)]) rfl hV (enters_of Tryz.func189 (by kernel_rfl) rfl)
  (vals_stops F (n - 1) hV hro (by omega) Bs w.heap.size v zs hlen _ w (by simp; omega) (by simp) ((hB0.cell (p := ⟨Bs, 0, none⟩) hBs).trans hc) hv rfl hB0) belowK_t (belowK_b (by simp)) (Below.refl _ _) (fun _ => rfl)
  (fun pre W => (∃ u, Go.Boxed W w.heap.size 22 u ∧ W.ownsRow w.heap.size 9 1 u pre.length (pre.map encStr) ∧ True) ∧ Below w.heap.size w W)
  (fun _ _ _ => False)
  (OwnFrom.and (Own.from (holdsRow_own w.heap.size w.heap.size 22 9 1 (fun pre : List L8 => pre.length) (fun pre : List L8 => pre.map encStr) (fun pre v => True)) _) (ownFrom_below (Nat.le_refl _) (by simp)))
  (fun _ _ _ _ _ hs _ _ => hs)
  ⟨⟨_, bO, World.ownsRow_nil _ _ _ _, trivial⟩, hB0⟩
  (fun x => { tmps := #[.slice none 0 0, .func (.func 189) #[] #[.pointer (some ⟨Bs, 0, none⟩)], .pointer (some ⟨w.heap.size, 0, none⟩), undef, .slice none 0 0, encStr x, .func (.func 189) #[] #[.pointer (some ⟨Bs, 0, none⟩)], encStr x, undef, undef, undef, undef, undef], defers := [] }) ?assign ?body ?done ?stop
 case assign =>
  intro l x W K hK
  gi_wp2
  exact hK
 case body =>
  rintro l pre x W ⟨⟨u, hu, hrow, -⟩, hB⟩ hlt
  have hc := hu.cell
  gi_wp2_with (gi_at_builtin; refine wpListIn_append_own _ rfl _ _ 22 rfl w.heap.size 9 i0 _ 1 16 Tryz.underlying22 hi hz0 hz1 hz2 rfl (by decide) _ _ _ rfl (hrow.alloc _) ⟨W.heap.size, 0, none⟩ 1 1 [encStr x] rfl rfl (cell_one_new _ _ _) (by simp [Value.oneCell', encStr]) (by first | omega | (unfold maxLen; omega)) (by first | omega | (unfold maxLen; omega)) (by have := hB.size; simp; omega) ?_; intro v' w1 hown' hgrow _; obtain ⟨g', cap', rfl⟩ := ownsRow_succ hown'; obtain ⟨hv1, hv2, hr2, hk2, hb2⟩ := hu.appended (by decide) hrow hB.size (Nat.le_refl _) hown' hgrow; have hc1 := hv1.cell; have hf1 := hv1.frozen)
  exact ⟨hk2.from _, hb2, ⟨_, hv2, by simpa using hr2, trivial⟩, hB.trans hb2⟩
 case done =>
  rintro D ys W hD rfl ⟨⟨u, hu, hrow, -⟩, hB⟩ hK
  have hc := hu.cell
  gi_wp2
  refine ⟨by simp, .inl ⟨_, _, rfl, run_takeDeferred hK, ?_⟩⟩
  exact ⟨_, results_tmp rfl _ _ _, u, rfl, ownsRow_putObj hrow _ hK rfl, hB.trans (belowK_b (w := w) (Nat.le_refl _) W D _ _ (by simp at hD; omega) hK rfl rfl)⟩
 case stop =>
  rintro D c pre W _ _ h _
  exact h.elim
theorem Collect_any (Bs : Nat) (v : Value) (zs : List L8) (hlen : zs.length ≤ 1000000) (w : World) (hBs : Bs < w.heap.size) (hc : w.cell? ⟨Bs, 0, none⟩ = some v) (hv : Rd w v zs) :
  Calls Tryz.prog 188 #[.func (.func 189) #[] #[.pointer (some ⟨Bs, 0, none⟩)]] w fun e w' => ∃ u, e = .returned u ∧ w'.ownsRow w.heap.size 9 1 u zs.length (zs.map encStr) ∧ Below w.heap.size w w' := by
 have H := (callsIn_wide (n := 5)).1 (appendSeq_in Fence.wide 5 trivial trivial rfl (by omega) Bs v zs hlen w hBs hc hv)
 generalize zs.map encStr = X at H ⊢
 generalize zs.length = k at H ⊢
 clear hv hc
 go_enter Tryz.func188, Tryz.ntmps188
 go_wp2_with (go_at_call 196; refine H.mono ?_; rintro e w1 ⟨u, rfl, ho, hb⟩)
 go_ret
 exact ⟨_, rfl, ho, hb⟩
theorem owns_nil_2 {w : World} {base n : Nat} {e : TypeId} {l : List L8} (h : w.ownsRow base e 1 (.slice none 0 0) n (l.map encStr)) : n = 0 ∧ l = [] := by
 have hl : l.length = n := by simpa using h.1
 rcases h.2 with ⟨_, h0⟩ | ⟨g, cap, cur, h0, _⟩
 ·subst h0; exact ⟨rfl, List.length_eq_zero_iff.1 hl⟩
 ·cases h0
theorem Sort_own (v : Value) (l : List L8) (base : Nat) (w : World) (h : w.ownsRow base 9 1 v l.length (l.map encStr)) (hb : base ≤ w.heap.size) (hbig : l.length ≤ 1000000) :
  Calls Tryz.prog 157 #[v] w fun e w' => e = .returned (.tuple #[]) ∧ w'.ownsRow base 9 1 v l.length ((l.mergeSort fun x y => decide (x ≤ y)).map encStr) ∧ Below base w w' := by
 by_cases hv : v = .slice none 0 0
 ·subst hv
  obtain ⟨h0, rfl⟩ := owns_nil_2 h
  refine (Tryz.slices_Sort_string_none none 0 w).mono ?_
  rintro e w' ⟨rfl, rfl⟩
  exact ⟨rfl, by simpa using h, Below.refl _ _⟩
 ·obtain ⟨g, cap, rfl, hbg, hg, h1, h2, hl, hH⟩ := Lib.holds_of_ownsRow h hv
  obtain ⟨cur, hblk, hcs⟩ : ∃ cur, w.heap[g]? = some (.cells cur 9 (0, 0)) ∧ cur.size = cap * 1 := by
   rcases h.2 with ⟨e0, _⟩ | ⟨g', cap', cur, e0, _, hgg, _, _, hs, _⟩
   ·exact absurd e0 hv
   ·injection e0 with e1 _ e3
    injection e1 with e1
    injection e1 with e1
    subst e1; subst e3
    exact ⟨cur, hgg, hs⟩
  obtain ⟨S, hS⟩ : ∃ S, S = l.mergeSort fun x y => decide (x ≤ y) := ⟨_, rfl⟩
  have hSl : S.length = l.length := by rw [hS, List.length_mergeSort]
  have hsort := Tryz.slices_Sort_string g 0 cap l w hH hg (by omega)
  rw [← hS] at hsort ⊢
  refine hsort.mono ?_
  rintro e w' ⟨rfl, nn, os, rfl⟩
  exact ⟨rfl, ownsRow_sorted (n := nn) (os := os) (ts := S) hSl hbg hblk h1 h2 hcs, (Below.refl base w).grown (grownBy_sorted _) hb (fun j hj => by cases hj; exact hbg)⟩
theorem SortedS_any (Bs : Nat) (v : Value) (zs : List L8) (hlen : zs.length ≤ 1000000) (w : World) (hBs : Bs < w.heap.size) (hc : w.cell? ⟨Bs, 0, none⟩ = some v) (hv : Rd w v zs) (k : Nat) (hk : zs.length = k) (X : List Value) (hX : (zs.mergeSort fun x y => decide (x ≤ y)).map encStr = X) :
  Calls Tryz.prog 173 #[.func (.func 189) #[] #[.pointer (some ⟨Bs, 0, none⟩)]] w fun e w' => ∃ u, e = .returned u ∧ w'.ownsRow w.heap.size 9 1 u k X ∧ Below w.heap.size w w' := by
 subst hk; subst hX
 have HC := hid (Collect_any Bs v zs hlen w hBs hc hv)
 have HS := hid (fun u W ho hb => Sort_own u zs w.heap.size W ho hb hlen)
 generalize (zs.mergeSort fun x y => decide (x ≤ y)).map encStr = X at HS ⊢
 generalize zs.map encStr = Y at HS HC
 generalize zs.length = k at HS HC ⊢
 clear hv hc
 go_enter Tryz.func173, Tryz.ntmps173
 go_wp2_with fail
 refine HC.out.mono ?_
 rintro e w1 ⟨u, rfl, ho, hb⟩
 have H2 := HS.out u w1 ho hb.size
 have HB := hid hb
 clear ho hb HC HS
 go_wp2_with fail
 refine H2.mono ?_
 rintro e w2 ⟨rfl, ho, hb⟩
 have HO := hid ho
 have HB2 := hid (HB.out.trans hb)
 clear ho hb H2
 go_wp2
 go_ret
 exact ⟨_, rfl, HO.out, HB2.out⟩
theorem Values_any (a : Option Addr) (len cap : Nat) (w : World) :
  Calls Tryz.prog 174 #[.slice a len cap] w fun e w' => e = .returned (.func (.func 189) #[] #[.pointer (some ⟨w.heap.size, 0, none⟩)]) ∧ w' = w.alloc (.cells #[.slice a len cap] 22) :=
 (callsIn_wide (n := 3)).1 (values_in Fence.wide 3 trivial rfl a len cap w)
theorem Compact_own (v : Value) (S : List L8) (n base : Nat) (w : World) (h : w.ownsRow base 9 1 v n (S.map encStr)) (hb : base ≤ w.heap.size) (hbig : n ≤ 1000000) (m : Nat) (hm : (Lib.compact S).length = m) :
  Calls Tryz.prog 158 #[v] w fun e w' => (∃ (a : Option Addr) (c : Nat), e = .returned (.slice a m c)) ∧ Below base w w' := by
 subst hm
 by_cases hv : v = .slice none 0 0
 ·subst hv
  obtain ⟨rfl, rfl⟩ := owns_nil_2 h
  refine (Tryz.slices_Compact_string_empty none 0 w).mono ?_
  rintro e w' ⟨rfl, rfl⟩
  exact ⟨⟨_, _, rfl⟩, Below.refl _ _⟩
 ·obtain ⟨g, cap, rfl, hbg, hg, h1, h2, hl, hH⟩ := Lib.holds_of_ownsRow h hv
  subst hl
  have hc := Tryz.slices_Compact_string g 0 cap S w hH (by omega) (by omega)
  refine hc.mono ?_
  rintro e w' ⟨rfl, q, rfl⟩
  exact ⟨⟨_, _, rfl⟩, Lib.below_putRow (Below.refl base w) hbg⟩
theorem hasTwice_any (v : Value) (ks : List L8) (w : World) (hv : Rd w v ks) (hlen : ks.length ≤ 1000000) (b : Bool) (hb : twi ks = b) :
  Calls Tryz.prog 166 #[v] w fun e w' => e = .returned (.bool b) ∧ Below w.heap.size w w' := by
 obtain ⟨a, cap, rfl, hle, hcm, hz⟩ := id hv
 obtain ⟨n, hn⟩ : ∃ n, ks.length = n := ⟨_, rfl⟩
 obtain ⟨X, hX⟩ : ∃ X, (ks.mergeSort fun x y => decide (x ≤ y)).map encStr = X := ⟨_, rfl⟩
 obtain ⟨m, hm⟩ : ∃ m, (Lib.compact (ks.mergeSort fun x y => decide (x ≤ y))).length = m := ⟨_, rfl⟩
 have HRES : Hid (b = decide (m < n)) := hid (by
  rw [← hb]
  show decide ((Lib.compact (ks.mergeSort fun x y => decide (x ≤ y))).length < ks.length) = _
  rw [hm, hn])
 have hal : Below w.heap.size w (w.alloc (.cells #[.slice a ks.length cap] 22)) := (Below.refl _ w).alloc (Nat.le_refl _) _
 have HS := hid (SortedS_any w.heap.size (.slice a ks.length cap) ks hlen (w.alloc (.cells #[.slice a ks.length cap] 22)) (by simp) (Go.Boxed.new w _ _).cell (hv.below hal) n hn X hX)
 have HC := hid (fun u W (ho : World.ownsRow W (w.alloc (.cells #[.slice a ks.length cap] 22)).heap.size 9 1 u n X) (hb : (w.alloc (.cells #[.slice a ks.length cap] 22)).heap.size ≤ W.heap.size) => Compact_own u (ks.mergeSort fun x y => decide (x ≤ y)) n _ W (by rw [hX]; exact ho) hb (by omega) m hm)
 rw [hn] at hal HS HC
 have HAL := hid hal
 have HV := hid (Values_any a n cap w)
 rw [hn]
 clear hv hz hb hX hm hal hle hcm hlen hn
 go_enter Tryz.func166, Tryz.ntmps166
 go_wp2_with fail
 refine HV.out.mono ?_
 rintro e w1 ⟨rfl, rfl⟩
 clear HV
 go_wp2_with fail
 refine HS.out.mono ?_
 rintro e w2 ⟨u, rfl, ho, hb2⟩
 have H3 := HC.out u w2 ho hb2.size
 have HB2 := hid (HAL.out.trans (hb2.mono HAL.out.size))
 clear ho hb2 HC HS
 go_wp2_with fail
 refine H3.mono ?_
 rintro e w3 ⟨⟨a9, c9, rfl⟩, hb3⟩
 have HB3 := hid (HB2.out.trans (hb3.mono HAL.out.size))
 clear hb3 H3 HB2
 go_wp2
 go_ret
 exact ⟨ret_b HRES.out.symm, HB3.out⟩
end
end Go.Proofs.YtmdgpejedbkkdaaGreatDoor
