/- The contracts of the reader's takeScalar, innermost and isEnding. -/
import Derived.Test.YtemndagaicamiaaGreatDoorFloRd3
import Derived.Deep.RegionHeld3
import Derived.Deep.CutRange
namespace Go.Proofs.YtemndagaicamiaaGreatDoor
open Go.RowKit Go.Sort
open Nw N8 Q6 F9 Go.ChangeShapes Go.WideShapes
set_option linter.unusedVariables false
section
variable {b0 g B m n cap lo : Nat} {w : World} {r : ByteArray} {q : Q4} {qs : List Q4} {f : Fr} {S : List Fr}
theorem RS.bb {w1 w2 : World} (h : RS b0 g B m n cap w1 r lo q qs f S) (hB : Below b0 w w1) (hb : Below w1.heap.size w1 w2) : Below b0 w w2 := hB.trans (hb.mono (by have := h.lt; have := h.below_g; omega))
set_option maxHeartbeats 4000000 in
theorem takeScalar_rs (h : RS b0 g B m n cap w r lo q qs f S) (hs : r.size ≤ 1000000) (l : L8) (hl : r.data.toList.drop (blk r.data.toList) = l) (fm r2 : ByteArray) (hf : fm.data.toList = frm l) (h2 : r2.data.toList = l.drop (tkn l)) :
    Calls Tryz.prog 43 #[.pointer (some ⟨g, 0, none⟩)] w fun e w' => e = .returned (.string fm) ∧ RS b0 g B m n cap w' r2 lo q qs f S ∧ Below b0 w w' := by
  obtain ⟨r', hr'⟩ : ∃ r' : ByteArray, r'.data.toList = l := ⟨ba l, ba_data _⟩
  have HS := Lib.hid (skip_rs h r' (hr'.trans hl.symm))
  obtain ⟨sz, hsz⟩ : ∃ sz, r'.size = sz := ⟨_, rfl⟩
  have hlen : l.length = sz := by rw [← hr', ← hsz]; rfl
  have hszs : sz ≤ 1000000 := by
    have h1 : r.data.toList.length = r.size := rfl
    rw [← hl, List.length_drop, h1] at hlen
    omega
  have hk := tkn_le l
  rw [hlen] at hk
  obtain ⟨t, ht⟩ : ∃ t, r'.extract 0 (tkn l) = t := ⟨_, rfl⟩
  have htd : t.data.toList = l.take (tkn l) := by rw [← ht, Lib.extract_data, List.drop_zero, Nat.sub_zero, hr']
  have htz : t.size ≤ 9223372036854775807 := by
    have h1 : t.data.toList.length = t.size := rfl
    rw [htd, List.length_take] at h1
    omega
  have hT : ∀ W, Calls Tryz.prog 60 #[.string t, .string ⟨#[32]⟩] W fun e w' => e = .returned (.string fm) ∧ w' = W := fun W => by
    refine (Tryz.strings_TrimRight_one t 32 (by decide) W htz).mono ?_
    rintro e w' ⟨rfl, rfl⟩
    refine ⟨?_, rfl⟩
    have e9 : (Lib.trimRightB t.data.toList 32) = fm.data.toList := by rw [htd, hf]; rfl
    rw [e9]
  have HT := Lib.hid hT
  have hx2 : r'.extract (tkn l) sz = r2 := bytes_ext (by rw [← hsz, rest_data, hr', h2])
  have hsc := fun W q x y => Scan_any r' 0 W (by omega) (by omega) (by omega) q x y
  rw [hr'] at hsc
  obtain ⟨k, hkk⟩ : ∃ k, tkn l = k := ⟨_, rfl⟩
  rw [hkk] at ht hx2 hk
  have hkz : (k : Int) ≤ (sz : Int) := by omega
  have kz : (0 : Int) ≤ (k : Int) := by omega
  have good_case : isQ (l.headD 0) = true → ∀ v j, scnP l = some (v, j) → k = j ∧ ∃ qq : ByteArray, ∀ W, Calls Tryz.prog 57 #[.string r', .int .i64 0] W fun e w' => e = .returned (.tuple #[.string qq, .int .i64 (j : Int), .int .i64 0]) ∧ Below W.heap.size W w' := fun hq v j hsn => by
    have hne : l ≠ [] := fun e => by rw [e] at hq; exact absurd hq (by decide)
    obtain ⟨v1, v2, v3⟩ := (scan_zero hne).1 hq
    rw [hsn] at v1 v2 v3
    refine ⟨?_, ba v, fun W => hsc W (ba v) (j : Int) 0 (by rw [v1, ba_data]; rfl) (by rw [v2]; rfl) (by rw [v3]; rfl)⟩
    rw [← hkk]
    unfold tkn
    rw [hq, if_pos rfl, hsn]
  have bad_case : (isQ (l.headD 0) = true → scnP l = none) → k = pln l ∧ ∃ (qq : ByteArray) (x y : Int), (y != 0) = true ∧ ∀ W, Calls Tryz.prog 57 #[.string r', .int .i64 0] W fun e w' => e = .returned (.tuple #[.string qq, .int .i64 x, .int .i64 y]) ∧ Below W.heap.size W w' := fun hno => by
    cases hq : isQ (l.headD 0) with
    | true =>
      have hne : l ≠ [] := fun e => by rw [e] at hq; exact absurd hq (by decide)
      obtain ⟨v1, v2, v3⟩ := (scan_zero hne).1 hq
      rw [hno hq] at v1 v2 v3
      refine ⟨?_, ⟨#[]⟩, 0, 3, rfl, fun W => hsc W ⟨#[]⟩ 0 3 (by rw [v1]; rfl) (by rw [v2]; rfl) (by rw [v3]; rfl)⟩
      rw [← hkk]
      unfold tkn
      rw [hq, if_pos rfl, hno hq]
    | false =>
      have hiq : isQuote l 0 = false := by
        cases hx : isQuote l 0 with
        | false => rfl
        | true =>
          by_cases hne : l = []
          · subst hne; exact absurd hx (by decide)
          · have h9 := (scan_zero hne).2 hq
            have := (scan_is hx).2.2
            rw [h9] at this
            unfold outE at this
            split at this <;> cases this
      obtain ⟨v1, v2, v3⟩ := scan_no hiq
      refine ⟨?_, ⟨#[]⟩, 0, 2, rfl, fun W => hsc W ⟨#[]⟩ 0 2 (by rw [v1]) v2 v3⟩
      rw [← hkk]
      unfold tkn
      rw [hq, if_neg Bool.false_ne_true]
  have hP : k = pln l → ∀ W, Calls Tryz.prog 59 #[.string r'] W fun e w' => e = .returned (.int .i64 (k : Int)) ∧ W = w' := fun e W => plainEnd_any r' W sz hsz hszs k (by rw [hr']; exact e.symm)
  by_cases hgood : isQ (l.headD 0) = true ∧ ∃ p, scnP l = some p
  · obtain ⟨hq, ⟨v, j⟩, hsn⟩ := hgood
    obtain ⟨rfl, qq, hS⟩ := good_case hq v j hsn
    have HSC := Lib.hid hS
    clear h hr' hl hlen hk htd htz hT hsc hkk good_case bad_case hP hS hq hsn hf h2
    go_enter Tryz.func43, Tryz.ntmps43
    go_wp2_with fail
    refine HS.out.mono ?_
    rintro e w1 ⟨rfl, hR, hB⟩
    obtain ⟨⟨c0, c1⟩, f0, f1⟩ := hR.cells
    have HR := Lib.hid hR
    have HB := Lib.hid hB
    clear hR hB
    go_wp2_with fail
    refine (HSC.out _).mono ?_
    rintro e w2 ⟨rfl, hb⟩
    replace HB := Lib.hid (HR.out.bb HB.out hb)
    replace HR := Lib.hid (HR.out.go hb)
    clear c0 c1 f0 f1 hb
    obtain ⟨⟨c0, c1⟩, f0, f1⟩ := HR.out.cells
    go_wp2_with (go_at_call 60; refine (HT.out _).mono ?_; rintro e w3 ⟨rfl, rfl⟩)
    go_ret
    exact ⟨rfl, HR.out.text r2, below_text HB.out HR.out.below_g r2⟩
  · obtain ⟨hkp, qq, x, y, hy, hS⟩ := bad_case fun hq => by
      cases hsn : scnP l with
      | none => rfl
      | some p => exact absurd ⟨hq, p, hsn⟩ hgood
    have HSC := Lib.hid hS
    have HP := Lib.hid (hP hkp)
    clear h hr' hl hlen hk htd htz hT hsc hkk good_case bad_case hP hS hgood hkp hf h2
    go_enter Tryz.func43, Tryz.ntmps43
    go_wp2_with fail
    refine HS.out.mono ?_
    rintro e w1 ⟨rfl, hR, hB⟩
    obtain ⟨⟨c0, c1⟩, f0, f1⟩ := hR.cells
    have HR := Lib.hid hR
    have HB := Lib.hid hB
    clear hR hB
    go_wp2_with fail
    refine (HSC.out _).mono ?_
    rintro e w2 ⟨rfl, hb⟩
    replace HB := Lib.hid (HR.out.bb HB.out hb)
    replace HR := Lib.hid (HR.out.go hb)
    clear c0 c1 f0 f1 hb
    obtain ⟨⟨c0, c1⟩, f0, f1⟩ := HR.out.cells
    go_wp2_with (first
      | (go_at_call 59; refine (HP.out _).mono ?_; rintro e w3 ⟨rfl, rfl⟩)
      | (go_at_call 60; refine (HT.out _).mono ?_; rintro e w3 ⟨rfl, rfl⟩))
    go_ret
    exact ⟨rfl, HR.out.text r2, below_text HB.out HR.out.below_g r2⟩
set_option maxHeartbeats 4000000 in
theorem innermost_rs (h : RS b0 g B m n cap w r lo q qs f S) :
    Calls Tryz.prog 41 #[.pointer (some ⟨g, 0, none⟩)] w fun e w' => e = .returned (.pointer (some ⟨B, m * 4, none⟩)) ∧ Below w.heap.size w w' := by
  obtain ⟨⟨c0, c1⟩, f0, f1⟩ := h.cells
  obtain ⟨h1, -, h3, h4, -⟩ := h.nums
  unfold maxLen at h4
  have wn : IntKind.i64.wrap ((n : Int) - 1) = (m : Int) := by
    rw [IntWalk.i64_in _ (by omega)]; omega
  have mz : (0 : Int) ≤ (m : Int) := by omega
  have mn : (m : Int) < (n : Int) := by omega
  clear h h1 h3 h4
  go_enter Tryz.func41, Tryz.ntmps41
  go_wp2
  go_quiet (fail)
  go_wp2
  go_ret
  exact ⟨rfl, below_drewN _ _⟩
set_option maxHeartbeats 4000000 in
theorem isEnding0_rs (h : RS b0 g B m n cap w r lo q qs f S) (hk : f.k = 0) :
    Calls Tryz.prog 27 #[.pointer (some ⟨g, 0, none⟩)] w fun e w' => e = .returned (.bool false) ∧ Below w.heap.size w w' := by
  have HI := Lib.hid (innermost_rs h)
  have HH := Lib.hid h
  have HK := Lib.hid hk
  clear h hk
  go_enter Tryz.func27, Tryz.ntmps27
  go_wp2_with fail
  refine HI.out.mono ?_
  rintro e w1 ⟨rfl, hb⟩
  obtain ⟨⟨t0, t1, t2, t3⟩, -, -⟩ := (HH.out.go hb).top
  rw [HK.out] at t0
  have HB := Lib.hid hb
  clear hb HH HI
  go_wp2
  go_ret
  exact ⟨rfl, HB.out⟩
set_option maxHeartbeats 4000000 in
theorem isEnding_rs (h : RS b0 g B m n cap w r lo q qs f S) (hk : f.k = 2 ∨ f.k = 3) (r' : ByteArray) (hr : r'.data.toList = r.data.toList.drop (blk r.data.toList)) (b : Bool) (hb : isC (clo f.k) (r'.data.toList.headD 0) = b) :
    Calls Tryz.prog 27 #[.pointer (some ⟨g, 0, none⟩)] w fun e w' => e = .returned (.bool b) ∧ RS b0 g B m n cap w' r' lo q qs f S ∧ Below b0 w w' := by
  have HI := Lib.hid (innermost_rs h)
  have HH := Lib.hid h
  have HRR := Lib.hid hr
  have HBB := Lib.hid (show Below b0 w w from Below.refl _ _)
  rcases hk with hk | hk
  · rw [hk] at hb
    have HC := Lib.hid hb
    have HK := Lib.hid hk
    clear h hr hb hk
    go_enter Tryz.func27, Tryz.ntmps27
    go_wp2_with fail
    refine HI.out.mono ?_
    rintro e w1 ⟨rfl, hb⟩
    have HR := Lib.hid (HH.out.go hb)
    have HB := Lib.hid (HH.out.bb HBB.out hb)
    clear hb HH HI HBB
    obtain ⟨⟨t0, t1, t2, t3⟩, -, -⟩ := HR.out.top
    rw [HK.out] at t0
    have HN := Lib.hid (isNext_rs HR.out 93 (by decide) r' HRR.out b HC.out)
    clear t1 t2 t3
    go_wp2_with fail
    refine HN.out.mono ?_
    rintro e w2 ⟨rfl, hR2, hB2⟩
    have HR2 := Lib.hid hR2
    have HB2 := Lib.hid (HB.out.trans hB2)
    clear hR2 hB2 t0
    go_wp2
    go_ret
    exact ⟨rfl, HR2.out, HB2.out⟩
  · rw [hk] at hb
    have HC := Lib.hid hb
    have HK := Lib.hid hk
    clear h hr hb hk
    go_enter Tryz.func27, Tryz.ntmps27
    go_wp2_with fail
    refine HI.out.mono ?_
    rintro e w1 ⟨rfl, hb⟩
    have HR := Lib.hid (HH.out.go hb)
    have HB := Lib.hid (HH.out.bb HBB.out hb)
    clear hb HH HI HBB
    obtain ⟨⟨t0, t1, t2, t3⟩, -, -⟩ := HR.out.top
    rw [HK.out] at t0
    have HN := Lib.hid (isNext_rs HR.out 125 (by decide) r' HRR.out b HC.out)
    clear t1 t2 t3
    go_wp2_with fail
    refine HN.out.mono ?_
    rintro e w2 ⟨rfl, hR2, hB2⟩
    have HR2 := Lib.hid hR2
    have HB2 := Lib.hid (HB.out.trans hB2)
    clear hR2 hB2 t0
    go_wp2
    go_ret
    exact ⟨rfl, HR2.out, HB2.out⟩
end
end Go.Proofs.YtemndagaicamiaaGreatDoor
