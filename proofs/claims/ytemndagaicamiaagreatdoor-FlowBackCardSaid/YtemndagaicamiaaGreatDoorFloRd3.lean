/- The contracts of the reader's methods on its text. -/
import Derived.Test.YtemndagaicamiaaGreatDoorFloRd2
namespace Go.Proofs.YtemndagaicamiaaGreatDoor
open Go.RowKit Go.Sort
open Nw N8 Q6 F9 Go.ChangeShapes Go.WideShapes
set_option linter.unusedVariables false
namespace F9
theorem trimL_blk (l : L8) : Lib.trimLeftB l 32 = l.drop (blk l) := by
  unfold Lib.trimLeftB
  induction l with
  | nil => rfl
  | cons c l ih =>
    rw [List.dropWhile_cons, blk_cons]
    by_cases h : c = 32
    · subst h
      rw [if_pos rfl, if_pos (show ((32 : UInt8) == 32) = true from rfl), List.drop_succ_cons]
      exact ih
    · rw [beq_eq_false_iff_ne.2 h, if_neg Bool.false_ne_true, if_neg h]; rfl
theorem pre_one (c : UInt8) (hc : c ≠ 0) (l : L8) : Lib.hasPrefix l [c] = isC c (l.headD 0) := by
  unfold Lib.hasPrefix
  cases l with
  | nil => show false = isC c 0; exact (decide_eq_false (fun e => hc e.symm)).symm
  | cons d l =>
    show (c == d && [].isPrefixOf l) = isC c d
    rw [List.isPrefixOf_nil_left, Bool.and_true]
    unfold isC
    rw [Bool.eq_iff_iff]
    simp only [beq_iff_eq, decide_eq_true_eq]
    exact ⟨fun h => h.symm, fun h => h.symm⟩
end F9
theorem ret_nil {a b : Value} (h : a = b) : Ending.returned a = .returned b := by rw [h]
section
variable {b0 g B m n cap lo : Nat} {w : World} {r : ByteArray} {q : Q4} {qs : List Q4} {f : Fr} {S : List Fr}
theorem skip_rs (h : RS b0 g B m n cap w r lo q qs f S) (r' : ByteArray) (hr : r'.data.toList = r.data.toList.drop (blk r.data.toList)) :
    Calls Tryz.prog 47 #[.pointer (some ⟨g, 0, none⟩)] w fun e w' => e = .returned (.tuple #[]) ∧ RS b0 g B m n cap w' r' lo q qs f S ∧ Below b0 w w' := by
  have hT : ∀ W, Calls Tryz.prog 65 #[.string r, .string ⟨#[32]⟩] W fun e w' => e = .returned (.string r') ∧ w' = W := fun W => by
    refine (Tryz.strings_TrimLeft_one r 32 (by decide) W).mono ?_
    rintro e w' ⟨rfl, rfl⟩
    refine ⟨?_, rfl⟩
    rw [trimL_blk, ← hr]
  have HT := Lib.hid hT
  have HF := Lib.hid (h.text r')
  have HB := Lib.hid (below_text (Below.refl b0 w) h.below_g r')
  obtain ⟨⟨c0, c1⟩, f0, f1⟩ := h.cells
  clear h hT hr
  go_enter Tryz.func47, Tryz.ntmps47
  go_wp2_with (go_at_call 65; refine (HT.out _).mono ?_; rintro e w' ⟨rfl, rfl⟩)
  go_end0
  exact ⟨rfl, HF.out, HB.out⟩
theorem isNext_rs (h : RS b0 g B m n cap w r lo q qs f S) (c : UInt8) (hc : c ≠ 0) (r' : ByteArray) (hr : r'.data.toList = r.data.toList.drop (blk r.data.toList)) (b : Bool) (hb : isC c (r'.data.toList.headD 0) = b) :
    Calls Tryz.prog 44 #[.pointer (some ⟨g, 0, none⟩), .string ⟨#[c]⟩] w fun e w' => e = .returned (.bool b) ∧ RS b0 g B m n cap w' r' lo q qs f S ∧ Below b0 w w' := by
  have HS := Lib.hid (skip_rs h r' hr)
  have HP := Lib.hid (fun W => (Tryz.strings_HasPrefix r' ⟨#[c]⟩ W).mono (R' := fun e w' => e = .returned (.bool b) ∧ w' = W) fun e w' ⟨h1, h2⟩ => ⟨by rw [h1]; exact ret_b ((pre_one c hc _).trans hb), h2⟩)
  clear h hr hb
  go_enter Tryz.func44, Tryz.ntmps44
  go_wp2_with fail
  refine HS.out.mono ?_
  rintro e w1 ⟨rfl, hR, hB⟩
  obtain ⟨⟨c0, c1⟩, f0, f1⟩ := hR.cells
  have HR := Lib.hid hR
  have HB := Lib.hid hB
  clear hR hB
  go_wp2_with (go_at_call 61; refine (HP.out _).mono ?_; rintro e w' ⟨rfl, rfl⟩)
  go_ret
  exact ⟨rfl, HR.out, HB.out⟩
theorem take_rs (h : RS b0 g B m n cap w r lo q qs f S) (c : UInt8) (hc : c ≠ 0) (hs : r.size ≤ 1000000) (b : Bool) (hb : isC c ((r.data.toList.drop (blk r.data.toList)).headD 0) = b) (r2 : ByteArray) (hr : r2.data.toList = if b then r.data.toList.drop (blk r.data.toList + 1) else r.data.toList.drop (blk r.data.toList)) :
    Calls Tryz.prog 31 #[.pointer (some ⟨g, 0, none⟩), .string ⟨#[c]⟩] w fun e w' => e = .returned (.bool b) ∧ RS b0 g B m n cap w' r2 lo q qs f S ∧ Below b0 w w' := by
  obtain ⟨r', hr'⟩ : ∃ r' : ByteArray, r'.data.toList = r.data.toList.drop (blk r.data.toList) := ⟨ba (r.data.toList.drop (blk r.data.toList)), ba_data _⟩
  rw [← hr'] at hb
  have HS := Lib.hid (isNext_rs h c hc r' hr' b hb)
  cases b with
  | false =>
    have HE : Hid (r' = r2) := Lib.hid (bytes_ext (by rw [hr', hr]; rfl))
    clear h hr hr' hb
    go_enter Tryz.func31, Tryz.ntmps31
    go_wp2_with fail
    refine HS.out.mono ?_
    rintro e w1 ⟨rfl, hR, hB⟩
    rw [HE.out] at hR
    have HR := Lib.hid hR
    have HB := Lib.hid hB
    clear hR hB
    go_wp2
    go_ret
    exact ⟨rfl, HR.out, HB.out⟩
  | true =>
    have hne : r'.data.toList ≠ [] := fun e => by rw [e] at hb; exact hc (isC_iff.1 hb).symm
    have hp : 1 ≤ r'.size := List.length_pos_iff.2 hne
    have hp1 : (1 : Int) ≤ (r'.size : Int) := by omega
    have hx : r'.extract 1 r'.size = r2 := bytes_ext (by
      rw [rest_data, hr, hr', if_pos rfl, List.drop_drop])
    clear h hr hr' hb hne
    go_enter Tryz.func31, Tryz.ntmps31
    go_wp2_with fail
    refine HS.out.mono ?_
    rintro e w1 ⟨rfl, hR, hB⟩
    obtain ⟨⟨c0, c1⟩, f0, f1⟩ := hR.cells
    have HR := Lib.hid (hR.text r2)
    have HB := Lib.hid (below_text hB hR.below_g r2)
    clear hR hB
    go_wp2
    go_ret
    exact ⟨rfl, HR.out, HB.out⟩
theorem isDone_rs (h : RS b0 g B m n cap w r lo q qs f S) (b : Bool) (hb : decide (r.data.toList.length = blk r.data.toList) = b) :
    Calls Tryz.prog 30 #[.pointer (some ⟨g, 0, none⟩)] w fun e w' => e = .returned (.bool b) ∧ (∃ r', RS b0 g B m n cap w' r' lo q qs f S) ∧ Below b0 w w' := by
  obtain ⟨r', hr'⟩ : ∃ r' : ByteArray, r'.data.toList = r.data.toList.drop (blk r.data.toList) := ⟨ba (r.data.toList.drop (blk r.data.toList)), ba_data _⟩
  have HS := Lib.hid (skip_rs h r' hr')
  have hle := blk_le r.data.toList
  have hl : r'.data.toList.length = r.data.toList.length - blk r.data.toList := by rw [hr', List.length_drop]
  by_cases h0 : r'.data.toList = []
  · have HE : Hid (true = b) := Lib.hid (by
      rw [← hb]
      refine (decide_eq_true ?_).symm
      rw [h0, List.length_nil] at hl
      omega)
    obtain rfl := bytes_of (l := #[]) h0
    clear h hr' hb hle hl h0
    go_enter Tryz.func30, Tryz.ntmps30
    go_wp2_with fail
    refine HS.out.mono ?_
    rintro e w1 ⟨rfl, hR, hB⟩
    obtain ⟨⟨c0, c1⟩, f0, f1⟩ := hR.cells
    have HR := Lib.hid hR
    have HB := Lib.hid hB
    clear hR hB
    go_wp2
    go_ret
    exact ⟨ret_b HE.out, ⟨_, HR.out⟩, HB.out⟩
  · have HE : Hid (false = b) := Lib.hid (by
      rw [← hb]
      refine (decide_eq_false fun e => h0 ?_).symm
      exact List.length_eq_zero_iff.1 (by omega))
    have b0 : r'.toList.isEmpty = false := by rw [ByteArray.toList_eq, List.isEmpty_eq_false_iff]; exact h0
    have b0' : ¬ r'.toList = [] := by rw [ByteArray.toList_eq]; exact h0
    clear h hr' hb hle hl h0
    go_enter Tryz.func30, Tryz.ntmps30
    go_wp2_with fail
    refine HS.out.mono ?_
    rintro e w1 ⟨rfl, hR, hB⟩
    obtain ⟨⟨c0, c1⟩, f0, f1⟩ := hR.cells
    have HR := Lib.hid hR
    have HB := Lib.hid hB
    clear hR hB
    go_wp2
    go_ret
    exact ⟨ret_b HE.out, ⟨_, HR.out⟩, HB.out⟩
end
end Go.Proofs.YtemndagaicamiaaGreatDoor
