/- The same for thousandths. -/
import Derived.Test.YtioplkdmkdhnfaaDigBackMath
namespace Go.Proofs.Ytioplkdmkdhnfaa
open Dg
set_option linter.unusedVariables false
theorem strip_len (wd f : Nat) (h : f < 10 ^ wd) : (stripL wd f).length ≤ wd := by
  induction wd generalizing f with
  | zero => obtain rfl : f = 0 := by simpa using h
            show (dgw 0 0).length ≤ 0; rw [dgw_stop]; simp
  | succ k ih =>
    by_cases h0 : f % 10 = 0
    · rw [stripL_go h0]
      exact Nat.le_succ_of_le (ih (f / 10) (by rw [Nat.pow_succ] at h; omega))
    · rw [stripL_stop h0, dgw_len_eq _ _ h]; exact Nat.le_refl _
theorem strip_pad (wd f : Nat) (h : f < 10 ^ wd) : stripL wd f ++ List.replicate (wd - (stripL wd f).length) 48 = dgw wd f := by
  induction wd generalizing f with
  | zero => simp [stripL]
  | succ k ih =>
    by_cases h0 : f % 10 = 0
    · have hk : f / 10 < 10 ^ k := by rw [Nat.pow_succ] at h; omega
      have hl := strip_len k (f / 10) hk
      rw [stripL_go h0, show k + 1 - (stripL k (f / 10)).length = k - (stripL k (f / 10)).length + 1 by omega, List.replicate_succ', ← List.append_assoc, ih (f / 10) hk, dgw_succ, h0]
      rfl
    · rw [stripL_stop h0, dgw_len_eq _ _ h]; simp
theorem getLastD_snoc (l : List UInt8) (c d : UInt8) : (l ++ [c]).getLastD d = c := by
  rw [List.getLastD_eq_getLast?]; simp
theorem strip_last (wd f : Nat) (h : f < 10 ^ wd) (h0 : 0 < f) : stripL wd f ≠ [] ∧ (stripL wd f).getLastD 48 ≠ 48 ∧ digs (stripL wd f) = true := by
  induction wd generalizing f with
  | zero => simp at h; omega
  | succ k ih =>
    by_cases hz : f % 10 = 0
    · rw [stripL_go hz]
      exact ih (f / 10) (by rw [Nat.pow_succ] at h; omega) (by omega)
    · rw [stripL_stop hz]
      refine ⟨fun he => ?_, ?_, digs_dgw _ _⟩
      · have := dgw_len_eq (k + 1) f h; rw [he] at this; simp at this
      · rw [dgw_succ, getLastD_snoc]
        intro he
        have h1 := dv_dch (show f % 10 < 10 by omega)
        rw [he] at h1
        have h2 : dv 48 = 0 := by decide
        omega
theorem strip_of {b : List UInt8} (h1 : b ≠ []) (h2 : b.getLastD 48 ≠ 48) : ∀ (j wd f : Nat), dgw wd f = b ++ List.replicate j 48 → wd = b.length + j → stripL wd f = b := by
  intro j
  induction j with
  | zero =>
    intro wd f h hw
    have hpos := List.length_pos_iff.2 h1
    obtain ⟨k, rfl⟩ : ∃ k, wd = k + 1 := ⟨wd - 1, by omega⟩
    simp only [List.replicate_zero, List.append_nil] at h
    have hz : ¬ f % 10 = 0 := by
      intro hz
      apply h2
      rw [← h, dgw_succ, getLastD_snoc, hz]; rfl
    rw [stripL_stop hz, h]
  | succ j ih =>
    intro wd f h hw
    obtain ⟨k, rfl⟩ : ∃ k, wd = k + 1 := ⟨wd - 1, by omega⟩
    rw [dgw_succ, List.replicate_succ', ← List.append_assoc] at h
    obtain ⟨ha, hb⟩ := List.append_inj' h rfl
    have hz : f % 10 = 0 := by
      have hb' : dch (f % 10) = 48 := by simpa using hb
      have h1 := dv_dch (show f % 10 < 10 by omega)
      rw [hb'] at h1
      have h2 : dv 48 = 0 := by decide
      omega
    rw [stripL_go hz]
    exact ih k (f / 10) ha (by omega)

theorem no46 {l : List UInt8} (h : digs l = true) : 46 ∉ l := by
  intro hm
  unfold digs at h
  rw [List.all_eq_true] at h
  exact absurd (h 46 hm) (by decide)
theorem val_zeros (n : Nat) : val (List.replicate n 48) = 0 := by
  induction n with
  | zero => rfl
  | succ n ih => rw [List.replicate_succ', val_snoc, ih]; decide
theorem val_pad3 (l : List UInt8) : val (l ++ List.replicate 3 48) = val l * 1000 := by
  rw [val_app, val_zeros, List.length_replicate, Nat.add_zero]
theorem milli_ok_of {l : List UInt8} {m : Nat} (h1 : mOk l = true) (h2 : val (mD l) = m) (h3 : m ≤ 9007199254740992) : milliN l = (m : Int) ∧ milliE l = 0 := by
  unfold milliN milliE
  exact ⟨by rw [h1, if_pos rfl, valN_ok (by omega), h2], by rw [h1, if_pos rfl]; exact valE_ok (by omega)⟩
theorem milli_form (m : Nat) : mOk (milliL m) = true ∧ val (mD (milliL m)) = m := by
  unfold milliL
  by_cases hz : m % 1000 = 0
  · rw [if_pos hz]
    obtain ⟨e1, e2⟩ := mOk_no (no46 (digs_dgw 1 (m / 1000)))
    exact ⟨by rw [e1, whole_dgw], by rw [e2, val_pad3, val_dgw]; omega⟩
  · rw [if_neg hz]
    have hf : m % 1000 < 10 ^ 3 := by omega
    obtain ⟨e1, e2⟩ := mOk_yes (b := stripL 3 (m % 1000)) (no46 (digs_dgw 1 (m / 1000)))
    obtain ⟨s1, s2, s3⟩ := strip_last 3 (m % 1000) hf (by omega)
    refine ⟨by rw [e1, whole_dgw, frac_digs s1 (strip_len 3 _ hf) s2, s3]; rfl, ?_⟩
    rw [e2, List.append_assoc, strip_pad 3 _ hf, val_app, val_dgw, val_dgw, dgw_len_eq _ _ hf]
    omega
theorem milli_text_ok {n : Int} (h0 : 0 ≤ n) (h1 : n ≤ 9007199254740992) : milliN (milliTL n) = n ∧ milliE (milliTL n) = 0 := by
  obtain ⟨m, rfl⟩ := Int.eq_ofNat_of_zero_le h0
  have ht : milliTL (m : Int) = milliL m := by unfold milliTL; rw [if_neg (by omega)]; rfl
  rw [ht]
  exact milli_ok_of (milli_form m).1 (milli_form m).2 (by omega)
theorem milli_back {l : List UInt8} (h : milliE l = 0) : mOk l = true ∧ milliN l = (val (mD l) : Int) ∧ (val (mD l) : Int) ≤ 9007199254740992 := by
  unfold milliE at h
  unfold milliN
  by_cases hw : mOk l = true
  · rw [if_pos hw] at h ⊢
    by_cases hb : (val (mD l) : Int) ≤ 9007199254740992
    · exact ⟨hw, valN_ok hb, hb⟩
    · rw [valE_big (by omega)] at h; exact absurd h (by decide)
  · rw [if_neg hw] at h; exact absurd h (by decide)
theorem text_milli {l : List UInt8} (h : milliE l = 0) : milliTL (milliN l) = l := by
  obtain ⟨hok, hn, hb⟩ := milli_back h
  have ht : milliTL (milliN l) = milliL (val (mD l)) := by
    rw [hn]; unfold milliTL; rw [if_neg (by omega)]; rfl
  rw [ht]
  unfold milliL
  by_cases hp : 46 ∈ l
  · obtain ⟨a, b, ha, rfl⟩ := pt_split hp
    obtain ⟨e1, e2⟩ := mOk_yes (b := b) ha
    rw [e1, Bool.and_eq_true] at hok
    obtain ⟨hw, hf⟩ := hok
    have hfd := digs_of_frac hf
    have hne : b ≠ [] := by rintro rfl; simp [frac] at hf
    have hlast : b.getLastD 48 ≠ 48 := by
      intro hl; rw [frac_last hl] at hf; exact absurd hf (by decide)
    have hlen : (b ++ List.replicate (3 - b.length) 48).length = 3 := by
      rw [List.length_append, List.length_replicate]; omega
    have hdz := digs_append hfd.1 (digs_zeros (3 - b.length))
    have hv : val (mD (a ++ 46 :: b)) = val a * 1000 + val (b ++ List.replicate (3 - b.length) 48) := by
      rw [e2, List.append_assoc, val_app, hlen]
    have hlt := val_lt hdz
    rw [hlen] at hlt
    have hdg := dgw_of_digs _ hdz
    rw [hlen] at hdg
    have hst := strip_of hne hlast (3 - b.length) 3 _ hdg (by omega)
    have hpos : 0 < val (b ++ List.replicate (3 - b.length) 48) := by
      rcases Nat.eq_zero_or_pos (val (b ++ List.replicate (3 - b.length) 48)) with h0 | h0
      · exfalso
        rw [h0] at hst
        have hx : stripL 3 0 = [] := by
          rw [stripL_go rfl, stripL_go rfl, stripL_go rfl]
          show dgw 0 0 = []
          exact dgw_stop
        exact hne (hst.symm.trans hx)
      · exact h0
    rw [hv, if_neg (by omega)]
    have h1 : (val a * 1000 + val (b ++ List.replicate (3 - b.length) 48)) / 1000 = val a := by omega
    have h2 : (val a * 1000 + val (b ++ List.replicate (3 - b.length) 48)) % 1000 = val (b ++ List.replicate (3 - b.length) 48) := by omega
    rw [h1, h2, hst, dgw_of_whole hw]
  · obtain ⟨e1, e2⟩ := mOk_no hp
    rw [e1] at hok
    rw [e2, val_pad3, if_pos (by omega), Nat.mul_div_cancel _ (by decide)]
    exact dgw_of_whole hok
theorem milliN_bd (l : List UInt8) : 0 ≤ milliN l ∧ milliN l ≤ 9007199254740992 := by
  unfold milliN
  split
  · exact valN_bd _ _ (by decide)
  · omega
theorem milliTL_len (n : Int) (h : n ≤ 9223372036854775807) : (milliTL n).length ≤ 1000 := by
  unfold milliTL
  by_cases h0 : n < 0
  · rw [if_pos h0]; simp
  · rw [if_neg h0]
    unfold milliL
    have h1 := dgw_len 1 (n.natAbs / 1000) 20 (by omega) (by omega)
    by_cases hz : n.natAbs % 1000 = 0
    · rw [if_pos hz]; omega
    · rw [if_neg hz, List.length_append, List.length_cons]
      have := strip_len 3 (n.natAbs % 1000) (by omega)
      omega
theorem textL_len (n : Int) (h : n ≤ 9223372036854775807) (h' : -9223372036854775808 ≤ n) : (textL n).length ≤ 1000 := by
  unfold textL
  have h1 := dgw_len 1 n.natAbs 20 (by omega) (by omega)
  by_cases h0 : n < 0
  · rw [if_pos h0, List.length_cons]; omega
  · rw [if_neg h0]; omega
end Go.Proofs.Ytioplkdmkdhnfaa
