/- LineSplits: Split answers, for every text, what the document's own answer says. -/
import Derived.Test.YtjhojedicehcfaaDoorLinAwake
import Derived.Test.YtjhojedicehcfaaDoorRefSplit
namespace Go.Proofs.YtjhojedicehcfaaDoor
open Go.RowKit Go.Sort
open Q6
set_option linter.unusedVariables false
theorem splitL_len (n : Nat) : ∀ (l : List UInt8) (no : Nat) (acc : List Ln), l.length ≤ n → (splitL no acc l).1.length ≤ acc.length + l.length := by
  induction n with
  | zero =>
    intro l no acc hl
    obtain rfl : l = [] := List.length_eq_zero_iff.1 (by omega)
    rw [splitL_nil]; exact Nat.le_add_right _ _
  | succ n ih =>
    intro l no acc hl
    by_cases he : l = []
    · subst he; rw [splitL_nil]; exact Nat.le_add_right _ _
    · have hpos := List.length_pos_iff.2 he
      cases ho : oneL (l.take (rowN l)) with
      | none => rw [splitL_bad he ho]; exact Nat.zero_le _
      | some p =>
        obtain ⟨k, t⟩ := p
        rw [splitL_next he ho]
        have h := ih (l.drop (rowN l + 1)) (no + 1) (if t = [] then acc else acc ++ [⟨no + 1, k, t⟩]) (by rw [List.length_drop]; omega)
        have h2 : (if t = [] then acc else acc ++ [⟨no + 1, k, t⟩]).length ≤ acc.length + 1 := by
          split
          · omega
          · rw [List.length_append]; exact Nat.le_refl _
        rw [List.length_drop] at h
        omega
theorem fileL_len (l : List UInt8) : (fileL l).1.length ≤ l.length := by
  unfold fileL
  split
  · exact Nat.zero_le _
  · have := splitL_len _ l 0 [] (Nat.le_refl _)
    simpa using this
set_option maxHeartbeats 4000000 in
theorem LineSplits_walk (s : ByteArray) (hs : s.size ≤ maxLen) (w : World) (hw : SomeMax w) :
    Calls Tryd.prog 3 #[.string s] w fun e w' => e = .returned (.bool true) ∧ Below w.heap.size w w' := by
  unfold maxLen at hs
  by_cases hlen : (9000 : Int) < (s.size : Int)
  · go_enter Tryd.func3, Tryd.ntmps3
    go_wp2_with (go_at_call 6; refine (awake_any _ hw).mono ?_; rintro e w5 ⟨rfl, hb5⟩)
    go_ret
    exact ⟨rfl, hb5⟩
  · have hs2 : s.size ≤ 100000 := by omega
    obtain ⟨r, hr⟩ : ∃ r, fileL s.data.toList = r := ⟨_, rfl⟩
    obtain ⟨ls, n, E⟩ := r
    have hll : ls.length ≤ 100000 := by
      have := fileL_len s.data.toList
      rw [hr, len_eq] at this
      exact Nat.le_trans this hs2
    have HC := Lib.hid (Split_any s w hw hs2 ls n E hr)
    have HRC := Lib.hid (fun w0 => RSplit_any s w0 hs2 ls n E hr)
    clear hr
    go_enter Tryd.func3, Tryd.ntmps3
    go_wp2_with fail
    refine HC.out.mono ?_
    rintro e w1 ⟨v1, rfl, hl1, hb1⟩
    have HL1 := Lib.hid hl1
    have HB1 := Lib.hid hb1
    clear hl1 hb1
    go_wp2_with fail
    refine (HRC.out w1).mono ?_
    rintro e w2 ⟨v2, rfl, hl2, hb2⟩
    have HL2 := Lib.hid hl2
    have HL1b := Lib.hid (HL1.out.below hb2)
    have HB2 := Lib.hid (belowNext HB1.out hb2)
    clear hl2 hb2
    go_wp2_with fail
    refine (taken_any v1 ls w2 HL1b.out hll).mono ?_
    rintro e w3 ⟨v3, rfl, hl3, hb3⟩
    have HL3 := Lib.hid hl3
    have HL2b := Lib.hid (HL2.out.below hb3)
    have HB3 := Lib.hid (belowNext HB2.out hb3)
    clear hl3 hb3
    go_wp2_with fail
    refine (Same_num v3 v2 ls ls w3 HL3.out HL2b.out rfl hll (fun k a b => ⟨rfl, rfl, rfl⟩)).mono ?_
    rintro e w4 ⟨rfl, hb4⟩
    have HB4 := Lib.hid (belowNext HB3.out hb4)
    clear hb4
    go_wp2_with fail
    refine (awake_any w4 (hw.keep HB4.out)).mono ?_
    rintro e w5 ⟨rfl, hb5⟩
    have HB5 := Lib.hid (belowNext HB4.out hb5)
    clear hb5
    go_wp2
    go_ret
    exact ⟨rfl, HB5.out⟩
end Go.Proofs.YtjhojedicehcfaaDoor
