/- The contracts of line's isBehind and isMarker. -/
import Derived.Test.YtjhojedicehcfaaDoorQuoScan2
import Derived.Test.YtjhojedicehcfaaDoorLinProg
namespace Go.Proofs.YtjhojedicehcfaaDoor
open Go.RowKit
open Q6
set_option linter.unusedVariables false
/-- Is the byte at k the first one, or does it stand behind one of t? -/
def behB (l : List UInt8) (k : Nat) (t : List UInt8) : Bool := decide (k = 0) || has t (l.getD (k - 1) 0)
theorem beh_space (l : List UInt8) (k : Nat) : behB l k [32] = decide (prevB l k = 32) := by
  unfold behB prevB has
  by_cases h : k = 0
  · rw [if_pos h, decide_eq_true h]; rfl
  · rw [if_neg h, decide_eq_false h, Bool.false_or, decide_eq_decide]
    simp only [List.mem_cons, List.not_mem_nil, or_false]
theorem beh_opens (l : List UInt8) (k : Nat) : behB l k [32, 91, 123, 44] = opens (prevB l k) := by
  unfold behB prevB has opens
  by_cases h : k = 0
  · rw [if_pos h, decide_eq_true h]; rfl
  · rw [if_neg h, decide_eq_false h, Bool.false_or]
    generalize l.getD (k - 1) 0 = c
    simp only [List.mem_cons, List.not_mem_nil, or_false, Bool.decide_or, Bool.or_assoc]
set_option maxHeartbeats 1600000 in
theorem behind_any (s t : ByteArray) (k : Nat) (w : World) (hs : s.size ≤ 100000) (hk : k < s.size) (b : Bool) (h : behB s.data.toList k t.data.toList = b) :
    Calls Tryd.prog 34 #[.string s, .int .i64 (k : Int), .string t] w fun e w' => e = .returned (.bool b) ∧ w = w' := by
  have HB := Lib.hid h
  clear h
  by_cases h0 : k = 0
  · subst h0
    have H : Hid (b = true) := Lib.hid (by rw [← HB.out]; rfl)
    go_enter Tryd.func34, Tryd.ntmps34
    go_wp2
    go_ret
    exact ⟨ret_b H.out.symm, rfl⟩
  · obtain ⟨j, rfl⟩ : ∃ j, k = j + 1 := ⟨k - 1, by omega⟩
    have hj : j < s.size := by omega
    have hjz : (j : Int) < (s.size : Int) := by omega
    have hg : s.data.toList.getD j 0 = s[j]'hj := getd s j hj
    obtain ⟨c, hc⟩ : ∃ c, s[j]'hj = c := ⟨_, rfl⟩
    rw [hc] at hg
    have H : Hid (has t.data.toList c = b) := Lib.hid (by
      rw [← HB.out]; unfold behB
      rw [decide_eq_false (by omega : ¬ j + 1 = 0), Bool.false_or, Nat.add_sub_cancel, hg])
    have HI := Lib.hid (index_has t.data.toList c)
    have hcc : ((c.toNat : Int)).toNat.toUInt8 = c := by simp
    have hX := Tryd.strings_IndexByte t (c.toNat : Int)
    rw [hcc] at hX
    generalize Lib.indexByte t.data.toList c = x at *
    have HX := Lib.hid hX
    clear hcc hg hX
    have kz : ((j + 1 : Nat) : Int) = (j : Int) + 1 := by omega
    rw [kz]
    have e1 : ((j : Int) + 1 == 0) = false := beq_eq_false_iff_ne.2 (by omega)
    have e2 : IntKind.i64.wrap ((j : Int) + 1 - 1) = (j : Int) := by rw [Int.add_sub_cancel]; exact IntWalk.i64_in _ (by omega)
    clear kz h0 hk
    go_enter Tryd.func34, Tryd.ntmps34
    go_wp2_with (go_at_call 48; refine (HX.out _).mono ?_; rintro e w' ⟨rfl, hw⟩; subst hw)
    go_ret
    exact ⟨ret_b (HI.out.trans H.out), rfl⟩
theorem behind_space (s : ByteArray) (k : Nat) (w : World) (hs : s.size ≤ 100000) (hk : k < s.size) (b : Bool) (h : decide (prevB s.data.toList k = 32) = b) :
    Calls Tryd.prog 34 #[.string s, .int .i64 (k : Int), .string ⟨#[32]⟩] w fun e w' => e = .returned (.bool b) ∧ w = w' :=
  behind_any s _ k w hs hk b ((beh_space _ _).trans h)
theorem behind_opens (s : ByteArray) (k : Nat) (w : World) (hs : s.size ≤ 100000) (hk : k < s.size) (b : Bool) (h : opens (prevB s.data.toList k) = b) :
    Calls Tryd.prog 34 #[.string s, .int .i64 (k : Int), .string ⟨#[32, 91, 123, 44]⟩] w fun e w' => e = .returned (.bool b) ∧ w = w' :=
  behind_any s _ k w hs hk b ((beh_opens _ _).trans h)
theorem marker_any (s : ByteArray) (b : Bool) (w : World) (h : marker s.data.toList = b) :
    Calls Tryd.prog 23 #[.string s] w fun e w' => e = .returned (.bool b) ∧ w = w' := by
  have H := Lib.hid h
  clear h
  unfold marker at H
  by_cases h1 : s.data.toList = [45, 45, 45]
  · obtain rfl := bytes_of (l := #[45, 45, 45]) h1
    have H2 : Hid (b = true) := Lib.hid (by rw [← H.out]; rfl)
    clear h1 H
    go_enter Tryd.func23, Tryd.ntmps23
    go_wp2
    go_ret
    exact ⟨ret_b H2.out.symm, rfl⟩
  by_cases h2 : s.data.toList = [46, 46, 46]
  · obtain rfl := bytes_of (l := #[46, 46, 46]) h2
    have H2 : Hid (b = true) := Lib.hid (by rw [← H.out]; rfl)
    clear h1 h2 H
    go_enter Tryd.func23, Tryd.ntmps23
    go_wp2
    go_ret
    exact ⟨ret_b H2.out.symm, rfl⟩
  have b1 : (s.toList == [45, 45, 45]) = false := by rw [ByteArray.toList_eq]; exact beq_eq_false_iff_ne.2 h1
  have b2 : (s.toList == [46, 46, 46]) = false := by rw [ByteArray.toList_eq]; exact beq_eq_false_iff_ne.2 h2
  have H2 : Hid (b = false) := Lib.hid (by rw [← H.out, decide_eq_false h1, decide_eq_false h2]; rfl)
  clear h1 h2 H
  go_enter Tryd.func23, Tryd.ntmps23
  go_wp2
  go_ret
  exact ⟨ret_b H2.out.symm, rfl⟩
end Go.Proofs.YtjhojedicehcfaaDoor
