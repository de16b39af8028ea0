/- The contracts of isBare and Bare. -/
import Derived.Test.YtfafoognjodeiaaDoorRefWrd3
import Derived.Test.YtfafoognjodeiaaDoorShelf
namespace Go.Proofs.YtfafoognjodeiaaDoor
open Go.RowKit Go.Sort
open Nw W15
set_option linter.unusedVariables false
theorem idxByte_ge (l : L8) (c : UInt8) : decide ((0 : Int) ≤ Lib.indexByte l c) = l.contains c := by
  have key : ∀ l : L8, (Lib.indexByte l c = -1 ∧ l.contains c = false) ∨ (0 ≤ Lib.indexByte l c ∧ l.contains c = true) := by
    intro l
    induction l with
    | nil => exact .inl ⟨rfl, rfl⟩
    | cons b l ih =>
      rw [Lib.indexByte, List.contains_cons]
      by_cases hb : b = c
      · subst hb
        rw [if_pos (beq_self_eq_true _)]
        exact .inr ⟨by decide, by simp⟩
      · have h1 : (b == c) = false := beq_eq_false_iff_ne.2 hb
        have h2 : (c == b) = false := beq_eq_false_iff_ne.2 (Ne.symm hb)
        rw [h1, h2, if_neg Bool.false_ne_true, Bool.false_or]
        rcases ih with ⟨e1, e2⟩ | ⟨e1, e2⟩
        · rw [e1]; exact .inl ⟨rfl, e2⟩
        · have : (Lib.indexByte l c == -1) = false := beq_eq_false_iff_ne.2 (by omega)
          rw [this, if_neg Bool.false_ne_true]
          exact .inr ⟨by omega, e2⟩
  rcases key l with ⟨h1, h2⟩ | ⟨h1, h2⟩
  · rw [h1, h2]; rfl
  · rw [h2]; exact decide_eq_true h1
theorem emp_noW {s : ByteArray} (h : 0 < s.size) : s.toList.isEmpty = false := by
  rw [ByteArray.toList_eq, List.isEmpty_eq_false_iff]
  intro e
  have h2 : s.data.toList.length = s.size := rfl
  rw [e, List.length_nil] at h2
  omega
theorem emp_yesW {s : ByteArray} (h : s.size = 0) : s.toList.isEmpty = true := by
  rw [ByteArray.toList_eq, List.isEmpty_iff]
  exact List.length_eq_zero_iff.1 h
theorem ret_bW {a b : Bool} (h : a = b) : Ending.returned (.bool a) = .returned (.bool b) := by rw [h]
set_option maxRecDepth 100000 in
set_option maxHeartbeats 8000000 in
theorem isBare_any (c : UInt8) (w : World) : Calls Tryd.prog 19 #[.int .u8 c.toNat] w fun e w' => e = .returned (.bool (bareC c)) ∧ w' = w := by
  have hcls := clsW c
  obtain ⟨I, hI⟩ : ∃ I, Lib.indexByte moreL c = I := ⟨_, rfl⟩
  have hIc : Hid (decide ((0 : Int) ≤ I) = moreL.contains c) := Lib.hid (by rw [← hI]; exact idxByte_ge _ _)
  have HX : Hid (∀ W, Calls Tryd.prog 27 #[.string ⟨#[46, 95, 45, 47, 58, 61, 44, 43, 64, 37]⟩, .int .u8 (c.toNat : Int)] W fun e w' => e = .returned (.int .i64 I) ∧ w' = W) := Lib.hid (fun W => by
    have h := Tryd.strings_IndexByte ⟨#[46, 95, 45, 47, 58, 61, 44, 43, 64, 37]⟩ (c.toNat : Int) W
    have e1 : (c.toNat : Int).toNat.toUInt8 = c := by simp
    rw [e1, show (⟨#[46, 95, 45, 47, 58, 61, 44, 43, 64, 37]⟩ : ByteArray).data.toList = moreL from rfl, hI] at h
    exact h)
  have HG : Hid (bareC c = (alnC c || moreL.contains c)) := Lib.hid (bare_split c)
  clear hI
  by_cases h1 : (97 : Int) ≤ (c.toNat : Int) <;> by_cases h2 : (c.toNat : Int) ≤ 122 <;> by_cases h3 : (65 : Int) ≤ (c.toNat : Int) <;> by_cases h4 : (c.toNat : Int) ≤ 90 <;> by_cases h5 : (48 : Int) ≤ (c.toNat : Int) <;> by_cases h6 : (c.toNat : Int) ≤ 57 <;> try omega
  all_goals
    simp only [h1, h2, h3, h4, h5, h6, decide_true, decide_false, Bool.and_true, Bool.and_false, Bool.or_true, Bool.or_false, Bool.true_or, Bool.false_or, Bool.and_self, Bool.or_self] at hcls
    have HCL := Lib.hid hcls
    clear hcls
    by_cases h7 : (0 : Int) ≤ I
    all_goals
      go_enter Tryd.func19, Tryd.ntmps19
      go_wp2_with (go_at_call 27; refine (HX.out _).mono ?_; rintro e w1 ⟨rfl, rfl⟩)
      go_ret
      exact ⟨ret_bW (by rw [HG.out, HCL.out, ← hIc.out]; simp [h7]), rfl⟩
set_option maxRecDepth 100000 in
set_option maxHeartbeats 8000000 in
theorem Bare15_any (s : ByteArray) (w : World) (hs : s.size ≤ 1000000) :
    Calls Tryd.prog 10 #[.string s] w fun e w' => e = .returned (.bool (bareB s.data.toList)) ∧ w' = w := by
  obtain ⟨n, hn⟩ : ∃ n, s.size = n := ⟨_, rfl⟩
  have hn1 : n ≤ 1000000 := by omega
  obtain ⟨R, hR⟩ : ∃ R, bareB s.data.toList = R := ⟨_, rfl⟩
  have HR := Lib.hid hR
  have HSN := Lib.hid hn
  rw [hR]
  clear hR
  go_enter Tryd.func10, Tryd.ntmps10
  go_wp2
  go_loopw [6] (fun si wr => ∃ k : Nat, k ≤ n ∧ si = .int .i64 (k : Int) ∧ wr = w ∧ Hid ((s.data.toList.take k).all bareC = true)) (fun si _ => n - (intOf si).toNat)
  case atStart => exact ⟨0, Nat.zero_le _, rfl, rfl, Lib.hid rfl⟩
  case round =>
    obtain ⟨k, hk, rfl, rfl, HA⟩ := hrel
    by_cases hlt : k < n
    · have hks : k < s.size := by omega
      have hkl : Hid (k < s.data.toList.length) := Lib.hid hks
      have hkz : (k : Int) < (n : Int) := by omega
      obtain ⟨c, hc⟩ : ∃ c, s[k]'hks = c := ⟨_, rfl⟩
      have HC : Hid (s.data.toList[k]'hkl.out = c) := Lib.hid hc
      have kw : IntKind.i64.wrap ((k : Int) + 1) = (k : Int) + 1 := IntWalk.i64_in _ (by omega)
      have HB := Lib.hid (fun W => isBare_any c W)
      cases hb : bareC c with
      | true =>
        rw [hb] at HB
        have HN : Hid ((s.data.toList.take (k + 1)).all bareC = true) := Lib.hid (all_take hkl.out HA.out (by rw [HC.out]; exact hb))
        clear hb
        go_wp2_with (go_at_call 19; refine (HB.out _).mono ?_; rintro e w1 ⟨rfl, rfl⟩)
        go_roundw
        case rel => exact ⟨k + 1, by omega, by go_num, by trivial, HN⟩
        case measure => simp [intOf]; omega
      | false =>
        rw [hb] at HB
        have HN : Hid (bareB s.data.toList = false) := Lib.hid (bareB_no hkl.out (by rw [HC.out]; exact hb))
        clear hb
        go_wp2_with (go_at_call 19; refine (HB.out _).mono ?_; rintro e w1 ⟨rfl, rfl⟩)
        go_ret
        exact ⟨ret_bW (by rw [← HR.out, HN.out]), rfl⟩
    · obtain rfl : k = n := by omega
      have HN : Hid (bareB s.data.toList = decide (0 < k)) := Lib.hid (by
        have h := HA.out
        rw [List.take_of_length_le (show s.data.toList.length ≤ k from by have := HSN.out; exact Nat.le_of_eq this)] at h
        rw [bareB_yes h, show s.data.toList.length = k from HSN.out])
      by_cases h0 : 0 < k
      · have he : s.toList.isEmpty = false := emp_noW (by have := HSN.out; omega)
        go_wp2
        go_ret
        exact ⟨ret_bW (by rw [← HR.out, HN.out, decide_eq_true h0]), rfl⟩
      · have he : s.toList.isEmpty = true := emp_yesW (by have := HSN.out; omega)
        go_wp2
        go_ret
        exact ⟨ret_bW (by rw [← HR.out, HN.out, decide_eq_false h0]), rfl⟩
end Go.Proofs.YtfafoognjodeiaaDoor
