/- QuoteBack: any text, written between quotes, is scanned as it was, whatever stands ahead of it and behind it. -/
import Derived.Test.YtidagmecghbaeaaDoorQuoAwake
import Derived.Test.YtidagmecghbaeaaDoorQuoSingle
namespace Go.Proofs.YtidagmecghbaeaaDoor
open Go.RowKit
open Q6
set_option linter.unusedVariables false
theorem app_at (a r : List UInt8) (c : UInt8) : (a ++ c :: r).getD a.length 0 = c := by
  rw [List.getD_eq_getElem?_getD, List.getElem?_append_right (Nat.le_refl _), Nat.sub_self]; rfl
theorem app_drop (a r : List UInt8) (c : UInt8) : (a ++ c :: r).drop (a.length + 1) = r := by
  rw [List.drop_append, List.drop_of_length_le (Nat.le_succ _), List.nil_append, show a.length + 1 - a.length = 1 by omega]; rfl
theorem app_quote (a r : List UInt8) (c : UInt8) (h : c = 34 ∨ c = 39) : isQuote (a ++ c :: r) (a.length : Int) = true := by
  unfold isQuote
  rw [decide_eq_true (by omega : (0 : Int) ≤ (a.length : Int)), decide_eq_true (by rw [List.length_append, List.length_cons]; omega : (a.length : Int) < ((a ++ c :: r).length : Int)), Int.toNat_natCast, app_at]
  rcases h with h | h <;> subst h <;> rfl
theorem back_double (a l b : List UInt8) : scanV (a ++ dblL l ++ b) (a.length : Int) = l ∧ scanN (a ++ dblL l ++ b) (a.length : Int) = (a.length : Int) + ((dblL l).length : Int) ∧ scanE (a ++ dblL l ++ b) (a.length : Int) = 0 := by
  have e : a ++ dblL l ++ b = a ++ 34 :: (escL l ++ 34 :: b) := by unfold dblL; simp
  rw [e]
  obtain ⟨h1, h2, h3⟩ := scan_is (app_quote a (escL l ++ 34 :: b) 34 (.inl rfl))
  have hR : scanR (a ++ 34 :: (escL l ++ 34 :: b)) a.length = some (l, a.length + (dblL l).length) := by
    unfold scanR
    rw [app_at, if_pos rfl]
    unfold atD
    rw [app_drop, scD_esc]
    unfold dblL
    simp [push]; omega
  rw [h1, h2, h3, Int.toNat_natCast, hR]
  exact ⟨rfl, by show ((a.length + (dblL l).length : Nat) : Int) = _; omega, rfl⟩
theorem back_single (a l b : List UInt8) (hg : ∀ c ∈ l, good c = true) (hb : b = [] ∨ b.headD 0 ≠ 39) :
    scanV (a ++ sglL l ++ b) (a.length : Int) = l ∧ scanN (a ++ sglL l ++ b) (a.length : Int) = (a.length : Int) + ((sglL l).length : Int) ∧ scanE (a ++ sglL l ++ b) (a.length : Int) = 0 := by
  have e : a ++ sglL l ++ b = a ++ 39 :: (sqL l ++ 39 :: b) := by unfold sglL; simp
  rw [e]
  obtain ⟨h1, h2, h3⟩ := scan_is (app_quote a (sqL l ++ 39 :: b) 39 (.inr rfl))
  have hR : scanR (a ++ 39 :: (sqL l ++ 39 :: b)) a.length = some (l, a.length + (sglL l).length) := by
    unfold scanR
    rw [app_at, if_neg (by decide)]
    unfold atS
    rw [app_drop, scS_sq l b hg hb]
    unfold sglL
    simp [push]; omega
  rw [h1, h2, h3, Int.toNat_natCast, hR]
  exact ⟨rfl, by show ((a.length + (sglL l).length : Nat) : Int) = _; omega, rfl⟩
theorem sglB_good {l : List UInt8} (h : sglB l = true) : ∀ c ∈ l, good c = true := by
  intro c hc
  obtain ⟨i, hi, rfl⟩ := List.mem_iff_getElem.1 hc
  have := every_iff.1 h i hi
  unfold okI goodF at this
  rw [List.getD_eq_getElem?_getD, List.getElem?_eq_getElem hi] at this
  exact this
theorem dblL_len (l : List UInt8) : (dblL l).length ≤ 4 * l.length + 2 := by
  unfold dblL
  rw [List.length_append, List.length_cons]
  have := escL_len l
  show _ + 1 + 1 ≤ _
  omega
theorem sglL_len (l : List UInt8) : (sglL l).length ≤ 2 * l.length + 2 := by
  unfold sglL
  rw [List.length_append, List.length_cons]
  have := sqL_len l
  show _ + 1 + 1 ≤ _
  omega
theorem size_of {a : ByteArray} {l : List UInt8} (h : l = a.data.toList) : a.size = l.length := by rw [h, len_eq]
theorem size_app (a b : ByteArray) : (a ++ b).size = a.size + b.size := by rw [← len_eq, data_app, List.length_append, len_eq, len_eq]
theorem Single_q (s q : ByteArray) (b : Bool) (w : World) (hw : SomeMax w) (hs : s.size ≤ 200000) (hq : sglV s.data.toList = q.data.toList) (hb : sglB s.data.toList = b) :
    Calls Tryd.prog 9 #[.string s] w fun e w' => e = .returned (.tuple #[.string q, .bool b]) ∧ Below w.heap.size w w' := Single_any s w hw hs q b hq hb
theorem scan_back (a D b s : ByteArray) (w : World) (ha : a.size ≤ 3000) (hD : D.size ≤ 20000) (hb : b.size ≤ 3000)
    (h : scanV (a.data.toList ++ D.data.toList ++ b.data.toList) (a.data.toList.length : Int) = s.data.toList ∧ scanN (a.data.toList ++ D.data.toList ++ b.data.toList) (a.data.toList.length : Int) = (a.data.toList.length : Int) + (D.data.toList.length : Int) ∧ scanE (a.data.toList ++ D.data.toList ++ b.data.toList) (a.data.toList.length : Int) = 0) :
    Calls Tryd.prog 15 #[.string (a ++ D ++ b), .int .i64 (a.size : Int)] w fun e w' => e = .returned (.tuple #[.string s, .int .i64 ((a.size : Int) + (D.size : Int)), .int .i64 0]) ∧ Below w.heap.size w w' := by
  have hd : (a ++ D ++ b).data.toList = a.data.toList ++ D.data.toList ++ b.data.toList := by rw [data_app, data_app]
  rw [← hd, len_eq, len_eq] at h
  exact Scan_any (a ++ D ++ b) (a.size : Int) w (by rw [size_app, size_app]; omega) (by omega) (by omega) s _ 0 h.1 h.2.1 h.2.2
end Go.Proofs.YtidagmecghbaeaaDoor
