/- The contract of size.spelled. -/
import Derived.Test.YtagccngcedblhaaDoorSizMath
import Derived.Test.YtagccngcedblhaaDoorSizLaid
import Derived.Test.YtagccngcedblhaaDoorShelf
import Derived.Test.YtagccngcedblhaaDoorDigSmall
import Derived.RegionTactic
import Derived.ChangeAlike
namespace Go.Proofs.YtagccngcedblhaaDoor
open Go.RowKit
open Dg
set_option linter.unusedVariables false
def tsuf (l : List UInt8) : List UInt8 := Lib.trimSuffix l [98]
theorem tsuf_cases (l : List UInt8) : (∃ r, l = r ++ [98] ∧ tsuf l = r) ∨ ((∀ r, l ≠ r ++ [98]) ∧ tsuf l = l) := by
  by_cases h : Lib.hasSuffix l [98] = true
  · have h2 := h
    unfold Lib.hasSuffix at h2
    rw [List.isSuffixOf_iff_suffix] at h2
    obtain ⟨r, hr⟩ := h2
    left
    refine ⟨r, hr.symm, ?_⟩
    unfold tsuf Lib.trimSuffix
    rw [if_pos h, ← hr]
    simp
  · right
    refine ⟨fun r hr => h ?_, if_neg h⟩
    unfold Lib.hasSuffix
    rw [List.isSuffixOf_iff_suffix]
    exact ⟨r, hr.symm⟩
/-- The unit of a spelling without its b. -/
def vz (q : List UInt8) : Nat := if q = [] then 1 else if q = [107] then 1024 else if q = [109] then 1048576 else if q = [103] then 1073741824 else 0
theorem vz_none {q : List UInt8} (h0 : q ≠ []) (h1 : q ≠ [107]) (h2 : q ≠ [109]) (h3 : q ≠ [103]) : vz q = 0 :=
  (if_neg h0).trans ((if_neg h1).trans ((if_neg h2).trans (if_neg h3)))
theorem uz_none {l : List UInt8} (h : l ≠ [] ∧ l ≠ [98] ∧ l ≠ [107] ∧ l ≠ [107, 98] ∧ l ≠ [109] ∧ l ≠ [109, 98] ∧ l ≠ [103] ∧ l ≠ [103, 98]) : uz l = 0 := by
  rcases uz_cases l with ⟨e, -⟩ | ⟨-, e | e⟩ | ⟨-, e | e⟩ | ⟨-, e | e⟩ | ⟨-, e | e⟩
  · exact e
  · exact absurd e h.1
  · exact absurd e h.2.1
  · exact absurd e h.2.2.1
  · exact absurd e h.2.2.2.1
  · exact absurd e h.2.2.2.2.1
  · exact absurd e h.2.2.2.2.2.1
  · exact absurd e h.2.2.2.2.2.2.1
  · exact absurd e h.2.2.2.2.2.2.2
theorem snoc_ne {r l : List UInt8} (h : r ≠ l.dropLast) : r ++ [98] ≠ l := fun e => h (by rw [← e, List.dropLast_concat])
theorem uz_tsuf (l : List UInt8) : uz l = vz (tsuf l) := by
  rcases tsuf_cases l with ⟨r, hr, ht⟩ | ⟨hn, ht⟩
  · rw [ht, hr]
    by_cases h0 : r = []
    · subst h0; rfl
    · by_cases h1 : r = [107]
      · subst h1; rfl
      · by_cases h2 : r = [109]
        · subst h2; rfl
        · by_cases h3 : r = [103]
          · subst h3; rfl
          · rw [vz_none h0 h1 h2 h3]
            exact uz_none ⟨snoc_ne h0, snoc_ne h0, snoc_ne h0, snoc_ne h1, snoc_ne h0, snoc_ne h2, snoc_ne h0, snoc_ne h3⟩
  · rw [ht]
    by_cases h0 : l = []
    · subst h0; rfl
    · by_cases h1 : l = [107]
      · subst h1; rfl
      · by_cases h2 : l = [109]
        · subst h2; rfl
        · by_cases h3 : l = [103]
          · subst h3; rfl
          · rw [vz_none h0 h1 h2 h3]
            exact uz_none ⟨h0, hn [], h1, hn [107], h2, hn [109], h3, hn [103]⟩
theorem suf_q (s q : ByteArray) (w : World) (hs : s.size ≤ maxLen) (h : tsuf s.data.toList = q.data.toList) :
    Calls Tryd.prog 27 #[.string s, .string ⟨#[98]⟩] w fun e w' => e = .returned (.string q) ∧ w = w' :=
  (Tryd.strings_TrimSuffix s ⟨#[98]⟩ w (by unfold maxLen at hs; omega)).mono fun e w' ⟨h1, h2⟩ => ⟨by rw [h1]; congr 2; exact mk_of h, h2.symm⟩
theorem tl_ne {q : ByteArray} {l : List UInt8} (h : q.data.toList ≠ l) : (q.toList == l) = false := by rw [ByteArray.toList_eq]; exact beq_eq_false_iff_ne.2 h
theorem tl_ne_nil {q : ByteArray} (h : q.data.toList ≠ []) : q.toList.isEmpty = false ∧ ¬ q.toList = [] := by
  rw [ByteArray.toList_eq, List.isEmpty_eq_false_iff]; exact ⟨h, h⟩
theorem vz_cases (q : List UInt8) : (vz q = 1 ∧ q = []) ∨ (vz q = 1024 ∧ q = [107]) ∨ (vz q = 1048576 ∧ q = [109]) ∨ (vz q = 1073741824 ∧ q = [103]) ∨ (vz q = 0 ∧ q ≠ [] ∧ q ≠ [107] ∧ q ≠ [109] ∧ q ≠ [103]) := by
  by_cases h0 : q = []
  · left; exact ⟨if_pos h0, h0⟩
  · by_cases h1 : q = [107]
    · right; left; exact ⟨(if_neg h0).trans (if_pos h1), h1⟩
    · by_cases h2 : q = [109]
      · right; right; left; exact ⟨(if_neg h0).trans ((if_neg h1).trans (if_pos h2)), h2⟩
      · by_cases h3 : q = [103]
        · right; right; right; left; exact ⟨(if_neg h0).trans ((if_neg h1).trans ((if_neg h2).trans (if_pos h3))), h3⟩
        · right; right; right; right; exact ⟨vz_none h0 h1 h2 h3, h0, h1, h2, h3⟩
/-- The number of a unit of so many bytes. -/
def kz (u : Nat) : Int := if u = 1024 then 1 else if u = 1048576 then 2 else if u = 1073741824 then 3 else 0
theorem ret_ib {a b : Int} {x y : Bool} (h : a = b) (g : x = y) : Ending.returned (.tuple #[.int .i64 a, .bool x]) = .returned (.tuple #[.int .i64 b, .bool y]) := by rw [h, g]
set_option maxHeartbeats 4000000 in
theorem spelled_any (s : ByteArray) (w : World) (hL : Let4 w) (hs : s.size ≤ maxLen) :
    Calls Tryd.prog 14 #[.string s] w fun e w' => e = .returned (.tuple #[.int .i64 (kz (uz s.data.toList)), .bool (uz s.data.toList != 0)]) ∧ w = w' := by
  obtain ⟨q, hq⟩ : ∃ q : ByteArray, tsuf s.data.toList = q.data.toList := ⟨⟨(tsuf s.data.toList).toArray⟩, by simp⟩
  have HQ := Lib.hid hq
  obtain ⟨c0, c1, c2, c3⟩ := hL
  rw [uz_tsuf, hq]
  clear hq
  rcases vz_cases q.data.toList with ⟨hv, h⟩ | ⟨hv, h⟩ | ⟨hv, h⟩ | ⟨hv, h⟩ | ⟨hv, h0, h1, h2, h3⟩
  · obtain rfl : q = ⟨#[]⟩ := bytes_ext h
    rw [hv]
    clear hv h
    go_enter Tryd.func14, Tryd.ntmps14
    go_wp2_with (go_at_call 27; refine (suf_q s _ _ hs HQ.out).mono ?_; rintro e w1 ⟨rfl, rfl⟩)
    go_loop [8] (fun i => ∃ k : Nat, k ≤ 0 ∧ i = .int .i64 (k : Int)) (fun i => 4 - (intOf i).toNat)
    case atStart => exact ⟨0, by omega, rfl⟩
    case round =>
      obtain ⟨k, hk, rfl⟩ := hrel
      have hk' : k = 0 := by omega
      subst hk'
      · go_wp2
        go_ret2
        exact ⟨rfl, rfl⟩
  · obtain rfl : q = ⟨#[107]⟩ := bytes_ext h
    rw [hv]
    clear hv h
    go_enter Tryd.func14, Tryd.ntmps14
    go_wp2_with (go_at_call 27; refine (suf_q s _ _ hs HQ.out).mono ?_; rintro e w1 ⟨rfl, rfl⟩)
    go_loop [8] (fun i => ∃ k : Nat, k ≤ 1 ∧ i = .int .i64 (k : Int)) (fun i => 4 - (intOf i).toNat)
    case atStart => exact ⟨0, by omega, rfl⟩
    case round =>
      obtain ⟨k, hk, rfl⟩ := hrel
      have hk' : k = 0 ∨ k = 1 := by omega
      rcases hk' with rfl | rfl
      · go_wp2
        go_round
        case rel => exact ⟨1, by omega, by go_num⟩
        case measure => simp [intOf]
      · go_wp2
        go_ret2
        exact ⟨rfl, rfl⟩
  · obtain rfl : q = ⟨#[109]⟩ := bytes_ext h
    rw [hv]
    clear hv h
    go_enter Tryd.func14, Tryd.ntmps14
    go_wp2_with (go_at_call 27; refine (suf_q s _ _ hs HQ.out).mono ?_; rintro e w1 ⟨rfl, rfl⟩)
    go_loop [8] (fun i => ∃ k : Nat, k ≤ 2 ∧ i = .int .i64 (k : Int)) (fun i => 4 - (intOf i).toNat)
    case atStart => exact ⟨0, by omega, rfl⟩
    case round =>
      obtain ⟨k, hk, rfl⟩ := hrel
      have hk' : k = 0 ∨ k = 1 ∨ k = 2 := by omega
      rcases hk' with rfl | rfl | rfl
      · go_wp2
        go_round
        case rel => exact ⟨1, by omega, by go_num⟩
        case measure => simp [intOf]
      · go_wp2
        go_round
        case rel => exact ⟨2, by omega, by go_num⟩
        case measure => simp [intOf]
      · go_wp2
        go_ret2
        exact ⟨rfl, rfl⟩
  · obtain rfl : q = ⟨#[103]⟩ := bytes_ext h
    rw [hv]
    clear hv h
    go_enter Tryd.func14, Tryd.ntmps14
    go_wp2_with (go_at_call 27; refine (suf_q s _ _ hs HQ.out).mono ?_; rintro e w1 ⟨rfl, rfl⟩)
    go_loop [8] (fun i => ∃ k : Nat, k ≤ 3 ∧ i = .int .i64 (k : Int)) (fun i => 4 - (intOf i).toNat)
    case atStart => exact ⟨0, by omega, rfl⟩
    case round =>
      obtain ⟨k, hk, rfl⟩ := hrel
      have hk' : k = 0 ∨ k = 1 ∨ k = 2 ∨ k = 3 := by omega
      rcases hk' with rfl | rfl | rfl | rfl
      · go_wp2
        go_round
        case rel => exact ⟨1, by omega, by go_num⟩
        case measure => simp [intOf]
      · go_wp2
        go_round
        case rel => exact ⟨2, by omega, by go_num⟩
        case measure => simp [intOf]
      · go_wp2
        go_round
        case rel => exact ⟨3, by omega, by go_num⟩
        case measure => simp [intOf]
      · go_wp2
        go_ret2
        exact ⟨rfl, rfl⟩
  · have b0 := tl_ne h0
    obtain ⟨b1, b2⟩ := tl_ne_nil h0
    have b3 := tl_ne h1
    have b4 := tl_ne h2
    have b5 := tl_ne h3
    rw [hv]
    clear hv h0 h1 h2 h3
    go_enter Tryd.func14, Tryd.ntmps14
    go_wp2_with (go_at_call 27; refine (suf_q s _ _ hs HQ.out).mono ?_; rintro e w1 ⟨rfl, rfl⟩)
    go_loop [8] (fun i => ∃ k : Nat, k ≤ 4 ∧ i = .int .i64 (k : Int)) (fun i => 4 - (intOf i).toNat)
    case atStart => exact ⟨0, by omega, rfl⟩
    case round =>
      obtain ⟨k, hk, rfl⟩ := hrel
      have hk' : k = 0 ∨ k = 1 ∨ k = 2 ∨ k = 3 ∨ k = 4 := by omega
      rcases hk' with rfl | rfl | rfl | rfl | rfl
      · go_wp2
        go_round
        case rel => exact ⟨1, by omega, by go_num⟩
        case measure => simp [intOf]
      · go_wp2
        go_round
        case rel => exact ⟨2, by omega, by go_num⟩
        case measure => simp [intOf]
      · go_wp2
        go_round
        case rel => exact ⟨3, by omega, by go_num⟩
        case measure => simp [intOf]
      · go_wp2
        go_round
        case rel => exact ⟨4, by omega, by go_num⟩
        case measure => simp [intOf]
      · go_wp2
        go_ret2
        exact ⟨rfl, rfl⟩
end Go.Proofs.YtagccngcedblhaaDoor
