/- The contracts of Cut and of the document's own Cut. -/
import Derived.Test.YtjhojedicehcfaaDoorLinAwake
import Derived.Test.YtjhojedicehcfaaDoorRefSplit
import Derived.BigRegion
namespace Go.Proofs.YtjhojedicehcfaaDoor
open Go.RowKit Go.Sort
open Q6
set_option linter.unusedVariables false
/-- How many bytes Cut takes away. -/
def cutN (l : List UInt8) (k : Nat) : Nat := k + indN (l.drop k)
theorem cutN_le {l : List UInt8} {k : Nat} (h : k ≤ l.length) : cutN l k ≤ l.length := by
  unfold cutN
  have := indN_le (l.drop k)
  rw [List.length_drop] at this
  omega
set_option maxHeartbeats 4000000 in
theorem Cut_out (no ind n : Int) (t : ByteArray) (w : World) (ht : t.size ≤ 100000) (h : n < 0 ∨ (t.size : Int) < n) :
    Calls Tryd.prog 11 #[.agg #[.int .i64 no, .int .i64 ind, .string t], .int .i64 n] w fun e w' => e = .returned (.agg #[.int .i64 no, .int .i64 ind, .string t]) ∧ Below w.heap.size w w' := by
  by_cases h0 : n < 0
  · clear h
    go_enter Tryd.func11, Tryd.ntmps11
    go_wp2
    exact bodyPost_ret (v := .agg #[.int .i64 no, .int .i64 ind, .string t]) (by simp [results, Tryd.results11, go_sem]) rfl ⟨rfl, by first | exact ((Below.refl _ _).alloc (Nat.le_refl _) _).alloc (by simp) _ | exact (((((Below.refl _ _).alloc (Nat.le_refl _) _).alloc (by simp) _).setCell (by simp) _).setCell (by simp) _).setCell (by simp) _⟩
  · have h1 : (t.size : Int) < n := by omega
    clear h
    go_enter Tryd.func11, Tryd.ntmps11
    go_wp2
    exact bodyPost_ret (v := .agg #[.int .i64 no, .int .i64 ind, .string t]) (by simp [results, Tryd.results11, go_sem]) rfl ⟨rfl, by first | exact ((Below.refl _ _).alloc (Nat.le_refl _) _).alloc (by simp) _ | exact (((((Below.refl _ _).alloc (Nat.le_refl _) _).alloc (by simp) _).setCell (by simp) _).setCell (by simp) _).setCell (by simp) _⟩
set_option maxHeartbeats 4000000 in
theorem Cut_in (no ind : Int) (k m : Nat) (t q : ByteArray) (w : World) (ht : t.size ≤ 3000) (hi0 : 0 ≤ ind) (hi1 : ind ≤ 10000) (hk : k ≤ t.size) (hm : cutN t.data.toList k = m) (hq : t.data.toList.drop m = q.data.toList) :
    Calls Tryd.prog 11 #[.agg #[.int .i64 no, .int .i64 ind, .string t], .int .i64 (k : Int)] w fun e w' => e = .returned (.agg #[.int .i64 no, .int .i64 (ind + (m : Int)), .string q]) ∧ Below w.heap.size w w' := by
  have hmt : m ≤ t.size := by rw [← hm, ← len_eq]; exact cutN_le (by rw [len_eq]; exact hk)
  have hqs : q.size + m = t.size := by
    have h1 : q.data.toList.length = q.size := len_eq q
    rw [← hq, List.length_drop, len_eq] at h1
    omega
  have HT := Lib.hid (fun w0 => trimL_any (t.extract k t.size) q w0 (by rw [from_data, List.drop_drop, ← hq, ← hm]; rfl))
  have kz : (k : Int) ≤ (t.size : Int) := by omega
  have k0 : ¬ (t.size : Int) < (k : Int) := by omega
  have e1 : ind + (t.size : Int) - (q.size : Int) = ind + (m : Int) := by omega
  have e2 : IntKind.i64.wrap (ind + (m : Int)) = ind + (m : Int) := IntWalk.i64_in _ (by omega)
  have e3 : IntKind.i64.wrap (ind + (t.size : Int)) = ind + (t.size : Int) := IntWalk.i64_in _ (by omega)
  clear hm hq hqs
  go_enter Tryd.func11, Tryd.ntmps11
  go_wp2_with (go_at_call 17; refine (HT.out _).mono ?_; rintro e w' ⟨rfl, rfl⟩)
  exact bodyPost_ret (v := .agg #[.int .i64 no, .int .i64 (ind + (m : Int)), .string q]) (by simp [results, Tryd.results11, go_sem]) rfl ⟨rfl, by first | exact ((Below.refl _ _).alloc (Nat.le_refl _) _).alloc (by simp) _ | exact (((((Below.refl _ _).alloc (Nat.le_refl _) _).alloc (by simp) _).setCell (by simp) _).setCell (by simp) _).setCell (by simp) _⟩
set_option maxHeartbeats 4000000 in
theorem RCut_out (no ind n : Int) (t : ByteArray) (w : World) (ht : t.size ≤ 100000) (h : n < 0 ∨ (t.size : Int) < n) :
    Calls Tryd.prog 12 #[.agg #[.int .i64 no, .int .i64 ind, .string t], .int .i64 n] w fun e w' => e = .returned (.agg #[.int .i64 no, .int .i64 ind, .string t]) ∧ Below w.heap.size w w' := by
  by_cases h0 : n < 0
  · clear h
    go_enter Tryd.func12, Tryd.ntmps12
    go_wp2
    exact bodyPost_ret (v := .agg #[.int .i64 no, .int .i64 ind, .string t]) (by simp [results, Tryd.results12, go_sem]) rfl ⟨rfl, by first | exact ((Below.refl _ _).alloc (Nat.le_refl _) _).alloc (by simp) _ | exact (((((Below.refl _ _).alloc (Nat.le_refl _) _).alloc (by simp) _).setCell (by simp) _).setCell (by simp) _).setCell (by simp) _⟩
  · have h1 : (t.size : Int) < n := by omega
    clear h
    go_enter Tryd.func12, Tryd.ntmps12
    go_wp2
    exact bodyPost_ret (v := .agg #[.int .i64 no, .int .i64 ind, .string t]) (by simp [results, Tryd.results12, go_sem]) rfl ⟨rfl, by first | exact ((Below.refl _ _).alloc (Nat.le_refl _) _).alloc (by simp) _ | exact (((((Below.refl _ _).alloc (Nat.le_refl _) _).alloc (by simp) _).setCell (by simp) _).setCell (by simp) _).setCell (by simp) _⟩
set_option maxHeartbeats 4000000 in
theorem RCut_in (no ind : Int) (k m : Nat) (t q : ByteArray) (w : World) (ht : t.size ≤ 3000) (hi0 : 0 ≤ ind) (hi1 : ind ≤ 10000) (hk : k ≤ t.size) (hm : cutN t.data.toList k = m) (hq : t.data.toList.drop m = q.data.toList) :
    Calls Tryd.prog 12 #[.agg #[.int .i64 no, .int .i64 ind, .string t], .int .i64 (k : Int)] w fun e w' => e = .returned (.agg #[.int .i64 no, .int .i64 (ind + (m : Int)), .string q]) ∧ Below w.heap.size w w' := by
  have hmt : m ≤ t.size := by rw [← hm, ← len_eq]; exact cutN_le (by rw [len_eq]; exact hk)
  have hkm : k ≤ m := by rw [← hm]; exact Nat.le_add_right _ _
  have hsp : ∀ j, k ≤ j → j < m → t.data.toList.getD j 0 = 32 := by
    intro j h1 h2
    have := (indN_lt (l := t.data.toList.drop k) (k := j - k) (by rw [← hm] at h2; unfold cutN at h2; omega)).2
    rw [List.getD_eq_getElem?_getD, List.getElem?_drop, show k + (j - k) = j by omega] at this
    rw [List.getD_eq_getElem?_getD]; exact this
  have hst : m < t.size → t.data.toList.getD m 0 ≠ 32 := by
    intro h
    have := drop_indN (t.data.toList.drop k) (by rw [List.length_drop, len_eq]; rw [← hm] at h; unfold cutN at h; omega)
    rw [List.getD_eq_getElem?_getD, List.getElem?_drop] at this
    rw [List.getD_eq_getElem?_getD, ← hm]; exact this
  have HSP := Lib.hid hsp
  have HST := Lib.hid hst
  obtain ⟨n, hn⟩ : ∃ n, t.size = n := ⟨_, rfl⟩
  have hx : t.extract m n = q := bytes_ext (by rw [← hn, from_data, hq])
  have HX := Lib.hid hx
  have HN := Lib.hid hn
  have kz : ¬ (n : Int) < (k : Int) := by omega
  clear hm hq hsp hst hx
  go_enter Tryd.func12, Tryd.ntmps12
  go_wp2
  go_loop [1] (fun t1 => ∃ j : Nat, k ≤ j ∧ j ≤ m ∧ t1 = .int .i64 (j : Int)) (fun t1 => m - (intOf t1).toNat)
  case atStart => exact ⟨k, Nat.le_refl _, hkm, rfl⟩
  case round =>
    obtain ⟨j, hkj, hjm, rfl⟩ := hrel
    by_cases hlt : j < m
    · have hjs : j < t.size := by omega
      have hjz : (j : Int) < (n : Int) := by omega
      obtain ⟨c, hc⟩ : ∃ c, t[j]'hjs = c := ⟨_, rfl⟩
      have he : c = 32 := by rw [← hc, ← getd t j hjs]; exact HSP.out j hkj hlt
      have m32 : ((c.toNat : Int) == 32) = true := byte_beq c 32 true (by rw [he]; decide)
      clear he
      go_wp2
      go_round
      case rel => exact ⟨j + 1, by omega, by omega, by go_num⟩
      case measure => simp [intOf]; omega
    · obtain rfl : j = m := by omega
      have e2 : IntKind.i64.wrap (ind + (j : Int)) = ind + (j : Int) := IntWalk.i64_in _ (by omega)
      have hjz2 : (j : Int) ≤ (n : Int) := by omega
      have hx2 := HX.out
      clear hlt hjm
      by_cases hjn : j < n
      · have hjs : j < t.size := by omega
        have hjz : (j : Int) < (n : Int) := by omega
        obtain ⟨c, hc⟩ : ∃ c, t[j]'hjs = c := ⟨_, rfl⟩
        have he : c ≠ 32 := by rw [← hc, ← getd t j hjs]; exact HST.out hjs
        have m32 : ((c.toNat : Int) == 32) = false := byte_beq c 32 false (decide_eq_false (fun e => he (UInt8.toNat_inj.1 e)))
        clear he HST HSP
        go_wp2
        go_region
        all_goals
          go_wp2
          exact bodyPost_ret (v := .agg #[.int .i64 no, .int .i64 (ind + (j : Int)), .string q]) (by simp [results, Tryd.results12, go_sem]) rfl ⟨rfl, (((Below.refl _ _).alloc (Nat.le_refl _) _).alloc (by simp) _).drew⟩
      · have hjz : ¬ (j : Int) < (n : Int) := by omega
        clear HST HSP
        go_wp2
        go_region
        all_goals
          go_wp2
          exact bodyPost_ret (v := .agg #[.int .i64 no, .int .i64 (ind + (j : Int)), .string q]) (by simp [results, Tryd.results12, go_sem]) rfl ⟨rfl, (((Below.refl _ _).alloc (Nat.le_refl _) _).alloc (by simp) _).drew⟩
end Go.Proofs.YtjhojedicehcfaaDoor
