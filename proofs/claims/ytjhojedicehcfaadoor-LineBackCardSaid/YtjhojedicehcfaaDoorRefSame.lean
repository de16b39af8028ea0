/- The contract of the document's own Same, where it says yes. -/
import Derived.Test.YtjhojedicehcfaaDoorLinTaken
namespace Go.Proofs.YtjhojedicehcfaaDoor
open Go.RowKit Go.Sort
open Q6
set_option linter.unusedVariables false
set_option maxRecDepth 100000 in
set_option maxHeartbeats 4000000 in
theorem Same_num (v1 v2 : Value) (ls1 ls2 : List Ln) (w : World) (h1 : LR w v1 ls1) (h2 : LR w v2 ls2) (hlen : ls1.length = ls2.length) (hl : ls1.length ≤ 100000)
    (hsame : ∀ (k : Nat) (a : k < ls1.length) (b : k < ls2.length), (ls1[k]'a).text = (ls2[k]'b).text ∧ (ls1[k]'a).ind = (ls2[k]'b).ind ∧ (ls1[k]'a).no = (ls2[k]'b).no) :
    Calls Tryd.prog 9 #[v1, v2, .bool true] w fun e w' => e = .returned (.bool true) ∧ Below w.heap.size w w' := by
  obtain ⟨A1, cap1, rfl, hc1, hcell1⟩ := h1
  obtain ⟨A2, cap2, rfl, hc2, hcell2⟩ := h2
  have HCELL1 := Lib.hid hcell1
  have HCELL2 := Lib.hid hcell2
  have HSAME := Lib.hid hsame
  clear hcell1 hcell2 hsame
  obtain ⟨n, hn⟩ : ∃ n, ls1.length = n := ⟨_, rfl⟩
  have hn2 : ls2.length = n := by omega
  have HN := Lib.hid hn
  have HN2 := Lib.hid hn2
  rw [hn] at hc1 hl ⊢
  rw [hn2] at hc2 ⊢
  clear hn hn2 hlen
  go_enter Tryd.func9, Tryd.ntmps9
  go_wp2
  go_loopw [7] (fun si wr => ∃ k : Nat, k ≤ n ∧ si = .int .i64 (k : Int) ∧ Hid (Below w.heap.size w wr)) (fun si _ => n - (intOf si).toNat)
  case atStart => exact ⟨0, Nat.zero_le _, rfl, Lib.hid (Below.refl _ _)⟩
  case round =>
    obtain ⟨k, hk, rfl, HB⟩ := hrel
    by_cases hlt : k < n
    · have hkl1 : k < ls1.length := by rw [HN.out]; exact hlt
      have hkl2 : k < ls2.length := by rw [HN2.out]; exact hlt
      have hkz : (k : Int) < (n : Int) := by omega
      have HS := Lib.hid (HSAME.out k hkl1 hkl2)
      obtain ⟨g1, rfl, hg1, c10, c11, c12⟩ := HCELL1.out k hkl1
      obtain ⟨g2, rfl, hg2, c20, c21, c22⟩ := HCELL2.out k hkl2
      rw [← HS.out.1] at c22
      rw [← HS.out.2.1] at c21
      rw [← HS.out.2.2] at c20
      obtain ⟨a1, ha1⟩ : ∃ a : Int, ((ls1[k]'hkl1).no : Int) = a := ⟨_, rfl⟩
      obtain ⟨b, hb⟩ : ∃ b : Int, ((ls1[k]'hkl1).ind : Int) = b := ⟨_, rfl⟩
      obtain ⟨t, ht⟩ : ∃ t : ByteArray, (⟨(ls1[k]'hkl1).text.toArray⟩ : ByteArray) = t := ⟨_, rfl⟩
      rw [ha1] at c10
      rw [ha1] at c20
      rw [hb] at c11 c21
      rw [ht] at c12 c22
      have d10 := (HB.out.cell (p := ⟨g1, k * 3, none⟩) hg1).trans c10
      have d11 := (HB.out.cell (p := ⟨g1, k * 3 + 1, none⟩) hg1).trans c11
      have d12 := (HB.out.cell (p := ⟨g1, k * 3 + 2, none⟩) hg1).trans c12
      have d20 := (HB.out.cell (p := ⟨g2, k * 3, none⟩) hg2).trans c20
      have d21 := (HB.out.cell (p := ⟨g2, k * 3 + 1, none⟩) hg2).trans c21
      have d22 := (HB.out.cell (p := ⟨g2, k * 3 + 2, none⟩) hg2).trans c22
      have n2 : (b != b) = false := by simp
      have n3 : (t.toList != t.toList) = false := by simp
      have n4 : (a1 != a1) = false := by simp
      clear c10 c11 c12 c20 c21 c22 ha1 hb ht
      go_wp2
      go_quiet (fail)
      go_wp2
      go_roundw
      case measure => simp [intOf]; omega
      case rel => exact ⟨k + 1, by omega, by go_num, Lib.hid (HB.out.trans ((belowD wr _).mono HB.out.size))⟩
    · obtain rfl : k = n := by omega
      go_wp2
      go_ret
      exact ⟨rfl, HB.out⟩
set_option maxRecDepth 100000 in
set_option maxHeartbeats 4000000 in
theorem Same_any (v1 v2 : Value) (ls1 ls2 : List Ln) (w : World) (h1 : LR w v1 ls1) (h2 : LR w v2 ls2) (hlen : ls1.length = ls2.length) (hl : ls1.length ≤ 100000)
    (hsame : ∀ (k : Nat) (a : k < ls1.length) (b : k < ls2.length), (ls1[k]'a).text = (ls2[k]'b).text ∧ (ls1[k]'a).ind = (ls2[k]'b).ind) :
    Calls Tryd.prog 9 #[v1, v2, .bool false] w fun e w' => e = .returned (.bool true) ∧ Below w.heap.size w w' := by
  obtain ⟨A1, cap1, rfl, hc1, hcell1⟩ := h1
  obtain ⟨A2, cap2, rfl, hc2, hcell2⟩ := h2
  have HCELL1 := Lib.hid hcell1
  have HCELL2 := Lib.hid hcell2
  have HSAME := Lib.hid hsame
  clear hcell1 hcell2 hsame
  obtain ⟨n, hn⟩ : ∃ n, ls1.length = n := ⟨_, rfl⟩
  have hn2 : ls2.length = n := by omega
  have HN := Lib.hid hn
  have HN2 := Lib.hid hn2
  rw [hn] at hc1 hl ⊢
  rw [hn2] at hc2 ⊢
  clear hn hn2 hlen
  go_enter Tryd.func9, Tryd.ntmps9
  go_wp2
  go_loopw [7] (fun si wr => ∃ k : Nat, k ≤ n ∧ si = .int .i64 (k : Int) ∧ Hid (Below w.heap.size w wr)) (fun si _ => n - (intOf si).toNat)
  case atStart => exact ⟨0, Nat.zero_le _, rfl, Lib.hid (Below.refl _ _)⟩
  case round =>
    obtain ⟨k, hk, rfl, HB⟩ := hrel
    by_cases hlt : k < n
    · have hkl1 : k < ls1.length := by rw [HN.out]; exact hlt
      have hkl2 : k < ls2.length := by rw [HN2.out]; exact hlt
      have hkz : (k : Int) < (n : Int) := by omega
      have HS := Lib.hid (HSAME.out k hkl1 hkl2)
      obtain ⟨g1, rfl, hg1, c10, c11, c12⟩ := HCELL1.out k hkl1
      obtain ⟨g2, rfl, hg2, c20, c21, c22⟩ := HCELL2.out k hkl2
      rw [← HS.out.1] at c22
      rw [← HS.out.2] at c21
      obtain ⟨a1, ha1⟩ : ∃ a : Int, ((ls1[k]'hkl1).no : Int) = a := ⟨_, rfl⟩
      obtain ⟨a2, ha2⟩ : ∃ a : Int, ((ls2[k]'hkl2).no : Int) = a := ⟨_, rfl⟩
      obtain ⟨b, hb⟩ : ∃ b : Int, ((ls1[k]'hkl1).ind : Int) = b := ⟨_, rfl⟩
      obtain ⟨t, ht⟩ : ∃ t : ByteArray, (⟨(ls1[k]'hkl1).text.toArray⟩ : ByteArray) = t := ⟨_, rfl⟩
      rw [ha1] at c10
      rw [ha2] at c20
      rw [hb] at c11 c21
      rw [ht] at c12 c22
      have d10 := (HB.out.cell (p := ⟨g1, k * 3, none⟩) hg1).trans c10
      have d11 := (HB.out.cell (p := ⟨g1, k * 3 + 1, none⟩) hg1).trans c11
      have d12 := (HB.out.cell (p := ⟨g1, k * 3 + 2, none⟩) hg1).trans c12
      have d20 := (HB.out.cell (p := ⟨g2, k * 3, none⟩) hg2).trans c20
      have d21 := (HB.out.cell (p := ⟨g2, k * 3 + 1, none⟩) hg2).trans c21
      have d22 := (HB.out.cell (p := ⟨g2, k * 3 + 2, none⟩) hg2).trans c22
      have n2 : (b != b) = false := by simp
      have n3 : (t.toList != t.toList) = false := by simp
      have n4 : (a1 != a1) = false := by simp
      clear c10 c11 c12 c20 c21 c22 ha1 ha2 hb ht
      go_wp2
      go_quiet (fail)
      go_wp2
      go_roundw
      case measure => simp [intOf]; omega
      case rel => exact ⟨k + 1, by omega, by go_num, Lib.hid (HB.out.trans ((belowD wr _).mono HB.out.size))⟩
    · obtain rfl : k = n := by omega
      go_wp2
      go_ret
      exact ⟨rfl, HB.out⟩
end Go.Proofs.YtjhojedicehcfaaDoor
