/- The contract of line's fits, at lines that are not too many. -/
import Derived.Test.YtjhojedicehcfaaDoorLinLaw2
import Derived.Lib.AppendStr
namespace Go.Proofs.YtjhojedicehcfaaDoor
open Go.RowKit Go.Sort
open Q6
set_option linter.unusedVariables false
theorem join_next {ls : List Ln} {k : Nat} (h : k < ls.length) : joinL (ls.take (k + 1)) = joinL (ls.take k) ++ (List.replicate (ls[k]'h).ind 32 ++ ((ls[k]'h).text ++ [10])) := by
  rw [take_next h, joinL_app, joinL_cons, joinL_nil]
  unfold lineL
  rw [List.append_assoc]
theorem join_take_le (ls : List Ln) (k : Nat) : (joinL (ls.take k)).length ≤ (joinL ls).length := by
  have h : ls = ls.take k ++ ls.drop k := (List.take_append_drop k ls).symm
  have h2 := congrArg (fun x => (joinL x).length) h
  simp only [joinL_app, List.length_append] at h2
  omega
theorem join_len {ls : List Ln} {k : Nat} (h : k < ls.length) : (joinL (ls.take (k + 1))).length = (joinL (ls.take k)).length + (ls[k]'h).ind + (ls[k]'h).text.length + 1 := by
  rw [join_next h]
  simp only [List.length_append, List.length_replicate, List.length_cons, List.length_nil]
  omega
set_option maxRecDepth 100000 in
set_option maxHeartbeats 4000000 in
theorem fits_any (v : Value) (ls : List Ln) (w : World) (hv : LR w v ls) (hl : ls.length ≤ 100000) (hj : (joinL ls).length ≤ 100000) :
    Calls Tryd.prog 18 #[v] w fun e w' => e = .returned (.bool true) ∧ Below w.heap.size w w' := by
  obtain ⟨A, cap, rfl, hcap, hcell⟩ := hv
  have HCELL := Lib.hid hcell
  clear hcell
  have HJ := Lib.hid hj
  obtain ⟨n, hn⟩ : ∃ n, ls.length = n := ⟨_, rfl⟩
  have HN := Lib.hid hn
  rw [hn] at hcap hl ⊢
  clear hn hj
  go_enter Tryd.func18, Tryd.ntmps18
  go_wp2
  go_loopw [3, 9] (fun sr si wr => ∃ (k c : Nat), k ≤ n ∧ c ≤ 100000 ∧ si = .int .i64 (k : Int) ∧ sr = .int .i64 (2147483647 - (c : Int)) ∧ Hid (c = (joinL (ls.take k)).length) ∧ Hid (Below w.heap.size w wr)) (fun _ si _ => n - (intOf si).toNat)
  case atStart => exact ⟨0, 0, Nat.zero_le _, Nat.zero_le _, rfl, rfl, Lib.hid rfl, Lib.hid (Below.refl _ _)⟩
  case round =>
    obtain ⟨k, c, hk, hc, rfl, rfl, HC, HB⟩ := hrel
    by_cases hlt : k < n
    · have hkl : k < ls.length := by rw [HN.out]; exact hlt
      have hkz : (k : Int) < (n : Int) := by omega
      obtain ⟨g, rfl, hg, c0, c1, c2⟩ := HCELL.out k hkl
      obtain ⟨a, ha⟩ : ∃ a : Int, ((ls[k]'hkl).no : Int) = a := ⟨_, rfl⟩
      obtain ⟨b, hb⟩ : ∃ b : Nat, (ls[k]'hkl).ind = b := ⟨_, rfl⟩
      obtain ⟨t, ht⟩ : ∃ t : ByteArray, (⟨(ls[k]'hkl).text.toArray⟩ : ByteArray) = t := ⟨_, rfl⟩
      have hts : (ls[k]'hkl).text.length = t.size := by rw [← ht]; simp [ByteArray.size]
      have hsum : (joinL (ls.take (k + 1))).length = c + b + t.size + 1 := by rw [join_len hkl, ← HC.out, hb, hts]
      have hle : c + b + t.size + 1 ≤ 100000 := by rw [← hsum]; exact Nat.le_trans (join_take_le _ _) HJ.out
      have HS := Lib.hid hsum
      rw [ha] at c0
      rw [hb] at c1
      rw [ht] at c2
      have d0 := (HB.out.cell (p := ⟨g, k * 3, none⟩) hg).trans c0
      have d1 := (HB.out.cell (p := ⟨g, k * 3 + 1, none⟩) hg).trans c1
      have d2 := (HB.out.cell (p := ⟨g, k * 3 + 2, none⟩) hg).trans c2
      have e1 : IntKind.i64.wrap (2147483647 - (c : Int) - (b : Int)) = 2147483647 - (c : Int) - (b : Int) := IntWalk.i64_in _ (by omega)
      have e2 : IntKind.i64.wrap ((b : Int) + (t.size : Int)) = (b : Int) + (t.size : Int) := IntWalk.i64_in _ (by omega)
      have e3 : IntKind.i64.wrap ((b : Int) + (t.size : Int) + 1) = (b : Int) + (t.size : Int) + 1 := IntWalk.i64_in _ (by omega)
      have e4 : IntKind.i64.wrap (2147483647 - (c : Int) - ((b : Int) + (t.size : Int) + 1)) = 2147483647 - (c : Int) - ((b : Int) + (t.size : Int) + 1) := IntWalk.i64_in _ (by omega)
      have e5 : ¬ 2147483647 - (c : Int) - (b : Int) ≤ (t.size : Int) := by omega
      have e6 : max (b : Int) 0 = (b : Int) := by omega
      have HE7 : Hid (2147483647 - (c : Int) - ((b : Int) + (t.size : Int) + 1) = 2147483647 - ((c + b + t.size + 1 : Nat) : Int)) := Lib.hid (by omega)
      clear hsum hts ha hb ht c0 c1 c2
      go_wp2
      go_roundw
      case measure => simp [intOf]; omega
      case rel => exact ⟨k + 1, c + b + t.size + 1, by omega, by omega, by go_num, by rw [HE7.out], Lib.hid HS.out.symm, Lib.hid (HB.out.alloc HB.out.size _)⟩
    · obtain rfl : k = n := by omega
      go_wp2
      go_ret
      exact ⟨rfl, HB.out⟩
end Go.Proofs.YtjhojedicehcfaaDoor
