/- Small words on strings and bytes. -/
import Derived.Test.YtkgfinhepbipeaaDoorDigWalk1
import Derived.Lib.Strings
namespace Go.Proofs.YtkgfinhepbipeaaDoor
open Go.RowKit
open Dg
set_option linter.unusedVariables false
theorem bytes_ext {a b : ByteArray} (h : a.data.toList = b.data.toList) : a = b := by
  cases a; cases b; simp at h; simp [h]
theorem mk_of {l : List UInt8} {a : ByteArray} (h : l = a.data.toList) : (⟨l.toArray⟩ : ByteArray) = a := bytes_ext (by simp [h])
theorem data_app (a b : ByteArray) : (a ++ b).data.toList = a.data.toList ++ b.data.toList := by
  rw [ByteArray.data_append]; simp
theorem mk_app (a b : List UInt8) : (⟨a.toArray⟩ : ByteArray) ++ ⟨b.toArray⟩ = ⟨(a ++ b).toArray⟩ := by
  apply bytes_ext; rw [data_app]
/-- A text without its first byte. -/
theorem cut1 {s : ByteArray} {c : UInt8} {r : List UInt8} (h : s.data.toList = c :: r) : s.extract 1 s.size = ⟨r.toArray⟩ ∧ s.size = r.length + 1 ∧ ∃ h : 0 < s.size, s[0] = c := by
  have hz : s.size = r.length + 1 := by rw [← len_eq s, h, List.length_cons]
  refine ⟨bytes_ext ?_, hz, by omega, ?_⟩
  · rw [Lib.extract_data, h]
    show List.take _ r = r
    exact List.take_of_length_le (by omega)
  · have h1 : s.data.toList[0]? = some c := by rw [h]; rfl
    rw [List.getElem?_eq_getElem (by rw [len_eq]; omega)] at h1
    exact Option.some.inj h1
theorem cut1b {s r : ByteArray} {c : UInt8} (h : s.data.toList = c :: r.data.toList) : s.extract 1 s.size = r ∧ s.size = r.size + 1 ∧ ∃ h : 0 < s.size, s[0] = c := by
  obtain ⟨h1, h2, h3⟩ := cut1 h
  exact ⟨h1, h2, h3⟩
theorem ret_is {a b : Int} {x y : ByteArray} (h : a = b) (g : x = y) : Ending.returned (.tuple #[.int .i64 a, .string x]) = .returned (.tuple #[.int .i64 b, .string y]) := by rw [h, g]
theorem byte_yes {c : UInt8} (k : Nat) (hk : k < 256) (h : c = UInt8.ofNat k) : ((c.toNat : Int) == (k : Int)) = true := by
  rw [h, UInt8.toNat_ofNat', Nat.mod_eq_of_lt hk]; exact beq_self_eq_true _
theorem byte_no {c : UInt8} (k : Nat) (hk : k < 256) (h : c ≠ UInt8.ofNat k) : ((c.toNat : Int) == (k : Int)) = false := by
  rw [beq_eq_false_iff_ne]; intro e; apply h; apply UInt8.toNat_inj.1; rw [UInt8.toNat_ofNat']; omega
def strSize : Value → Nat
  | .string t => t.size
  | _ => 0
theorem size_of {a : ByteArray} {l : List UInt8} (h : l = a.data.toList) : a.size = l.length := by rw [h, len_eq]
end Go.Proofs.YtkgfinhepbipeaaDoor
