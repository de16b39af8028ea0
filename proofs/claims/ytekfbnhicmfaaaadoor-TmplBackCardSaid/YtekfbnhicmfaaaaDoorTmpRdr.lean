/- The reader of templates in memory; the contracts of its isEnd, take, takeName, takeOperator. -/
import Derived.Test.YtekfbnhicmfaaaaDoorTmpWay
import Derived.Test.YtekfbnhicmfaaaaDoorTmpPrg
import Derived.Test.YtekfbnhicmfaaaaDoorTmpLaid
import Derived.Test.YtekfbnhicmfaaaaDoorShelf
import Derived.WalkKit
import Derived.ProofKit
import Derived.IntWalk
namespace Go.Proofs.YtekfbnhicmfaaaaDoor
open Go.RowKit Go.Sort
open Nw T13 Go.ChangeShapes Go.WideShapes
set_option linter.unusedVariables false
theorem bytes_of {s : ByteArray} {l : Array UInt8} (h : s.data.toList = l.toList) : s = ⟨l⟩ := by
  apply bytes_ext
  rw [h]
theorem ret_b13 {a b : Bool} (h : a = b) : Ending.returned (.bool a) = .returned (.bool b) := by rw [h]
theorem ret_sb13 {a b : ByteArray} {c d : Bool} (h : a = b) (g : c = d) : Ending.returned (.tuple #[.string a, .bool c]) = .returned (.tuple #[.string b, .bool d]) := by rw [h, g]
theorem rest13 (s : ByteArray) (k : Nat) : (s.extract k s.size).data.toList = s.data.toList.drop k := by
  rw [Lib.extract_data]
  exact List.take_of_length_le (by rw [List.length_drop]; show s.size - k ≤ s.size - k; exact Nat.le_refl _)
theorem take13 (s : ByteArray) (k : Nat) : (s.extract 0 k).data.toList = s.data.toList.take k := by
  rw [Lib.extract_data]; rfl
theorem len13 (s : ByteArray) : s.data.toList.length = s.size := rfl
/-- The reader's box: what has not been read yet. -/
def RdB (w : World) (g : Nat) (s : ByteArray) : Prop := w.heap[g]? = some (.cells #[.string s] 43 (0, 0))
section
variable {w w' w1 : World} {g : Nat} {s q : ByteArray}
theorem RdB.lt (h : RdB w g s) : g < w.heap.size := by
  rcases Nat.lt_or_ge g w.heap.size with hl | hl
  · exact hl
  · unfold RdB at h; rw [Array.getElem?_eq_none hl] at h; cases h
theorem RdB.cells (h : RdB w g s) : w.cell? ⟨g, 0, none⟩ = some (.string s) ∧ w.frozen? ⟨g, 0, none⟩ = false := by
  unfold RdB at h
  refine ⟨?_, ?_⟩
  · rw [cell_of_row _ _ 0 _ _ _ h]; rfl
  · simp [World.frozen?, h]
theorem RdB.set (h : RdB w g s) (q : ByteArray) : RdB (w.setCell ⟨g, 0, none⟩ (.string q)) g q ∧ w.grownBy (w.setCell ⟨g, 0, none⟩ (.string q)) (some g) :=
  ⟨Lib.heap_setCell_same (i := 0) h _, grown_set13 w g 0 _⟩
theorem RdB.below (h : RdB w g s) (hb : Below w.heap.size w w') : RdB w' g s := (hb.block g h.lt).trans h
theorem RdB.other {r : Option Nat} (h : RdB w g s) (hb : w.grownBy w' r) (hr : r ≠ some g) : RdB w' g s := (hb.block g h.lt fun e => hr e.symm).trans h
/-- The reader's box is no table. -/
theorem Ops8.grown (h : Ops8 w) (hR : RdB w g s) (hb : w.grownBy w' (some g)) : Ops8 w' := fun k hk => cell_grown (h k hk) hb fun e => by
  injection e with e
  have h1 := h 1 (by decide)
  have e : g = 0 := e
  unfold RdB at hR
  rw [← e, cell_of_row _ _ 1 _ _ _ hR] at h1
  cases h1
end
theorem hasP13 (s x : ByteArray) (b : Bool) (w : World) (h : pre x.data.toList s.data.toList = b) :
    Calls Tryd.prog 32 #[.string s, .string x] w fun e w' => e = .returned (.bool b) ∧ w = w' := by
  refine (Tryd.strings_HasPrefix s x w).mono ?_
  rintro e w' ⟨rfl, rfl⟩
  exact ⟨ret_b13 h, rfl⟩
theorem cutP13 (s x q : ByteArray) (b : Bool) (w : World) (h : pre x.data.toList s.data.toList = b) (hq : q.data.toList = if b then s.data.toList.drop x.size else s.data.toList) :
    Calls Tryd.prog 42 #[.string s, .string x] w fun e w' => e = .returned (.tuple #[.string q, .bool b]) ∧ w = w' := by
  refine (Tryd.strings_CutPrefix s x w).mono ?_
  rintro e w' ⟨rfl, rfl⟩
  have h1 : Lib.hasPrefix s.data.toList x.data.toList = b := h
  refine ⟨?_, rfl⟩
  refine ret_sb13 (bytes_ext ?_) h1
  rw [hq]
  show (Lib.trimPrefix s.data.toList x.data.toList).toArray.toList = _
  rw [List.toList_toArray]
  unfold Lib.trimPrefix
  rw [h1, len13]
section
variable {w : World} {g : Nat} {s : ByteArray}
theorem isEnd_any (d : Nat) (h : RdB w g s) : Calls Tryd.prog 26 #[.pointer (some ⟨g, 0, none⟩), .int .i64 (d : Int)] w fun e w' => e = .returned (.bool (endB (d + 1) s.data.toList)) ∧ w = w' := by
  obtain ⟨c0, -⟩ := h.cells
  by_cases h0 : s.data.toList = []
  · have HB : Hid (true = endB (d + 1) s.data.toList) := Lib.hid (by rw [h0]; rfl)
    obtain rfl := bytes_of (l := #[]) h0
    clear h h0
    go_enter Tryd.func26, Tryd.ntmps26
    go_wp2
    go_ret
    exact ⟨ret_b13 HB.out, rfl⟩
  · have b0 : s.toList.isEmpty = false := by rw [ByteArray.toList_eq, List.isEmpty_eq_false_iff]; exact h0
    have b0' : ¬ s.toList = [] := by rw [ByteArray.toList_eq]; exact h0
    have hpre : endB (d + 1) s.data.toList = (decide (0 < d) && pre [125] s.data.toList) := by
      cases hl : s.data.toList with
      | nil => exact absurd hl h0
      | cons c t =>
        unfold endB
        rw [pre_one _ _ (by decide)]
        show (decide (1 < d + 1) && (c == 125)) = (decide (0 < d) && decide (c = 125))
        rw [show decide (1 < d + 1) = decide (0 < d) from by rw [decide_eq_decide]; omega, Bool.eq_iff_iff, Bool.and_eq_true, Bool.and_eq_true, beq_iff_eq, decide_eq_true_iff, decide_eq_true_iff]
    by_cases hd : 0 < d
    · have hd1 : (0 : Int) < (d : Int) := by omega
      have HB : Hid (pre [125] s.data.toList = endB (d + 1) s.data.toList) := Lib.hid (by rw [hpre, decide_eq_true hd, Bool.true_and])
      have HP := Lib.hid (fun W => hasP13 s ⟨#[125]⟩ _ W rfl)
      clear h h0 hpre hd
      go_enter Tryd.func26, Tryd.ntmps26
      go_wp2_with (go_at_call 32; refine (HP.out _).mono ?_; rintro e w' ⟨rfl, rfl⟩)
      go_ret
      exact ⟨ret_b13 HB.out, rfl⟩
    · obtain rfl : d = 0 := by omega
      have HB : Hid (false = endB (0 + 1) s.data.toList) := Lib.hid (by rw [hpre]; rfl)
      clear h h0 hpre hd
      go_enter Tryd.func26, Tryd.ntmps26
      go_wp2
      go_ret
      exact ⟨ret_b13 HB.out, rfl⟩
theorem take_any (x q : ByteArray) (b : Bool) (h : RdB w g s) (hb : pre x.data.toList s.data.toList = b) (hq : q.data.toList = if b then s.data.toList.drop x.size else s.data.toList) :
    Calls Tryd.prog 33 #[.pointer (some ⟨g, 0, none⟩), .string x] w fun e w' => e = .returned (.bool b) ∧ RdB w' g q ∧ w.grownBy w' (some g) := by
  obtain ⟨c0, f0⟩ := h.cells
  have HP := Lib.hid (fun W => cutP13 s x q b W hb hq)
  have HF := Lib.hid (h.set q)
  clear h hb hq
  go_enter Tryd.func33, Tryd.ntmps33
  go_wp2_with (go_at_call 42; refine (HP.out _).mono ?_; rintro e w' ⟨rfl, rfl⟩)
  go_ret
  exact ⟨rfl, HF.out⟩
end
end Go.Proofs.YtekfbnhicmfaaaaDoor
