/- QuoSingle -/
import Derived.Shelf.Vars
import Derived.Test.YtgdejjkiiaodkaaGreatDoorOT19
import Derived.Test.YtgdejjkiiaodkaaGreatDoorOT35
set_option linter.unusedVariables false
set_option linter.unusedSimpArgs false
set_option maxRecDepth 100000
set_option maxHeartbeats 16000000
open Go.Lib (hid)
namespace Go.Proofs.YtgdejjkiiaodkaaGreatDoor
section
open Go.RowKit Go.Sort
open Q6
def SomeMax (w : World) : Prop := ∃ m, w.cell? ⟨0, 0, none⟩ = some (.int .i64 m)
theorem SomeMax.keep {w w' : World} (h : SomeMax w) (hb : Below w.heap.size w w') : SomeMax w' := by
 obtain ⟨m, hm⟩ := h
 exact ⟨m, (hb.cell (World.block_lt_of_cell? _ _ hm)).trans hm⟩
theorem someMax_of_shape {w : World} (h : w.ShapedOpen Tryz.prog) : SomeMax w :=
 cell_of_shapedOpen_int (zero := #[.int .i64 0]) (t := 3) h (of_decide_eq_true (by kernel_rfl)) (by kernel_rfl) rfl (by kernel_rfl) (by kernel_rfl) Tryz.underlying3
def sglB (l : List UInt8) : Bool := everyB goodF l
def sglV (l : List UInt8) : List UInt8 := if sglB l then sglL l else []
theorem sqL_len (l : List UInt8) : (sqL l).length ≤ 2 * l.length := by
 induction l with
 | nil => exact Nat.le_refl _
 | cons c l ih =>
  rw [sqL_cons, List.length_append, List.length_cons]
  have : (sq c).length ≤ 2 := by
   unfold sq; split
   ·exact Nat.le_refl _
   ·show 1 ≤ 2; decide
  omega
theorem replace_any (s q : ByteArray) (w : World) (hw : SomeMax w) (hs : s.size ≤ 1000000) (h : sqL s.data.toList = q.data.toList) :
  Calls Tryz.prog 130 #[.string s, .string ⟨#[39]⟩, .string ⟨#[39, 39]⟩] w fun e w' => e = .returned (.string q) ∧ Below w.heap.size w w' := by
 obtain ⟨m, hm⟩ := hw
 have hc := Lib.countB_le ⟨#[39]⟩ (by decide) s.size s (Nat.le_refl _)
 refine (Tryz.strings_ReplaceAll s ⟨#[39]⟩ ⟨#[39, 39]⟩ m w (by omega) hm (by decide) (by show _ + _ * 2 ≤ _; omega)).mono ?_
 rintro e w' ⟨rfl, hb⟩
 exact ⟨by show Ending.returned (.string ⟨(Lib.replaceAll s.data.toList [39] [39, 39]).toArray⟩) = _; rw [replace_sq, h], hb⟩
theorem ret_sb {a b : ByteArray} {c d : Bool} (h : a = b) (g : c = d) : Ending.returned (.tuple #[.string a, .bool c]) = .returned (.tuple #[.string b, .bool d]) := by rw [h, g]
theorem Single_any (s : ByteArray) (w : World) (hw : SomeMax w) (hs : s.size ≤ 200000) (q : ByteArray) (b : Bool) (hq : sglV s.data.toList = q.data.toList) (hb : sglB s.data.toList = b) :
  Calls Tryz.prog 117 #[.string s] w fun e w' => e = .returned (.tuple #[.string q, .bool b]) ∧ Below w.heap.size w w' := by
 have hs' : s.size ≤ maxLen := by unfold maxLen; omega
 have HW := hid hw
 have HP := hid hb
 cases b with
 | false =>
  have HQ : Hid (q.data.toList = []) := hid (by rw [← hq]; unfold sglV; rw [hb]; rfl)
  clear hq hb hw
  go_enter Tryz.func117, Tryz.ntmps117
  go_wp2_with (go_at_call 128; refine (every_q _ _ goodF false _ hs' tells_good HP.out).mono ?_; rintro e w' ⟨rfl, rfl⟩)
  go_ret2
  exact ⟨ret_sb (bytes_ext HQ.out.symm) rfl, Below.refl _ _⟩
 | true =>
  have HQ : Hid (q.data.toList = sglL s.data.toList) := hid (by rw [← hq]; unfold sglV; rw [hb]; rfl)
  obtain ⟨r, hr⟩ : ∃ r : ByteArray, sqL s.data.toList = r.data.toList := ⟨⟨(sqL s.data.toList).toArray⟩, by simp⟩
  have HR := hid hr
  have hrs : r.size ≤ 400000 := by
   have h1 : (sqL s.data.toList).length = r.size := by rw [hr]; rfl
   have h2 := sqL_len s.data.toList
   rw [len_eq] at h2
   omega
  clear hq hb hw hr
  go_enter Tryz.func117, Tryz.ntmps117
  go_wp2_with (first | (go_at_call 128; refine (every_q _ _ goodF true _ hs' tells_good HP.out).mono ?_; rintro e w' ⟨rfl, rfl⟩) | (go_at_call 130; refine (replace_any s r _ HW.out (by omega) HR.out).mono ?_; rintro e w' ⟨rfl, hb⟩))
  go_ret2
  exact ⟨ret_sb (bytes_ext (by rw [data_app, data_app, HQ.out]; unfold sglL; rw [HR.out]; rfl)) rfl, hb⟩
end
end Go.Proofs.YtgdejjkiiaodkaaGreatDoor
