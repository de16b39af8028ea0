/- The contract of written: a word as it stands in a command line. -/
import Derived.Test.YtfafoognjodeiaaDoorWrdBar
import Derived.Test.YtfafoognjodeiaaDoorRefWrd4
import Derived.Test.YtfafoognjodeiaaDoorShelfR
import Derived.Shelf.Vars
namespace Go.Proofs.YtfafoognjodeiaaDoor
open Go.RowKit Go.Sort
open Nw W15
set_option linter.unusedVariables false
/-- The library's variable holds some number. -/
def SomeMax (w : World) : Prop := ∃ m, w.cell? ⟨2, 0, none⟩ = some (.int .i64 m)
theorem SomeMax.keep {w w' : World} (h : SomeMax w) (hb : Below w.heap.size w w') : SomeMax w' := by
  obtain ⟨m, hm⟩ := h
  exact ⟨m, (hb.cell (World.block_lt_of_cell? _ _ hm)).trans hm⟩
theorem someMax_of_shape {w : World} (h : w.ShapedOpen Tryd.prog) : SomeMax w :=
  cell_of_shapedOpen_int (zero := #[.int .i64 0]) (t := 3) h (of_decide_eq_true (by kernel_rfl)) (by kernel_rfl) rfl (by kernel_rfl) (by kernel_rfl) Tryd.underlying3
theorem replaceK_q (l : L8) : Lib.replaceK [39] [39, 92, 39, 39] (Lib.count l [39]) l = escL l := by
  induction l with
  | nil => rw [Lib.count_one]; rfl
  | cons c l ih =>
    rw [show escL (c :: l) = escC c ++ escL l from rfl]
    by_cases h : c = 39
    · subst h
      rw [Lib.count_cons_eq, Nat.add_comm, Lib.replaceK_hit _ _ _ _ 0 (by rw [Lib.index]; simp [List.isPrefixOf])]
      simp only [List.take_zero, List.nil_append, Nat.zero_add, List.length_cons, List.length_nil, List.drop_succ_cons, List.drop_zero]
      rw [ih]
      rfl
    · rw [show escC c = [c] from by unfold escC; rw [if_neg h], Lib.count_cons_ne c 39 l h]
      have hp : ([39] : List UInt8).isPrefixOf (c :: l) = false := by simp [List.isPrefixOf, Ne.symm h]
      have hix : Lib.index (c :: l) [39] = if Lib.index l [39] == -1 then -1 else Lib.index l [39] + 1 := by rw [Lib.index, hp]; simp
      cases hk : Lib.count l [39] with
      | zero =>
        rw [hk] at ih
        rw [← ih]; rfl
      | succ k =>
        obtain ⟨i, hi⟩ := Lib.index_of_count (s := l) (old := [39]) (by omega)
        rw [hi] at hix
        have : ((i : Int) == -1) = false := beq_eq_false_iff_ne.2 (by omega)
        rw [this] at hix
        simp only [Bool.false_eq_true, if_false] at hix
        rw [hk, Lib.replaceK_hit _ _ _ _ i hi] at ih
        rw [Lib.replaceK_hit _ _ _ _ (i + 1) (by rw [hix]; omega), ← ih]
        simp [List.take_succ_cons]
theorem replace_q (l : L8) : Lib.replaceAll l [39] [39, 92, 39, 39] = escL l := by
  have h : (([39] : List UInt8) == [39, 92, 39, 39]) = false := by decide
  unfold Lib.replaceAll Lib.replace Lib.replaceNum
  rw [h, if_neg Bool.false_ne_true, if_pos (.inl (by decide))]
  exact replaceK_q l
theorem replace15 (s q : ByteArray) (w : World) (hw : SomeMax w) (hs : s.size ≤ 1000000) (h : escL s.data.toList = q.data.toList) :
    Calls Tryd.prog 28 #[.string s, .string ⟨#[39]⟩, .string ⟨#[39, 92, 39, 39]⟩] w fun e w' => e = .returned (.string q) ∧ Below w.heap.size w w' := by
  obtain ⟨m, hm⟩ := hw
  have hc := Lib.countB_le ⟨#[39]⟩ (by decide) s.size s (Nat.le_refl _)
  refine (Tryd.strings_ReplaceAll s ⟨#[39]⟩ ⟨#[39, 92, 39, 39]⟩ m w (by omega) hm (by decide) (by show _ + _ * 4 ≤ _; omega)).mono ?_
  rintro e w' ⟨rfl, hb⟩
  exact ⟨by
    show Ending.returned (.string ⟨(Lib.replaceAll s.data.toList [39] [39, 92, 39, 39]).toArray⟩) = _
    rw [replace_q, h, show (⟨q.data.toList.toArray⟩ : ByteArray) = q from bytes_extW (by simp)], hb⟩
theorem ret_sW {a b : ByteArray} (h : a = b) : Ending.returned (.string a) = .returned (.string b) := by rw [h]
set_option maxRecDepth 100000 in
set_option maxHeartbeats 4000000 in
theorem written_any (s : ByteArray) (w : World) (hw : SomeMax w) (hs : s.size ≤ 200000) :
    Calls Tryd.prog 20 #[.string s] w fun e w' => e = .returned (.string (ba (qtL s.data.toList))) ∧ Below w.heap.size w w' := by
  have HB := Lib.hid (fun W => Bare15_any s W (by omega))
  have HW := Lib.hid hw
  cases hb : bareB s.data.toList with
  | true =>
    rw [hb] at HB
    have HQ : Hid (s = ba (qtL s.data.toList)) := Lib.hid (by unfold qtL; rw [if_pos hb]; exact bytes_extW (by rw [ba_dataW]))
    obtain ⟨Q, hQ⟩ : ∃ Q, ba (qtL s.data.toList) = Q := ⟨_, rfl⟩
    rw [hQ] at HQ ⊢
    clear hb hQ hw
    go_enter Tryd.func20, Tryd.ntmps20
    go_wp2_with (go_at_call 10; refine (HB.out _).mono ?_; rintro e w1 ⟨rfl, rfl⟩)
    go_ret
    exact ⟨ret_sW HQ.out, Below.refl _ _⟩
  | false =>
    rw [hb] at HB
    obtain ⟨r, hr⟩ : ∃ r : ByteArray, escL s.data.toList = r.data.toList := ⟨⟨(escL s.data.toList).toArray⟩, by simp⟩
    have HQ : Hid ((⟨#[39]⟩ : ByteArray) ++ r ++ (⟨#[39]⟩ : ByteArray) = ba (qtL s.data.toList)) := Lib.hid (by
      unfold qtL
      rw [if_neg (by rw [hb]; exact Bool.false_ne_true), hr]
      exact bytes_extW (by rw [ba_dataW, ByteArray.data_append, Array.toList_append, ByteArray.data_append, Array.toList_append]; simp))
    have HR := Lib.hid (fun W h => replace15 s r W h (by omega) hr)
    have hrs : r.size ≤ 800000 := by
      have h1 := escL_len s.data.toList
      rw [hr] at h1
      have h2 : r.data.toList.length = r.size := rfl
      have h3 : s.data.toList.length = s.size := rfl
      omega
    obtain ⟨Q, hQ⟩ : ∃ Q, ba (qtL s.data.toList) = Q := ⟨_, rfl⟩
    rw [hQ] at HQ ⊢
    have e1 : (⟨#[39]⟩ : ByteArray).size = 1 := rfl
    have k1 : (9223372036854775807 < 1 + r.size) = False := eq_false (by omega)
    have k2 : (9223372036854775807 < 1 + r.size + 1) = False := eq_false (by omega)
    clear hb hQ hw hr
    go_enter Tryd.func20, Tryd.ntmps20
    go_wp2_with first
      | (go_at_call 10; refine (HB.out _).mono ?_; rintro e w1 ⟨rfl, rfl⟩)
      | (go_at_call 28; refine (HR.out _ HW.out).mono ?_; rintro e w2 ⟨rfl, b2⟩)
    go_ret
    exact ⟨ret_sW HQ.out, b2⟩
end Go.Proofs.YtfafoognjodeiaaDoor
