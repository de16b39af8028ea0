/- Scalars: what tells them apart; their cells. -/
import Derived.Test.YtemndagaicamiaaGreatDoorMergeM
import Derived.Test.YtemndagaicamiaaGreatDoorFloStk
import Derived.Test.YtemndagaicamiaaGreatDoorMergeQ
import Derived.Test.YtemndagaicamiaaGreatDoorRefNod6
namespace Go.Proofs.YtemndagaicamiaaGreatDoor
open Go.RowKit Go.Sort
open Nw N8 Q6 F9
set_option linter.unusedVariables false
namespace F9
theorem plain_first {t : L8} (h : plainB t = true) : t ≠ [] ∧ has firsts (t.getD 0 0) = false := by
  unfold plainB at h
  by_cases hb : bad3 t = true
  · rw [if_pos hb] at h; cases h
  · rw [if_neg hb] at h
    have hne : t ≠ [] := by
      rintro rfl
      exact hb (by decide)
    refine ⟨hne, ?_⟩
    have h1 := every_iff.1 h 0 (List.length_pos_iff.2 hne)
    unfold okI at h1
    rw [show bef t 0 = 10 by simp [bef]] at h1
    unfold plainF at h1
    rw [Bool.eq_false_iff]; intro e
    rw [e] at h1
    revert h1; simp [isC]
theorem row_plain {t : L8} (h : rowB t = true) : plainB t = true := by
  unfold rowB at h
  rw [Bool.and_eq_true] at h
  exact h.1
theorem headD_getD (l : L8) : l.headD 0 = l.getD 0 0 := by cases l <;> rfl
theorem plain_notQ {t : L8} (h : isQ (t.headD 0) = true) : plainB t = false ∧ rowB t = false := by
  have key : plainB t = false := by
    rw [Bool.eq_false_iff]; intro e
    have h1 := (plain_first e).2
    rw [← headD_getD] at h1
    have h2 : (t.headD 0) ∉ firsts := of_decide_eq_false h1
    unfold isQ at h
    rw [Bool.or_eq_true] at h
    rcases h with h | h
    · exact h2 (by rw [of_decide_eq_true h]; decide)
    · exact h2 (by rw [of_decide_eq_true h]; decide)
  exact ⟨key, Bool.eq_false_iff.2 fun e => by rw [row_plain e] at key; cases key⟩
theorem scl_row {l : L8} (h : isQ (l.headD 0) = false) : sclS true l = sclP l := by
  unfold sclS sclP
  rw [h, Bool.false_and, if_neg (show ¬ false = true from Bool.false_ne_true)]
  rfl
def scK (P : Option Nd) : Int := (P.getD nul).kind
def scT (P : Option Nd) : ByteArray := ba (P.getD nul).text
/-- What a quote's scan at the first place says. -/
theorem scan_zero {l : L8} (h : l ≠ []) : (isQ (l.headD 0) = true → scanV l 0 = outV (scnP l) ∧ scanN l 0 = outN (scnP l) ∧ scanE l 0 = outE (scnP l)) ∧ (isQ (l.headD 0) = false → scanE l 0 = 2) := by
  have hp : 0 < l.length := List.length_pos_iff.2 h
  have e : isQuote l 0 = isQ (l.headD 0) := by
    unfold isQuote isQ
    rw [headD_getD, decide_eq_true (show (0 : Int) ≤ 0 by omega), decide_eq_true (show (0 : Int) < (l.length : Int) by omega)]
    rfl
  refine ⟨fun hq => ?_, fun hq => ?_⟩
  · exact scan_is (e.trans hq)
  · exact (scan_no (e.trans hq)).2.2
end F9
/-- A whole box is stored anew. -/
def p4 (w : World) (g : Nat) (a b c d : Value) : World := (((w.setCell ⟨g, 0, none⟩ a).setCell ⟨g, 1, none⟩ b).setCell ⟨g, 2, none⟩ c).setCell ⟨g, 3, none⟩ d
theorem below_p4 {B : Nat} {w w' : World} {g : Nat} (h : Below B w w') (hg : B ≤ g) (a b c d : Value) : Below B w (p4 w' g a b c d) :=
  (((h.setCell (p := ⟨g, 0, none⟩) hg a).setCell (p := ⟨g, 1, none⟩) hg b).setCell (p := ⟨g, 2, none⟩) hg c).setCell (p := ⟨g, 3, none⟩) hg d
theorem p4_oth {w : World} {g : Nat} (b : Nat) (hb : b ≠ g) (a' b' c' d' : Value) : (p4 w g a' b' c' d').heap[b]? = w.heap[b]? := by
  unfold p4
  rw [Below.heap_setCell _ _ _ _ (by show b ≠ g; omega), Below.heap_setCell _ _ _ _ (by show b ≠ g; omega), Below.heap_setCell _ _ _ _ (by show b ≠ g; omega), Below.heap_setCell _ _ _ _ (by show b ≠ g; omega)]
theorem p4_size (w : World) (g : Nat) (a b c d : Value) : (p4 w g a b c d).heap.size = w.heap.size := by unfold p4; simp
theorem nd_txt (S : Nat → Prop) (w : World) (q : ByteArray) : NdC S w (txt q.data.toList) (.int .i64 1) (.string q) (.slice none 0 0) (.slice none 0 0) := by
  unfold txt
  rw [NdC]
  refine ⟨rfl, by rw [ba_of], ⟨none, 0, rfl, Nat.zero_le _, Nat.zero_le _, .inl ⟨rfl, fun _ => rfl⟩⟩, none, 0, rfl, Nat.zero_le _, Nat.zero_le _, fun _ => rfl, ?_⟩
  rw [NdK]; trivial
/-- A scalar's four cells. -/
theorem nd_scl {row : Bool} {l : L8} (S : Nat → Prop) (w : World) : NdC S w ((sclS row l).getD nul) (.int .i64 (scK (sclS row l))) (.string (scT (sclS row l))) (.slice none 0 0) (.slice none 0 0) := by
  have key : ∀ P : Option Nd, (P = none ∨ P = some nul ∨ ∃ t, P = some (txt t)) → NdC S w (P.getD nul) (.int .i64 (scK P)) (.string (scT P)) (.slice none 0 0) (.slice none 0 0) := by
    rintro P (rfl | rfl | ⟨t, rfl⟩)
    · exact nd_nul S w
    · exact nd_nul S w
    · have := nd_txt S w (ba t)
      rw [ba_data] at this
      exact this
  refine key _ ?_
  unfold sclS
  split
  · exact .inr (.inl rfl)
  · split
    · cases scnP l with
      | none => exact .inl rfl
      | some p => exact .inr (.inr ⟨_, rfl⟩)
    · by_cases hb : (if row then rowB l else plainB l) = true
      · rw [if_pos hb]; exact .inr (.inr ⟨_, rfl⟩)
      · rw [if_neg hb]; exact .inl rfl
theorem drop_head (l : L8) (k : Nat) : (l.drop k).headD 0 = l.getD k 0 := by
  rcases Nat.lt_or_ge k l.length with h | h
  · rw [drop_cons h]; rfl
  · rw [List.drop_of_length_le h, List.getD_eq_getElem?_getD, List.getElem?_eq_none h]; rfl
theorem ret_s9 {a b : ByteArray} (h : a.data.toList = b.data.toList) : Ending.returned (.string a) = .returned (.string b) := by
  have : a = b := by rw [← ba_of a, ← ba_of b, h]
  rw [this]
theorem ret_bb {a b : Bool} (h : a = b) : Ending.returned (.bool a) = .returned (.bool b) := by rw [h]
theorem ret_i {a b : Int} (h : a = b) : Ending.returned (.int .i64 a) = .returned (.int .i64 b) := by rw [h]
end Go.Proofs.YtemndagaicamiaaGreatDoor
