/- A slice of strings that reads as a list of lists of bytes, in whatever later world; the contracts of In, Same, At and of the reference's. -/
import Derived.Test.YtkgfinhepbipeaaDoorRows
import Derived.Shelf.Small.Strs
import Derived.Test.YtkgfinhepbipeaaDoorNamListMath
import Derived.Below
import Derived.Lib.OwnBridge
import Derived.Sort.OwnSorted
import Derived.WalkKit
import Derived.ProofKit
import Derived.Lib.Hide
import Derived.Deep.QuietTactic
import Derived.Deep.LoopGhost
import Derived.BigQuiet
namespace Go.Proofs.YtkgfinhepbipeaaDoor
open Go.RowKit Go.Sort Go.Lib
open Nw
set_option linter.unusedVariables false

/-- A string of these bytes. -/
def ba (x : L8) : ByteArray := ⟨x.toArray⟩
theorem ba_data (x : L8) : (ba x).data.toList = x := by simp [ba]
theorem ba_list (x : L8) : (ba x).toList = x := by rw [ByteArray.toList_eq, ba_data]
theorem ba_of (s : ByteArray) : ba s.data.toList = s := by cases s; simp [ba]
theorem ba_inj {x y : L8} (h : ba x = ba y) : x = y := by rw [← ba_data x, ← ba_data y, h]
theorem encStr_ba (x : L8) : encStr x = .string (ba x) := rfl

/-- The slice v holds the strings of l. -/
def Rd (w : World) (v : Value) (l : List L8) : Prop :=
  ∃ (a : Option Addr) (cap : Nat), v = .slice a l.length cap ∧ l.length ≤ cap ∧ cap ≤ maxLen ∧
    ((l = [] ∧ (a = none → cap = 0)) ∨ ∃ b o, a = some ⟨b, o, none⟩ ∧ b < w.heap.size ∧ ∀ j (h : j < l.length), w.cell? ⟨b, o + j, none⟩ = some (.string (ba l[j])))

theorem Rd.below {w w' : World} {v : Value} {l : List L8} (h : Rd w v l) (hb : Below w.heap.size w w') : Rd w' v l := by
  obtain ⟨a, cap, rfl, h1, h2, h3⟩ := h
  refine ⟨a, cap, rfl, h1, h2, ?_⟩
  rcases h3 with h3 | ⟨b, o, rfl, h4, h5⟩
  · exact .inl h3
  · exact .inr ⟨b, o, rfl, Nat.lt_of_lt_of_le h4 hb.size, fun j hj => (hb.cell (p := ⟨b, o + j, none⟩) h4).trans (h5 j hj)⟩

theorem Rd.cases {w : World} {v : Value} {l : List L8} (h : Rd w v l) :
    (∃ a cap, v = .slice a 0 cap ∧ l = [] ∧ cap ≤ maxLen ∧ (a = none → cap = 0)) ∨ (∃ b o cap, v = .slice (some ⟨b, o, none⟩) l.length cap ∧ l.length ≤ cap ∧ cap ≤ maxLen ∧ b < w.heap.size ∧ ∀ j (h : j < l.length), w.cell? ⟨b, o + j, none⟩ = some (.string (ba l[j]))) := by
  obtain ⟨a, cap, rfl, h1, h2, h3⟩ := h
  rcases h3 with ⟨rfl, hn⟩ | ⟨b, o, rfl, h4, h5⟩
  · exact .inl ⟨a, cap, rfl, rfl, h2, hn⟩
  · exact .inr ⟨b, o, cap, rfl, h1, h2, h4, h5⟩

theorem rd_empty (w : World) (a : Option Addr) (cap : Nat) (h : cap ≤ maxLen) (hn : a = none → cap = 0) : Rd w (.slice a 0 cap) [] := ⟨a, cap, rfl, Nat.zero_le _, h, .inl ⟨rfl, hn⟩⟩

theorem rd_of_owns {w : World} {base n : Nat} {e : TypeId} {v : Value} {l : List L8} (h : w.ownsRow base e 1 v n (l.map encStr)) : Rd w v l := by
  have hl : l.length = n := by simpa using h.1
  by_cases hv : v = .slice none 0 0
  · subst hv
    rcases h.2 with ⟨_, h0⟩ | ⟨g, cap, cur, h0, _⟩
    · obtain rfl : l = [] := List.length_eq_zero_iff.1 (by omega)
      exact rd_empty w none 0 (Nat.zero_le _) fun _ => rfl
    · cases h0
  · obtain ⟨g, cap, rfl, _, hg, h1, h2, _, hH⟩ := holds_of_ownsRow h hv
    subst hl
    refine ⟨_, cap, rfl, h1, h2, .inr ⟨g, 0, rfl, hg, fun j hj => ?_⟩⟩
    have := (hH j (by simpa using hj)).1
    rw [getElem!_pos l.toArray j (by simpa using hj)] at this
    have h2 : w.cell? ⟨g, 0 + j, none⟩ = some (encStr l[j]) := by simpa using this
    exact h2

theorem map_ba (l : List L8) (j : Nat) (h : j < (l.map ba).length) : (l.map ba).getD j ByteArray.empty = ba (l[j]'(by simpa using h)) := by
  rw [List.getD_eq_getElem?_getD, List.getElem?_eq_getElem h]; simp

/-! ### The program's In, Same, At -/

theorem below_drewN (w : World) (q : Nat) : Below w.heap.size w (w.drewN q) := ⟨rfl, rfl, rfl, Nat.le_refl _, fun _ _ => rfl⟩

theorem str_eq_true {x : L8} {s : ByteArray} (h : x = s.data.toList) : ((ba x).toList == s.toList) = true := by rw [ba_list, ByteArray.toList_eq, h]; exact beq_self_eq_true _
theorem str_eq_false {x : L8} {s : ByteArray} (h : x ≠ s.data.toList) : ((ba x).toList == s.toList) = false := by rw [ba_list, ByteArray.toList_eq]; exact beq_eq_false_iff_ne.2 h

end Go.Proofs.YtkgfinhepbipeaaDoor
