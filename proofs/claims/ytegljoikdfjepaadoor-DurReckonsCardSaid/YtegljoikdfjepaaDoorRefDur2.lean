/- The plain mathematics of the document's own Parse. -/
import Derived.Test.YtegljoikdfjepaaDoorRefDur1
import Derived.Test.YtegljoikdfjepaaDoorRefDur0
import Derived.Test.YtegljoikdfjepaaDoorRefDig4
import Derived.Sort.Row
namespace Go.Proofs.YtegljoikdfjepaaDoor
open Go.RowKit
open Dg
set_option linter.unusedVariables false
def lst (above : Nat) : Int := if above = 3600001 then -1 else if above = 3600000 then 0 else if above = 60000 then 1 else if above = 1000 then 2 else 3
def abOK (above : Nat) : Prop := above = 3600001 ∨ above = 3600000 ∨ above = 60000 ∨ above = 1000 ∨ above = 1
theorem uS_ab {l : List UInt8} (h : uS l ≠ 0) : abOK (uS l) ∧ lst (uS l) = (uI l : Int) ∧ uI l < 4 := by
  unfold abOK
  rcases uS_cases l with h | ⟨h, g⟩ | ⟨h, g⟩ | ⟨h, g⟩ | ⟨h, g⟩
  · exact absurd h ‹_›
  all_goals (rw [h, g]; exact ⟨by omega, by decide, by decide⟩)
theorem uI_le {above : Nat} {l : List UInt8} (ha : abOK above) (h : uS l ≠ 0) : (uI l : Int) ≤ lst above ↔ above ≤ uS l := by
  rcases uS_cases l with h | ⟨h, g⟩ | ⟨h, g⟩ | ⟨h, g⟩ | ⟨h, g⟩
  · exact absurd h ‹_›
  all_goals (rw [h, g]; rcases ha with rfl | rfl | rfl | rfl | rfl <;> decide)
theorem lst_ge {above : Nat} (ha : abOK above) : 0 ≤ lst above ↔ above ≤ 3600000 := by
  rcases ha with rfl | rfl | rfl | rfl | rfl <;> decide
theorem lst_bd {above : Nat} (ha : abOK above) : -1 ≤ lst above ∧ lst above ≤ 3 := by
  rcases ha with rfl | rfl | rfl | rfl | rfl <;> decide
theorem rO_parts {l : List UInt8} (h : rO l = true) : uS (tlD l) ≠ 0 ∧ whole (hdD l) = true ∧ rH l = hdD l := by
  unfold rO at h
  rw [Bool.and_eq_true] at h
  have h1 : uS (tlD l) ≠ 0 := by
    intro e; rw [e] at h; exact absurd h.1 (by decide)
  exact ⟨h1, h.2, if_neg h1⟩
theorem rr_no {above acc : Nat} {l : List UInt8} (hl : l ≠ []) (h : rO l = false) : run above acc l = none := by
  apply run_no hl
  rintro ⟨h1, -, h3, -⟩
  unfold rO at h
  rw [h1, Bool.and_true] at h
  have : (uS (tlD l) == 0) = false := beq_eq_false_iff_ne.2 h3
  rw [this] at h; exact absurd h (by decide)
theorem rr_late {above acc : Nat} {l : List UInt8} (hl : l ≠ []) (ha : abOK above) (h : rO l = true) (h2 : (uI (tlD l) : Int) ≤ lst above) : run above acc l = none := by
  apply run_no hl
  rintro ⟨-, -, h3, h4⟩
  have := (uI_le ha h3).1 h2
  omega
theorem rr_zero {above acc : Nat} {l : List UInt8} (hl : l ≠ []) (ha : abOK above) (h48 : rH l = [48]) (h : rO l = true) (h2 : 0 ≤ lst above ∨ uR (tlD l) ≠ []) : run above acc l = none := by
  apply run_no hl
  rintro ⟨-, h3, -, -⟩
  apply h3
  refine ⟨by rw [← (rO_parts h).2.2]; exact h48, ?_⟩
  rcases h2 with h2 | h2
  · exact .inl ((lst_ge ha).1 h2)
  · exact .inr h2
theorem rr_go {above acc : Nat} {l : List UInt8} (hl : l ≠ []) (ha : abOK above) (h : rO l = true) (h2 : ¬ (uI (tlD l) : Int) ≤ lst above) (h3 : ¬ (rH l = [48] ∧ (0 ≤ lst above ∨ uR (tlD l) ≠ []))) :
    run above acc l = run (uS (tlD l)) (acc + val (rH l) * uS (tlD l)) (uR (tlD l)) ∧ uS (tlD l) ≠ 0 ∧ (uR (tlD l)).length < l.length ∧ digs (rH l) = true := by
  obtain ⟨p1, p2, p3⟩ := rO_parts h
  have h4 : uS (tlD l) < above := by
    apply Nat.lt_of_not_le; intro hc; exact h2 ((uI_le ha p1).2 hc)
  refine ⟨?_, p1, uR_lt l p1, by rw [p3]; exact digs_of_whole p2⟩
  rw [run_go hl ⟨p2, fun hc => h3 ⟨by rw [p3]; exact hc.1, hc.2.imp (lst_ge ha).2 id⟩, p1, h4⟩, p3]

/-- The numbers of the four units, in memory. -/
def encI (x : Int) : Value := .int .i64 x
def S4 (d : Array Int) : Int := d[0]! * 3600000 + d[1]! * 60000 + d[2]! * 1000 + d[3]!
structure D4 (d : Array Int) (last : Int) : Prop where
  size : d.size = 4
  bd : ∀ j : Nat, j < 4 → 0 ≤ d[j]! ∧ d[j]! ≤ 1099511627776
  later : ∀ j : Nat, last < (j : Int) → j < 4 → d[j]! = 0
theorem D4.start : D4 (Array.replicate 4 0) (-1) where
  size := by simp
  bd := by intro j hj; match j, hj with | 0, _ => decide | 1, _ => decide | 2, _ => decide | 3, _ => decide
  later := by intro j _ hj; match j, hj with | 0, _ => rfl | 1, _ => rfl | 2, _ => rfl | 3, _ => rfl
theorem D4.set {d : Array Int} {last : Int} (h : D4 d last) (u : Nat) (n : Int) (hu : u < 4) (hl : last < (u : Int)) (h0 : 0 ≤ n) (h1 : n ≤ 1099511627776) : D4 (d.setIfInBounds u n) (u : Int) where
  size := by rw [Array.size_setIfInBounds]; exact h.size
  bd := by
    intro j hj
    by_cases e : j = u
    · subst e; rw [Sort.getElem!_set_same _ _ _ (by rw [h.size]; exact hj)]; exact ⟨h0, h1⟩
    · rw [Sort.getElem!_set_other _ _ _ _ e]; exact h.bd j hj
  later := by
    intro j hj1 hj2
    rw [Sort.getElem!_set_other _ _ _ _ (by omega)]
    exact h.later j (by omega) hj2
theorem S4_set {d : Array Int} {last : Int} (h : D4 d last) {l : List UInt8} (n : Int) (hs : uS l ≠ 0) (hl : last < (uI l : Int)) : S4 (d.setIfInBounds (uI l) n) = S4 d + n * (uS l : Int) := by
  have hz := h.later (uI l) hl (uS_ab hs).2.2
  have same := fun i (hi : i < 4) => Sort.getElem!_set_same d i n (by rw [h.size]; exact hi)
  have oth := fun i k (hk : k ≠ i) => Sort.getElem!_set_other d i k n hk
  unfold S4
  rcases uS_cases l with h | ⟨h, g⟩ | ⟨h, g⟩ | ⟨h, g⟩ | ⟨h, g⟩
  · exact absurd h hs
  · rw [h, g]; rw [g] at hz
    rw [same 0 (by decide), oth 0 1 (by decide), oth 0 2 (by decide), oth 0 3 (by decide), hz]; omega
  · rw [h, g]; rw [g] at hz
    rw [same 1 (by decide), oth 1 0 (by decide), oth 1 2 (by decide), oth 1 3 (by decide), hz]; omega
  · rw [h, g]; rw [g] at hz
    rw [same 2 (by decide), oth 2 0 (by decide), oth 2 1 (by decide), oth 2 3 (by decide), hz]; omega
  · rw [h, g]; rw [g] at hz
    rw [same 3 (by decide), oth 3 0 (by decide), oth 3 1 (by decide), oth 3 2 (by decide), hz]; omega
theorem holds_set {α : Type} [Inhabited α] {enc : α → Value} {w : World} {b i : Nat} {d : Array α} (h : Sort.Holds enc w b 0 d) (x : α) (hi : i < d.size) : Sort.Holds enc (w.setCell ⟨b, i, none⟩ (enc x)) b 0 (d.setIfInBounds i x) := by
  have h1 := Sort.putRow_set enc w b 0 d i x hi
  rw [Nat.zero_add, Sort.putRow_self enc w b 0 d h] at h1
  rw [h1]
  exact Sort.holds_putRow enc w b 0 d _ h (by simp)
theorem holds_below {α : Type} [Inhabited α] {enc : α → Value} {w w' : World} {B b : Nat} {d : Array α} (h : Sort.Holds enc w b 0 d) (hb : Below B w w') (hlt : b < B) : Sort.Holds enc w' b 0 d := by
  intro j hj
  obtain ⟨h1, h2⟩ := h j hj
  exact ⟨by rw [hb.cell (p := ⟨b, 0 + j, none⟩) hlt]; exact h1, by rw [hb.frozen (p := ⟨b, 0 + j, none⟩) hlt]; exact h2⟩
theorem holds_at {α : Type} [Inhabited α] {enc : α → Value} {w : World} {b : Nat} {d : Array α} (h : Sort.Holds enc w b 0 d) (j : Nat) (hj : j < d.size) : w.cell? ⟨b, j, none⟩ = some (enc d[j]!) ∧ w.frozen? ⟨b, j, none⟩ = false := by
  have := h j hj
  rwa [Nat.zero_add] at this
theorem holds_new4 (w : World) (ty : TypeId) : Sort.Holds encI (w.alloc (.cells #[.int .i64 0, .int .i64 0, .int .i64 0, .int .i64 0] ty)) w.heap.size 0 (Array.replicate 4 0) := by
  intro j hj
  have hj' : j < 4 := by simpa using hj
  rw [Nat.zero_add]
  constructor
  · rw [World.cell?_alloc_at _ _ _ _ rfl]
    show (Array.replicate 4 (Value.int .i64 0))[j]? = _
    rw [Array.getElem?_replicate, if_pos hj', getElem!_pos _ j hj, Array.getElem_replicate]
    rfl
  · exact World.frozen?_alloc_at _ _ _ _ rfl

/-- The sum so far, as the document's own answer keeps it. -/
def keeps (over : Bool) (acc : Nat) (d : Array Int) : Prop := (over = true → 1099511627776 < acc) ∧ (over = false → (acc : Int) = S4 d)
theorem cap_val {l : List UInt8} : (1099511627776 < capN l ↔ 1099511627776 < val l) ∧ (¬ 1099511627776 < val l → capN l = (val l : Int)) := by
  unfold capN
  split <;> constructor <;> (try constructor) <;> omega
theorem capN_bd (l : List UInt8) : 0 ≤ capN l ∧ capN l ≤ 1152921504606846976 := by
  unfold capN; split <;> omega
theorem keeps_big {over : Bool} {acc : Nat} {d : Array Int} (d' : Array Int) {v s : Nat} (h : keeps over acc d) (hv : 1099511627776 < v) (hs : s ≠ 0) : keeps true (acc + v * s) d' := by
  refine ⟨fun _ => ?_, fun h => by cases h⟩
  have : v ≤ v * s := Nat.le_mul_of_pos_right v (Nat.pos_of_ne_zero hs)
  omega
theorem keeps_ok {over : Bool} {acc : Nat} {d : Array Int} {last : Int} {l : List UInt8} {v : Nat} (h : keeps over acc d) (hd : D4 d last) (hs : uS l ≠ 0) (hl : last < (uI l : Int)) : keeps over (acc + v * uS l) (d.setIfInBounds (uI l) (v : Int)) := by
  refine ⟨fun ho => by have := h.1 ho; omega, fun ho => ?_⟩
  rw [S4_set hd (v : Int) hs hl, ← h.2 ho, Int.natCast_add, Int.natCast_mul]
end Go.Proofs.YtegljoikdfjepaaDoor
