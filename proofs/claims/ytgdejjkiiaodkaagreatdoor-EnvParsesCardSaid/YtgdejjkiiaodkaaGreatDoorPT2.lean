/- QuoMath -/
import Derived.Lib.Bytealg
import Derived.Lib.Hide
import Derived.Lib.IndexMore
import Derived.Lib.Replace
set_option linter.unusedVariables false
set_option linter.unusedSimpArgs false
set_option maxRecDepth 100000
set_option maxHeartbeats 16000000
namespace Go.Proofs.YtgdejjkiiaodkaaGreatDoor
namespace Q6
def good (c : UInt8) : Bool := decide (32 ≤ c.toNat) && decide (c.toNat ≠ 127)
def isC (k : UInt8) (c : UInt8) : Bool := decide (c = k)
def bef (l : List UInt8) (i : Nat) : UInt8 := if i = 0 then 10 else l.getD (i - 1) 0
def aft (l : List UInt8) (i : Nat) : UInt8 := if i + 1 < l.length then l.getD (i + 1) 0 else 10
def okI (F : UInt8 → UInt8 → UInt8 → Bool) (l : List UInt8) (i : Nat) : Bool := F (bef l i) (l.getD i 0) (aft l i)
def everyB (F : UInt8 → UInt8 → UInt8 → Bool) (l : List UInt8) : Bool := (List.range l.length).all (okI F l)
theorem every_iff {F : UInt8 → UInt8 → UInt8 → Bool} {l : List UInt8} : everyB F l = true ↔ ∀ i, i < l.length → okI F l i = true := by
 unfold everyB
 rw [List.all_eq_true]
 constructor
 ·intro h i hi; exact h i (List.mem_range.2 hi)
 ·intro h i hi; exact h i (List.mem_range.1 hi)
theorem every_yes {F : UInt8 → UInt8 → UInt8 → Bool} {l : List UInt8} (h : ∀ i, i < l.length → okI F l i = true) : everyB F l = true := every_iff.2 h
theorem every_no {F : UInt8 → UInt8 → UInt8 → Bool} {l : List UInt8} {i : Nat} (hi : i < l.length) (h : okI F l i = false) : everyB F l = false := by
 rw [Bool.eq_false_iff]
 intro e
 have := every_iff.1 e i hi
 rw [h] at this; cases this
def goodF (b c a : UInt8) : Bool := good c
theorem isC_iff {k c : UInt8} : isC k c = true ↔ c = k := by simp [isC]
end Q6
end Go.Proofs.YtgdejjkiiaodkaaGreatDoor
