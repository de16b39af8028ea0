/- EnvMem -/
import Derived.OpenShut
import Derived.ProofKit
import Derived.SliceStrings
import Derived.Test.YtgdejjkiiaodkaaGreatDoorPT4
import Derived.Test.YtgdejjkiiaodkaaGreatDoorPT6
set_option linter.unusedVariables false
set_option linter.unusedSimpArgs false
set_option maxRecDepth 100000
set_option maxHeartbeats 16000000
namespace Go.Proofs.YtgdejjkiiaodkaaGreatDoor
section
open Go.RowKit Go.Sort
open Nw V12 Go.ChangeShapes Go.WideShapes
def VR (w : World) (v : Value) (l : List KV) : Prop :=
 ∃ (a : Option Addr) (cap : Nat), v = .slice a l.length cap ∧ l.length ≤ cap ∧ cap ≤ maxLen ∧
  ((l = [] ∧ (a = none → cap = 0)) ∨ ∃ b o, a = some ⟨b, o, none⟩ ∧ b < w.heap.size ∧ ∀ j (h : j < l.length), w.cell? ⟨b, o + j * 2, none⟩ = some (.string (ba l[j].1)) ∧ w.cell? ⟨b, o + j * 2 + 1, none⟩ = some (.string (ba l[j].2)))
theorem VR.below {w w' : World} {v : Value} {l : List KV} (h : VR w v l) (hb : Below w.heap.size w w') : VR w' v l := by
 obtain ⟨a, cap, rfl, h1, h2, h3⟩ := h
 refine ⟨a, cap, rfl, h1, h2, ?_⟩
 rcases h3 with h3 | ⟨b, o, rfl, h4, h5⟩
 ·exact .inl h3
 ·exact .inr ⟨b, o, rfl, Nat.lt_of_lt_of_le h4 hb.size, fun j hj => ⟨(hb.cell (p := ⟨b, o + j * 2, none⟩) h4).trans (h5 j hj).1, (hb.cell (p := ⟨b, o + j * 2 + 1, none⟩) h4).trans (h5 j hj).2⟩⟩
theorem vr_nil (w : World) (a : Option Addr) (cap : Nat) (h : cap ≤ maxLen) (hn : a = none → cap = 0) : VR w (.slice a 0 cap) [] := ⟨a, cap, rfl, Nat.zero_le _, h, .inl ⟨rfl, hn⟩⟩
def encV (p : KV) : List Value := [.string (ba p.1), .string (ba p.2)]
def cellsV (l : List KV) : List Value := (l.map encV).flatten
theorem cellsV_len (l : List KV) : (cellsV l).length = l.length * 2 := by
 induction l with
 | nil => rfl
 | cons x l ih =>
  show (encV x ++ cellsV l).length = _
  rw [List.length_append, ih, List.length_cons]
  show 2 + _ = _
  omega
theorem cellsV_snoc (l : List KV) (x : KV) : cellsV (l ++ [x]) = cellsV l ++ encV x := by unfold cellsV; simp
theorem cellsV_at (l : List KV) (k : Nat) (h : k < l.length) : (cellsV l)[k * 2]? = some (.string (ba (l[k]'h).1)) ∧ (cellsV l)[k * 2 + 1]? = some (.string (ba (l[k]'h).2)) := by
 induction l generalizing k with
 | nil => cases h
 | cons x l ih =>
  have e : cellsV (x :: l) = .string (ba x.1) :: .string (ba x.2) :: cellsV l := rfl
  rw [e]
  cases k with
  | zero => exact ⟨rfl, rfl⟩
  | succ k =>
   have := ih k (Nat.lt_of_succ_lt_succ h)
   rw [show (k + 1) * 2 = k * 2 + 1 + 1 by omega, show k * 2 + 1 + 1 + 1 = k * 2 + 1 + 1 + 1 by rfl]
   refine ⟨?_, ?_⟩
   ·rw [List.getElem?_cons_succ, List.getElem?_cons_succ]; exact this.1
   ·rw [List.getElem?_cons_succ, List.getElem?_cons_succ]; exact this.2
theorem infoV0 : (Tryz.prog.info? 38).map (fun i => (i.zero, i.size, i.bytes)) = some (some (.agg #[.string ByteArray.empty, .string ByteArray.empty]), 2, 32) := by kernel_rfl
theorem infoV : ∃ i, Tryz.prog.info? 38 = some i ∧ i.zero = some (.agg #[.string ByteArray.empty, .string ByteArray.empty]) ∧ i.size = 2 ∧ i.bytes = 32 := by
 have h := infoV0
 cases hi : Tryz.prog.info? 38 with
 | none => rw [hi] at h; cases h
 | some i =>
  rw [hi] at h
  simp only [Option.map_some, Option.some.injEq, Prod.mk.injEq] at h
  exact ⟨i, rfl, h.1, h.2.1, h.2.2⟩
theorem vr_of_owns {w : World} {base n : Nat} {e : TypeId} {v : Value} {l : List KV} (h : w.ownsRow base e 2 v n (cellsV l)) : VR w v l ∧ l.length = n := by
 have hn : l.length = n := by have := h.1; rw [cellsV_len] at this; omega
 have hlt := h.lt
 have hcells := @World.ownsRow.cells _ _ _ _ _ _ _ h
 refine ⟨?_, hn⟩
 rcases h.2 with ⟨hv, h0⟩ | ⟨g, cap, cur, hv, h1, h2, h3, h4, h5⟩
 ·obtain rfl : l = [] := List.length_eq_zero_iff.1 (by omega)
  rw [hv]
  exact vr_nil w none 0 (Nat.zero_le _) fun _ => rfl
 ·refine ⟨some ⟨g, 0, none⟩, cap, by rw [hv, hn], by omega, h4, .inr ⟨g, 0, rfl, (hlt g (by rw [hv]; rfl)).2, fun k hk => ?_⟩⟩
  obtain ⟨c1, c2⟩ := cellsV_at l k hk
  have f := hcells (g := g) (by rw [hv]; rfl)
  refine ⟨?_, ?_⟩
  ·have := f _ _ c1; rw [add_plain] at this; exact this
  ·have := f _ _ c2; rw [add_plain] at this; rw [Nat.zero_add] at this ⊢; exact this
theorem ownV_literal (w : World) (base : Nat) (hb : base ≤ w.heap.size) : (w.alloc (.cells #[] 38)).ownsRow base 38 2 (.slice (some ⟨w.heap.size, 0, none⟩) 0 0) 0 (cellsV []) :=
 ⟨rfl, .inr ⟨w.heap.size, 0, #[], rfl, hb, Array.getElem?_push_size (xs := w.heap), Nat.le_refl _, Nat.zero_le _, rfl, rfl⟩⟩
section
variable {H : Type} {enc : TypeId × Value → H} {W : World} {base : Nat} {spare : Nat → Bool} {held : Bool}
theorem cellV_lt {W : World} {p : Addr} {v : Value} (h : W.cell? p = some v) : p.block < W.heap.size := by
 rcases Nat.lt_or_ge p.block W.heap.size with h1 | h1
 ·exact h1
 ·have : W.heap[p.block]? = none := Array.getElem?_eq_none h1
  simp [World.cell?, this] at h
end
end
end Go.Proofs.YtgdejjkiiaodkaaGreatDoor
