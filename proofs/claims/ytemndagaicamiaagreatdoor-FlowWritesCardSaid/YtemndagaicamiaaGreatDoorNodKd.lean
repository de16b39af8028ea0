/- Rows of nodes that came in (out of the texts of package node). -/
import Derived.Test.YtemndagaicamiaaGreatDoorNdRow
namespace Go.Proofs.YtemndagaicamiaaGreatDoor
open Go.RowKit Go.Sort
open Nw N8 Go.ChangeShapes Go.WideShapes
set_option linter.unusedVariables false
/-- A slice that reads as a list of nodes. -/
def Kd (w : World) (v : Value) (ds : List Nd) : Prop :=
  ∃ (A : Option Addr) (cap : Nat), v = .slice A ds.length cap ∧ ds.length ≤ cap ∧ cap ≤ maxLen ∧ (A = none → cap = 0) ∧ NdK (· < w.heap.size) w ds A 0
theorem Kd.below {w w' : World} {v : Value} {ds : List Nd} (h : Kd w v ds) (hb : Below w.heap.size w w') : Kd w' v ds := by
  obtain ⟨A, cap, h1, h2, h3, h4, h5⟩ := h
  exact ⟨A, cap, h1, h2, h3, h4, NdK.keep (fun b hlt => ⟨Nat.lt_of_lt_of_le hlt hb.size, hb.block b hlt⟩) ds h5⟩
theorem Kd.kid {w : World} {A : Option Addr} {n cap : Nat} {ds : List Nd} (h : Kd w (.slice A n cap) ds) (j : Nat) (hj : j < ds.length) :
    ∃ (b o : Nat) (e0 e1 e2 e3 : Value), A = some ⟨b, o, none⟩ ∧ b < w.heap.size ∧ w.cell? ⟨b, o + j * 4, none⟩ = some e0 ∧ w.cell? ⟨b, o + j * 4 + 1, none⟩ = some e1 ∧
        w.cell? ⟨b, o + j * 4 + 2, none⟩ = some e2 ∧ w.cell? ⟨b, o + j * 4 + 3, none⟩ = some e3 ∧ NdW w (ds[j]'hj) e0 e1 e2 e3 := by
  obtain ⟨A', cap', h1, -, -, -, h5⟩ := h
  have hAe : A = A' := by injection h1
  subst hAe
  have := NdK.at_ h5 j hj
  rw [Nat.zero_add] at this
  exact this
theorem NdW.kd {w : World} {k : Int} {t : L8} {ks : List L8} {ds : List Nd} {c0 c1 c2 c3 : Value} (h : NdW w (.mk k t ks ds) c0 c1 c2 c3) : Kd w c3 ds := by
  unfold NdW at h
  rw [NdC] at h
  obtain ⟨-, -, -, h⟩ := h
  exact h
theorem ndw_mk {w : World} {k : Int} {t : L8} {ks : List L8} {ds : List Nd} {c2 c3 : Value} (h2 : Rd w c2 ks) (h3 : Kd w c3 ds) : NdW w (.mk k t ks ds) (.int .i64 k) (.string (ba t)) c2 c3 := by
  unfold NdW
  rw [NdC]
  exact ⟨rfl, rfl, h2, h3⟩
theorem Kd.shape {w : World} {v : Value} {ds : List Nd} (h : Kd w v ds) : ∃ (A : Option Addr) (cap : Nat), v = .slice A ds.length cap ∧ ds.length ≤ cap ∧ cap ≤ maxLen := by
  obtain ⟨A, cap, h1, h2, h3, -⟩ := h
  exact ⟨A, cap, h1, h2, h3⟩
theorem kids_cnt (d : Nd) : d.kids.length ≤ cntT d := by
  cases d with
  | mk k t ks ds =>
    have := cntL_len ds
    show ds.length ≤ _
    rw [cntT]; omega
end Go.Proofs.YtemndagaicamiaaGreatDoor
