/- A node and a path that came in, opened. -/
import Derived.Test.YtemndagaicamiaaGreatDoorNodMem
import Derived.ProofKit
import Derived.OpenShut
namespace Go.Proofs.YtemndagaicamiaaGreatDoor
open Go.ChangeShapes Go.WideShapes Go.RowKit
open Nw N8
set_option linter.unusedVariables false
set_option maxRecDepth 100000 in
theorem open_node {H : Type} {enc : TypeId × Value → H} {W : World} {base b0 : Nat} {spare : Nat → Bool} {held : Bool} {r : Reach} {v : Value} {d : DataW H} {p : List MemPlace}
    (hv : Value.okWide Tryz.prog W r b0 25 v) (h : DataW.Trod enc Tryz.prog W base spare held 25 v d p) :
    ∃ (nd : Nd) (c0 c1 c2 c3 : Value), v = .agg #[c0, c1, c2, c3] ∧ NdW W nd c0 c1 c2 c3 := by
  obtain ⟨cs, rfl, hsz⟩ := okWide_struct Tryz.underlying25 hv
  obtain ⟨fuel, hf⟩ := h
  obtain ⟨nd, c0, c1, c2, c3, hcs, hd⟩ := nd_of_trod fuel fuel (Nat.le_refl _) _ _ hf
  refine ⟨nd, c0, c1, c2, c3, ?_, hd⟩
  have h2 : cs.toList = [c0, c1, c2, c3] := hcs
  rw [show cs = #[c0, c1, c2, c3] from by rw [← Array.toArray_toList (xs := cs), h2]]
theorem rd_of_strings2 {W : World} {x : Addr} {n c : Nat} {ss : List ByteArray} (hl : n ≤ c) (hm : c ≤ maxLen) (hz : n ≤ ss.length)
    (hcell : ∀ i, i < ss.length → W.cell? (x.add i) = some (.string (ss.getD i ByteArray.empty))) (hs : ∀ s ∈ ss, s.size ≤ maxLen) : ∃ l, Rd W (.slice (some x) n c) l ∧ ∀ y ∈ l, y.length ≤ maxLen := by
  have hlen : ((ss.take n).map (·.data.toList)).length = n := by simp; omega
  refine ⟨(ss.take n).map (·.data.toList), ⟨some x, c, by rw [hlen], by rw [hlen]; exact hl, hm, ?_⟩, fun y hy => ?_⟩
  · by_cases h0 : n = 0
    · subst h0
      exact .inl ⟨by simp, fun h => by cases h⟩
    · obtain ⟨b, o, spot⟩ := x
      have hspot : spot = none := by simpa [Addr.add] using World.cell?_spot (hcell 0 (by omega))
      subst hspot
      have h1 := hcell 0 (by omega)
      rw [add_plain] at h1
      refine .inr ⟨b, o, rfl, cell_lt h1, fun j hj => ?_⟩
      have hj' : j < n := by rw [hlen] at hj; exact hj
      have := hcell j (by omega)
      rw [add_plain] at this
      rw [this]
      have e : ba ((ss.take n).map (·.data.toList))[j] = ss.getD j ByteArray.empty := by
        rw [List.getElem_map, ba_of, List.getElem_take, List.getD_eq_getElem?_getD, List.getElem?_eq_getElem (by omega)]
        rfl
      rw [e]
  · obtain ⟨s, hs1, rfl⟩ := List.mem_map.1 hy
    exact hs s (List.mem_of_mem_take hs1)
set_option maxRecDepth 100000 in
theorem open_path {H : Type} {enc : TypeId × Value → H} {W : World} {base b0 : Nat} {spare : Nat → Bool} {held : Bool} {r : Reach} {v : Value} {d : DataW H} {p : List MemPlace}
    (hv : Value.okWide Tryz.prog W r b0 22 v) (h : DataW.Trod enc Tryz.prog W base spare held 22 v d p) :
    ∃ l, Rd W v l ∧ ∀ y ∈ l, y.length ≤ maxLen := by
  obtain ⟨a, len, cap, rfl⟩ := okWide_slice Tryz.underlying22 hv
  obtain ⟨fuel, hf⟩ := h
  rcases open_strings Tryz.underlying22 Tryz.underlying9 (by kernel_rfl) hf with ⟨hcs, _⟩ | ⟨x, n, c, ss, hcs, _, hl, hm, hz, _, hcell, hss⟩
  · simp [Value.cells] at hcs
    obtain ⟨rfl, rfl, rfl⟩ := hcs
    exact ⟨[], rd_empty _ _ _ (Nat.zero_le _) fun _ => rfl, fun y hy => by cases hy⟩
  · simp [Value.cells] at hcs
    obtain ⟨rfl, rfl, rfl⟩ := hcs
    exact rd_of_strings2 hl hm (by rw [hz]; split <;> omega) hcell hss
end Go.Proofs.YtemndagaicamiaaGreatDoor
