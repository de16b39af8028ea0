/- A list of texts that came in, opened. -/
import Derived.Test.YtfafoognjodeiaaDoorNamRd
import Derived.SliceStrings
import Derived.Laws.OwnMore
import Derived.ProofKit
import Derived.OpenShut
namespace Go.Proofs.YtfafoognjodeiaaDoor
open Go.ChangeShapes Go.WideShapes Go.RowKit
open Nw
set_option linter.unusedVariables false
theorem cell_lt {W : World} {p : Addr} {v : Value} (h : W.cell? p = some v) : p.block < W.heap.size := by
  rcases Nat.lt_or_ge p.block W.heap.size with h1 | h1
  · exact h1
  · have : W.heap[p.block]? = none := Array.getElem?_eq_none h1
    simp [World.cell?, this] at h
theorem rd_of_strings2 {W : World} {x : Addr} {n c : Nat} {ss : List ByteArray} (hl : n ≤ c) (hm : c ≤ maxLen) (hz : n ≤ ss.length)
    (hcell : ∀ i, i < ss.length → W.cell? (x.add i) = some (.string (ss.getD i ByteArray.empty))) (hs : ∀ s ∈ ss, s.size ≤ maxLen) : ∃ l, Rd W (.slice (some x) n c) l ∧ ∀ y ∈ l, y.length ≤ maxLen := by
  have hlen : ((ss.take n).map (·.data.toList)).length = n := by simp; omega
  refine ⟨(ss.take n).map (·.data.toList), ⟨some x, c, by rw [hlen], by rw [hlen]; exact hl, hm, ?_⟩, fun y hy => ?_⟩
  · by_cases h0 : n = 0
    · subst h0
      exact .inl ⟨by simp, fun h => by cases h⟩
    · obtain ⟨b, o, spot⟩ := x
      have hspot : spot = none := by simpa [Addr.add] using World.cell?_spot (hcell 0 (by omega))
      subst hspot
      have h1 := hcell 0 (by omega)
      rw [add_plain] at h1
      refine .inr ⟨b, o, rfl, cell_lt h1, fun j hj => ?_⟩
      have hj' : j < n := by rw [hlen] at hj; exact hj
      have := hcell j (by omega)
      rw [add_plain] at this
      rw [this]
      have e : ba ((ss.take n).map (·.data.toList))[j] = ss.getD j ByteArray.empty := by
        rw [List.getElem_map, ba_of, List.getElem_take, List.getD_eq_getElem?_getD, List.getElem?_eq_getElem (by omega)]
        rfl
      rw [e]
  · obtain ⟨s, hs1, rfl⟩ := List.mem_map.1 hy
    exact hs s (List.mem_of_mem_take hs1)
set_option maxRecDepth 100000 in
theorem open_path {H : Type} {enc : TypeId × Value → H} {W : World} {base b0 : Nat} {spare : Nat → Bool} {held : Bool} {r : Reach} {v : Value} {d : DataW H} {p : List MemPlace}
    (hv : Value.okWide Tryd.prog W r b0 23 v) (h : DataW.Trod enc Tryd.prog W base spare held 23 v d p) :
    ∃ l, Rd W v l ∧ ∀ y ∈ l, y.length ≤ maxLen := by
  obtain ⟨a, len, cap, rfl⟩ := okWide_slice Tryd.underlying23 hv
  obtain ⟨fuel, hf⟩ := h
  rcases open_strings Tryd.underlying23 Tryd.underlying9 (by kernel_rfl) hf with ⟨hcs, _⟩ | ⟨x, n, c, ss, hcs, _, hl, hm, hz, _, hcell, hss⟩
  · simp [Value.cells] at hcs
    obtain ⟨rfl, rfl, rfl⟩ := hcs
    exact ⟨[], rd_empty _ _ _ (Nat.zero_le _) fun _ => rfl, fun y hy => by cases hy⟩
  · simp [Value.cells] at hcs
    obtain ⟨rfl, rfl, rfl⟩ := hcs
    exact rd_of_strings2 hl hm (by rw [hz]; split <;> omega) hcell hss
end Go.Proofs.YtfafoognjodeiaaDoor
