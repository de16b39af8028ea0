/- A slice of strings that came in reads as a list. -/
import Derived.Test.YtbbijhgiddbonaaNamRd
import Derived.SliceStrings
namespace Go.Proofs.Ytbbijhgiddbonaa
open Go.RowKit Go.Sort
open Nw Go.ChangeShapes Go.WideShapes

theorem cell_lt {W : World} {p : Addr} {v : Value} (h : W.cell? p = some v) : p.block < W.heap.size := by
  rcases Nat.lt_or_ge p.block W.heap.size with h1 | h1
  · exact h1
  · have : W.heap[p.block]? = none := Array.getElem?_eq_none h1
    simp [World.cell?, this] at h

theorem rd_of_strings {W : World} {x : Addr} {n c : Nat} {ss : List ByteArray} (hl : n ≤ c) (hm : c ≤ maxLen) (hz : n ≤ ss.length)
    (hcell : ∀ i, i < ss.length → W.cell? (x.add i) = some (.string (ss.getD i ByteArray.empty))) : ∃ l, Rd W (.slice (some x) n c) l := by
  have hlen : ((ss.take n).map (·.data.toList)).length = n := by simp; omega
  refine ⟨(ss.take n).map (·.data.toList), some x, c, by rw [hlen], by rw [hlen]; exact hl, hm, ?_⟩
  by_cases h0 : n = 0
  · subst h0
    exact .inl ⟨by simp, fun h => by cases h⟩
  · obtain ⟨b, o, spot⟩ := x
    have hspot : spot = none := by simpa [Addr.add] using World.cell?_spot (hcell 0 (by omega))
    subst hspot
    have h1 := hcell 0 (by omega)
    rw [add_plain] at h1
    refine .inr ⟨b, o, rfl, cell_lt h1, fun j hj => ?_⟩
    have hj' : j < n := by rw [hlen] at hj; exact hj
    have := hcell j (by omega)
    rw [add_plain] at this
    rw [this]
    have e : ba ((ss.take n).map (·.data.toList))[j] = ss.getD j ByteArray.empty := by
      rw [List.getElem_map, ba_of, List.getElem_take, List.getD_eq_getElem?_getD, List.getElem?_eq_getElem (by omega)]
      rfl
    rw [e]

end Go.Proofs.Ytbbijhgiddbonaa
