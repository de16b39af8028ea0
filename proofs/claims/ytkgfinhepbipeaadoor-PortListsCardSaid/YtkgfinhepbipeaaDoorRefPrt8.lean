/- The reference's less: the order of ports. -/
import Derived.Test.YtkgfinhepbipeaaDoorRefPrt7
namespace Go.Proofs.YtkgfinhepbipeaaDoor
open Go.RowKit Go.Sort
open Nw Dg P16
set_option linter.unusedVariables false
/-- Does a come ahead of b? -/
def lessP (a b : Po) : Bool := if a.inn ≠ b.inn then decide (a.inn < b.inn) else if a.proto ≠ b.proto then decide (a.proto < b.proto) else if a.host ≠ b.host then decide (a.host < b.host) else decide (a.out < b.out)
theorem lessP_irr (a : Po) : lessP a a = false := by
  unfold lessP
  rw [if_neg (by simp), if_neg (by simp), if_neg (by simp)]
  exact decide_eq_false (by omega)
set_option maxRecDepth 100000 in
set_option maxHeartbeats 8000000 in
theorem RLess16_any (h pr h2 pr2 : ByteArray) (o i o2 i2 : Int) (w : World) :
    Calls Tryd.prog 34 #[.agg #[.string h, .int .i64 o, .int .i64 i, .string pr], .agg #[.string h2, .int .i64 o2, .int .i64 i2, .string pr2]] w fun e w' => e = .returned (.bool (lessP ⟨h.data.toList, o, i, pr.data.toList⟩ ⟨h2.data.toList, o2, i2, pr2.data.toList⟩)) ∧ Below w.heap.size w w' := by
  obtain ⟨R, hR⟩ : ∃ R, lessP ⟨h.data.toList, o, i, pr.data.toList⟩ ⟨h2.data.toList, o2, i2, pr2.data.toList⟩ = R := ⟨_, rfl⟩
  have HR : Hid (R = if i ≠ i2 then decide (i < i2) else if pr.data.toList ≠ pr2.data.toList then decide (pr.data.toList < pr2.data.toList) else if h.data.toList ≠ h2.data.toList then decide (h.data.toList < h2.data.toList) else decide (o < o2)) := Lib.hid hR.symm
  rw [hR]
  clear hR
  by_cases h1 : ¬ i = i2
  · obtain ⟨B, hB⟩ : ∃ B, decide (i < i2) = B := ⟨_, rfl⟩
    have HE : Hid (R = B) := Lib.hid (by rw [HR.out, if_pos h1, hB])
    have e1 : (i == i2) = false := beq_eq_false_iff_ne.2 h1
    have e2 : (i != i2) = true := bne_iff_ne.2 h1
    clear HR
    go_enter Tryd.func34, Tryd.ntmps34
    go_wp2
    go_ret
    exact ⟨by rw [HE.out, ← hB]; rfl, two_below _ _ _⟩
  have h1 := Classical.not_not.1 h1
  subst h1
  by_cases h2' : ¬ pr = pr2
  · have hn : pr.data.toList ≠ pr2.data.toList := fun e => h2' (ba_extP e)
    have HE : Hid (R = decide (pr.data.toList < pr2.data.toList)) := Lib.hid (by rw [HR.out, if_neg (by simp), if_pos hn])
    have e1 := str_fP h2'
    clear HR
    go_enter Tryd.func34, Tryd.ntmps34
    go_wp2
    go_ret
    exact ⟨ret_bP (by rw [HE.out]; simp only [ByteArray.toList_eq, bytesLess_eq]), two_below _ _ _⟩
  have h2' := Classical.not_not.1 h2'
  subst h2'
  by_cases h3 : ¬ h = h2
  · have hn : h.data.toList ≠ h2.data.toList := fun e => h3 (ba_extP e)
    have HE : Hid (R = decide (h.data.toList < h2.data.toList)) := Lib.hid (by rw [HR.out, if_neg (by simp), if_neg (by simp), if_pos hn])
    have e1 := str_fP h3
    clear HR
    go_enter Tryd.func34, Tryd.ntmps34
    go_wp2
    go_ret
    exact ⟨ret_bP (by rw [HE.out]; simp only [ByteArray.toList_eq, bytesLess_eq]), two_below _ _ _⟩
  have h3 := Classical.not_not.1 h3
  subst h3
  have HE : Hid (R = decide (o < o2)) := Lib.hid (by rw [HR.out, if_neg (by simp), if_neg (by simp), if_neg (by simp)])
  clear HR
  go_enter Tryd.func34, Tryd.ntmps34
  go_wp2
  go_ret
  exact ⟨by rw [HE.out]; rfl, two_below _ _ _⟩
end Go.Proofs.YtkgfinhepbipeaaDoor
