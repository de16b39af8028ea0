/- The reference's Clash and less. -/
import Derived.Test.YtkgfinhepbipeaaDoorRefPrt4
import Derived.Laws.Cover1
namespace Go.Proofs.YtkgfinhepbipeaaDoor
open Go.RowKit Go.Sort
open Nw Dg P16
set_option linter.unusedVariables false
/-- Do both clash? -/
def clashB (a b : Po) : Bool := ((decide (1 ≤ a.out) && decide (a.out = b.out)) && decide (a.proto = b.proto)) && (decide (a.host = b.host) || (a.host.isEmpty || b.host.isEmpty))
theorem clash_sym (a b : Po) : clashB a b = clashB b a := by
  unfold clashB
  have e1 : decide (b.host = a.host) = decide (a.host = b.host) := decide_eq_decide.2 ⟨Eq.symm, Eq.symm⟩
  have e2 : decide (b.out = a.out) = decide (a.out = b.out) := decide_eq_decide.2 ⟨Eq.symm, Eq.symm⟩
  have e3 : decide (b.proto = a.proto) = decide (a.proto = b.proto) := decide_eq_decide.2 ⟨Eq.symm, Eq.symm⟩
  rw [e1, e2, e3, Bool.or_comm a.host.isEmpty]
  by_cases ho : a.out = b.out
  · rw [ho]
  · rw [decide_eq_false ho]; simp
theorem str_fP {a b : ByteArray} (h : a ≠ b) : (a.toList == b.toList) = false := by
  rw [ByteArray.toList_eq, ByteArray.toList_eq]; exact beq_eq_false_iff_ne.2 fun e => h (ba_extP e)
theorem ret_bP {a b : Bool} (h : a = b) : Ending.returned (.bool a) = .returned (.bool b) := by rw [h]
theorem two_below (w : World) (c d : Obj) : Below w.heap.size w ((w.alloc c).alloc d) := ((Below.refl _ _).alloc (Nat.le_refl _) _).alloc (by simp) _
set_option maxRecDepth 100000 in
set_option maxHeartbeats 8000000 in
theorem RClash16_any (h pr h2 pr2 : ByteArray) (o i o2 i2 : Int) (w : World) :
    Calls Tryd.prog 19 #[.agg #[.string h, .int .i64 o, .int .i64 i, .string pr], .agg #[.string h2, .int .i64 o2, .int .i64 i2, .string pr2]] w fun e w' => e = .returned (.bool (clashB ⟨h.data.toList, o, i, pr.data.toList⟩ ⟨h2.data.toList, o2, i2, pr2.data.toList⟩)) ∧ Below w.heap.size w w' := by
  obtain ⟨R, hR⟩ : ∃ R, clashB ⟨h.data.toList, o, i, pr.data.toList⟩ ⟨h2.data.toList, o2, i2, pr2.data.toList⟩ = R := ⟨_, rfl⟩
  have HR : Hid (R = (((decide (1 ≤ o) && decide (o = o2)) && decide (pr.data.toList = pr2.data.toList)) && (decide (h.data.toList = h2.data.toList) || (h.data.toList.isEmpty || h2.data.toList.isEmpty)))) := Lib.hid hR.symm
  rw [hR]
  clear hR
  have emp : ∀ q : ByteArray, ¬ q.size = 0 → q.data.toList.isEmpty = false := fun q hq => by
    rw [List.isEmpty_eq_false_iff]; intro e; apply hq; rw [show q.size = q.data.toList.length from rfl, e]; rfl
  by_cases h1 : o < 1
  · have HE : Hid (R = false) := Lib.hid (by rw [HR.out, decide_eq_false (show ¬ 1 ≤ o by omega)]; simp)
    clear HR emp
    go_enter Tryd.func19, Tryd.ntmps19
    go_wp2
    go_ret
    exact ⟨by rw [HE.out]; rfl, two_below _ _ _⟩
  by_cases h3 : ¬ o = o2
  · have HE : Hid (R = false) := Lib.hid (by rw [HR.out, decide_eq_false h3]; simp)
    have e1 : (o == o2) = false := beq_eq_false_iff_ne.2 h3
    have e2 : (o != o2) = true := bne_iff_ne.2 h3
    clear HR emp
    go_enter Tryd.func19, Tryd.ntmps19
    go_wp2
    go_ret
    exact ⟨by rw [HE.out]; rfl, two_below _ _ _⟩
  have h3 := Classical.not_not.1 h3
  subst h3
  by_cases h4 : ¬ pr = pr2
  · have HE : Hid (R = false) := Lib.hid (by rw [HR.out, decide_eq_false (fun e => h4 (ba_extP e))]; simp)
    have e1 := str_fP h4
    clear HR emp
    go_enter Tryd.func19, Tryd.ntmps19
    go_wp2
    go_ret
    exact ⟨by rw [HE.out]; rfl, two_below _ _ _⟩
  have h4 := Classical.not_not.1 h4
  subst h4
  have HS : Hid (R = (decide (h.data.toList = h2.data.toList) || (h.data.toList.isEmpty || h2.data.toList.isEmpty))) := Lib.hid (by rw [HR.out, decide_eq_true (show 1 ≤ o by omega), decide_eq_true rfl, decide_eq_true rfl]; rfl)
  clear HR
  by_cases h5 : h = h2
  · subst h5
    have HE : Hid (R = true) := Lib.hid (by rw [HS.out, decide_eq_true rfl]; rfl)
    clear HS emp
    go_enter Tryd.func19, Tryd.ntmps19
    go_wp2
    go_ret
    exact ⟨by rw [HE.out]; rfl, two_below _ _ _⟩
  have e5 := str_fP h5
  by_cases h6 : h.size = 0
  · have hee : h = ByteArray.empty := ba_extP (List.length_eq_zero_iff.1 h6)
    subst hee
    have HE : Hid (R = true) := Lib.hid (by rw [HS.out]; show (_ || (true || _)) = true; simp)
    have e6 : (([] : L8) == h2.toList) = false := by rw [show ([] : L8) = ByteArray.empty.toList from (ByteArray.toList_eq ByteArray.empty).symm]; exact e5
    clear HS emp
    go_enter Tryd.func19, Tryd.ntmps19
    go_wp2
    go_ret
    exact ⟨by rw [HE.out]; rfl, two_below _ _ _⟩
  have f6 : ((h.size : Int) == 0) = false := beq_eq_false_iff_ne.2 (by omega)
  have g6 := emp h h6
  by_cases h7 : h2.size = 0
  · have hee : h2 = ByteArray.empty := ba_extP (List.length_eq_zero_iff.1 h7)
    subst hee
    have HE : Hid (R = true) := Lib.hid (by rw [HS.out]; show (_ || (_ || true)) = true; simp)
    have e6 : (h.toList == ([] : L8)) = false := by rw [show ([] : L8) = ByteArray.empty.toList from (ByteArray.toList_eq ByteArray.empty).symm]; exact e5
    have e7 : ¬ h = ByteArray.empty := h5
    have e8 : ¬ h.toList = [] := fun e => by rw [e] at e6; cases e6
    clear HS emp g6
    go_enter Tryd.func19, Tryd.ntmps19
    go_wp2
    go_ret
    exact ⟨by rw [HE.out]; rfl, two_below _ _ _⟩
  have f7 : ((h2.size : Int) == 0) = false := beq_eq_false_iff_ne.2 (by omega)
  have HE : Hid (R = false) := Lib.hid (by rw [HS.out, g6, emp h2 h7, decide_eq_false (fun e => h5 (ba_extP e))]; rfl)
  clear HS emp g6
  have e7 : ¬ h = ByteArray.empty := fun e => h6 (by rw [e]; rfl)
  have e8 : ¬ h2 = ByteArray.empty := fun e => h7 (by rw [e]; rfl)
  go_enter Tryd.func19, Tryd.ntmps19
  go_wp2
  go_ret
  exact ⟨by rw [HE.out]; rfl, two_below _ _ _⟩
end Go.Proofs.YtkgfinhepbipeaaDoor
