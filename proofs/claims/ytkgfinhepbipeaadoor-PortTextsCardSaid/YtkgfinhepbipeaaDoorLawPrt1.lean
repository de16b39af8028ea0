/- Chapter 16's first two laws over the contracts of port.Parse, port.Right and port.Text. -/
import Derived.Test.YtkgfinhepbipeaaDoorRefPrt6
import Derived.Test.YtkgfinhepbipeaaDoorPrtPar
import Derived.Deep.RegionHeld3
namespace Go.Proofs.YtkgfinhepbipeaaDoor
open Go.RowKit Go.Sort
open Nw Dg P16
set_option linter.unusedVariables false
/-- The contracts that the program must meet. -/
def HPrs16 : Prop := ∀ (s : ByteArray) (w : World), SomeMax w → s.size ≤ 100000 → Calls Tryd.prog 7 #[.string s] w fun e w' => e = PrsE (prsP s.data.toList) ∧ Below w.heap.size w w'
def HRgt16 : Prop := ∀ (h pr : ByteArray) (o i : Int) (w : World), SomeMax w → h.size ≤ 100000 → Calls Tryd.prog 9 #[.agg #[.string h, .int .i64 o, .int .i64 i, .string pr]] w fun e w' => e = .returned (.bool (rightB ⟨h.data.toList, o, i, pr.data.toList⟩)) ∧ Below w.heap.size w w'
def HTxt16 : Prop := ∀ (h pr : ByteArray) (o i : Int) (w : World), SomeMax w → h.size ≤ 100000 → Calls Tryd.prog 10 #[.agg #[.string h, .int .i64 o, .int .i64 i, .string pr]] w fun e w' => e = .returned (.string (ba (textP ⟨h.data.toList, o, i, pr.data.toList⟩))) ∧ Below w.heap.size w w'
/-- A port's own box, made since w0. -/
def Bq (w0 W : World) (g : Nat) (h : ByteArray) (o i : Int) (pr : ByteArray) : Prop := Below w0.heap.size w0 W ∧ w0.heap.size ≤ g ∧ Rw4 W g 24 (.string h) (.int .i64 o) (.int .i64 i) (.string pr)
theorem Bq.go {w0 W W' : World} {g : Nat} {h pr : ByteArray} {o i : Int} (k : Bq w0 W g h o i pr) (hb : Below W.heap.size W W') : Bq w0 W' g h o i pr := ⟨k.1.trans (hb.mono k.1.size), k.2.1, k.2.2.below hb⟩
theorem bq_new {w0 W : World} (hb : Below w0.heap.size w0 W) (h pr : ByteArray) (o i : Int) : Bq w0 (W.alloc (.cells #[.string h, .int .i64 o, .int .i64 i, .string pr] 24)) W.heap.size h o i pr := ⟨hb.alloc hb.size _, hb.size, Rw4.make W _ _ _ _ _⟩
theorem Bq.alloc {w0 W : World} {g : Nat} {h pr : ByteArray} {o i : Int} (k : Bq w0 W g h o i pr) (c : Obj) : Bq w0 (W.alloc c) g h o i pr := ⟨k.1.alloc k.1.size c, k.2.1, k.2.2.alloc c⟩
def exS : ByteArray := ⟨#[49, 50, 55, 46, 48, 46, 48, 46, 49, 58, 56, 48, 56, 48, 58, 56, 48, 47, 117, 100, 112]⟩
def exH : ByteArray := ⟨#[49, 50, 55, 46, 48, 46, 48, 46, 49]⟩
theorem ex_prs : prsP exS.data.toList = some ⟨exH.data.toList, 8080, 80, udpS.data.toList⟩ := by kernel_rfl
theorem ex_right : rightB ⟨exH.data.toList, 8080, 80, udpS.data.toList⟩ = true := by kernel_rfl
theorem ex_text : ba (textP ⟨exH.data.toList, 8080, 80, udpS.data.toList⟩) = exS := by kernel_rfl
set_option maxRecDepth 100000 in
set_option maxHeartbeats 8000000 in
theorem awake16_any (HP : HPrs16) (HR : HRgt16) (HT : HTxt16) (w : World) (hw : SomeMax w) :
    Calls Tryd.prog 6 #[] w fun e w' => e = .returned (.bool true) ∧ Below w.heap.size w w' := by
  have H1 := Lib.hid (fun w0 h0 => HP exS w0 h0 (by decide))
  rw [ex_prs, prsE_some] at H1
  have H2 := Lib.hid (fun w0 h0 => HT exH udpS 8080 80 w0 h0 (by decide))
  rw [ex_text] at H2
  have H3 := Lib.hid (fun w0 h0 => HR exH udpS 8080 80 w0 h0 (by decide))
  rw [ex_right] at H3
  unfold exS exH udpS at H1 H2
  unfold exH udpS at H3
  have HW := Lib.hid hw
  clear HP HR HT hw
  go_enter Tryd.func6, Tryd.ntmps6
  go_wp2_with first
    | (go_at_call 7; refine (H1.out _ (by first | exact HW.out | exact HW.out.keep HQ.out.1 | exact HW.out.keep (HQ.out.alloc _).1)).mono ?_; rintro e w1 ⟨rfl, hb⟩; have HQ := Lib.hid (bq_new hb ⟨#[49, 50, 55, 46, 48, 46, 48, 46, 49]⟩ ⟨#[117, 100, 112]⟩ 8080 80); clear hb)
    | (go_at_call 10; refine (H2.out _ (by first | exact HW.out | exact HW.out.keep HQ.out.1 | exact HW.out.keep (HQ.out.alloc _).1)).mono ?_; rintro e w2 ⟨rfl, hb⟩; replace HQ := Lib.hid (HQ.out.go hb); clear hb; obtain ⟨x0, x1, x2, x3⟩ := HQ.out.2.2.cells; have hlt := HQ.out.2.2.lt)
    | (go_at_call 9; refine (H3.out _ (by first | exact HW.out | exact HW.out.keep HQ.out.1 | exact HW.out.keep (HQ.out.alloc _).1)).mono ?_; rintro e w3 ⟨rfl, hb⟩; replace HQ := Lib.hid (HQ.out.go hb); clear hb)
  go_ret
  exact ⟨rfl, HQ.out.1⟩
set_option maxRecDepth 100000 in
set_option maxHeartbeats 8000000 in
theorem PortParses_walk (HP : HPrs16) (HR : HRgt16) (HT : HTxt16) (s : ByteArray) (w : World) (hw : SomeMax w) :
    Calls Tryd.prog 3 #[.string s] w fun e w' => e = .returned (.bool true) ∧ Below w.heap.size w w' := by
  have HW := Lib.hid hw
  have HA := Lib.hid (fun w0 h0 => awake16_any HP HR HT w0 h0)
  by_cases h5 : 500 < s.size
  · have hz : (500 : Int) < (s.size : Int) := by omega
    clear HP HR HT
    go_enter Tryd.func3, Tryd.ntmps3
    go_wp2_with (go_at_call 6; refine (HA.out _ (by first | exact HW.out | exact HW.out.keep HQ.out.1 | exact HW.out.keep (HQ.out.alloc _).1)).mono ?_; rintro e w1 ⟨rfl, hb⟩; have HB := Lib.hid hb; clear hb)
    go_ret
    exact ⟨rfl, HB.out⟩
  · have hz : ¬ (500 : Int) < (s.size : Int) := by omega
    have H1 := Lib.hid (fun w0 h0 => HP s w0 h0 (by omega))
    have H2 := Lib.hid (fun w0 => RParse16_any s w0 (by omega))
    cases hR : prsP s.data.toList with
    | none =>
      rw [hR] at H1 H2
      unfold PrsE at H1 H2
      clear HP HR HT hR
      go_enter Tryd.func3, Tryd.ntmps3
      go_wp2_with first
        | (go_at_call 7; refine (H1.out _ (by first | exact HW.out | exact HW.out.keep HQ.out.1 | exact HW.out.keep (HQ.out.alloc _).1)).mono ?_; rintro e w1 ⟨rfl, hb⟩; have HQ := Lib.hid (bq_new hb ⟨#[]⟩ ⟨#[]⟩ 0 0); clear hb)
        | (go_at_call 8; refine (H2.out _).mono ?_; rintro e w2 ⟨rfl, hb⟩; replace HQ := Lib.hid (HQ.out.go hb); clear hb; obtain ⟨x0, x1, x2, x3⟩ := HQ.out.2.2.cells; have hlt := HQ.out.2.2.lt)
        | (go_at_call 6; refine (HA.out _ (by first | exact HW.out | exact HW.out.keep HQ.out.1 | exact HW.out.keep (HQ.out.alloc _).1)).mono ?_; rintro e w3 ⟨rfl, hb⟩; replace HQ := Lib.hid ((HQ.out.alloc _).go hb); clear hb)
      go_ret
      exact ⟨rfl, HQ.out.1⟩
    | some p =>
      obtain ⟨h, o, i, pr⟩ := p
      have hright := prs_right hR
      have hsz : h.length ≤ 100000 := by
        rcases (right_facts hright).2.2.2.2.2 with e | e
        · rw [show h = [] from e]; decide
        · exact prs_host hR (by show s.size ≤ _; omega)
      obtain ⟨hh, rfl⟩ : ∃ hh : ByteArray, hh.data.toList = h := ⟨ba h, ba_data h⟩
      obtain ⟨pp, rfl⟩ : ∃ pp : ByteArray, pp.data.toList = pr := ⟨ba pr, ba_data pr⟩
      have H3 := Lib.hid (fun w0 h0 => HR hh pp o i w0 h0 hsz)
      rw [hright] at H3
      rw [hR, prsE_some] at H1 H2
      clear HP HR HT hR hright hsz
      go_enter Tryd.func3, Tryd.ntmps3
      go_wp2_with first
        | (go_at_call 7; refine (H1.out _ (by first | exact HW.out | exact HW.out.keep HQ.out.1 | exact HW.out.keep (HQ.out.alloc _).1)).mono ?_; rintro e w1 ⟨rfl, hb⟩; have HQ := Lib.hid (bq_new hb hh pp o i); clear hb)
        | (go_at_call 8; refine (H2.out _).mono ?_; rintro e w2 ⟨rfl, hb⟩; replace HQ := Lib.hid (HQ.out.go hb); clear hb; obtain ⟨x0, x1, x2, x3⟩ := HQ.out.2.2.cells; have hlt := HQ.out.2.2.lt)
        | (go_at_call 9; refine (H3.out _ (by first | exact HW.out | exact HW.out.keep HQ.out.1 | exact HW.out.keep (HQ.out.alloc _).1)).mono ?_; rintro e w3 ⟨rfl, hb⟩; replace HQ := Lib.hid ((HQ.out.alloc _).go hb); clear hb)
        | (go_at_call 6; refine (HA.out _ (by first | exact HW.out | exact HW.out.keep HQ.out.1 | exact HW.out.keep (HQ.out.alloc _).1)).mono ?_; rintro e w4 ⟨rfl, hb⟩; replace HQ := Lib.hid (HQ.out.go hb); clear hb)
      go_ret
      exact ⟨rfl, HQ.out.1⟩
end Go.Proofs.YtkgfinhepbipeaaDoor
