/- Chapter 16's second law over the contracts of port.Parse, port.Right and port.Text. -/
import Derived.Test.YtkgfinhepbipeaaDoorLawPrt1
namespace Go.Proofs.YtkgfinhepbipeaaDoor
open Go.RowKit Go.Sort
open Nw Dg P16
set_option linter.unusedVariables false
theorem Bq.hS {w0 W : World} {g : Nat} {h pr : ByteArray} {o i : Int} (k : Bq w0 W g h o i pr) : W.cell? ⟨g, 0, none⟩ = some (.string h) ∧ W.cell? ⟨g, 1, none⟩ = some (.int .i64 o) ∧ W.cell? ⟨g, 2, none⟩ = some (.int .i64 i) ∧ W.cell? ⟨g, 3, none⟩ = some (.string pr) := k.2.2.cells
theorem Bq.drew {w0 W : World} {g : Nat} {h pr : ByteArray} {o i : Int} (k : Bq w0 W g h o i pr) : Bq w0 W.drew g h o i pr := k.go ⟨rfl, rfl, rfl, Nat.le_refl _, fun _ _ => rfl⟩
theorem Bq.drewN {w0 W : World} {g q : Nat} {h pr : ByteArray} {o i : Int} (k : Bq w0 W g h o i pr) : Bq w0 (W.drewN q) g h o i pr := k.go ⟨rfl, rfl, rfl, Nat.le_refl _, fun _ _ => rfl⟩
set_option maxRecDepth 100000 in
set_option maxHeartbeats 8000000 in
theorem PortTexts_walk (HP : HPrs16) (HR : HRgt16) (HT : HTxt16) (h pr : ByteArray) (o i : Int) (w : World) (hw : SomeMax w) :
    Calls Tryd.prog 4 #[.agg #[.string h, .int .i64 o, .int .i64 i, .string pr]] w fun e w' => e = .returned (.bool true) ∧ Below w.heap.size w w' := by
  have HW := Lib.hid hw
  have HA := Lib.hid (fun w0 h0 => awake16_any HP HR HT w0 h0)
  have HB0 := Lib.hid (bq_new (Below.refl w.heap.size w) h pr o i)
  by_cases h5 : 100 < h.size
  · have hz : (100 : Int) < (h.size : Int) := by omega
    clear HP HR HT
    go_enter Tryd.func4, Tryd.ntmps4
    go_wp2_with (go_at_call 6; refine (HA.out _ (by first | exact HW.out | exact HW.out.keep HB.out.1 | exact HW.out.keep HB.out.drew.1 | exact HW.out.keep HB.out.drewN.1 | exact HW.out.keep (HB.out.alloc _).1 | exact HW.out.keep HB0.out.1)).mono ?_; rintro e w1 ⟨rfl, hb⟩; have HB := Lib.hid (HB0.out.go hb); clear hb)
    go_ret
    exact ⟨rfl, HB.out.1⟩
  by_cases h6 : 100 < pr.size
  · have hz : ¬ (100 : Int) < (h.size : Int) := by omega
    have hz2 : (100 : Int) < (pr.size : Int) := by omega
    clear HP HR HT
    go_enter Tryd.func4, Tryd.ntmps4
    go_wp2_with (go_at_call 6; refine (HA.out _ (by first | exact HW.out | exact HW.out.keep HB.out.1 | exact HW.out.keep HB.out.drew.1 | exact HW.out.keep HB.out.drewN.1 | exact HW.out.keep (HB.out.alloc _).1 | exact HW.out.keep HB0.out.1)).mono ?_; rintro e w1 ⟨rfl, hb⟩; have HB := Lib.hid (HB0.out.go hb); clear hb)
    go_ret
    exact ⟨rfl, HB.out.1⟩
  have hz : ¬ (100 : Int) < (h.size : Int) := by omega
  have hz2 : ¬ (100 : Int) < (pr.size : Int) := by omega
  have H1 := Lib.hid (fun w0 h0 => HT h pr o i w0 h0 (by omega))
  have H2 := Lib.hid (fun w0 h0 => HR h pr o i w0 h0 (by omega))
  have H3 := Lib.hid (fun w0 => RRight_any h pr o i w0 (by omega))
  have H4 := Lib.hid (fun w0 => RText16_any h pr o i w0 (by omega))
  cases hr : rightB ⟨h.data.toList, o, i, pr.data.toList⟩ with
  | false =>
    have H5 := Lib.hid (fun w0 h0 => HP ⟨#[]⟩ w0 h0 (by decide))
    rw [show prsP (⟨#[]⟩ : ByteArray).data.toList = none from prs_empty] at H5
    rw [hr] at H2 H3
    rw [textP_no hr, show ba [] = (⟨#[]⟩ : ByteArray) from rfl] at H1 H4
    unfold PrsE at H5
    clear HP HR HT hr
    go_enter Tryd.func4, Tryd.ntmps4
    go_upto_region 4 with (go_at_call 10; refine (H1.out _ (by first | exact HW.out | exact HW.out.keep HB.out.1 | exact HW.out.keep HB.out.drew.1 | exact HW.out.keep HB.out.drewN.1 | exact HW.out.keep (HB.out.alloc _).1 | exact HW.out.keep HB0.out.1)).mono ?_; rintro e w1 ⟨rfl, hb⟩; have HB := Lib.hid (HB0.out.go hb); clear hb; have hS := HB.out.hS; clear HB0)
    have hlt := HB.out.2.2.lt
    go_region_held3 (fun W => W.cell? ⟨w.heap.size, 0, none⟩ = some (.string h) ∧ W.cell? ⟨w.heap.size, 1, none⟩ = some (.int .i64 o) ∧ W.cell? ⟨w.heap.size, 2, none⟩ = some (.int .i64 i) ∧ W.cell? ⟨w.heap.size, 3, none⟩ = some (.string pr)) (first | exact hS | assumption)
      (first
        | (go_at_call 9; refine (H2.out _ (by first | exact HW.out | exact HW.out.keep HB.out.1 | exact HW.out.keep HB.out.drew.1 | exact HW.out.keep HB.out.drewN.1 | exact HW.out.keep (HB.out.alloc _).1 | exact HW.out.keep HB0.out.1)).mono ?_; rintro e w2 ⟨rfl, hb⟩; replace HB := Lib.hid (by first | exact HB.out.go hb | exact HB.out.drew.go hb | exact HB.out.drewN.go hb); clear hb; (try clear hS); have hS := HB.out.hS)
        | (go_at_call 11; refine (H3.out _).mono ?_; rintro e w2 ⟨rfl, hb⟩; replace HB := Lib.hid (by first | exact HB.out.go hb | exact HB.out.drew.go hb | exact HB.out.drewN.go hb); clear hb; (try clear hS); have hS := HB.out.hS)
        | (go_at_call 12; refine (H4.out _).mono ?_; rintro e w2 ⟨rfl, hb⟩; replace HB := Lib.hid (by first | exact HB.out.go hb | exact HB.out.drew.go hb | exact HB.out.drewN.go hb); clear hb; (try clear hS); have hS := HB.out.hS))
    clear hlt
    obtain ⟨x0, x1, x2, x3⟩ := hS
    have hlt := HB.out.2.2.lt
    clear H1 H3 H4
    go_wp2_with first
      | (go_at_call 7; refine (H5.out _ (by first | exact HW.out | exact HW.out.keep HB.out.1 | exact HW.out.keep HB.out.drew.1 | exact HW.out.keep HB.out.drewN.1 | exact HW.out.keep (HB.out.alloc _).1 | exact HW.out.keep HB0.out.1)).mono ?_; rintro e w5 ⟨rfl, hb⟩; replace HB := Lib.hid (by first | exact HB.out.go hb | exact HB.out.drew.go hb | exact HB.out.drewN.go hb); clear hb x0 x1 x2 x3 hlt; obtain ⟨x0, x1, x2, x3⟩ := HB.out.hS; have hlt := HB.out.2.2.lt)
      | (go_at_call 9; refine (H2.out _ (by first | exact HW.out | exact HW.out.keep HB.out.1 | exact HW.out.keep HB.out.drew.1 | exact HW.out.keep HB.out.drewN.1 | exact HW.out.keep (HB.out.alloc _).1 | exact HW.out.keep HB0.out.1)).mono ?_; rintro e w6 ⟨rfl, hb⟩; replace HB := Lib.hid ((HB.out.alloc _).go hb); clear hb x0 x1 x2 x3 hlt; obtain ⟨x0, x1, x2, x3⟩ := HB.out.hS; have hlt := HB.out.2.2.lt)
      | (go_at_call 6; refine (HA.out _ (by first | exact HW.out | exact HW.out.keep HB.out.1 | exact HW.out.keep HB.out.drew.1 | exact HW.out.keep HB.out.drewN.1 | exact HW.out.keep (HB.out.alloc _).1 | exact HW.out.keep HB0.out.1)).mono ?_; rintro e w7 ⟨rfl, hb⟩; replace HB := Lib.hid (by first | exact HB.out.go hb | exact HB.out.drew.go hb | exact HB.out.drewN.go hb); clear hb)
    go_ret
    exact ⟨rfl, HB.out.1⟩
  | true =>
    have hpt := prs_text hr
    obtain ⟨TX, hTX⟩ : ∃ TX : ByteArray, ba (textP ⟨h.data.toList, o, i, pr.data.toList⟩) = TX := ⟨_, rfl⟩
    have hTd : TX.data.toList = textP ⟨h.data.toList, o, i, pr.data.toList⟩ := by rw [← hTX, ba_data]
    have hTs : TX.size ≤ 100000 := by
      show TX.data.toList.length ≤ _
      rw [hTd]; exact text_len hr (by show h.size ≤ 100; omega)
    have H5 := Lib.hid (fun w0 h0 => HP TX w0 h0 hTs)
    rw [hTd, hpt, prsE_some] at H5
    rw [hr] at H2 H3
    rw [hTX] at H1 H4
    clear hpt hTd hTs hTX
    clear HP HR HT hr
    go_enter Tryd.func4, Tryd.ntmps4
    go_upto_region 4 with (go_at_call 10; refine (H1.out _ (by first | exact HW.out | exact HW.out.keep HB.out.1 | exact HW.out.keep HB.out.drew.1 | exact HW.out.keep HB.out.drewN.1 | exact HW.out.keep (HB.out.alloc _).1 | exact HW.out.keep HB0.out.1)).mono ?_; rintro e w1 ⟨rfl, hb⟩; have HB := Lib.hid (HB0.out.go hb); clear hb; have hS := HB.out.hS; clear HB0)
    have hlt := HB.out.2.2.lt
    go_region_held3 (fun W => W.cell? ⟨w.heap.size, 0, none⟩ = some (.string h) ∧ W.cell? ⟨w.heap.size, 1, none⟩ = some (.int .i64 o) ∧ W.cell? ⟨w.heap.size, 2, none⟩ = some (.int .i64 i) ∧ W.cell? ⟨w.heap.size, 3, none⟩ = some (.string pr)) (first | exact hS | assumption)
      (first
        | (go_at_call 9; refine (H2.out _ (by first | exact HW.out | exact HW.out.keep HB.out.1 | exact HW.out.keep HB.out.drew.1 | exact HW.out.keep HB.out.drewN.1 | exact HW.out.keep (HB.out.alloc _).1 | exact HW.out.keep HB0.out.1)).mono ?_; rintro e w2 ⟨rfl, hb⟩; replace HB := Lib.hid (by first | exact HB.out.go hb | exact HB.out.drew.go hb | exact HB.out.drewN.go hb); clear hb; (try clear hS); have hS := HB.out.hS)
        | (go_at_call 11; refine (H3.out _).mono ?_; rintro e w2 ⟨rfl, hb⟩; replace HB := Lib.hid (by first | exact HB.out.go hb | exact HB.out.drew.go hb | exact HB.out.drewN.go hb); clear hb; (try clear hS); have hS := HB.out.hS)
        | (go_at_call 12; refine (H4.out _).mono ?_; rintro e w2 ⟨rfl, hb⟩; replace HB := Lib.hid (by first | exact HB.out.go hb | exact HB.out.drew.go hb | exact HB.out.drewN.go hb); clear hb; (try clear hS); have hS := HB.out.hS))
    clear hlt
    obtain ⟨x0, x1, x2, x3⟩ := hS
    have hlt := HB.out.2.2.lt
    clear H1 H3 H4
    go_wp2_with first
      | (go_at_call 7; refine (H5.out _ (by first | exact HW.out | exact HW.out.keep HB.out.1 | exact HW.out.keep HB.out.drew.1 | exact HW.out.keep HB.out.drewN.1 | exact HW.out.keep (HB.out.alloc _).1 | exact HW.out.keep HB0.out.1)).mono ?_; rintro e w5 ⟨rfl, hb⟩; replace HB := Lib.hid (by first | exact HB.out.go hb | exact HB.out.drew.go hb | exact HB.out.drewN.go hb); clear hb x0 x1 x2 x3 hlt; obtain ⟨x0, x1, x2, x3⟩ := HB.out.hS; have hlt := HB.out.2.2.lt)
      | (go_at_call 9; refine (H2.out _ (by first | exact HW.out | exact HW.out.keep HB.out.1 | exact HW.out.keep HB.out.drew.1 | exact HW.out.keep HB.out.drewN.1 | exact HW.out.keep (HB.out.alloc _).1 | exact HW.out.keep HB0.out.1)).mono ?_; rintro e w6 ⟨rfl, hb⟩; replace HB := Lib.hid ((HB.out.alloc _).go hb); have HP5 := Lib.hid (Rw4.make w5 24 (.string h) (.int .i64 o) (.int .i64 i) (.string pr)); have hw5 : w5.heap.size < w6.heap.size := Nat.lt_of_lt_of_le (HP5.out.lt) hb.size; obtain ⟨y0, y1, y2, y3⟩ := (HP5.out.below hb).cells; clear hb x0 x1 x2 x3 hlt; obtain ⟨x0, x1, x2, x3⟩ := HB.out.hS; have hlt := HB.out.2.2.lt)
      | (go_at_call 6; refine (HA.out _ (by first | exact HW.out | exact HW.out.keep HB.out.1 | exact HW.out.keep HB.out.drew.1 | exact HW.out.keep HB.out.drewN.1 | exact HW.out.keep (HB.out.alloc _).1 | exact HW.out.keep HB0.out.1)).mono ?_; rintro e w7 ⟨rfl, hb⟩; replace HB := Lib.hid (by first | exact HB.out.go hb | exact HB.out.drew.go hb | exact HB.out.drewN.go hb); clear hb)
    go_ret
    exact ⟨rfl, HB.out.1⟩
end Go.Proofs.YtkgfinhepbipeaaDoor
