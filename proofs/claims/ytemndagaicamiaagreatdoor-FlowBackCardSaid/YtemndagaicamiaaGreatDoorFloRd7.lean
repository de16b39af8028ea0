/- The contract of the reader's readScalar. -/
import Derived.Test.YtemndagaicamiaaGreatDoorFloRd5
namespace Go.Proofs.YtemndagaicamiaaGreatDoor
open Go.RowKit Go.Sort
open Nw N8 Q6 F9 Go.ChangeShapes Go.WideShapes
set_option linter.unusedVariables false
section
variable {b0 g B m n cap lo : Nat} {w : World} {r : ByteArray} {q : Q4} {qs : List Q4} {f : Fr} {S : List Fr}
theorem str_empty {s : ByteArray} (h : s.data.toList = []) : s = ⟨#[]⟩ := bytes_of (l := #[]) h
set_option maxRecDepth 100000 in
set_option maxHeartbeats 8000000 in
theorem readScalar_none (h : RS b0 g B m n cap w r lo q qs f S) (hs : r.size ≤ 1000000) (l : L8) (hl : r.data.toList.drop (blk r.data.toList) = l) (r2 : ByteArray) (h2 : r2.data.toList = l.drop (tkn l)) (P : Option Nd) (hP : sclS true (frm l) = P) (hN : P = none) :
    Calls Tryz.prog 28 #[.pointer (some ⟨g, 0, none⟩)] w fun e w' => e = .returned (.bool false) ∧ Below b0 w w' := by
  obtain ⟨fm, hf⟩ : ∃ fm : ByteArray, fm.data.toList = frm l := ⟨ba (frm l), ba_data _⟩
  have hfs : fm.size ≤ 1000000 := by
    have e1 : fm.data.toList.length = fm.size := rfl
    have e2 : r.data.toList.length = r.size := rfl
    have e3 := trm_le (l.take (tkn l))
    rw [hf] at e1
    have e4 : (frm l).length ≤ l.length := by unfold frm; rw [List.length_take] at e3; omega
    have e5 : l.length ≤ r.data.toList.length := by rw [← hl, List.length_drop]; omega
    omega
  have HT := Lib.hid (takeScalar_rs h hs l hl fm r2 hf h2)
  have HSC := Lib.hid (fun W => FScalar_any fm true W hfs P (by rw [hf]; exact hP))
  have HE : Hid (scE P = 3) := Lib.hid (by rw [hN]; rfl)
  clear h hs hl h2 hP hN hf hfs
  go_enter Tryz.func28, Tryz.ntmps28
  go_wp2_with fail
  refine HT.out.mono ?_
  rintro e W1 ⟨rfl, hR, hB⟩
  have HB1 := Lib.hid hB
  have HR1 := Lib.hid hR
  clear hR hB HT
  go_wp2_with fail
  refine (HSC.out _).mono ?_
  rintro e W2 ⟨rfl, hb⟩
  rw [HE.out]
  have hb2 : Below W1.heap.size W1 (W2.alloc (.cells #[.int .i64 (scK P), .string (scT P), .slice none 0 0, .slice none 0 0] 25)) := hb.trans ((Below.refl _ _).alloc hb.size _)
  have HB := Lib.hid (HR1.out.bb HB1.out hb2)
  have HR := Lib.hid (HR1.out.go hb2)
  have HX := Lib.hid (Row4.make W2 25 (.int .i64 (scK P)) (.string (scT P)) (.slice none 0 0) (.slice none 0 0))
  clear hb hb2 HB1 HR1 HSC
  go_wp2
  go_ret
  exact ⟨rfl, HB.out⟩
set_option maxRecDepth 100000 in
set_option maxHeartbeats 8000000 in
theorem readScalar_seq (h : RS b0 g B m n cap w r lo q qs f S) (hs : r.size ≤ 1000000) (l : L8) (hl : r.data.toList.drop (blk r.data.toList) = l) (r2 : ByteArray) (h2 : r2.data.toList = l.drop (tkn l)) (P : Option Nd) (hP : sclS true (frm l) = P) (hN : P.isSome = true) (hfe : frm l = []) (hk : f.k = 2) :
    Calls Tryz.prog 28 #[.pointer (some ⟨g, 0, none⟩)] w fun e w' => e = .returned (.bool false) ∧ Below b0 w w' := by
  obtain ⟨fm, hf⟩ : ∃ fm : ByteArray, fm.data.toList = frm l := ⟨ba (frm l), ba_data _⟩
  have hfs : fm.size ≤ 1000000 := by
    have e1 : fm.data.toList.length = fm.size := rfl
    have e2 : r.data.toList.length = r.size := rfl
    have e3 := trm_le (l.take (tkn l))
    rw [hf] at e1
    have e4 : (frm l).length ≤ l.length := by unfold frm; rw [List.length_take] at e3; omega
    have e5 : l.length ≤ r.data.toList.length := by rw [← hl, List.length_drop]; omega
    omega
  have HT := Lib.hid (takeScalar_rs h hs l hl fm r2 hf h2)
  have HSC := Lib.hid (fun W => FScalar_any fm true W hfs P (by rw [hf]; exact hP))
  have HE : Hid (scE P = 0) := Lib.hid (by cases P with | none => cases hN | some d => rfl)
  have HK := Lib.hid hk
  obtain rfl := str_empty (hf.trans hfe)
  clear h hs hl h2 hP hN hf hfs hfe hk
  go_enter Tryz.func28, Tryz.ntmps28
  go_wp2_with fail
  refine HT.out.mono ?_
  rintro e W1 ⟨rfl, hR, hB⟩
  have HB1 := Lib.hid hB
  have HR1 := Lib.hid hR
  clear hR hB HT
  go_wp2_with fail
  refine (HSC.out _).mono ?_
  rintro e W2 ⟨rfl, hb⟩
  rw [HE.out]
  have hb2 : Below W1.heap.size W1 (W2.alloc (.cells #[.int .i64 (scK P), .string (scT P), .slice none 0 0, .slice none 0 0] 25)) := hb.trans ((Below.refl _ _).alloc hb.size _)
  have HB := Lib.hid (HR1.out.bb HB1.out hb2)
  have HR := Lib.hid (HR1.out.go hb2)
  have HX := Lib.hid (Row4.make W2 25 (.int .i64 (scK P)) (.string (scT P)) (.slice none 0 0) (.slice none 0 0))
  clear hb hb2 HB1 HR1 HSC
  go_upto_region 3 with fail
  generalize W2.alloc (.cells #[.int .i64 (scK P), .string (scT P), .slice none 0 0, .slice none 0 0] 25) = W3 at *
  generalize W2.heap.size = gx at *
  have HI := Lib.hid (innermost_rs HR.out)
  go_wp2_with fail
  refine HI.out.mono ?_
  rintro e W4 ⟨rfl, hb⟩
  replace HB := Lib.hid (HR.out.bb HB.out hb)
  replace HX := Lib.hid (HX.out.below hb HX.out.lt)
  replace HR := Lib.hid (HR.out.go hb)
  clear hb HI
  obtain ⟨⟨t0, t1, t2, t3⟩, -, -⟩ := HR.out.top
  obtain ⟨x0, x1, x2, x3⟩ := HX.out.cells
  rw [HK.out] at t0
  go_wp2
  go_ret
  exact ⟨rfl, HB.out⟩
set_option maxRecDepth 100000 in
set_option maxHeartbeats 8000000 in
theorem readScalar_txt (h : RS b0 g B m n cap w r lo q qs f S) (hs : r.size ≤ 1000000) (l : L8) (hl : r.data.toList.drop (blk r.data.toList) = l) (r2 : ByteArray) (h2 : r2.data.toList = l.drop (tkn l)) (P : Option Nd) (hP : sclS true (frm l) = P) (d : Nd) (hN : P = some d) (hlen : f.ds.length ≤ 1000000) (hfe : frm l ≠ []) :
    Calls Tryz.prog 28 #[.pointer (some ⟨g, 0, none⟩)] w fun e w' => e = .returned (.bool true) ∧ (∃ q', RS b0 g B m n cap w' r2 lo q' qs (f.add d) S) ∧ Below b0 w w' := by
  obtain ⟨fm, hf⟩ : ∃ fm : ByteArray, fm.data.toList = frm l := ⟨ba (frm l), ba_data _⟩
  have hfs : fm.size ≤ 1000000 := by
    have e1 : fm.data.toList.length = fm.size := rfl
    have e2 : r.data.toList.length = r.size := rfl
    have e3 := trm_le (l.take (tkn l))
    rw [hf] at e1
    have e4 : (frm l).length ≤ l.length := by unfold frm; rw [List.length_take] at e3; omega
    have e5 : l.length ≤ r.data.toList.length := by rw [← hl, List.length_drop]; omega
    omega
  have HT := Lib.hid (takeScalar_rs h hs l hl fm r2 hf h2)
  have HSC := Lib.hid (fun W => FScalar_any fm true W hfs P (by rw [hf]; exact hP))
  have HE : Hid (scE P = 0) := Lib.hid (by rw [hN]; rfl)
  have HND : Hid (∀ (T : Nat → Prop) (W : World), NdC T W d (.int .i64 (scK P)) (.string (scT P)) (.slice none 0 0) (.slice none 0 0)) := Lib.hid (fun T W => by
    have h9 := nd_scl (row := true) (l := frm l) T W
    rw [hP, hN] at h9
    rw [hN]
    exact h9)
  have HLEN := Lib.hid hlen
  have hfe2 : fm.data.toList ≠ [] := fun e => hfe (hf.symm.trans e)
  have p0 : fm.toList.isEmpty = false := by rw [ByteArray.toList_eq, List.isEmpty_eq_false_iff]; exact hfe2
  have p0' : ¬ fm.toList = [] := by rw [ByteArray.toList_eq]; exact hfe2
  clear h hs hl h2 hP hN hf hfs hfe hfe2 hlen
  go_enter Tryz.func28, Tryz.ntmps28
  go_wp2_with fail
  refine HT.out.mono ?_
  rintro e W1 ⟨rfl, hR, hB⟩
  have HB1 := Lib.hid hB
  have HR1 := Lib.hid hR
  clear hR hB HT
  go_wp2_with fail
  refine (HSC.out _).mono ?_
  rintro e W2 ⟨rfl, hb⟩
  rw [HE.out]
  have hb2 : Below W1.heap.size W1 (W2.alloc (.cells #[.int .i64 (scK P), .string (scT P), .slice none 0 0, .slice none 0 0] 25)) := hb.trans ((Below.refl _ _).alloc hb.size _)
  have HB := Lib.hid (HR1.out.bb HB1.out hb2)
  have HR := Lib.hid (HR1.out.go hb2)
  have HX := Lib.hid (Row4.make W2 25 (.int .i64 (scK P)) (.string (scT P)) (.slice none 0 0) (.slice none 0 0))
  clear hb hb2 HB1 HR1 HSC
  go_upto_region 3 with fail
  generalize W2.alloc (.cells #[.int .i64 (scK P), .string (scT P), .slice none 0 0, .slice none 0 0] 25) = W3 at *
  generalize W2.heap.size = gx at *
  obtain ⟨x0, x1, x2, x3⟩ := HX.out.cells
  have HA := Lib.hid (add_rs HR.out d (scK P) (scT P) none 0 0 none 0 0 (HND.out _ _) HLEN.out)
  clear HR
  go_wp2_with fail
  refine HA.out.mono ?_
  rintro e W5 ⟨rfl, ⟨q', hR⟩, hB⟩
  have HR := Lib.hid hR
  have HB2 := Lib.hid (HB.out.trans hB)
  clear hR hB
  go_wp2
  go_ret
  exact ⟨rfl, ⟨q', HR.out⟩, HB2.out⟩
set_option maxRecDepth 100000 in
set_option maxHeartbeats 8000000 in
theorem readScalar_nil (h : RS b0 g B m n cap w r lo q qs f S) (hs : r.size ≤ 1000000) (l : L8) (hl : r.data.toList.drop (blk r.data.toList) = l) (r2 : ByteArray) (h2 : r2.data.toList = l.drop (tkn l)) (P : Option Nd) (hP : sclS true (frm l) = P) (d : Nd) (hN : P = some d) (hlen : f.ds.length ≤ 1000000) (hfe : frm l = []) (hk : f.k ≠ 2) :
    Calls Tryz.prog 28 #[.pointer (some ⟨g, 0, none⟩)] w fun e w' => e = .returned (.bool true) ∧ (∃ q', RS b0 g B m n cap w' r2 lo q' qs (f.add d) S) ∧ Below b0 w w' := by
  obtain ⟨fm, hf⟩ : ∃ fm : ByteArray, fm.data.toList = frm l := ⟨ba (frm l), ba_data _⟩
  have hfs : fm.size ≤ 1000000 := by
    have e1 : fm.data.toList.length = fm.size := rfl
    have e2 : r.data.toList.length = r.size := rfl
    have e3 := trm_le (l.take (tkn l))
    rw [hf] at e1
    have e4 : (frm l).length ≤ l.length := by unfold frm; rw [List.length_take] at e3; omega
    have e5 : l.length ≤ r.data.toList.length := by rw [← hl, List.length_drop]; omega
    omega
  have HT := Lib.hid (takeScalar_rs h hs l hl fm r2 hf h2)
  have HSC := Lib.hid (fun W => FScalar_any fm true W hfs P (by rw [hf]; exact hP))
  have HE : Hid (scE P = 0) := Lib.hid (by rw [hN]; rfl)
  have HND : Hid (∀ (T : Nat → Prop) (W : World), NdC T W d (.int .i64 (scK P)) (.string (scT P)) (.slice none 0 0) (.slice none 0 0)) := Lib.hid (fun T W => by
    have h9 := nd_scl (row := true) (l := frm l) T W
    rw [hP, hN] at h9
    rw [hN]
    exact h9)
  have HLEN := Lib.hid hlen
  have hk2 : (f.k == 2) = false := beq_eq_false_iff_ne.2 hk
  obtain rfl := str_empty (hf.trans hfe)
  clear h hs hl h2 hP hN hf hfs hfe hlen
  go_enter Tryz.func28, Tryz.ntmps28
  go_wp2_with fail
  refine HT.out.mono ?_
  rintro e W1 ⟨rfl, hR, hB⟩
  have HB1 := Lib.hid hB
  have HR1 := Lib.hid hR
  clear hR hB HT
  go_wp2_with fail
  refine (HSC.out _).mono ?_
  rintro e W2 ⟨rfl, hb⟩
  rw [HE.out]
  have hb2 : Below W1.heap.size W1 (W2.alloc (.cells #[.int .i64 (scK P), .string (scT P), .slice none 0 0, .slice none 0 0] 25)) := hb.trans ((Below.refl _ _).alloc hb.size _)
  have HB := Lib.hid (HR1.out.bb HB1.out hb2)
  have HR := Lib.hid (HR1.out.go hb2)
  have HX := Lib.hid (Row4.make W2 25 (.int .i64 (scK P)) (.string (scT P)) (.slice none 0 0) (.slice none 0 0))
  clear hb hb2 HB1 HR1 HSC
  go_upto_region 3 with fail
  generalize W2.alloc (.cells #[.int .i64 (scK P), .string (scT P), .slice none 0 0, .slice none 0 0] 25) = W3 at *
  generalize W2.heap.size = gx at *
  have HI := Lib.hid (innermost_rs HR.out)
  go_wp2_with fail
  refine HI.out.mono ?_
  rintro e W4 ⟨rfl, hb⟩
  replace HB := Lib.hid (HR.out.bb HB.out hb)
  replace HX := Lib.hid (HX.out.below hb HX.out.lt)
  replace HR := Lib.hid (HR.out.go hb)
  clear hb HI
  obtain ⟨⟨t0, t1, t2, t3⟩, -, -⟩ := HR.out.top
  obtain ⟨x0, x1, x2, x3⟩ := HX.out.cells
  have HA := Lib.hid (add_rs HR.out d (scK P) (scT P) none 0 0 none 0 0 (HND.out _ _) HLEN.out)
  clear HR
  go_wp2_with fail
  refine HA.out.mono ?_
  rintro e W5 ⟨rfl, ⟨q', hR⟩, hB⟩
  have HR := Lib.hid hR
  have HB2 := Lib.hid (HB.out.trans hB)
  clear hR hB
  go_wp2
  go_ret
  exact ⟨rfl, ⟨q', HR.out⟩, HB2.out⟩
end
end Go.Proofs.YtemndagaicamiaaGreatDoor
