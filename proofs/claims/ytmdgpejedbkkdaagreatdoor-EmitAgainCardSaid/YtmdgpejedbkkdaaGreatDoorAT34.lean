/- FloRd9 -/
import Derived.Deep.LoopGhost
import Derived.Deep.RegionHeld3
import Derived.Test.YtmdgpejedbkkdaaGreatDoorAT31
import Derived.Test.YtmdgpejedbkkdaaGreatDoorAT33
set_option linter.unusedVariables false
set_option linter.unusedSimpArgs false
set_option maxRecDepth 100000
set_option maxHeartbeats 16000000
open Go.Lib (hid)
namespace Go.Proofs.YtmdgpejedbkkdaaGreatDoor
section
open Go.RowKit Go.Sort
open Nw N8 Q6 F9 Go.ChangeShapes Go.WideShapes
def ST (φ : Fr → List Fr → L8 → Option Nd) (b0 g N M : Nat) (P : Option Nd) (w : World) (r : ByteArray) (f : Fr) (S : List Fr) : Prop :=
 ∃ B m n cap lo q qs, RS b0 g B m n cap w r lo q qs f S ∧ Hld φ N M f S r.data.toList P
theorem ext_rest {s : ByteArray} {k : Nat} {t : ByteArray} (h : t.data.toList = s.data.toList.drop k) : s.extract k s.size = t := bytes_ext (by rw [rest_data, h])
theorem add_ne (f : Fr) (d : Nd) : (f.add d).ds ≠ [] := by
 show f.ds ++ [d] ≠ []
 simp
theorem fresh4 (W : World) (s : Nat) (hs : W.heap.size = s) (t : TypeId) (a b c d : Value) :
  ((W.alloc (.cells #[a, b, c, d] t)).cell? ⟨s, 0, none⟩ = some a ∧ (W.alloc (.cells #[a, b, c, d] t)).cell? ⟨s, 1, none⟩ = some b ∧ (W.alloc (.cells #[a, b, c, d] t)).cell? ⟨s, 2, none⟩ = some c ∧ (W.alloc (.cells #[a, b, c, d] t)).cell? ⟨s, 3, none⟩ = some d) ∧
   (W.alloc (.cells #[a, b, c, d] t)).frozen? ⟨s, 0, none⟩ = false ∧ (W.alloc (.cells #[a, b, c, d] t)).frozen? ⟨s, 1, none⟩ = false ∧ (W.alloc (.cells #[a, b, c, d] t)).frozen? ⟨s, 2, none⟩ = false ∧ (W.alloc (.cells #[a, b, c, d] t)).frozen? ⟨s, 3, none⟩ = false := by
 subst hs
 exact ⟨(Row4.make W t a b c d).cells, (Row4.make W t a b c d).frozen⟩
theorem fresh4d (W : World) (k s : Nat) (hs : W.heap.size = s) (t : TypeId) (a b c d : Value) :
  (((W.alloc (.cells #[a, b, c, d] t)).drewN k).cell? ⟨s, 0, none⟩ = some a ∧ ((W.alloc (.cells #[a, b, c, d] t)).drewN k).cell? ⟨s, 1, none⟩ = some b ∧ ((W.alloc (.cells #[a, b, c, d] t)).drewN k).cell? ⟨s, 2, none⟩ = some c ∧ ((W.alloc (.cells #[a, b, c, d] t)).drewN k).cell? ⟨s, 3, none⟩ = some d) ∧
   ((W.alloc (.cells #[a, b, c, d] t)).drewN k).frozen? ⟨s, 0, none⟩ = false ∧ ((W.alloc (.cells #[a, b, c, d] t)).drewN k).frozen? ⟨s, 1, none⟩ = false ∧ ((W.alloc (.cells #[a, b, c, d] t)).drewN k).frozen? ⟨s, 2, none⟩ = false ∧ ((W.alloc (.cells #[a, b, c, d] t)).drewN k).frozen? ⟨s, 3, none⟩ = false := fresh4 W s hs t a b c d
section
variable {b0 g B m n cap lo : Nat} {w : World} {r : ByteArray} {q : Q4} {qs : List Q4} {f : Fr} {S : List Fr}
theorem innermost_q (h : RS b0 g B m n cap w r lo q qs f S) :
  Calls Tryz.prog 162 #[.pointer (some ⟨g, 0, none⟩)] w fun e w' => e = .returned (.pointer (some ⟨B, m * 4, none⟩)) ∧ ∃ k, w' = w.drewN k := by
 obtain ⟨⟨c0, c1⟩, f0, f1⟩ := h.cells
 obtain ⟨h1, -, h3, h4, -⟩ := h.nums
 unfold maxLen at h4
 have wn : IntKind.i64.wrap ((n : Int) - 1) = (m : Int) := by
  rw [IntWalk.i64_in _ (by omega)]; omega
 have mz : (0 : Int) ≤ (m : Int) := by omega
 have mn : (m : Int) < (n : Int) := by omega
 clear h h1 h3 h4
 go_enter Tryz.func162, Tryz.ntmps162
 go_wp2
 go_quiet (fail)
 go_wp2
 go_ret
 exact ⟨rfl, _, rfl⟩
theorem endAll_st {N : Nat} {P : Option Nd} (h : ST thn b0 g N (N + 1) P w r f S) (hN : N ≤ 900000) (hful : S = [] → f.ds ≠ []) :
  Calls Tryz.prog 153 #[.pointer (some ⟨g, 0, none⟩)] w fun e w' => e = .returned (.tuple #[]) ∧ Below b0 w w' ∧ ∃ r' f' S', ST thn b0 g N (N + 1) P w' r' f' S' ∧ (S' = [] → f'.ds ≠ []) ∧ r'.size ≤ r.size ∧
   (S' ≠ [] → (r'.data.toList.drop (blk r'.data.toList)).headD 0 ≠ clo f'.k ∨ twi f'.ks = true) := by
 have HST := hid h
 have HFUL := hid hful
 have HBB := hid (show Below b0 w w from Below.refl _ _)
 obtain ⟨x0, hx0⟩ : ∃ x, r.size = x := ⟨_, rfl⟩
 have HX0 := hid hx0
 clear h hful
 rw [hx0]
 go_enter Tryz.func153, Tryz.ntmps153
 go_wp2
 go_loopg [2] x0 (fun gg s2 wr => ∃ (r' : ByteArray) (f' : Fr) (S' : List Fr), Hid (ST thn b0 g N (N + 1) P wr r' f' S') ∧ Hid (S' = [] → f'.ds ≠ []) ∧ r'.size ≤ gg ∧ r'.size ≤ x0 ∧ Hid (Below b0 w wr))
 case atStart => exact ⟨r, f, S, HST, HFUL, by have := HX0.out; omega, by have := HX0.out; omega, HBB⟩
 case round =>
  clear HST HFUL HBB HX0 hx0
  obtain ⟨r1, f1, S1, HST, HFUL, hgg, hx1, HB⟩ := hrel
  obtain ⟨w0, hw0⟩ : ∃ w0, w0 = wr := ⟨_, rfl⟩
  subst hw0
  obtain ⟨B, m, n, cap, lo, q, qs, hRS, hHL⟩ := id HST.out
  cases S1 with
  | nil =>
   have HE := hid (isEnding0_rs hRS hHL.1.1)
   replace HFUL := hid (HFUL.out rfl)
   have HRS := hid hRS
   have HHL := hid hHL
   clear hRS hHL HST
   go_wp2_with fail
   refine HE.out.mono ?_
   rintro e W1 ⟨rfl, hb⟩
   have HB1 := hid (HRS.out.bb HB.out hb)
   have HR1 := hid (HRS.out.go hb)
   clear hb HB HRS HE
   go_wp2
   go_end0
   exact ⟨rfl, HB1.out, r1, f1, [], ⟨_, _, _, _, _, _, _, HR1.out, HHL.out⟩, fun _ => HFUL.out, hx1, fun e => absurd rfl e⟩
  | cons g1 T =>
   have hk : f1.k = 2 ∨ f1.k = 3 := hHL.1.1.imp (fun e => e.1) id
   obtain ⟨r2, h2⟩ : ∃ r2 : ByteArray, r2.data.toList = r1.data.toList.drop (blk r1.data.toList) := ⟨ba (r1.data.toList.drop (blk r1.data.toList)), ba_data _⟩
   have hs12 : r2.size ≤ r1.size := by
    have e1 : r1.data.toList.length = r1.size := rfl
    have e2 : r2.data.toList.length = r2.size := rfl
    rw [h2, List.length_drop] at e2
    omega
   have hz2 : (r2.data.toList.drop (blk r2.data.toList)) = r2.data.toList := by rw [h2, blk_idem, List.drop_zero]
   have HZ2 := hid hz2
   have HHL := hid (hHL.thn_skip h2)
   have hx2 : r2.size ≤ x0 := by omega
   cases hb : isC (clo f1.k) (r2.data.toList.headD 0) with
   | false =>
    have HE := hid (isEnding_rs hRS hk r2 h2 false hb)
    have HFIN : Hid ((r2.data.toList.drop (blk r2.data.toList)).headD 0 ≠ clo f1.k) := hid (by
     rw [hz2]
     intro e
     rw [isC_iff.2 e] at hb
     cases hb)
    clear hRS hHL HST hk h2 hs12 hb hz2 HFUL
    go_wp2_with fail
    refine HE.out.mono ?_
    rintro e W1 ⟨rfl, hR, hB⟩
    have HB1 := hid (HB.out.trans hB)
    have HR1 := hid hR
    clear hR hB HB HE
    go_wp2
    go_end0
    exact ⟨rfl, HB1.out, r2, f1, g1 :: T, ⟨_, _, _, _, _, _, _, HR1.out, HHL.out⟩, fun e => (by cases e), hx2, fun _ => .inl HFIN.out⟩
   | true =>
    have HE := hid (isEnding_rs hRS hk r2 h2 true hb)
    have hkl : f1.ks.length ≤ 1000000 := by have := hHL.2.2.1.2.1; omega
    have HTW := hid (fun b (h : twi f1.ks = b) v W (hv : Rd W v f1.ks) => hasTwice_any v f1.ks W hv hkl b h)
    have HHD : Hid ((r2.data.toList.drop (blk r2.data.toList)).headD 0 = clo f1.k) := hid (by rw [hz2]; exact isC_iff.1 hb)
    obtain ⟨⟨qa, qc, hqc⟩, qA, qC, hqd⟩ := hRS.shapes
    obtain ⟨va, vb, vc, vd⟩ := q
    have hva : va = .int .i64 f1.k := hRS.2.2.2.1.1.1
    have hvb : vb = .string ⟨#[]⟩ := hRS.2.2.2.1.1.2
    have hqc : vc = .slice qa f1.ks.length qc := hqc
    have hqd : vd = .slice qA f1.ds.length qC := hqd
    subst hva; subst hvb; subst hqc; subst hqd
    cases ht : twi f1.ks with
    | true =>
     have HT2 := hid (HTW.out true ht)
     have HFIN := hid ht
     have HRS0 := hid (fun W (hR : RS b0 g B m n cap W r2 lo ⟨.int .i64 f1.k, .string ⟨#[]⟩, .slice qa f1.ks.length qc, .slice qA f1.ds.length qC⟩ qs f1 (g1 :: T)) => innermost_q hR)
     clear hRS hHL HST hk h2 hs12 hb hz2 HFUL ht HTW hkl
     go_wp2_with fail
     refine HE.out.mono ?_
     rintro e W1 ⟨rfl, hR, hB⟩
     have HB1 := hid (HB.out.trans hB)
     have HR1 := hid hR
     have HI := hid (HRS0.out W1 hR)
     clear hR hB HB HE
     go_wp2_with fail
     refine HI.out.mono ?_
     rintro e W2 ⟨rfl, k2, hk2⟩
     have hb2 : Below W1.heap.size W1 W2 := by rw [hk2]; exact below_drewN _ _
     have HB2 := hid (HR1.out.bb HB1.out hb2)
     have HR2 := hid (HR1.out.go hb2)
     clear hk2 hb2 HI HB1 HR1
     obtain ⟨⟨t0, t1, t2, t3⟩, -, -⟩ := HR2.out.top
     have HT3 := hid (HT2.out _ W2 HR2.out.keys_rd)
     clear t0 t1 t3
     go_wp2_with fail
     refine HT3.out.mono ?_
     rintro e W3 ⟨rfl, hb3⟩
     have HB3 := hid (HR2.out.bb HB2.out hb3)
     have HR3 := hid (HR2.out.go hb3)
     clear hb3 HT3 HB2 HR2 t2
     go_wp2
     go_end0
     exact ⟨rfl, HB3.out, r2, f1, g1 :: T, ⟨_, _, _, _, _, _, _, HR3.out, HHL.out⟩, fun e => (by cases e), hx2, fun _ => .inr HFIN.out⟩
    | false =>
     have HT2 := hid (HTW.out false ht)
     have HRS0 := hid (fun W (hR : RS b0 g B m n cap W r2 lo ⟨.int .i64 f1.k, .string ⟨#[]⟩, .slice qa f1.ks.length qc, .slice qA f1.ds.length qC⟩ qs f1 (g1 :: T)) => innermost_q hR)
     have HTWF := hid ht
     clear hRS hHL HST hk h2 hb hz2 HFUL ht HTW hkl
     go_wp2_with fail
     refine HE.out.mono ?_
     rintro e W1 ⟨rfl, hR, hB⟩
     have HB1 := hid (HB.out.trans hB)
     have HR1 := hid hR
     have HI := hid (HRS0.out W1 hR)
     clear hR hB HB HE
     go_wp2_with fail
     refine HI.out.mono ?_
     rintro e W2 ⟨rfl, k2, hk2⟩
     have hb2 : Below W1.heap.size W1 W2 := by rw [hk2]; exact below_drewN _ _
     have HB2 := hid (HR1.out.bb HB1.out hb2)
     have HR2 := hid (HR1.out.go hb2)
     clear hk2 hb2 HI HB1 HR1
     obtain ⟨⟨t0, t1, t2, t3⟩, -, -⟩ := HR2.out.top
     have HT3 := hid (HT2.out _ W2 HR2.out.keys_rd)
     clear t0 t1 t3
     go_wp2_with fail
     refine HT3.out.mono ?_
     rintro e W3 ⟨rfl, hb3⟩
     have HB3 := hid (HR2.out.bb HB2.out hb3)
     have HR3 := hid (HR2.out.go hb3)
     clear hb3 HT3 HB2 HR2 t2
     go_upto_region 1 with fail
     -- POP
     have HSP : Hid (∀ W, Below W3.heap.size W3 W → W.cell? ⟨B, m * 4, none⟩ = some (.int .i64 f1.k) ∧ W.cell? ⟨B, m * 4 + 1, none⟩ = some (.string ⟨#[]⟩) ∧ W.cell? ⟨B, m * 4 + 2, none⟩ = some (.slice qa f1.ks.length qc) ∧ W.cell? ⟨B, m * 4 + 3, none⟩ = some (.slice qA f1.ds.length qC) ∧ W.cell? ⟨g, 1, none⟩ = some (.slice (some ⟨B, 0, none⟩) n cap)) := hid (fun W hb =>
      have hR := HR3.out.go hb
      ⟨hR.top.1.1, hR.top.1.2.1, hR.top.1.2.2.1, hR.top.1.2.2.2, hR.cells.1.2⟩)
     have HIA := hid (HRS0.out W3.drew (HR3.out.go (below_drew _)))
     have HIB := hid (HRS0.out (W3.drew.alloc (.cells #[.int .i64 0, .string ⟨#[]⟩, .slice none 0 0, .slice none 0 0] 25)) (HR3.out.go ((below_drew W3).alloc (Nat.le_refl _) _)))
     have HK1 := hid (fun k => below_drewN W3 k)
     have HK2 := hid (fun k => (below_drewN W3 k).alloc (Nat.le_refl _) (.cells #[.int .i64 0, .string ⟨#[]⟩, .slice none 0 0, .slice none 0 0] 25))
     have HK3 := hid (fun k => ((Below.refl W3.heap.size W3).alloc (Nat.le_refl _) (.cells #[.int .i64 0, .string ⟨#[]⟩, .slice none 0 0, .slice none 0 0] 25)).trans ((below_drewN (W3.alloc (.cells #[.int .i64 0, .string ⟨#[]⟩, .slice none 0 0, .slice none 0 0] 25)) k).mono (by simp)))
     have HK4 := hid (fun k => (((((HK2.out k).setCell (p := ⟨W3.heap.size, 0, none⟩) (Nat.le_refl _) (.int .i64 f1.k)).setCell (p := ⟨W3.heap.size, 1, none⟩) (Nat.le_refl _) (.string ⟨#[]⟩)).setCell (p := ⟨W3.heap.size, 2, none⟩) (Nat.le_refl _) (.slice qa f1.ks.length qc)).setCell (p := ⟨W3.heap.size, 3, none⟩) (Nat.le_refl _) (.slice qA f1.ds.length qC)))
     have HK5 := hid (fun k => (((((HK3.out k).setCell (p := ⟨W3.heap.size, 0, none⟩) (Nat.le_refl _) (.int .i64 f1.k)).setCell (p := ⟨W3.heap.size, 1, none⟩) (Nat.le_refl _) (.string ⟨#[]⟩)).setCell (p := ⟨W3.heap.size, 2, none⟩) (Nat.le_refl _) (.slice qa f1.ks.length qc)).setCell (p := ⟨W3.heap.size, 3, none⟩) (Nat.le_refl _) (.slice qA f1.ds.length qC)))
     have HR4 := hid (fun k => (show Row4 ((((((W3.drewN k).alloc (.cells #[.int .i64 0, .string ⟨#[]⟩, .slice none 0 0, .slice none 0 0] 25)).setCell ⟨W3.heap.size, 0, none⟩ (.int .i64 f1.k)).setCell ⟨W3.heap.size, 1, none⟩ (.string ⟨#[]⟩)).setCell ⟨W3.heap.size, 2, none⟩ (.slice qa f1.ks.length qc)).setCell ⟨W3.heap.size, 3, none⟩ (.slice qA f1.ds.length qC)) W3.heap.size 25 (.int .i64 f1.k) (.string ⟨#[]⟩) (.slice qa f1.ks.length qc) (.slice qA f1.ds.length qC) from (Lib.heap_setCell_same (i := 3) (Lib.heap_setCell_same (i := 2) (Lib.heap_setCell_same (i := 1) (Lib.heap_setCell_same (i := 0) (show Row4 _ _ 25 _ _ _ _ from Row4.make (W3.drewN k) 25 (.int .i64 0) (.string ⟨#[]⟩) (.slice none 0 0) (.slice none 0 0)) (.int .i64 f1.k)) (.string ⟨#[]⟩)) (.slice qa f1.ks.length qc)) (.slice qA f1.ds.length qC))))
     have HR5 := hid (fun k => (show Row4 ((((((W3.alloc (.cells #[.int .i64 0, .string ⟨#[]⟩, .slice none 0 0, .slice none 0 0] 25)).drewN k).setCell ⟨W3.heap.size, 0, none⟩ (.int .i64 f1.k)).setCell ⟨W3.heap.size, 1, none⟩ (.string ⟨#[]⟩)).setCell ⟨W3.heap.size, 2, none⟩ (.slice qa f1.ks.length qc)).setCell ⟨W3.heap.size, 3, none⟩ (.slice qA f1.ds.length qC)) W3.heap.size 25 (.int .i64 f1.k) (.string ⟨#[]⟩) (.slice qa f1.ks.length qc) (.slice qA f1.ds.length qC) from (Lib.heap_setCell_same (i := 3) (Lib.heap_setCell_same (i := 2) (Lib.heap_setCell_same (i := 1) (Lib.heap_setCell_same (i := 0) (show Row4 ((W3.alloc (.cells #[.int .i64 0, .string ⟨#[]⟩, .slice none 0 0, .slice none 0 0] 25)).drewN k) _ 25 _ _ _ _ from Row4.make W3 25 (.int .i64 0) (.string ⟨#[]⟩) (.slice none 0 0) (.slice none 0 0)) (.int .i64 f1.k)) (.string ⟨#[]⟩)) (.slice qa f1.ks.length qc)) (.slice qA f1.ds.length qC))))
     clear HRS0 HT2
     have HZA := fun k => fresh4 (W3.drewN k) W3.heap.size rfl 25 (.int .i64 0) (.string ⟨#[]⟩) (.slice none 0 0) (.slice none 0 0)
     have HZB := fun k => fresh4d W3 k W3.heap.size rfl 25 (.int .i64 0) (.string ⟨#[]⟩) (.slice none 0 0) (.slice none 0 0)
     have za0 := fun k => (HZA k).1.1
     have za1 := fun k => (HZA k).1.2.1
     have za2 := fun k => (HZA k).1.2.2.1
     have za3 := fun k => (HZA k).1.2.2.2
     have za4 := fun k => (HZA k).2.1
     have za5 := fun k => (HZA k).2.2.1
     have za6 := fun k => (HZA k).2.2.2.1
     have za7 := fun k => (HZA k).2.2.2.2
     have zb0 := fun k => (HZB k).1.1
     have zb1 := fun k => (HZB k).1.2.1
     have zb2 := fun k => (HZB k).1.2.2.1
     have zb3 := fun k => (HZB k).1.2.2.2
     have zb4 := fun k => (HZB k).2.1
     have zb5 := fun k => (HZB k).2.2.1
     have zb6 := fun k => (HZB k).2.2.2.1
     have zb7 := fun k => (HZB k).2.2.2.2
     clear HZA HZB
     go_region_held3 (fun W => W.cell? ⟨B, m * 4, none⟩ = some (.int .i64 f1.k) ∧ W.cell? ⟨B, m * 4 + 1, none⟩ = some (.string ⟨#[]⟩) ∧ W.cell? ⟨B, m * 4 + 2, none⟩ = some (.slice qa f1.ks.length qc) ∧ W.cell? ⟨B, m * 4 + 3, none⟩ = some (.slice qA f1.ds.length qC) ∧ W.cell? ⟨g, 1, none⟩ = some (.slice (some ⟨B, 0, none⟩) n cap)) (first | with_reducible assumption | with_reducible exact HSP.out _ (below_drew _) | with_reducible exact HSP.out _ (HK1.out _) | with_reducible exact HSP.out _ (HK2.out _) | with_reducible exact HSP.out _ (HK3.out _) | with_reducible exact HSP.out _ (HK4.out _) | with_reducible exact HSP.out _ (HK5.out _) | exact HSP.out _ (HK3.out 1)) (first | (go_at_call 162; refine HIA.out.mono ?_; rintro e w3 ⟨rfl, k3, rfl⟩) | (go_at_call 162; refine HIB.out.mono ?_; rintro e w3 ⟨rfl, k3, rfl⟩))
     ·have HB9 := hid (HK4.out (1 + k3))
      have HX9 := hid (HR4.out (1 + k3))
      generalize ((((((W3.drewN (1 + k3)).alloc (.cells #[.int .i64 0, .string ⟨#[]⟩, .slice none 0 0, .slice none 0 0] 25)).setCell ⟨W3.heap.size, 0, none⟩ (.int .i64 f1.k)).setCell ⟨W3.heap.size, 1, none⟩ (.string ⟨#[]⟩)).setCell ⟨W3.heap.size, 2, none⟩ (.slice qa f1.ks.length qc)).setCell ⟨W3.heap.size, 3, none⟩ (.slice qA f1.ds.length qC)) = W9 at *
      have HR9 := hid (HR3.out.go HB9.out)
      have HBW := hid (HR3.out.bb HB3.out HB9.out)
      have hng : W3.heap.size ≠ g := by have := HR3.out.lt.1; omega
      clear HB9 HB3 HSP HIA HIB HK1 HK2 HK3 HK4 HK5 HR4 HR5 za0 za1 za2 za3 za4 za5 za6 za7 zb0 zb1 zb2 zb3 zb4 zb5 zb6 zb7
      generalize W3.heap.size = gx at *
      clear HR3
      obtain ⟨r3, h3⟩ : ∃ r3 : ByteArray, r3.data.toList = r2.data.toList.drop 1 := ⟨ba (r2.data.toList.drop 1), ba_data _⟩
      have hpop := HHL.out.pop HHD.out HTWF.out (l2 := r3.data.toList) (by rw [← List.drop_drop, HZ2.out, h3])
      have hlt3 : r3.size + 1 ≤ r2.size := hpop.2
      have HH3 := hid hpop.1
      have hx3 : r2.extract 1 r2.size = r3 := ext_rest h3
      have hp1 : (1 : Int) ≤ (r2.size : Int) := by omega
      have hgl : g1.ds.length ≤ 1000000 := by have := (HHL.out.2.2.2 g1 List.mem_cons_self).1; omega
      have hL9 := HR9.out.nums
      have hT9 : qs ≠ [] := fun e => by have := hL9.2.1; have := hL9.2.2.2.2; rw [e] at *; simp at *; omega
      obtain ⟨q1, qs1, rfl⟩ : ∃ q1 qs1, qs = q1 :: qs1 := List.exists_cons_of_ne_nil hT9
      obtain ⟨m1, lo1, hm1, hR10, hN10⟩ := (HR9.out.text r3).pop
      have wn : IntKind.i64.wrap ((n : Int) - 1) = (m : Int) := by
       obtain ⟨a1, a2, a3, a4, a5⟩ := hL9
       unfold maxLen at a4
       rw [IntWalk.i64_in _ (by omega)]; omega
      have mz : (0 : Int) ≤ (m : Int) := by omega
      have mc : (m : Int) ≤ (cap : Int) := by have := hL9.1; have := hL9.2.2.1; omega
      obtain ⟨⟨c0, c1⟩, f0, f1'⟩ := HR9.out.cells
      have HR10 := hid hR10
      have HN10 := hid hN10
      have HB10 := hid (HBW.out.setCell (p := ⟨g, 0, none⟩) HR9.out.below_g (.string r3) |>.setCell (p := ⟨g, 1, none⟩) HR9.out.below_g (.slice (some ⟨B, 0, none⟩) m cap))
      have HM1 := hid hm1
      clear h3 hpop hL9 hT9 hR10 hN10 hm1 HBW HHL HHD HTWF HZ2
      go_upto_region 4 with fail
      have HX10 : Hid (Row4 ((W9.setCell ⟨g, 0, none⟩ (.string r3)).setCell ⟨g, 1, none⟩ (.slice (some ⟨B, 0, none⟩) m cap)) gx 25 (.int .i64 f1.k) (.string ⟨#[]⟩) (.slice qa f1.ks.length qc) (.slice qA f1.ds.length qC)) := hid (by
       unfold Row4
       rw [Below.heap_setCell _ _ _ _ hng, Below.heap_setCell _ _ _ _ hng]
       exact HX9.out)
      have hsz : (W9.setCell ⟨g, 0, none⟩ (.string r3)).heap.size = ((W9.setCell ⟨g, 0, none⟩ (.string r3)).setCell ⟨g, 1, none⟩ (.slice (some ⟨B, 0, none⟩) m cap)).heap.size := by simp [World.setCell]
      have hN := HN10.out
      rw [hsz] at hN
      have HA := hid (add_rs HR10.out f1.nd f1.k ⟨#[]⟩ qa f1.ks.length qc qA f1.ds.length qC hN hgl)
      clear hN hsz HN10 HR10 HX9 c0 c1 f0 f1'
      generalize (W9.setCell ⟨g, 0, none⟩ (.string r3)).setCell ⟨g, 1, none⟩ (.slice (some ⟨B, 0, none⟩) m cap) = W10 at *
      obtain ⟨y0, y1, y2, y3⟩ := HX10.out.cells
      clear HX10
      go_wp2_with fail
      refine HA.out.mono ?_
      rintro e W11 ⟨rfl, ⟨q2, hR⟩, hB⟩
      have HST := hid (show ST thn b0 g N (N + 1) P W11 r3 (g1.add f1.nd) T from ⟨_, _, _, _, _, _, _, hR, HH3.out⟩)
      have HB11 := hid (HB10.out.trans hB)
      clear hR hB HA HB10 HH3 y0 y1 y2 y3
      go_wp2
      go_roundg r3.size
      case measure => omega
      case rel => exact ⟨r3, g1.add f1.nd, T, HST, hid (fun _ => add_ne _ _), Nat.le_refl _, by omega, HB11⟩
     ·have HB9 := hid (HK5.out (1 + k3))
      have HX9 := hid (HR5.out (1 + k3))
      generalize ((((((W3.alloc (.cells #[.int .i64 0, .string ⟨#[]⟩, .slice none 0 0, .slice none 0 0] 25)).drewN (1 + k3)).setCell ⟨W3.heap.size, 0, none⟩ (.int .i64 f1.k)).setCell ⟨W3.heap.size, 1, none⟩ (.string ⟨#[]⟩)).setCell ⟨W3.heap.size, 2, none⟩ (.slice qa f1.ks.length qc)).setCell ⟨W3.heap.size, 3, none⟩ (.slice qA f1.ds.length qC)) = W9 at *
      have HR9 := hid (HR3.out.go HB9.out)
      have HBW := hid (HR3.out.bb HB3.out HB9.out)
      have hng : W3.heap.size ≠ g := by have := HR3.out.lt.1; omega
      clear HB9 HB3 HSP HIA HIB HK1 HK2 HK3 HK4 HK5 HR4 HR5 za0 za1 za2 za3 za4 za5 za6 za7 zb0 zb1 zb2 zb3 zb4 zb5 zb6 zb7
      generalize W3.heap.size = gx at *
      clear HR3
      obtain ⟨r3, h3⟩ : ∃ r3 : ByteArray, r3.data.toList = r2.data.toList.drop 1 := ⟨ba (r2.data.toList.drop 1), ba_data _⟩
      have hpop := HHL.out.pop HHD.out HTWF.out (l2 := r3.data.toList) (by rw [← List.drop_drop, HZ2.out, h3])
      have hlt3 : r3.size + 1 ≤ r2.size := hpop.2
      have HH3 := hid hpop.1
      have hx3 : r2.extract 1 r2.size = r3 := ext_rest h3
      have hp1 : (1 : Int) ≤ (r2.size : Int) := by omega
      have hgl : g1.ds.length ≤ 1000000 := by have := (HHL.out.2.2.2 g1 List.mem_cons_self).1; omega
      have hL9 := HR9.out.nums
      have hT9 : qs ≠ [] := fun e => by have := hL9.2.1; have := hL9.2.2.2.2; rw [e] at *; simp at *; omega
      obtain ⟨q1, qs1, rfl⟩ : ∃ q1 qs1, qs = q1 :: qs1 := List.exists_cons_of_ne_nil hT9
      obtain ⟨m1, lo1, hm1, hR10, hN10⟩ := (HR9.out.text r3).pop
      have wn : IntKind.i64.wrap ((n : Int) - 1) = (m : Int) := by
       obtain ⟨a1, a2, a3, a4, a5⟩ := hL9
       unfold maxLen at a4
       rw [IntWalk.i64_in _ (by omega)]; omega
      have mz : (0 : Int) ≤ (m : Int) := by omega
      have mc : (m : Int) ≤ (cap : Int) := by have := hL9.1; have := hL9.2.2.1; omega
      obtain ⟨⟨c0, c1⟩, f0, f1'⟩ := HR9.out.cells
      have HR10 := hid hR10
      have HN10 := hid hN10
      have HB10 := hid (HBW.out.setCell (p := ⟨g, 0, none⟩) HR9.out.below_g (.string r3) |>.setCell (p := ⟨g, 1, none⟩) HR9.out.below_g (.slice (some ⟨B, 0, none⟩) m cap))
      have HM1 := hid hm1
      clear h3 hpop hL9 hT9 hR10 hN10 hm1 HBW HHL HHD HTWF HZ2
      go_upto_region 4 with fail
      have HX10 : Hid (Row4 ((W9.setCell ⟨g, 0, none⟩ (.string r3)).setCell ⟨g, 1, none⟩ (.slice (some ⟨B, 0, none⟩) m cap)) gx 25 (.int .i64 f1.k) (.string ⟨#[]⟩) (.slice qa f1.ks.length qc) (.slice qA f1.ds.length qC)) := hid (by
       unfold Row4
       rw [Below.heap_setCell _ _ _ _ hng, Below.heap_setCell _ _ _ _ hng]
       exact HX9.out)
      have hsz : (W9.setCell ⟨g, 0, none⟩ (.string r3)).heap.size = ((W9.setCell ⟨g, 0, none⟩ (.string r3)).setCell ⟨g, 1, none⟩ (.slice (some ⟨B, 0, none⟩) m cap)).heap.size := by simp [World.setCell]
      have hN := HN10.out
      rw [hsz] at hN
      have HA := hid (add_rs HR10.out f1.nd f1.k ⟨#[]⟩ qa f1.ks.length qc qA f1.ds.length qC hN hgl)
      clear hN hsz HN10 HR10 HX9 c0 c1 f0 f1'
      generalize (W9.setCell ⟨g, 0, none⟩ (.string r3)).setCell ⟨g, 1, none⟩ (.slice (some ⟨B, 0, none⟩) m cap) = W10 at *
      obtain ⟨y0, y1, y2, y3⟩ := HX10.out.cells
      clear HX10
      go_wp2_with fail
      refine HA.out.mono ?_
      rintro e W11 ⟨rfl, ⟨q2, hR⟩, hB⟩
      have HST := hid (show ST thn b0 g N (N + 1) P W11 r3 (g1.add f1.nd) T from ⟨_, _, _, _, _, _, _, hR, HH3.out⟩)
      have HB11 := hid (HB10.out.trans hB)
      clear hR hB HA HB10 HH3 y0 y1 y2 y3
      go_wp2
      go_roundg r3.size
      case measure => omega
      case rel => exact ⟨r3, g1.add f1.nd, T, HST, hid (fun _ => add_ne _ _), Nat.le_refl _, by omega, HB11⟩
     -- END
end
end
end Go.Proofs.YtmdgpejedbkkdaaGreatDoor
