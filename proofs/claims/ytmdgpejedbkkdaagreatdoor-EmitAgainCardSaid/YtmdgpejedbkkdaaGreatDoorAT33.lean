/- FloRd8 -/
import Derived.Test.YtmdgpejedbkkdaaGreatDoorAT32
set_option linter.unusedVariables false
set_option linter.unusedSimpArgs false
set_option maxRecDepth 100000
set_option maxHeartbeats 16000000
open Go.Lib (hid)
namespace Go.Proofs.YtmdgpejedbkkdaaGreatDoor
section
open Go.RowKit Go.Sort
open Nw N8 Q6 F9 Go.ChangeShapes Go.WideShapes
section
variable {b0 g B m n cap lo : Nat} {w : World} {r : ByteArray} {q : Q4} {qs : List Q4} {f : Fr} {S : List Fr}
def Oth (g : Nat) (w w' : World) : Prop := w'.heap.size = w.heap.size ∧ ∀ b, b ≠ g → w'.heap[b]? = w.heap[b]?
theorem oth_set (g : Nat) (w : World) (u : Value) : Oth g w (w.setCell ⟨g, 0, none⟩ u) := ⟨by simp [World.setCell], fun b hb => Below.heap_setCell _ _ _ b hb⟩
theorem Oth.trans {g : Nat} {a b c : World} (h : Oth g a b) (k : Oth g b c) : Oth g a c := ⟨k.1.trans h.1, fun i hi => (k.2 i hi).trans (h.2 i hi)⟩
theorem skip_oth (h : RS b0 g B m n cap w r lo q qs f S) (r' : ByteArray) (hr : r'.data.toList = r.data.toList.drop (blk r.data.toList)) :
  Calls Tryz.prog 167 #[.pointer (some ⟨g, 0, none⟩)] w fun e w' => e = .returned (.tuple #[]) ∧ RS b0 g B m n cap w' r' lo q qs f S ∧ Below b0 w w' ∧ Oth g w w' := by
 have hT : ∀ W, Calls Tryz.prog 67 #[.string r, .string ⟨#[32]⟩] W fun e w' => e = .returned (.string r') ∧ w' = W := fun W => by
  refine (Tryz.strings_TrimLeft_one r 32 (by decide) W).mono ?_
  rintro e w' ⟨rfl, rfl⟩
  refine ⟨?_, rfl⟩
  rw [trimL_blk, ← hr]
 have HT := hid hT
 have HF := hid (h.text r')
 have HB := hid (below_text (Below.refl b0 w) h.below_g r')
 have HO := hid (oth_set g w (.string r'))
 obtain ⟨⟨c0, c1⟩, f0, f1⟩ := h.cells
 clear h hT hr
 go_enter Tryz.func167, Tryz.ntmps167
 go_wp2_with (go_at_call 67; refine (HT.out _).mono ?_; rintro e w' ⟨rfl, rfl⟩)
 go_end0
 exact ⟨rfl, HF.out, HB.out, HO.out⟩
theorem isNext_oth (h : RS b0 g B m n cap w r lo q qs f S) (c : UInt8) (hc : c ≠ 0) (r' : ByteArray) (hr : r'.data.toList = r.data.toList.drop (blk r.data.toList)) (b : Bool) (hb : isC c (r'.data.toList.headD 0) = b) :
  Calls Tryz.prog 164 #[.pointer (some ⟨g, 0, none⟩), .string ⟨#[c]⟩] w fun e w' => e = .returned (.bool b) ∧ RS b0 g B m n cap w' r' lo q qs f S ∧ Below b0 w w' ∧ Oth g w w' := by
 have HS := hid (skip_oth h r' hr)
 have HP := hid (fun W => (Tryz.strings_HasPrefix r' ⟨#[c]⟩ W).mono (R' := fun e w' => e = .returned (.bool b) ∧ w' = W) fun e w' ⟨h1, h2⟩ => ⟨by rw [h1]; exact ret_b ((pre_one c hc _).trans hb), h2⟩)
 clear h hr hb
 go_enter Tryz.func164, Tryz.ntmps164
 go_wp2_with fail
 refine HS.out.mono ?_
 rintro e w1 ⟨rfl, hR, hB⟩
 obtain ⟨⟨c0, c1⟩, f0, f1⟩ := hR.cells
 have HR := hid hR
 have HB := hid hB
 clear hR hB
 go_wp2_with (go_at_call 101; refine (HP.out _).mono ?_; rintro e w' ⟨rfl, rfl⟩)
 go_ret
 exact ⟨rfl, HR.out, HB.out⟩
theorem take_oth (h : RS b0 g B m n cap w r lo q qs f S) (c : UInt8) (hc : c ≠ 0) (hs : r.size ≤ 1000000) (hb : isC c ((r.data.toList.drop (blk r.data.toList)).headD 0) = true) (r2 : ByteArray) (hr : r2.data.toList = r.data.toList.drop (blk r.data.toList + 1)) :
  Calls Tryz.prog 155 #[.pointer (some ⟨g, 0, none⟩), .string ⟨#[c]⟩] w fun e w' => e = .returned (.bool true) ∧ RS b0 g B m n cap w' r2 lo q qs f S ∧ Below b0 w w' ∧ Oth g w w' := by
 obtain ⟨r', hr'⟩ : ∃ r' : ByteArray, r'.data.toList = r.data.toList.drop (blk r.data.toList) := ⟨ba (r.data.toList.drop (blk r.data.toList)), ba_data _⟩
 rw [← hr'] at hb
 have HS := hid (isNext_oth h c hc r' hr' true hb)
 have hne : r'.data.toList ≠ [] := fun e => by rw [e] at hb; exact hc (isC_iff.1 hb).symm
 have hp : 1 ≤ r'.size := List.length_pos_iff.2 hne
 have hp1 : (1 : Int) ≤ (r'.size : Int) := by omega
 have hx : r'.extract 1 r'.size = r2 := bytes_ext (by
  rw [rest_data, hr, hr', List.drop_drop])
 clear h hr hr' hb hne
 go_enter Tryz.func155, Tryz.ntmps155
 go_wp2_with fail
 refine HS.out.mono ?_
 rintro e w1 ⟨rfl, hR, hB, hO⟩
 obtain ⟨⟨c0, c1⟩, f0, f1⟩ := hR.cells
 have HR := hid (hR.text r2)
 have HB := hid (below_text hB hR.below_g r2)
 have HO := hid (hO.trans (oth_set g w1 (.string r2)))
 clear hR hB hO
 go_wp2
 go_ret
 exact ⟨rfl, HR.out, HB.out, HO.out⟩
theorem RS.key_below {w0 w1 w2 : World} (h : RS b0 g B m n cap w r lo q qs f S) (hB : Below b0 w0 w) (hb : Below w.heap.size w w1) (hg : w1.grownBy w2 q.c.ownBlock) (v : Value) (j : Nat) :
  Below b0 w0 (w2.setCell ⟨B, j, none⟩ v) := by
 have hlt := h.lt
 have h0 := h.below_g
 have hs := hb.size
 have h2 : Below b0 w0 w2 := (hB.trans (hb.mono (by omega))).grown hg (by omega) fun k e => by have := (h.2.2.2.1.2.1.lt k e).1; omega
 exact h2.setCell (p := ⟨B, j, none⟩) (by show b0 ≤ B; omega) v
theorem readKey_not (h : RS b0 g B m n cap w r lo q qs f S) (hk : f.k ≠ 3) :
  Calls Tryz.prog 149 #[.pointer (some ⟨g, 0, none⟩)] w fun e w' => e = .returned (.bool true) ∧ Below w.heap.size w w' := by
 have HI := hid (innermost_rs h)
 have HH := hid h
 have hk2 : (f.k != 3) = true := bne_iff_ne.2 hk
 clear h
 go_enter Tryz.func149, Tryz.ntmps149
 go_wp2_with fail
 refine HI.out.mono ?_
 rintro e w1 ⟨rfl, hb⟩
 obtain ⟨⟨t0, t1, t2, t3⟩, -, -⟩ := (HH.out.go hb).top
 have HB := hid hb
 clear hb HH HI
 go_wp2
 go_ret
 exact ⟨rfl, HB.out⟩
theorem readKey_none (h : RS b0 g B m n cap w r lo q qs f S) (hk : f.k = 3) (hs : r.size ≤ 1000000) (l : L8) (hl : r.data.toList.drop (blk r.data.toList) = l) (P : Option Nd) (hP : sclS true (frm l) = P) (hN : P = none) :
  Calls Tryz.prog 149 #[.pointer (some ⟨g, 0, none⟩)] w fun e w' => e = .returned (.bool false) ∧ Below b0 w w' := by
 obtain ⟨fm, hf⟩ : ∃ fm : ByteArray, fm.data.toList = frm l := ⟨ba (frm l), ba_data _⟩
 have e5 : l.length ≤ r.data.toList.length := by rw [← hl, List.length_drop]; omega
 have hfs : fm.size ≤ 1000000 := by
  have e1 : fm.data.toList.length = fm.size := rfl
  have e2 : r.data.toList.length = r.size := rfl
  have e3 := trm_le (l.take (tkn l))
  rw [hf] at e1
  have e4 : (frm l).length ≤ l.length := by unfold frm; rw [List.length_take] at e3; omega
  omega
 obtain ⟨r1, h1⟩ : ∃ r1 : ByteArray, r1.data.toList = l.drop (tkn l) := ⟨ba (l.drop (tkn l)), ba_data _⟩
 have hs1 : r1.size ≤ 1000000 := by
  have e1 : r1.data.toList.length = r1.size := rfl
  have e2 : r.data.toList.length = r.size := rfl
  rw [h1, List.length_drop] at e1
  omega
 have HTS := hid (fun W (hW : RS b0 g B m n cap W r lo q qs f S) => takeScalar_rs hW hs l hl fm r1 hf h1)
 have HSC := hid (fun W => FScalar_any fm true W hfs P (by rw [hf]; exact hP))
 have HI := hid (innermost_rs h)
 have HH := hid h
 have HK := hid hk
 have HBB := hid (show Below b0 w w from Below.refl _ _)
 have HE : Hid (scE P = 3) := hid (by rw [hN]; rfl)
 clear h hk hs hl hP hN hf hfs h1 hs1 e5
 go_enter Tryz.func149, Tryz.ntmps149
 go_wp2_with fail
 refine HI.out.mono ?_
 rintro e W0 ⟨rfl, hb⟩
 have HR0 := hid (HH.out.go hb)
 have HB0 := hid (HH.out.bb HBB.out hb)
 have HT := hid (HTS.out _ HR0.out)
 clear hb HH HBB HI HTS
 obtain ⟨⟨t0, t1, t2, t3⟩, -, -⟩ := HR0.out.top
 rw [HK.out] at t0
 clear t1 t2 t3
 go_wp2_with fail
 refine HT.out.mono ?_
 rintro e W1 ⟨rfl, hR, hB⟩
 have HB1 := hid (HB0.out.trans hB)
 have HR1 := hid hR
 clear hR hB HT HB0 HR0 t0
 go_wp2_with fail
 refine (HSC.out _).mono ?_
 rintro e W2 ⟨rfl, hb⟩
 rw [HE.out]
 have hb2 : Below W1.heap.size W1 (W2.alloc (.cells #[.int .i64 (scK P), .string (scT P), .slice none 0 0, .slice none 0 0] 25)) := hb.trans ((Below.refl _ _).alloc hb.size _)
 have HB := hid (HR1.out.bb HB1.out hb2)
 have HR := hid (HR1.out.go hb2)
 have HX := hid (Row4.make W2 25 (.int .i64 (scK P)) (.string (scT P)) (.slice none 0 0) (.slice none 0 0))
 clear hb hb2 HB1 HR1 HSC
 go_wp2
 go_ret
 exact ⟨rfl, HB.out⟩
theorem readKey_null (h : RS b0 g B m n cap w r lo q qs f S) (hk : f.k = 3) (hs : r.size ≤ 1000000) (l : L8) (hl : r.data.toList.drop (blk r.data.toList) = l) (P : Option Nd) (hP : sclS true (frm l) = P) (hN : P = some nul) :
  Calls Tryz.prog 149 #[.pointer (some ⟨g, 0, none⟩)] w fun e w' => e = .returned (.bool false) ∧ Below b0 w w' := by
 obtain ⟨fm, hf⟩ : ∃ fm : ByteArray, fm.data.toList = frm l := ⟨ba (frm l), ba_data _⟩
 have e5 : l.length ≤ r.data.toList.length := by rw [← hl, List.length_drop]; omega
 have hfs : fm.size ≤ 1000000 := by
  have e1 : fm.data.toList.length = fm.size := rfl
  have e2 : r.data.toList.length = r.size := rfl
  have e3 := trm_le (l.take (tkn l))
  rw [hf] at e1
  have e4 : (frm l).length ≤ l.length := by unfold frm; rw [List.length_take] at e3; omega
  omega
 obtain ⟨r1, h1⟩ : ∃ r1 : ByteArray, r1.data.toList = l.drop (tkn l) := ⟨ba (l.drop (tkn l)), ba_data _⟩
 have hs1 : r1.size ≤ 1000000 := by
  have e1 : r1.data.toList.length = r1.size := rfl
  have e2 : r.data.toList.length = r.size := rfl
  rw [h1, List.length_drop] at e1
  omega
 have HTS := hid (fun W (hW : RS b0 g B m n cap W r lo q qs f S) => takeScalar_rs hW hs l hl fm r1 hf h1)
 have HSC := hid (fun W => FScalar_any fm true W hfs P (by rw [hf]; exact hP))
 have HI := hid (innermost_rs h)
 have HH := hid h
 have HK := hid hk
 have HBB := hid (show Below b0 w w from Below.refl _ _)
 have HE : Hid (scE P = 0) := hid (by rw [hN]; rfl)
 have HKP : Hid (scK P = 0) := hid (by rw [hN]; rfl)
 clear h hk hs hl hP hN hf hfs h1 hs1 e5
 go_enter Tryz.func149, Tryz.ntmps149
 go_wp2_with fail
 refine HI.out.mono ?_
 rintro e W0 ⟨rfl, hb⟩
 have HR0 := hid (HH.out.go hb)
 have HB0 := hid (HH.out.bb HBB.out hb)
 have HT := hid (HTS.out _ HR0.out)
 clear hb HH HBB HI HTS
 obtain ⟨⟨t0, t1, t2, t3⟩, -, -⟩ := HR0.out.top
 rw [HK.out] at t0
 clear t1 t2 t3
 go_wp2_with fail
 refine HT.out.mono ?_
 rintro e W1 ⟨rfl, hR, hB⟩
 have HB1 := hid (HB0.out.trans hB)
 have HR1 := hid hR
 clear hR hB HT HB0 HR0 t0
 go_wp2_with fail
 refine (HSC.out _).mono ?_
 rintro e W2 ⟨rfl, hb⟩
 rw [HE.out]
 have hb2 : Below W1.heap.size W1 (W2.alloc (.cells #[.int .i64 (scK P), .string (scT P), .slice none 0 0, .slice none 0 0] 25)) := hb.trans ((Below.refl _ _).alloc hb.size _)
 have HB := hid (HR1.out.bb HB1.out hb2)
 have HR := hid (HR1.out.go hb2)
 have HX := hid (Row4.make W2 25 (.int .i64 (scK P)) (.string (scT P)) (.slice none 0 0) (.slice none 0 0))
 clear hb hb2 HB1 HR1 HSC
 go_upto_region 5 with fail
 generalize W2.alloc (.cells #[.int .i64 (scK P), .string (scT P), .slice none 0 0, .slice none 0 0] 25) = W3 at *
 generalize W2.heap.size = gx at *
 obtain ⟨x0, x1, x2, x3⟩ := HX.out.cells
 rw [HKP.out] at x0
 go_wp2
 go_ret
 exact ⟨rfl, HB.out⟩
theorem readKey_colon (h : RS b0 g B m n cap w r lo q qs f S) (hk : f.k = 3) (hs : r.size ≤ 1000000) (l : L8) (hl : r.data.toList.drop (blk r.data.toList) = l) (P : Option Nd) (hP : sclS true (frm l) = P) (x : L8) (hN : P = some (txt x)) (hc : isC 58 (((l.drop (tkn l)).drop (blk (l.drop (tkn l)))).headD 0) = false) :
  Calls Tryz.prog 149 #[.pointer (some ⟨g, 0, none⟩)] w fun e w' => e = .returned (.bool false) ∧ Below b0 w w' := by
 obtain ⟨fm, hf⟩ : ∃ fm : ByteArray, fm.data.toList = frm l := ⟨ba (frm l), ba_data _⟩
 have e5 : l.length ≤ r.data.toList.length := by rw [← hl, List.length_drop]; omega
 have hfs : fm.size ≤ 1000000 := by
  have e1 : fm.data.toList.length = fm.size := rfl
  have e2 : r.data.toList.length = r.size := rfl
  have e3 := trm_le (l.take (tkn l))
  rw [hf] at e1
  have e4 : (frm l).length ≤ l.length := by unfold frm; rw [List.length_take] at e3; omega
  omega
 obtain ⟨r1, h1⟩ : ∃ r1 : ByteArray, r1.data.toList = l.drop (tkn l) := ⟨ba (l.drop (tkn l)), ba_data _⟩
 have hs1 : r1.size ≤ 1000000 := by
  have e1 : r1.data.toList.length = r1.size := rfl
  have e2 : r.data.toList.length = r.size := rfl
  rw [h1, List.length_drop] at e1
  omega
 have HTS := hid (fun W (hW : RS b0 g B m n cap W r lo q qs f S) => takeScalar_rs hW hs l hl fm r1 hf h1)
 have HSC := hid (fun W => FScalar_any fm true W hfs P (by rw [hf]; exact hP))
 have HI := hid (innermost_rs h)
 have HH := hid h
 have HK := hid hk
 have HBB := hid (show Below b0 w w from Below.refl _ _)
 have HE : Hid (scE P = 0) := hid (by rw [hN]; rfl)
 have HKP : Hid (scK P = 1) := hid (by rw [hN]; rfl)
 obtain ⟨r2, h2⟩ : ∃ r2 : ByteArray, r2.data.toList = r1.data.toList.drop (blk r1.data.toList) := ⟨ba (r1.data.toList.drop (blk r1.data.toList)), ba_data _⟩
 have HTK := hid (fun W (hW : RS b0 g B m n cap W r1 lo q qs f S) => take_rs hW 58 (by decide) hs1 false (by rw [h1]; exact hc) r2 (by rw [if_neg Bool.false_ne_true]; exact h2))
 clear h hk hs hl hP hN hf hfs h1 hs1 e5 hc h2
 go_enter Tryz.func149, Tryz.ntmps149
 go_wp2_with fail
 refine HI.out.mono ?_
 rintro e W0 ⟨rfl, hb⟩
 have HR0 := hid (HH.out.go hb)
 have HB0 := hid (HH.out.bb HBB.out hb)
 have HT := hid (HTS.out _ HR0.out)
 clear hb HH HBB HI HTS
 obtain ⟨⟨t0, t1, t2, t3⟩, -, -⟩ := HR0.out.top
 rw [HK.out] at t0
 clear t1 t2 t3
 go_wp2_with fail
 refine HT.out.mono ?_
 rintro e W1 ⟨rfl, hR, hB⟩
 have HB1 := hid (HB0.out.trans hB)
 have HR1 := hid hR
 clear hR hB HT HB0 HR0 t0
 go_wp2_with fail
 refine (HSC.out _).mono ?_
 rintro e W2 ⟨rfl, hb⟩
 rw [HE.out]
 have hb2 : Below W1.heap.size W1 (W2.alloc (.cells #[.int .i64 (scK P), .string (scT P), .slice none 0 0, .slice none 0 0] 25)) := hb.trans ((Below.refl _ _).alloc hb.size _)
 have HB := hid (HR1.out.bb HB1.out hb2)
 have HR := hid (HR1.out.go hb2)
 have HX := hid (Row4.make W2 25 (.int .i64 (scK P)) (.string (scT P)) (.slice none 0 0) (.slice none 0 0))
 clear hb hb2 HB1 HR1 HSC
 go_upto_region 5 with fail
 generalize W2.alloc (.cells #[.int .i64 (scK P), .string (scT P), .slice none 0 0, .slice none 0 0] 25) = W3 at *
 generalize W2.heap.size = gx at *
 obtain ⟨x0, x1, x2, x3⟩ := HX.out.cells
 rw [HKP.out] at x0
 have HT := hid (HTK.out _ HR.out)
 go_wp2_with fail
 refine HT.out.mono ?_
 rintro e W4 ⟨rfl, hR, hB⟩
 have HB2 := hid (HB.out.trans hB)
 clear hR hB x0 x1 x2 x3
 go_wp2
 go_ret
 exact ⟨rfl, HB2.out⟩
theorem readKey_yes (h : RS b0 g B m n cap w r lo q qs f S) (hk : f.k = 3) (hs : r.size ≤ 1000000) (l : L8) (hl : r.data.toList.drop (blk r.data.toList) = l) (P : Option Nd) (hP : sclS true (frm l) = P) (x : L8) (hN : P = some (txt x)) (hc : isC 58 (((l.drop (tkn l)).drop (blk (l.drop (tkn l)))).headD 0) = true) (hlen : f.ks.length ≤ 1000000) (r2 : ByteArray) (h2 : r2.data.toList = (l.drop (tkn l)).drop (blk (l.drop (tkn l)) + 1)) :
  Calls Tryz.prog 149 #[.pointer (some ⟨g, 0, none⟩)] w fun e w' => e = .returned (.bool true) ∧ (∃ q', RS b0 g B m n cap w' r2 lo q' qs (f.key x) S) ∧ Below b0 w w' := by
 obtain ⟨fm, hf⟩ : ∃ fm : ByteArray, fm.data.toList = frm l := ⟨ba (frm l), ba_data _⟩
 have e5 : l.length ≤ r.data.toList.length := by rw [← hl, List.length_drop]; omega
 have hfs : fm.size ≤ 1000000 := by
  have e1 : fm.data.toList.length = fm.size := rfl
  have e2 : r.data.toList.length = r.size := rfl
  have e3 := trm_le (l.take (tkn l))
  rw [hf] at e1
  have e4 : (frm l).length ≤ l.length := by unfold frm; rw [List.length_take] at e3; omega
  omega
 obtain ⟨r1, h1⟩ : ∃ r1 : ByteArray, r1.data.toList = l.drop (tkn l) := ⟨ba (l.drop (tkn l)), ba_data _⟩
 have hs1 : r1.size ≤ 1000000 := by
  have e1 : r1.data.toList.length = r1.size := rfl
  have e2 : r.data.toList.length = r.size := rfl
  rw [h1, List.length_drop] at e1
  omega
 have HTS := hid (fun W (hW : RS b0 g B m n cap W r lo q qs f S) => takeScalar_rs hW hs l hl fm r1 hf h1)
 have HSC := hid (fun W => FScalar_any fm true W hfs P (by rw [hf]; exact hP))
 have HI := hid (innermost_rs h)
 have HH := hid h
 have HK := hid hk
 have HBB := hid (show Below b0 w w from Below.refl _ _)
 have HE : Hid (scE P = 0) := hid (by rw [hN]; rfl)
 have HKP : Hid (scK P = 1) := hid (by rw [hN]; rfl)
 obtain ⟨X, hX⟩ : ∃ X, scT P = X := ⟨_, rfl⟩
 have hXd : ba x = X := by rw [← hX, hN]; rfl
 have HXD := hid hXd
 have HTK := hid (fun W (hW : RS b0 g B m n cap W r1 lo q qs f S) => take_oth hW 58 (by decide) hs1 (by rw [h1]; exact hc) r2 (by rw [h1]; exact h2))
 rw [hX] at HSC
 obtain ⟨i0, hi, hz0, hz1, hz2⟩ := infoS
 clear h hk hs hl hP hN hf hfs h1 hs1 e5 hc h2 hX hXd
 go_enter Tryz.func149, Tryz.ntmps149
 go_wp2_with fail
 refine HI.out.mono ?_
 rintro e W0 ⟨rfl, hb⟩
 have HR0 := hid (HH.out.go hb)
 have HB0 := hid (HH.out.bb HBB.out hb)
 have HT := hid (HTS.out _ HR0.out)
 clear hb HH HBB HI HTS
 obtain ⟨⟨t0, t1, t2, t3⟩, -, -⟩ := HR0.out.top
 rw [HK.out] at t0
 clear t1 t2 t3
 go_wp2_with fail
 refine HT.out.mono ?_
 rintro e W1 ⟨rfl, hR, hB⟩
 have HB1 := hid (HB0.out.trans hB)
 have HR1 := hid hR
 clear hR hB HT HB0 HR0 t0
 go_wp2_with fail
 refine (HSC.out _).mono ?_
 rintro e W2 ⟨rfl, hb⟩
 rw [HE.out]
 have hb2 : Below W1.heap.size W1 (W2.alloc (.cells #[.int .i64 (scK P), .string X, .slice none 0 0, .slice none 0 0] 25)) := hb.trans ((Below.refl _ _).alloc hb.size _)
 have HB := hid (HR1.out.bb HB1.out hb2)
 have HR := hid (HR1.out.go hb2)
 have HX := hid (Row4.make W2 25 (.int .i64 (scK P)) (.string X) (.slice none 0 0) (.slice none 0 0))
 clear hb hb2 HB1 HR1 HSC
 go_upto_region 5 with fail
 generalize W2.alloc (.cells #[.int .i64 (scK P), .string X, .slice none 0 0, .slice none 0 0] 25) = W3 at *
 generalize W2.heap.size = gx at *
 obtain ⟨x0, x1, x2, x3⟩ := HX.out.cells
 rw [HKP.out] at x0
 have HT := hid (HTK.out _ HR.out)
 go_wp2_with fail
 refine HT.out.mono ?_
 rintro e W4 ⟨rfl, hR, hB, hO⟩
 have hbd := below_drew W4
 have HB2 := hid (hR.bb (HB.out.trans hB) hbd)
 have HR2 := hid (hR.go hbd)
 have hgx : gx ≠ g := by
  rintro rfl
  have h8 := HR.out.2.1
  have h9 := HX.out
  unfold R2 at h8
  unfold Row4 at h9
  rw [h8] at h9
  injection h9 with h9
  injection h9 with _ h9 _
  exact absurd h9 (by decide)
 have HXX : Hid (Row4 W4.drew gx 25 (.int .i64 (scK P)) (.string X) (.slice none 0 0) (.slice none 0 0)) := hid ((hO.2 gx hgx).trans HX.out)
 clear hR hB hbd hO x0 x1 x2 x3 HB HR HX HT HTK hgx
 obtain ⟨x0, x1, x2, x3⟩ := HXX.out.cells
 obtain ⟨⟨t0, t1, t2, t3⟩, u2, u3⟩ := HR2.out.top
 obtain ⟨⟨dA, dc, hd⟩, -⟩ := HR2.out.shapes
 have hown := HR2.out.2.2.2.1.2.1
 have hnB : q.c.ownBlock ≠ some B := fun e => (HR2.out.2.2.2.1.2.2.2.1 B e).2 rfl
 have hBlt : B < W4.heap.size := HR2.out.lt.2.1
 have hlo : lo ≤ W4.heap.size := HR2.out.1.2.2.2
 obtain ⟨n', hn'⟩ : ∃ n', f.ks.length = n' := ⟨_, rfl⟩
 obtain ⟨KS, hKS⟩ : ∃ KS, f.ks.map encStr = KS := ⟨_, rfl⟩
 rw [hn'] at hd hlen
 rw [hn', hKS, hd] at hown
 rw [hd] at hnB t2
 have HOWN := hid hown
 have HN := hid hn'
 have HKS := hid hKS
 have HD := hid hd
 have ta2 : (W4.alloc (.cells #[.string X] 9)).cell? ⟨B, m * 4 + 2, none⟩ = some (.slice dA n' dc) := cells_alloc (w := W4) t2
 have HFIN := hid (fun (gb cb : Nat) (w4 : World) (hownN : w4.ownsRow lo 9 1 (.slice (some ⟨gb, 0, none⟩) (n' + 1) cb) (n' + 1) (KS ++ [.string X])) (hgN : World.grownBy (W4.drew.alloc (.cells #[.string X] 9)) w4 (Value.slice dA n' dc).ownBlock) (hatN : (Value.slice dA n' dc).ownBlock = some gb ∨ gb = (W4.drew.alloc (.cells #[.string X] 9)).heap.size) =>
  have hb9 : Below W4.drew.heap.size W4.drew (W4.drew.alloc (.cells #[.string X] 9)) := (Below.refl _ _).alloc (Nat.le_refl _) _
  have hg9 : World.grownBy (W4.drew.alloc (.cells #[.string X] 9)) w4 q.c.ownBlock := by rw [HD.out]; exact hgN
  have hk9 : (Value.slice (some ⟨gb, 0, none⟩) (n' + 1) cb).ownBlock = q.c.ownBlock ∨ (Value.slice (some ⟨gb, 0, none⟩) (n' + 1) cb).ownBlock = some (W4.drew.alloc (.cells #[.string X] 9)).heap.size := hatN.imp (fun e => by rw [HD.out]; exact e.symm) fun e => congrArg some e
  And.intro (HR2.out.key hb9 (x := x) (n' := n' + 1) (by rw [List.length_append, HN.out]; rfl) (by rw [List.map_append, HKS.out]; show KS ++ [.string X] = KS ++ [encStr x]; rw [show encStr x = .string X from by rw [← HXD.out]; rfl]) hownN hg9 hk9)
   (HR2.out.key_below HB2.out hb9 hg9 (.slice (some ⟨gb, 0, none⟩) (n' + 1) cb) (m * 4 + 2)))
 clear hown hd hn' hKS t0 t1 t3 u3
 go_upto_region 7 with fail
 go_region_law (first
  | (
   refine step_append_lies _ rfl (.tmp 35) (.tmp 38) 22 rfl lo 9 i0 _ 1 16 Tryz.underlying22 hi hz0 hz1 hz2 rfl (by decide) (.slice dA n' dc) n' KS rfl (HOWN.out.alloc _) _ 1 1 [.string X] rfl rfl (news_blk #[.string X] (alloc_at _ _)) (one_str X) (by omega) (by unfold maxLen; omega) (by omega) (by simp; omega) _ rfl ?_
   intro gb cb w4 hownN hgN hatN hltN
   have hz4 : w4.cell? ⟨B, m * 4 + 2, none⟩ = some (.slice dA n' dc) := cell_grown (cells_alloc t2) hgN hnB
   have hf4 : w4.frozen? ⟨B, m * 4 + 2, none⟩ = false := frozen_grown (frozen_alloc u2 hBlt) hgN (by simp; omega) hnB))
 all_goals
  have HL := hid (HFIN.out gb cb w4 hownN hgN hatN)
  clear hownN hgN hatN hltN
  go_wp2
  go_ret
  exact ⟨rfl, ⟨_, HL.out.1⟩, HL.out.2⟩
end
end
end Go.Proofs.YtmdgpejedbkkdaaGreatDoor
