/- BloRdC -/
import Derived.Test.YtmdgpejedbkkdaaGreatDoorWT37
set_option linter.unusedVariables false
set_option linter.unusedSimpArgs false
set_option maxRecDepth 100000
set_option maxHeartbeats 16000000
open Go.Lib (hid)
namespace Go.Proofs.YtmdgpejedbkkdaaGreatDoor
section
open Go.RowKit Go.Sort
open Nw N8 Q6 F9 B10 Go.ChangeShapes Go.WideShapes
section
variable {w0 w : World} {g n p : Nat} {sl : Value} {M : List Ln} {x : Ln} {l : List Ln}
theorem RD.ind_le (h : RD w0 g sl n w M p) (hx : M.drop p = x :: l) : x.ind + x.text.length ≤ 100000 := by
 have hpl : p < M.length := by rw [h.2.1.1]; exact h.at_lt hx
 have h1 := h.2.1.2.2.2 p hpl
 rw [List.drop_eq_getElem_cons hpl] at hx
 injection hx with hx _
 rwa [hx] at h1
theorem RD.tail (h : RD w0 g sl n w M p) (hx : M.drop p = x :: l) : M.drop (p + 1) = l := by
 rw [← List.drop_drop, hx]; rfl
theorem row_q (s : ByteArray) (b : Bool) (w : World) (m : Nat) (h : hyp s.data.toList = b) :
  Calls Tryz.prog 72 #[.string s] (w.drewN m) fun e w' => e = .returned (.bool b) ∧ ∃ q, w' = w.drewN q :=
 Calls.quiet_of_same ((Row_any10 s b _ h).mono fun e w' h => ⟨h.1, h.2.symm⟩)
theorem readEntry_val (h : RD w0 g sl n w M p) (hx : M.drop p = x :: l) (r : ByteArray) (hs : r.size ≤ 500000) (hr : r.data.toList ≠ []) :
  Calls Tryz.prog 110 #[.pointer (some ⟨g, 0, none⟩), .int .i64 (x.ind : Int), .string r] w (Out w0 g sl n M p (p + 1) x.ind (kidM x.ind x l r.data.toList) w) := by
 have hn := h.n_le
 have hgw := h.lt
 have hpn := h.at_lt hx
 have hb0 : Below w.heap.size w (w.alloc (.cells #[.int .i64 0, .string ⟨#[]⟩, .slice none 0 0, .slice none 0 0] 25)) := (Below.refl _ _).alloc (Nat.le_refl _) _
 have hs0 : (w.alloc (.cells #[.int .i64 0, .string ⟨#[]⟩, .slice none 0 0, .slice none 0 0] 25)).heap.size = w.heap.size + 1 := by simp
 have hD0 := h.go hb0
 have HR0 := hid (Row4.make w 25 (.int .i64 0) (.string ⟨#[]⟩) (.slice none 0 0) (.slice none 0 0))
 have HB0 := hid hb0
 have HS0 := hid hs0
 have HD := hid h
 have HD0 := hid hD0
 have HV : Hid (∀ W, RD w0 g sl n W M p → Calls Tryz.prog 76 #[.pointer (some ⟨g, 0, none⟩), .string r] W (Out w0 g sl n M p (p + 1) x.ind (kidM x.ind x l r.data.toList) W)) := hid fun W hW => readValue_any hW hx r hs (kidM_val hr).symm
 have HS1 : Hid (w.heap.size + 1 ≤ (w.alloc (.cells #[.int .i64 0, .string ⟨#[]⟩, .slice none 0 0, .slice none 0 0] 25)).heap.size) := hid (by rw [hs0]; exact Nat.le_refl _)
 have b0 : r.toList.isEmpty = false := by rw [ByteArray.toList_eq, List.isEmpty_eq_false_iff]; exact hr
 have b0' : ¬ r.toList = [] := by rw [ByteArray.toList_eq]; exact hr
 obtain ⟨I, hI⟩ : ∃ I : Int, (x.ind : Int) = I := ⟨_, rfl⟩
 rw [hI]
 obtain ⟨R, hR⟩ : ∃ R, kidM x.ind x l r.data.toList = R := ⟨_, rfl⟩
 rw [hR] at HV ⊢
 clear hb0 hs0 hD0 h hx hr hR hI
 go_enter Tryz.func110, Tryz.ntmps110
 go_wp2_with fail
 generalize w.alloc (.cells #[.int .i64 0, .string ⟨#[]⟩, .slice none 0 0, .slice none 0 0] 25) = W2 at *
 have HX := HR0
 refine (HV.out _ HD0.out).mono ?_
 rintro e w3 ⟨k, t, a, i, cc, A, m, q, E, rfl, hk, hc⟩
 have HX3 := hid (HD.out.row4 hk (Nat.le_refl _) HX.out)
 have HK3 := hid hk
 have HC := hid hc
 clear hk hc
 obtain ⟨r0, r1, r2, r3⟩ := HX3.out.cells
 obtain ⟨fr0, fr1, fr2, fr3⟩ := HX3.out.frozen
 go_wp2
 refine bodyPost_ret (v := .tuple #[.agg #[.int .i64 k, .string t, .slice a i cc, .slice A m q], .int .i64 E]) (by simp [results, Tryz.results110, go_sem, r0, r1, r2, r3]) rfl ?_
 exact out_on HD.out (KP.of HB0.out) HS1.out HK3.out HC.out
theorem readEntry_done {N : Nat} (ih : BOf N) (hm : SomeMax w0) (h : RD w0 g sl n w M p) (hx : M.drop p = x :: l) (hN : 2 * big l + 1 ≤ N) (hl : p + 1 = n) :
  Calls Tryz.prog 110 #[.pointer (some ⟨g, 0, none⟩), .int .i64 (x.ind : Int), .string ⟨#[]⟩] w (Out w0 g sl n M p (p + 1) x.ind (kidM x.ind x l []) w) := by
 have hn := h.n_le
 have hgw := h.lt
 have hpn := h.at_lt hx
 have hb0 : Below w.heap.size w (w.alloc (.cells #[.int .i64 0, .string ⟨#[]⟩, .slice none 0 0, .slice none 0 0] 25)) := (Below.refl _ _).alloc (Nat.le_refl _) _
 have hs0 : (w.alloc (.cells #[.int .i64 0, .string ⟨#[]⟩, .slice none 0 0, .slice none 0 0] 25)).heap.size = w.heap.size + 1 := by simp
 have hD0 := h.go hb0
 have HR0 := hid (Row4.make w 25 (.int .i64 0) (.string ⟨#[]⟩) (.slice none 0 0) (.slice none 0 0))
 have HB0 := hid hb0
 have HS0 := hid hs0
 have HD := hid h
 have HD0 := hid hD0
 have hi := h.ind_le hx
 have htl := h.tail hx
 have wp : IntKind.i64.wrap ((p : Int) + 1) = (p : Int) + 1 := IntWalk.i64_in _ (by omega)
 obtain ⟨c0, c1, f1⟩ := hD0.cells
 have hN2 : 2 * big (M.drop (p + 1)) + 1 ≤ N := by rw [htl]; exact hN
 have HIN : Hid (∀ W least, RD w0 g sl n W M (p + 1) → Calls Tryz.prog 102 #[.pointer (some ⟨g, 0, none⟩), .int .i64 ((least : Nat) : Int)] W (Out w0 g sl n M (p + 1) (p + 1) least (innR least l) W)) := hid fun W least hW => by
  have := readInner_any ih hm hW least hN2
  rwa [htl] at this
 have hcm9 : (w.alloc (.cells #[.int .i64 0, .string ⟨#[]⟩, .slice none 0 0, .slice none 0 0] 25)).setCell ⟨g, 1, none⟩ (.int .i64 ((p : Int) + 1)) = (w.setCell ⟨g, 1, none⟩ (.int .i64 ((p : Int) + 1))).alloc (.cells #[.int .i64 0, .string ⟨#[]⟩, .slice none 0 0, .slice none 0 0] 25) := World.setCell_alloc_past _ g 1 _ hgw
 have hnx := hD0.next hpn
 rw [hcm9] at hnx
 obtain ⟨hsk, kps⟩ := hnx
 have HD2 := hid hsk
 have HK2 := hid ((KP.of hb0).trans kps)
 have HX2 : Hid (Row4 ((w.setCell ⟨g, 1, none⟩ (.int .i64 ((p : Int) + 1))).alloc (.cells #[.int .i64 0, .string ⟨#[]⟩, .slice none 0 0, .slice none 0 0] 25)) w.heap.size 25 (.int .i64 0) (.string ⟨#[]⟩) (.slice none 0 0) (.slice none 0 0)) := hid (HD.out.row4 kps (Nat.le_refl _) HR0.out)
 have HS2 : Hid (w.heap.size + 1 ≤ ((w.setCell ⟨g, 1, none⟩ (.int .i64 ((p : Int) + 1))).alloc (.cells #[.int .i64 0, .string ⟨#[]⟩, .slice none 0 0, .slice none 0 0] 25)).heap.size) := hid (by rw [← hs0]; exact kps.size)
 have HTL := hid htl
 have HX0 := hid hx
 obtain rfl : l = [] := by rw [← htl, List.drop_of_length_le (by rw [h.2.1.1]; omega)]
 have hR : kidM x.ind x [] [] = (innR (x.ind + 1) []).more 1 := kidM_inn fun y t e => by cases e
 have HQ := hid (fun m => isDone_q hsk true (decide_eq_true hl) m)
 obtain ⟨I, hI⟩ : ∃ I : Nat, x.ind = I := ⟨_, rfl⟩
 have wi : IntKind.i64.wrap ((I : Int) + 1) = ((I + 1 : Nat) : Int) := IntWalk.i64_in _ (by omega)
 rw [hR, hI]
 have HI := hid (HIN.out · (I + 1))
 obtain ⟨J, hJ⟩ : ∃ J : Nat, I + 1 = J := ⟨_, rfl⟩
 have HJ : Hid (I ≤ J) := hid (by omega)
 rw [hJ] at HI wi ⊢
 clear hcm9 hb0 hs0 hD0 hx hR hI hJ ih hN hN2 htl hsk kps hl h hi
 go_enter Tryz.func110, Tryz.ntmps110
 go_upto_region 4 with fail
 generalize (w.setCell ⟨g, 1, none⟩ (.int .i64 ((p : Int) + 1))).alloc (.cells #[.int .i64 0, .string ⟨#[]⟩, .slice none 0 0, .slice none 0 0] 25) = W2 at *
 clear c0 c1 f1
 go_quiet (first | (go_at_call 51; exact HQ.out _))
 have HX := hid (HX2.out.below (below_drewN W2 nq) HX2.out.lt)
 have HK : Hid (KP g sl w (W2.drewN nq)) := hid (HK2.out.go (below_drewN _ _))
 have HD3 := hid (HD2.out.go (below_drewN W2 nq))
 have HS3 : Hid (w.heap.size + 1 ≤ (W2.drewN nq).heap.size) := HS2
 generalize W2.drewN nq = W3 at *
 go_wp2_with fail
 refine (HI.out _ HD3.out).mono ?_
 rintro e w3 ⟨k, t, a, i, cc, A, m, q, E, rfl, hk, hc⟩
 have HX3 := hid (HD.out.row4 hk (Nat.le_refl _) HX.out)
 have HK3 := hid hk
 have HC := hid hc
 clear hk hc
 obtain ⟨r0, r1, r2, r3⟩ := HX3.out.cells
 obtain ⟨fr0, fr1, fr2, fr3⟩ := HX3.out.frozen
 go_wp2
 refine bodyPost_ret (v := .tuple #[.agg #[.int .i64 k, .string t, .slice a i cc, .slice A m q], .int .i64 E]) (by simp [results, Tryz.results110, go_sem, r0, r1, r2, r3]) rfl ?_
 exact out_on HD.out HK.out HS3.out HK3.out (HC.out.shift.low (Nat.le_refl _) HJ.out)
theorem readEntry_row {N : Nat} (ih : BOf N) (hm : SomeMax w0) (h : RD w0 g sl n w M p) (hx : M.drop p = x :: l) (hN : 2 * big l + 1 ≤ N) (y : Ln) (l2 : List Ln) (hl : l = y :: l2) (hy : hyp y.text = true) :
  Calls Tryz.prog 110 #[.pointer (some ⟨g, 0, none⟩), .int .i64 (x.ind : Int), .string ⟨#[]⟩] w (Out w0 g sl n M p (p + 1) x.ind (kidM x.ind x l []) w) := by
 have hn := h.n_le
 have hgw := h.lt
 have hpn := h.at_lt hx
 have hb0 : Below w.heap.size w (w.alloc (.cells #[.int .i64 0, .string ⟨#[]⟩, .slice none 0 0, .slice none 0 0] 25)) := (Below.refl _ _).alloc (Nat.le_refl _) _
 have hs0 : (w.alloc (.cells #[.int .i64 0, .string ⟨#[]⟩, .slice none 0 0, .slice none 0 0] 25)).heap.size = w.heap.size + 1 := by simp
 have hD0 := h.go hb0
 have HR0 := hid (Row4.make w 25 (.int .i64 0) (.string ⟨#[]⟩) (.slice none 0 0) (.slice none 0 0))
 have HB0 := hid hb0
 have HS0 := hid hs0
 have HD := hid h
 have HD0 := hid hD0
 have hi := h.ind_le hx
 have htl := h.tail hx
 have wp : IntKind.i64.wrap ((p : Int) + 1) = (p : Int) + 1 := IntWalk.i64_in _ (by omega)
 obtain ⟨c0, c1, f1⟩ := hD0.cells
 have hN2 : 2 * big (M.drop (p + 1)) + 1 ≤ N := by rw [htl]; exact hN
 have HIN : Hid (∀ W least, RD w0 g sl n W M (p + 1) → Calls Tryz.prog 102 #[.pointer (some ⟨g, 0, none⟩), .int .i64 ((least : Nat) : Int)] W (Out w0 g sl n M (p + 1) (p + 1) least (innR least l) W)) := hid fun W least hW => by
  have := readInner_any ih hm hW least hN2
  rwa [htl] at this
 have hcm9 : (w.alloc (.cells #[.int .i64 0, .string ⟨#[]⟩, .slice none 0 0, .slice none 0 0] 25)).setCell ⟨g, 1, none⟩ (.int .i64 ((p : Int) + 1)) = (w.setCell ⟨g, 1, none⟩ (.int .i64 ((p : Int) + 1))).alloc (.cells #[.int .i64 0, .string ⟨#[]⟩, .slice none 0 0, .slice none 0 0] 25) := World.setCell_alloc_past _ g 1 _ hgw
 have hnx := hD0.next hpn
 rw [hcm9] at hnx
 obtain ⟨hsk, kps⟩ := hnx
 have HD2 := hid hsk
 have HK2 := hid ((KP.of hb0).trans kps)
 have HX2 : Hid (Row4 ((w.setCell ⟨g, 1, none⟩ (.int .i64 ((p : Int) + 1))).alloc (.cells #[.int .i64 0, .string ⟨#[]⟩, .slice none 0 0, .slice none 0 0] 25)) w.heap.size 25 (.int .i64 0) (.string ⟨#[]⟩) (.slice none 0 0) (.slice none 0 0)) := hid (HD.out.row4 kps (Nat.le_refl _) HR0.out)
 have HS2 : Hid (w.heap.size + 1 ≤ ((w.setCell ⟨g, 1, none⟩ (.int .i64 ((p : Int) + 1))).alloc (.cells #[.int .i64 0, .string ⟨#[]⟩, .slice none 0 0, .slice none 0 0] 25)).heap.size) := hid (by rw [← hs0]; exact kps.size)
 have HTL := hid htl
 have HX0 := hid hx
 have hx2 : M.drop (p + 1) = y :: l2 := htl.trans hl
 have hpn2 := hsk.at_lt hx2
 have hpl : p + 1 < M.length := by rw [h.2.1.1]; exact hpn2
 obtain ⟨B, cap, hsl, hcap, hcm, ⟨x0, x1, x2⟩, -⟩ := hsk.row hpl
 have hMy : M[p + 1]'hpl = y := by
  rw [List.drop_eq_getElem_cons hpl] at hx2
  injection hx2
 rw [hMy] at x2
 obtain ⟨T, hT⟩ : ∃ T : ByteArray, (⟨y.text.toArray⟩ : ByteArray) = T := ⟨_, rfl⟩
 rw [hT] at x2
 have hTl : T.data.toList = y.text := by rw [← hT]
 have HROW := hid (fun W m => row_q T true W m (by rw [hTl]; exact hy))
 subst hsl
 have HQ := hid (fun m => isDone_q hsk false (decide_eq_false (by omega)) m)
 have hR : kidM x.ind x l [] = (innR x.ind l).more 1 := by rw [hl]; exact kidM_row hy
 obtain ⟨I, hI⟩ : ∃ I : Nat, x.ind = I := ⟨_, rfl⟩
 rw [hR, hI]
 have HI := hid (HIN.out · (I))
 have HJ : Hid (I ≤ I) := hid (Nat.le_refl _)
 obtain ⟨P, hP⟩ : ∃ P : Nat, p + 1 = P := ⟨_, rfl⟩
 have d0 := hsk.cells.1
 have d1 := hsk.cells.2.1
 rw [hP] at d1 x2
 have pz : (0 : Int) ≤ (P : Int) := by omega
 have pn : (P : Int) < (n : Int) := by omega
 clear hcm9 hb0 hs0 hD0 hx hx2 hR hI ih hN hN2 htl hsk kps hl h hi hMy x0 x1 hT hTl hpl hpn2 hP hy hcap hcm
 go_enter Tryz.func110, Tryz.ntmps110
 go_upto_region 4 with fail
 generalize (w.setCell ⟨g, 1, none⟩ (.int .i64 ((p : Int) + 1))).alloc (.cells #[.int .i64 0, .string ⟨#[]⟩, .slice none 0 0, .slice none 0 0] 25) = W2 at *
 clear c0 c1 f1
 go_quiet (first | (go_at_call 51; exact HQ.out _) | (go_at_call 72; exact HROW.out _ _))
 have HX := hid (HX2.out.below (below_drewN W2 nq) HX2.out.lt)
 have HK : Hid (KP g (.slice (some ⟨B, 0, none⟩) n cap) w (W2.drewN nq)) := hid (HK2.out.go (below_drewN _ _))
 have HD3 := hid (HD2.out.go (below_drewN W2 nq))
 have HS3 : Hid (w.heap.size + 1 ≤ (W2.drewN nq).heap.size) := HS2
 generalize W2.drewN nq = W3 at *
 clear d0 d1 x2
 go_wp2_with fail
 refine (HI.out _ HD3.out).mono ?_
 rintro e w3 ⟨k, t, a, i, cc, A, m, q, E, rfl, hk, hc⟩
 have HX3 := hid (HD.out.row4 hk (Nat.le_refl _) HX.out)
 have HK3 := hid hk
 have HC := hid hc
 clear hk hc
 obtain ⟨r0, r1, r2, r3⟩ := HX3.out.cells
 obtain ⟨fr0, fr1, fr2, fr3⟩ := HX3.out.frozen
 go_wp2
 refine bodyPost_ret (v := .tuple #[.agg #[.int .i64 k, .string t, .slice a i cc, .slice A m q], .int .i64 E]) (by simp [results, Tryz.results110, go_sem, r0, r1, r2, r3]) rfl ?_
 exact out_on HD.out HK.out HS3.out HK3.out (HC.out.shift.low (Nat.le_refl _) HJ.out)
theorem readEntry_not {N : Nat} (ih : BOf N) (hm : SomeMax w0) (h : RD w0 g sl n w M p) (hx : M.drop p = x :: l) (hN : 2 * big l + 1 ≤ N) (y : Ln) (l2 : List Ln) (hl : l = y :: l2) (hy : hyp y.text = false) :
  Calls Tryz.prog 110 #[.pointer (some ⟨g, 0, none⟩), .int .i64 (x.ind : Int), .string ⟨#[]⟩] w (Out w0 g sl n M p (p + 1) x.ind (kidM x.ind x l []) w) := by
 have hn := h.n_le
 have hgw := h.lt
 have hpn := h.at_lt hx
 have hb0 : Below w.heap.size w (w.alloc (.cells #[.int .i64 0, .string ⟨#[]⟩, .slice none 0 0, .slice none 0 0] 25)) := (Below.refl _ _).alloc (Nat.le_refl _) _
 have hs0 : (w.alloc (.cells #[.int .i64 0, .string ⟨#[]⟩, .slice none 0 0, .slice none 0 0] 25)).heap.size = w.heap.size + 1 := by simp
 have hD0 := h.go hb0
 have HR0 := hid (Row4.make w 25 (.int .i64 0) (.string ⟨#[]⟩) (.slice none 0 0) (.slice none 0 0))
 have HB0 := hid hb0
 have HS0 := hid hs0
 have HD := hid h
 have HD0 := hid hD0
 have hi := h.ind_le hx
 have htl := h.tail hx
 have wp : IntKind.i64.wrap ((p : Int) + 1) = (p : Int) + 1 := IntWalk.i64_in _ (by omega)
 obtain ⟨c0, c1, f1⟩ := hD0.cells
 have hN2 : 2 * big (M.drop (p + 1)) + 1 ≤ N := by rw [htl]; exact hN
 have HIN : Hid (∀ W least, RD w0 g sl n W M (p + 1) → Calls Tryz.prog 102 #[.pointer (some ⟨g, 0, none⟩), .int .i64 ((least : Nat) : Int)] W (Out w0 g sl n M (p + 1) (p + 1) least (innR least l) W)) := hid fun W least hW => by
  have := readInner_any ih hm hW least hN2
  rwa [htl] at this
 have hcm9 : (w.alloc (.cells #[.int .i64 0, .string ⟨#[]⟩, .slice none 0 0, .slice none 0 0] 25)).setCell ⟨g, 1, none⟩ (.int .i64 ((p : Int) + 1)) = (w.setCell ⟨g, 1, none⟩ (.int .i64 ((p : Int) + 1))).alloc (.cells #[.int .i64 0, .string ⟨#[]⟩, .slice none 0 0, .slice none 0 0] 25) := World.setCell_alloc_past _ g 1 _ hgw
 have hnx := hD0.next hpn
 rw [hcm9] at hnx
 obtain ⟨hsk, kps⟩ := hnx
 have HD2 := hid hsk
 have HK2 := hid ((KP.of hb0).trans kps)
 have HX2 : Hid (Row4 ((w.setCell ⟨g, 1, none⟩ (.int .i64 ((p : Int) + 1))).alloc (.cells #[.int .i64 0, .string ⟨#[]⟩, .slice none 0 0, .slice none 0 0] 25)) w.heap.size 25 (.int .i64 0) (.string ⟨#[]⟩) (.slice none 0 0) (.slice none 0 0)) := hid (HD.out.row4 kps (Nat.le_refl _) HR0.out)
 have HS2 : Hid (w.heap.size + 1 ≤ ((w.setCell ⟨g, 1, none⟩ (.int .i64 ((p : Int) + 1))).alloc (.cells #[.int .i64 0, .string ⟨#[]⟩, .slice none 0 0, .slice none 0 0] 25)).heap.size) := hid (by rw [← hs0]; exact kps.size)
 have HTL := hid htl
 have HX0 := hid hx
 have hx2 : M.drop (p + 1) = y :: l2 := htl.trans hl
 have hpn2 := hsk.at_lt hx2
 have hpl : p + 1 < M.length := by rw [h.2.1.1]; exact hpn2
 obtain ⟨B, cap, hsl, hcap, hcm, ⟨x0, x1, x2⟩, -⟩ := hsk.row hpl
 have hMy : M[p + 1]'hpl = y := by
  rw [List.drop_eq_getElem_cons hpl] at hx2
  injection hx2
 rw [hMy] at x2
 obtain ⟨T, hT⟩ : ∃ T : ByteArray, (⟨y.text.toArray⟩ : ByteArray) = T := ⟨_, rfl⟩
 rw [hT] at x2
 have hTl : T.data.toList = y.text := by rw [← hT]
 have HROW := hid (fun W m => row_q T false W m (by rw [hTl]; exact hy))
 subst hsl
 have HQ := hid (fun m => isDone_q hsk false (decide_eq_false (by omega)) m)
 have hR : kidM x.ind x l [] = (innR (x.ind + 1) l).more 1 := kidM_inn fun z t e => by rw [hl] at e; injection e with e _; rw [← e]; exact hy
 obtain ⟨I, hI⟩ : ∃ I : Nat, x.ind = I := ⟨_, rfl⟩
 have wi : IntKind.i64.wrap ((I : Int) + 1) = ((I + 1 : Nat) : Int) := IntWalk.i64_in _ (by omega)
 rw [hR, hI]
 have HI := hid (HIN.out · (I + 1))
 obtain ⟨J, hJ⟩ : ∃ J : Nat, I + 1 = J := ⟨_, rfl⟩
 have HJ : Hid (I ≤ J) := hid (by omega)
 rw [hJ] at HI wi ⊢
 clear hJ
 obtain ⟨P, hP⟩ : ∃ P : Nat, p + 1 = P := ⟨_, rfl⟩
 have d0 := hsk.cells.1
 have d1 := hsk.cells.2.1
 rw [hP] at d1 x2
 have pz : (0 : Int) ≤ (P : Int) := by omega
 have pn : (P : Int) < (n : Int) := by omega
 clear hcm9 hb0 hs0 hD0 hx hx2 hR hI ih hN hN2 htl hsk kps hl h hi hMy x0 x1 hT hTl hpl hpn2 hP hy hcap hcm
 go_enter Tryz.func110, Tryz.ntmps110
 go_upto_region 4 with fail
 generalize (w.setCell ⟨g, 1, none⟩ (.int .i64 ((p : Int) + 1))).alloc (.cells #[.int .i64 0, .string ⟨#[]⟩, .slice none 0 0, .slice none 0 0] 25) = W2 at *
 clear c0 c1 f1
 go_quiet (first | (go_at_call 51; exact HQ.out _) | (go_at_call 72; exact HROW.out _ _))
 have HX := hid (HX2.out.below (below_drewN W2 nq) HX2.out.lt)
 have HK : Hid (KP g (.slice (some ⟨B, 0, none⟩) n cap) w (W2.drewN nq)) := hid (HK2.out.go (below_drewN _ _))
 have HD3 := hid (HD2.out.go (below_drewN W2 nq))
 have HS3 : Hid (w.heap.size + 1 ≤ (W2.drewN nq).heap.size) := HS2
 generalize W2.drewN nq = W3 at *
 clear d0 d1 x2
 go_wp2_with fail
 refine (HI.out _ HD3.out).mono ?_
 rintro e w3 ⟨k, t, a, i, cc, A, m, q, E, rfl, hk, hc⟩
 have HX3 := hid (HD.out.row4 hk (Nat.le_refl _) HX.out)
 have HK3 := hid hk
 have HC := hid hc
 clear hk hc
 obtain ⟨r0, r1, r2, r3⟩ := HX3.out.cells
 obtain ⟨fr0, fr1, fr2, fr3⟩ := HX3.out.frozen
 go_wp2
 refine bodyPost_ret (v := .tuple #[.agg #[.int .i64 k, .string t, .slice a i cc, .slice A m q], .int .i64 E]) (by simp [results, Tryz.results110, go_sem, r0, r1, r2, r3]) rfl ?_
 exact out_on HD.out HK.out HS3.out HK3.out (HC.out.shift.low (Nat.le_refl _) HJ.out)
theorem readEntry_any {N : Nat} (ih : BOf N) (hm : SomeMax w0) (h : RD w0 g sl n w M p) (hx : M.drop p = x :: l) (hN : 2 * big l + 1 ≤ N) (r : ByteArray) (hs : r.size ≤ 500000) :
  Calls Tryz.prog 110 #[.pointer (some ⟨g, 0, none⟩), .int .i64 (x.ind : Int), .string r] w (Out w0 g sl n M p (p + 1) x.ind (kidM x.ind x l r.data.toList) w) := by
 by_cases hr : r.data.toList = []
 ·obtain rfl := bytes_of (l := #[]) hr
  by_cases hl : p + 1 = n
  ·exact readEntry_done ih hm h hx hN hl
  ·have htl := h.tail hx
   cases hl2 : l with
   | nil =>
    have h1 := h.at_lt hx
    have h2 := congrArg List.length (htl.trans hl2)
    rw [List.length_drop, h.2.1.1] at h2
    have h2 : n - (p + 1) = 0 := h2
    omega
   | cons y l2 =>
    rw [← hl2]
    cases hy : hyp y.text with
    | true => exact readEntry_row ih hm h hx hN y l2 hl2 hy
    | false => exact readEntry_not ih hm h hx hN y l2 hl2 hy
 ·exact readEntry_val h hx r hs hr
end
end
end Go.Proofs.YtmdgpejedbkkdaaGreatDoor
