/- BloRdD -/
import Derived.Deep.RegionHeld3
import Derived.Test.YtecglpocmhkkiaaGreatDoorST36
import Derived.Test.YtecglpocmhkkiaaGreatDoorST37
set_option linter.unusedVariables false
set_option linter.unusedSimpArgs false
set_option maxRecDepth 100000
set_option maxHeartbeats 16000000
open Go.Lib (hid)
namespace Go.Proofs.YtecglpocmhkkiaaGreatDoor
section
open Go.RowKit Go.Sort
open Nw N8 Q6 F9 B10 Go.ChangeShapes Go.WideShapes
def SeqOf (N : Nat) : Prop := ∀ (w0 : World) (g : Nat) (sl : Value) (n : Nat) (w : World) (M : List Ln) (p : Nat) (x : Ln) (l : List Ln), SomeMax w0 → RD w0 g sl n w M p → M.drop p = x :: l → hyp x.text = true → 2 * big (x :: l) ≤ N →
  Calls Tryz.prog 58 #[.pointer (some ⟨g, 0, none⟩), .int .i64 (x.ind : Int)] w (Out w0 g sl n M p (p + 1) x.ind (seqB x.ind [] (x :: l)) w)
def MapOf (N : Nat) : Prop := ∀ (w0 : World) (g : Nat) (sl : Value) (n : Nat) (w : World) (M : List Ln) (p : Nat) (x : Ln) (l : List Ln), SomeMax w0 → RD w0 g sl n w M p → M.drop p = x :: l → (∃ y r, entP x.text = some (some (y, r))) → 2 * big (x :: l) ≤ N →
  Calls Tryz.prog 59 #[.pointer (some ⟨g, 0, none⟩), .int .i64 (x.ind : Int)] w (Out w0 g sl n M p (p + 1) x.ind (mapB x.ind [] [] (x :: l)) w)
theorem below_ad (w : World) (o : Obj) : Below w.heap.size w (w.alloc o).drew := ((Below.refl _ _).alloc (Nat.le_refl _) _).drew
section
variable {w0 w : World} {g n p : Nat} {sl : Value} {M : List Ln} {x : Ln} {l : List Ln}
theorem RD.here (h : RD w0 g sl n w M p) (hx : M.drop p = x :: l) : ∃ B cap, sl = .slice (some ⟨B, 0, none⟩) n cap ∧ n ≤ cap ∧ cap ≤ maxLen ∧
  (w.cell? ⟨B, p * 3, none⟩ = some (.int .i64 (x.no : Int)) ∧ w.cell? ⟨B, p * 3 + 1, none⟩ = some (.int .i64 (x.ind : Int)) ∧ w.cell? ⟨B, p * 3 + 2, none⟩ = some (.string ⟨x.text.toArray⟩)) ∧
  (w.frozen? ⟨B, p * 3, none⟩ = false ∧ w.frozen? ⟨B, p * 3 + 1, none⟩ = false ∧ w.frozen? ⟨B, p * 3 + 2, none⟩ = false) := by
 have hpl : p < M.length := by rw [h.2.1.1]; exact h.at_lt hx
 have := h.row hpl
 rw [List.drop_eq_getElem_cons hpl] at hx
 injection hx with hx _
 rwa [hx] at this
theorem readBlock_seq (hm : SomeMax w0) (h : RD w0 g sl n w M p) (hx : M.drop p = x :: l) {N : Nat} (is : SeqOf N) (hN : 2 * big (x :: l) ≤ N) (hh : hyp x.text = true) :
  Calls Tryz.prog 35 #[.pointer (some ⟨g, 0, none⟩)] w (Out w0 g sl n M p (p + 1) x.ind (blkB (x :: l)) w) := by
 have hn := h.n_le
 have hgw := h.lt
 have hpn := h.at_lt hx
 have hi := h.ind_le hx
 have hb0 : Below w.heap.size w (w.alloc (.cells #[.int .i64 0, .string ⟨#[]⟩, .slice none 0 0, .slice none 0 0] 26)) := (Below.refl _ _).alloc (Nat.le_refl _) _
 have hs0 : (w.alloc (.cells #[.int .i64 0, .string ⟨#[]⟩, .slice none 0 0, .slice none 0 0] 26)).heap.size = w.heap.size + 1 := by simp
 have hD0 := h.go hb0
 have HR0 := hid (Row4.make w 26 (.int .i64 0) (.string ⟨#[]⟩) (.slice none 0 0) (.slice none 0 0))
 have HB0 := hid hb0
 have HS0 := hid hs0
 have HD := hid h
 have HD0 := hid hD0
 have HMX := hid hm
 have HXX := hid hx
 obtain ⟨c0, c1, -⟩ := hD0.cells
 obtain ⟨B, cap, rfl, hcap, hcm, ⟨x0, x1, x2⟩, -⟩ := hD0.here hx
 obtain ⟨T, hT⟩ : ∃ T : ByteArray, (⟨x.text.toArray⟩ : ByteArray) = T := ⟨_, rfl⟩
 have hTl : T.data.toList = x.text := by rw [← hT]
 have hTs : T.size ≤ 100000 := by rw [← len_eq, hTl]; omega
 have HROW := hid (fun W => Row_any10 T true W (by rw [hTl]; exact hh))
 have HSQ := hid (fun W (hW : RD w0 g (.slice (some ⟨B, 0, none⟩) n cap) n W M p) => is w0 g _ n W M p x l hm hW hx hh hN)
 rw [← blk_seq hh] at HSQ
 obtain ⟨I, hI⟩ : ∃ I : Nat, x.ind = I := ⟨_, rfl⟩
 obtain ⟨no, hno⟩ : ∃ no : Nat, x.no = no := ⟨_, rfl⟩
 have pz : (0 : Int) ≤ (p : Int) := by omega
 have pn : (p : Int) < (n : Int) := by omega
 have HIX := hid hI
 have HNX := hid hno
 rw [hT] at x2
 rw [hI] at x1
 rw [hno] at x0
 rw [hI] at HSQ ⊢
 obtain ⟨R, hR⟩ : ∃ R, blkB (x :: l) = R := ⟨_, rfl⟩
 rw [hR] at HSQ ⊢
 clear is hN hh hR hb0 hs0 hD0 h hx hT hTl hTs hI hno hm hi
 go_enter Tryz.func35, Tryz.ntmps35
 go_wp2
 generalize w.alloc (.cells #[.int .i64 0, .string ⟨#[]⟩, .slice none 0 0, .slice none 0 0] 26) = W1 at *
 go_region_held3 (fun W => W.cell? ⟨g, 0, none⟩ = some (.slice (some ⟨B, 0, none⟩) n cap) ∧ W.cell? ⟨g, 1, none⟩ = some (.int .i64 (p : Int)) ∧ W.cell? ⟨B, p * 3, none⟩ = some (.int .i64 (no : Int)) ∧ W.cell? ⟨B, p * 3 + 1, none⟩ = some (.int .i64 (I : Int)) ∧ W.cell? ⟨B, p * 3 + 2, none⟩ = some (.string T))
  (first | exact ⟨c0, c1, x0, x1, x2⟩ | assumption | exact ⟨cells_alloc c0, cells_alloc c1, cells_alloc x0, cells_alloc x1, cells_alloc x2⟩) (fail)
 have HX := hid (HR0.out.below (below_ad W1 (.cells #[.int .i64 (no : Int), .int .i64 (I : Int), .string T] 44)) HR0.out.lt)
 have HD2 := hid (HD0.out.go (below_ad W1 (.cells #[.int .i64 (no : Int), .int .i64 (I : Int), .string T] 44)))
 have HB2 := hid (HB0.out.trans ((below_ad W1 (.cells #[.int .i64 (no : Int), .int .i64 (I : Int), .string T] 44)).mono HB0.out.size))
 have HS2 : Hid (w.heap.size + 1 ≤ ((W1.alloc (.cells #[.int .i64 (no : Int), .int .i64 (I : Int), .string T] 44)).drew).heap.size) := hid (by rw [← HS0.out]; exact (below_ad W1 _).size)
 have HL : Hid (Row3 ((W1.alloc (.cells #[.int .i64 (no : Int), .int .i64 (I : Int), .string T] 44)).drew) W1.heap.size 44 (.int .i64 (no : Int)) (.int .i64 (I : Int)) (.string T)) := hid (Row3.make W1 _ _ _ _)
 clear c0 c1 x0 x1 x2 HR0 HD0 HB0
 generalize (W1.alloc (.cells #[.int .i64 (no : Int), .int .i64 (I : Int), .string T] 44)).drew = W2 at *
 generalize W1.heap.size = lb at *
 obtain ⟨y0, y1, y2⟩ := HL.out.cells
 go_wp2_with fail
 refine (HROW.out _).mono ?_
 rintro e w' ⟨rfl, rfl⟩
 go_wp2_with fail
 refine (HSQ.out _ HD2.out).mono ?_
 rintro e w5 ⟨k, t, a, i, cc, A, m, q, E, rfl, hk, hc⟩
 have HX3 := hid (HD.out.row4 hk (Nat.le_refl _) HX.out)
 have HK3 := hid hk
 have HC := hid hc
 clear hk hc
 obtain ⟨r0, r1, r2, r3⟩ := HX3.out.cells
 obtain ⟨fr0, fr1, fr2, fr3⟩ := HX3.out.frozen
 go_wp2
 refine bodyPost_ret (v := .tuple #[.agg #[.int .i64 k, .string t, .slice a i cc, .slice A m q], .int .i64 E]) (by simp [results, Tryz.results35, go_sem, r0, r1, r2, r3]) rfl ?_
 exact out_on HD.out (KP.of HB2.out) HS2.out HK3.out HC.out
theorem readBlock_bad (hm : SomeMax w0) (h : RD w0 g sl n w M p) (hx : M.drop p = x :: l) (hh : hyp x.text = false) (he : entP x.text = none) :
  Calls Tryz.prog 35 #[.pointer (some ⟨g, 0, none⟩)] w (Out w0 g sl n M p (p + 1) x.ind (blkB (x :: l)) w) := by
 have hn := h.n_le
 have hgw := h.lt
 have hpn := h.at_lt hx
 have hi := h.ind_le hx
 have hb0 : Below w.heap.size w (w.alloc (.cells #[.int .i64 0, .string ⟨#[]⟩, .slice none 0 0, .slice none 0 0] 26)) := (Below.refl _ _).alloc (Nat.le_refl _) _
 have hs0 : (w.alloc (.cells #[.int .i64 0, .string ⟨#[]⟩, .slice none 0 0, .slice none 0 0] 26)).heap.size = w.heap.size + 1 := by simp
 have hD0 := h.go hb0
 have HR0 := hid (Row4.make w 26 (.int .i64 0) (.string ⟨#[]⟩) (.slice none 0 0) (.slice none 0 0))
 have HB0 := hid hb0
 have HS0 := hid hs0
 have HD := hid h
 have HD0 := hid hD0
 have HMX := hid hm
 have HXX := hid hx
 obtain ⟨c0, c1, -⟩ := hD0.cells
 obtain ⟨B, cap, rfl, hcap, hcm, ⟨x0, x1, x2⟩, -⟩ := hD0.here hx
 obtain ⟨T, hT⟩ : ∃ T : ByteArray, (⟨x.text.toArray⟩ : ByteArray) = T := ⟨_, rfl⟩
 have hTl : T.data.toList = x.text := by rw [← hT]
 have hTs : T.size ≤ 100000 := by rw [← len_eq, hTl]; omega
 have HROW := hid (fun W => Row_any10 T false W (by rw [hTl]; exact hh))
 have HENT : Hid (∀ W, SomeMax W → Calls Tryz.prog 10 #[.string T] W fun e w' => ∃ (yy rr : ByteArray), True ∧ True ∧ e = .returned (.tuple #[.string yy, .string rr, .int .i64 (-1)]) ∧ Below W.heap.size W w') := hid (fun W hW => (Entry_any T W hW hTs (none) (by rw [hTl]; exact he)).mono fun e w' ⟨y, r, h1, h2, h3, h4⟩ => ⟨y, r, trivial, trivial, h3, h4⟩)
 have HRB : Hid (blkB (x :: l) = .bad x.no 3) := hid (blk_bad hh he)
 obtain ⟨I, hI⟩ : ∃ I : Nat, x.ind = I := ⟨_, rfl⟩
 obtain ⟨no, hno⟩ : ∃ no : Nat, x.no = no := ⟨_, rfl⟩
 have pz : (0 : Int) ≤ (p : Int) := by omega
 have pn : (p : Int) < (n : Int) := by omega
 have HIX := hid hI
 have HNX := hid hno
 rw [hT] at x2
 rw [hI] at x1
 rw [hno] at x0
 obtain ⟨R, hR⟩ : ∃ R, blkB (x :: l) = R := ⟨_, rfl⟩
 rw [hR] at HRB ⊢
 clear hh he hR hb0 hs0 hD0 h hx hT hTl hTs hI hno hm hi
 go_enter Tryz.func35, Tryz.ntmps35
 go_wp2
 generalize w.alloc (.cells #[.int .i64 0, .string ⟨#[]⟩, .slice none 0 0, .slice none 0 0] 26) = W1 at *
 go_region_held3 (fun W => W.cell? ⟨g, 0, none⟩ = some (.slice (some ⟨B, 0, none⟩) n cap) ∧ W.cell? ⟨g, 1, none⟩ = some (.int .i64 (p : Int)) ∧ W.cell? ⟨B, p * 3, none⟩ = some (.int .i64 (no : Int)) ∧ W.cell? ⟨B, p * 3 + 1, none⟩ = some (.int .i64 (I : Int)) ∧ W.cell? ⟨B, p * 3 + 2, none⟩ = some (.string T))
  (first | exact ⟨c0, c1, x0, x1, x2⟩ | assumption | exact ⟨cells_alloc c0, cells_alloc c1, cells_alloc x0, cells_alloc x1, cells_alloc x2⟩) (fail)
 have HX := hid (HR0.out.below (below_ad W1 (.cells #[.int .i64 (no : Int), .int .i64 (I : Int), .string T] 44)) HR0.out.lt)
 have HD2 := hid (HD0.out.go (below_ad W1 (.cells #[.int .i64 (no : Int), .int .i64 (I : Int), .string T] 44)))
 have HB2 := hid (HB0.out.trans ((below_ad W1 (.cells #[.int .i64 (no : Int), .int .i64 (I : Int), .string T] 44)).mono HB0.out.size))
 have HS2 : Hid (w.heap.size + 1 ≤ ((W1.alloc (.cells #[.int .i64 (no : Int), .int .i64 (I : Int), .string T] 44)).drew).heap.size) := hid (by rw [← HS0.out]; exact (below_ad W1 _).size)
 have HL : Hid (Row3 ((W1.alloc (.cells #[.int .i64 (no : Int), .int .i64 (I : Int), .string T] 44)).drew) W1.heap.size 44 (.int .i64 (no : Int)) (.int .i64 (I : Int)) (.string T)) := hid (Row3.make W1 _ _ _ _)
 clear c0 c1 x0 x1 x2 HR0 HD0 HB0
 generalize (W1.alloc (.cells #[.int .i64 (no : Int), .int .i64 (I : Int), .string T] 44)).drew = W2 at *
 generalize W1.heap.size = lb at *
 obtain ⟨y0, y1, y2⟩ := HL.out.cells
 go_wp2_with fail
 refine (HROW.out _).mono ?_
 rintro e w' ⟨rfl, rfl⟩
 go_wp2_with fail
 refine (HENT.out _ (HD2.out.some_max HMX.out)).mono ?_
 rintro e w3 ⟨yy, rr, -, -, rfl, hb⟩
 have HX4 := hid (HX.out.below hb HX.out.lt)
 have HL4 := hid (HL.out.below hb HL.out.lt)
 have HD4 := hid (HD2.out.go hb)
 have HB4 := hid (HB2.out.trans (hb.mono HB2.out.size))
 have HS4 : Hid (w.heap.size + 1 ≤ w3.heap.size) := hid (Nat.le_trans HS2.out hb.size)
 clear hb HX HL HD2 HB2 HS2 y0 y1 y2
 obtain ⟨y0, y1, y2⟩ := HL4.out.cells
 obtain ⟨r0, r1, r2, r3⟩ := HX4.out.cells
 obtain ⟨fr0, fr1, fr2, fr3⟩ := HX4.out.frozen
 go_wp2
 refine bodyPost_ret (v := .tuple #[.agg #[.int .i64 0, .string ⟨#[]⟩, .slice none 0 0, .slice none 0 0], .int .i64 3]) (by simp [results, Tryz.results35, go_sem, r0, r1, r2, r3]) rfl ?_
 exact out_bad HD.out (KP.of HB4.out) HD4.out (by decide) HRB.out HXX.out
theorem readBlock_map (hm : SomeMax w0) (h : RD w0 g sl n w M p) (hx : M.drop p = x :: l) {N : Nat} (im : MapOf N) (hN : 2 * big (x :: l) ≤ N) (hh : hyp x.text = false) (pr : L8 × L8) (he : entP x.text = some (some pr)) :
  Calls Tryz.prog 35 #[.pointer (some ⟨g, 0, none⟩)] w (Out w0 g sl n M p (p + 1) x.ind (blkB (x :: l)) w) := by
 have hn := h.n_le
 have hgw := h.lt
 have hpn := h.at_lt hx
 have hi := h.ind_le hx
 have hb0 : Below w.heap.size w (w.alloc (.cells #[.int .i64 0, .string ⟨#[]⟩, .slice none 0 0, .slice none 0 0] 26)) := (Below.refl _ _).alloc (Nat.le_refl _) _
 have hs0 : (w.alloc (.cells #[.int .i64 0, .string ⟨#[]⟩, .slice none 0 0, .slice none 0 0] 26)).heap.size = w.heap.size + 1 := by simp
 have hD0 := h.go hb0
 have HR0 := hid (Row4.make w 26 (.int .i64 0) (.string ⟨#[]⟩) (.slice none 0 0) (.slice none 0 0))
 have HB0 := hid hb0
 have HS0 := hid hs0
 have HD := hid h
 have HD0 := hid hD0
 have HMX := hid hm
 have HXX := hid hx
 obtain ⟨c0, c1, -⟩ := hD0.cells
 obtain ⟨B, cap, rfl, hcap, hcm, ⟨x0, x1, x2⟩, -⟩ := hD0.here hx
 obtain ⟨T, hT⟩ : ∃ T : ByteArray, (⟨x.text.toArray⟩ : ByteArray) = T := ⟨_, rfl⟩
 have hTl : T.data.toList = x.text := by rw [← hT]
 have hTs : T.size ≤ 100000 := by rw [← len_eq, hTl]; omega
 have HROW := hid (fun W => Row_any10 T false W (by rw [hTl]; exact hh))
 have HENT : Hid (∀ W, SomeMax W → Calls Tryz.prog 10 #[.string T] W fun e w' => ∃ (yy rr : ByteArray), True ∧ True ∧ e = .returned (.tuple #[.string yy, .string rr, .int .i64 (1)]) ∧ Below W.heap.size W w') := hid (fun W hW => (Entry_any T W hW hTs (some (some pr)) (by rw [hTl]; exact he)).mono fun e w' ⟨y, r, h1, h2, h3, h4⟩ => ⟨y, r, trivial, trivial, h3, h4⟩)
 have HMP := hid (fun W (hW : RD w0 g (.slice (some ⟨B, 0, none⟩) n cap) n W M p) => im w0 g _ n W M p x l hm hW hx ⟨_, _, he⟩ hN)
 rw [← blk_map hh he] at HMP
 obtain ⟨I, hI⟩ : ∃ I : Nat, x.ind = I := ⟨_, rfl⟩
 obtain ⟨no, hno⟩ : ∃ no : Nat, x.no = no := ⟨_, rfl⟩
 have pz : (0 : Int) ≤ (p : Int) := by omega
 have pn : (p : Int) < (n : Int) := by omega
 have HIX := hid hI
 have HNX := hid hno
 rw [hT] at x2
 rw [hI] at x1
 rw [hno] at x0
 rw [hI] at HMP ⊢
 obtain ⟨R, hR⟩ : ∃ R, blkB (x :: l) = R := ⟨_, rfl⟩
 rw [hR] at HMP ⊢
 clear im hN hh he hR hb0 hs0 hD0 h hx hT hTl hTs hI hno hm hi
 go_enter Tryz.func35, Tryz.ntmps35
 go_wp2
 generalize w.alloc (.cells #[.int .i64 0, .string ⟨#[]⟩, .slice none 0 0, .slice none 0 0] 26) = W1 at *
 go_region_held3 (fun W => W.cell? ⟨g, 0, none⟩ = some (.slice (some ⟨B, 0, none⟩) n cap) ∧ W.cell? ⟨g, 1, none⟩ = some (.int .i64 (p : Int)) ∧ W.cell? ⟨B, p * 3, none⟩ = some (.int .i64 (no : Int)) ∧ W.cell? ⟨B, p * 3 + 1, none⟩ = some (.int .i64 (I : Int)) ∧ W.cell? ⟨B, p * 3 + 2, none⟩ = some (.string T))
  (first | exact ⟨c0, c1, x0, x1, x2⟩ | assumption | exact ⟨cells_alloc c0, cells_alloc c1, cells_alloc x0, cells_alloc x1, cells_alloc x2⟩) (fail)
 have HX := hid (HR0.out.below (below_ad W1 (.cells #[.int .i64 (no : Int), .int .i64 (I : Int), .string T] 44)) HR0.out.lt)
 have HD2 := hid (HD0.out.go (below_ad W1 (.cells #[.int .i64 (no : Int), .int .i64 (I : Int), .string T] 44)))
 have HB2 := hid (HB0.out.trans ((below_ad W1 (.cells #[.int .i64 (no : Int), .int .i64 (I : Int), .string T] 44)).mono HB0.out.size))
 have HS2 : Hid (w.heap.size + 1 ≤ ((W1.alloc (.cells #[.int .i64 (no : Int), .int .i64 (I : Int), .string T] 44)).drew).heap.size) := hid (by rw [← HS0.out]; exact (below_ad W1 _).size)
 have HL : Hid (Row3 ((W1.alloc (.cells #[.int .i64 (no : Int), .int .i64 (I : Int), .string T] 44)).drew) W1.heap.size 44 (.int .i64 (no : Int)) (.int .i64 (I : Int)) (.string T)) := hid (Row3.make W1 _ _ _ _)
 clear c0 c1 x0 x1 x2 HR0 HD0 HB0
 generalize (W1.alloc (.cells #[.int .i64 (no : Int), .int .i64 (I : Int), .string T] 44)).drew = W2 at *
 generalize W1.heap.size = lb at *
 obtain ⟨y0, y1, y2⟩ := HL.out.cells
 go_wp2_with fail
 refine (HROW.out _).mono ?_
 rintro e w' ⟨rfl, rfl⟩
 go_wp2_with fail
 refine (HENT.out _ (HD2.out.some_max HMX.out)).mono ?_
 rintro e w3 ⟨yy, rr, -, -, rfl, hb⟩
 have HX4 := hid (HX.out.below hb HX.out.lt)
 have HL4 := hid (HL.out.below hb HL.out.lt)
 have HD4 := hid (HD2.out.go hb)
 have HB4 := hid (HB2.out.trans (hb.mono HB2.out.size))
 have HS4 : Hid (w.heap.size + 1 ≤ w3.heap.size) := hid (Nat.le_trans HS2.out hb.size)
 clear hb HX HL HD2 HB2 HS2 y0 y1 y2
 obtain ⟨y0, y1, y2⟩ := HL4.out.cells
 go_wp2_with fail
 refine (HMP.out _ HD4.out).mono ?_
 rintro e w5 ⟨k, t, a, i, cc, A, m, q, E, rfl, hk, hc⟩
 have HX3 := hid (HD.out.row4 hk (Nat.le_refl _) HX4.out)
 have HK3 := hid hk
 have HC := hid hc
 clear hk hc
 obtain ⟨r0, r1, r2, r3⟩ := HX3.out.cells
 obtain ⟨fr0, fr1, fr2, fr3⟩ := HX3.out.frozen
 go_wp2
 refine bodyPost_ret (v := .tuple #[.agg #[.int .i64 k, .string t, .slice a i cc, .slice A m q], .int .i64 E]) (by simp [results, Tryz.results35, go_sem, r0, r1, r2, r3]) rfl ?_
 exact out_on HD.out (KP.of HB4.out) HS4.out HK3.out HC.out
theorem readBlock_val (hm : SomeMax w0) (h : RD w0 g sl n w M p) (hx : M.drop p = x :: l) (hh : hyp x.text = false) (he : entP x.text = some none) :
  Calls Tryz.prog 35 #[.pointer (some ⟨g, 0, none⟩)] w (Out w0 g sl n M p (p + 1) x.ind (blkB (x :: l)) w) := by
 have hn := h.n_le
 have hgw := h.lt
 have hpn := h.at_lt hx
 have hi := h.ind_le hx
 have hb0 : Below w.heap.size w (w.alloc (.cells #[.int .i64 0, .string ⟨#[]⟩, .slice none 0 0, .slice none 0 0] 26)) := (Below.refl _ _).alloc (Nat.le_refl _) _
 have hs0 : (w.alloc (.cells #[.int .i64 0, .string ⟨#[]⟩, .slice none 0 0, .slice none 0 0] 26)).heap.size = w.heap.size + 1 := by simp
 have hD0 := h.go hb0
 have HR0 := hid (Row4.make w 26 (.int .i64 0) (.string ⟨#[]⟩) (.slice none 0 0) (.slice none 0 0))
 have HB0 := hid hb0
 have HS0 := hid hs0
 have HD := hid h
 have HD0 := hid hD0
 have HMX := hid hm
 have HXX := hid hx
 obtain ⟨c0, c1, -⟩ := hD0.cells
 obtain ⟨B, cap, rfl, hcap, hcm, ⟨x0, x1, x2⟩, -⟩ := hD0.here hx
 obtain ⟨T, hT⟩ : ∃ T : ByteArray, (⟨x.text.toArray⟩ : ByteArray) = T := ⟨_, rfl⟩
 have hTl : T.data.toList = x.text := by rw [← hT]
 have hTs : T.size ≤ 100000 := by rw [← len_eq, hTl]; omega
 have HROW := hid (fun W => Row_any10 T false W (by rw [hTl]; exact hh))
 have HENT : Hid (∀ W, SomeMax W → Calls Tryz.prog 10 #[.string T] W fun e w' => ∃ (yy rr : ByteArray), True ∧ True ∧ e = .returned (.tuple #[.string yy, .string rr, .int .i64 (0)]) ∧ Below W.heap.size W w') := hid (fun W hW => (Entry_any T W hW hTs (some none) (by rw [hTl]; exact he)).mono fun e w' ⟨y, r, h1, h2, h3, h4⟩ => ⟨y, r, trivial, trivial, h3, h4⟩)
 have HVL : Hid (∀ W, RD w0 g (.slice (some ⟨B, 0, none⟩) n cap) n W M p → Calls Tryz.prog 60 #[.pointer (some ⟨g, 0, none⟩), .string T] W (Out w0 g (.slice (some ⟨B, 0, none⟩) n cap) n M p (p + 1) x.ind (blkB (x :: l)) W)) := hid fun W hW => readValue_any hW hx T (by omega) (by rw [blk_val hh he, hTl])
 obtain ⟨I, hI⟩ : ∃ I : Nat, x.ind = I := ⟨_, rfl⟩
 obtain ⟨no, hno⟩ : ∃ no : Nat, x.no = no := ⟨_, rfl⟩
 have pz : (0 : Int) ≤ (p : Int) := by omega
 have pn : (p : Int) < (n : Int) := by omega
 have HIX := hid hI
 have HNX := hid hno
 rw [hT] at x2
 rw [hI] at x1
 rw [hno] at x0
 rw [hI] at HVL ⊢
 obtain ⟨R, hR⟩ : ∃ R, blkB (x :: l) = R := ⟨_, rfl⟩
 rw [hR] at HVL ⊢
 clear hh he hR hb0 hs0 hD0 h hx hT hTl hTs hI hno hm hi
 go_enter Tryz.func35, Tryz.ntmps35
 go_wp2
 generalize w.alloc (.cells #[.int .i64 0, .string ⟨#[]⟩, .slice none 0 0, .slice none 0 0] 26) = W1 at *
 go_region_held3 (fun W => W.cell? ⟨g, 0, none⟩ = some (.slice (some ⟨B, 0, none⟩) n cap) ∧ W.cell? ⟨g, 1, none⟩ = some (.int .i64 (p : Int)) ∧ W.cell? ⟨B, p * 3, none⟩ = some (.int .i64 (no : Int)) ∧ W.cell? ⟨B, p * 3 + 1, none⟩ = some (.int .i64 (I : Int)) ∧ W.cell? ⟨B, p * 3 + 2, none⟩ = some (.string T))
  (first | exact ⟨c0, c1, x0, x1, x2⟩ | assumption | exact ⟨cells_alloc c0, cells_alloc c1, cells_alloc x0, cells_alloc x1, cells_alloc x2⟩) (fail)
 have HX := hid (HR0.out.below (below_ad W1 (.cells #[.int .i64 (no : Int), .int .i64 (I : Int), .string T] 44)) HR0.out.lt)
 have HD2 := hid (HD0.out.go (below_ad W1 (.cells #[.int .i64 (no : Int), .int .i64 (I : Int), .string T] 44)))
 have HB2 := hid (HB0.out.trans ((below_ad W1 (.cells #[.int .i64 (no : Int), .int .i64 (I : Int), .string T] 44)).mono HB0.out.size))
 have HS2 : Hid (w.heap.size + 1 ≤ ((W1.alloc (.cells #[.int .i64 (no : Int), .int .i64 (I : Int), .string T] 44)).drew).heap.size) := hid (by rw [← HS0.out]; exact (below_ad W1 _).size)
 have HL : Hid (Row3 ((W1.alloc (.cells #[.int .i64 (no : Int), .int .i64 (I : Int), .string T] 44)).drew) W1.heap.size 44 (.int .i64 (no : Int)) (.int .i64 (I : Int)) (.string T)) := hid (Row3.make W1 _ _ _ _)
 clear c0 c1 x0 x1 x2 HR0 HD0 HB0
 generalize (W1.alloc (.cells #[.int .i64 (no : Int), .int .i64 (I : Int), .string T] 44)).drew = W2 at *
 generalize W1.heap.size = lb at *
 obtain ⟨y0, y1, y2⟩ := HL.out.cells
 go_wp2_with fail
 refine (HROW.out _).mono ?_
 rintro e w' ⟨rfl, rfl⟩
 go_wp2_with fail
 refine (HENT.out _ (HD2.out.some_max HMX.out)).mono ?_
 rintro e w3 ⟨yy, rr, -, -, rfl, hb⟩
 have HX4 := hid (HX.out.below hb HX.out.lt)
 have HL4 := hid (HL.out.below hb HL.out.lt)
 have HD4 := hid (HD2.out.go hb)
 have HB4 := hid (HB2.out.trans (hb.mono HB2.out.size))
 have HS4 : Hid (w.heap.size + 1 ≤ w3.heap.size) := hid (Nat.le_trans HS2.out hb.size)
 clear hb HX HL HD2 HB2 HS2 y0 y1 y2
 obtain ⟨y0, y1, y2⟩ := HL4.out.cells
 go_wp2_with fail
 refine (HVL.out _ HD4.out).mono ?_
 rintro e w5 ⟨k, t, a, i, cc, A, m, q, E, rfl, hk, hc⟩
 have HX3 := hid (HD.out.row4 hk (Nat.le_refl _) HX4.out)
 have HK3 := hid hk
 have HC := hid hc
 clear hk hc
 obtain ⟨r0, r1, r2, r3⟩ := HX3.out.cells
 obtain ⟨fr0, fr1, fr2, fr3⟩ := HX3.out.frozen
 go_wp2
 refine bodyPost_ret (v := .tuple #[.agg #[.int .i64 k, .string t, .slice a i cc, .slice A m q], .int .i64 E]) (by simp [results, Tryz.results35, go_sem, r0, r1, r2, r3]) rfl ?_
 exact out_on HD.out (KP.of HB4.out) HS4.out HK3.out HC.out
theorem readBlock_any {N : Nat} (is : SeqOf N) (im : MapOf N) (hm : SomeMax w0) (h : RD w0 g sl n w M p) (hx : M.drop p = x :: l) (hN : 2 * big (x :: l) ≤ N) :
  Calls Tryz.prog 35 #[.pointer (some ⟨g, 0, none⟩)] w (Out w0 g sl n M p (p + 1) x.ind (blkB (x :: l)) w) := by
 cases hh : hyp x.text with
 | true => exact readBlock_seq hm h hx is hN hh
 | false =>
  cases he : entP x.text with
  | none => exact readBlock_bad hm h hx hh he
  | some o =>
   cases o with
   | none => exact readBlock_val hm h hx hh he
   | some pr => exact readBlock_map hm h hx im hN hh pr he
end
end
end Go.Proofs.YtecglpocmhkkiaaGreatDoor
