/- FloRd11, FloPrs -/
import Derived.Test.YtecglpocmhkkiaaGreatDoorST3
import Derived.Test.YtecglpocmhkkiaaGreatDoorST30
import Derived.Test.YtecglpocmhkkiaaGreatDoorST31
set_option linter.unusedVariables false
set_option linter.unusedSimpArgs false
set_option maxRecDepth 100000
set_option maxHeartbeats 16000000
open Go.Lib (hid)
namespace Go.Proofs.YtecglpocmhkkiaaGreatDoor
section
open Go.RowKit Go.Sort
open Nw N8 Q6 F9 Go.ChangeShapes Go.WideShapes
theorem wp_scope_at {P : Program} {a : Act} {w : World} {Q : Exit → Act → World → Prop} {T : Code} (l : Nat) (J : Act → World → Prop) (μ : Act → World → Nat) (h0 : J a w)
  (pass : ∀ a w, J a w → ∀ K : Act → World → Prop, (∀ a' w', J a' w' → μ a' w' < μ a w → K a' w') → T.wp P (Exit.jump l K Q) a w) :
  (Code.scope (.seq (.label l) T)).wp P Q a w := by
 refine wp_scope_jumps (rest := .seq .skip T) l J μ ?_ ?_ ?_
 ·simp [findLabel]
 ·exact wp_seq (wp_label (pass a w h0 J fun a' w' h _ => h))
 ·intro a w hJ
  exact wp_seq (wp_skip (pass a w hJ _ fun a' w' h1 h2 => ⟨h1, h2⟩))
def RJ (b0 g N : Nat) (P : Option Nd) (w0 : World) (a : Act) (w : World) : Prop :=
 ∃ (r : ByteArray) (f : Fr) (S : List Fr) (u2 u3 u4 u5 u6 u7 u8 u9 u10 u11 u12 u13 u14 u15 u16 u17 u18 u19 u20 u21 u22 u23 u24 u25 : Value), a = { tmps := #[.pointer (some ⟨g, 0, none⟩), undef, u2, u3, u4, u5, u6, u7, u8, u9, u10, u11, u12, u13, u14, u15, u16, u17, u18, u19, u20, u21, u22, u23, u24, u25], defers := [] } ∧ ST elm b0 g N N P w r f S ∧ Below b0 w0 w
def Rm (g : Nat) (_ : Act) (w : World) : Nat := match w.cell? ⟨g, 0, none⟩ with | some (.string s) => s.size | _ => 0
theorem rm_of {φ : Fr → List Fr → L8 → Option Nd} {b0 g N M : Nat} {P : Option Nd} {w : World} {r : ByteArray} {f : Fr} {S : List Fr} (h : ST φ b0 g N M P w r f S) (a : Act) : Rm g a w = r.size := by
 obtain ⟨B, m, n, cap, lo, q, qs, hR, hH⟩ := h
 unfold Rm
 rw [hR.cells.1.1]
theorem readAll_st {b0 g N : Nat} {w : World} {r : ByteArray} {f : Fr} {S : List Fr} {P : Option Nd} (h : ST elm b0 g N N P w r f S) (hN : N ≤ 900000) :
  Calls Tryz.prog 133 #[.pointer (some ⟨g, 0, none⟩)] w fun e w' => Below b0 w w' ∧ ((e = .returned (.bool true) ∧ Rdy b0 g P w') ∨ (e = .returned (.bool false) ∧ P = none)) := by
 have HST0 := hid h
 clear h
 go_enter Tryz.func133, Tryz.ntmps133
 go_wp2
 refine wp_scope_at 0 (RJ b0 g N P w) (Rm g) ?first ?pass
 case first => exact ⟨r, f, S, _, _, _, _, _, _, _, _, _, _, _, _, _, _, _, _, _, _, _, _, _, _, _, _, rfl, HST0.out, Below.refl _ _⟩
 case pass =>
  clear HST0
  intro a wr hJ K hK
  obtain ⟨r1, f1, S1, u2, u3, u4, u5, u6, u7, u8, u9, u10, u11, u12, u13, u14, u15, u16, u17, u18, u19, u20, u21, u22, u23, u24, u25, rfl, hst, hbel⟩ := hJ
  have HB := hid hbel
  have HK := hid hK
  have HM := hid (fun a => rm_of hst a)
  have HKEY := hid (readKey_st hst hN)
  clear hbel hK hst
  go_wp2_with fail
  refine HKEY.out.mono ?_
  rintro e W1 (⟨rfl, hP, hb⟩ | ⟨rfl, hb, r2, f2, hst, hs2⟩)
  ·have HP := hid hP
   have HB1 := hid (HB.out.trans hb)
   clear hP hb HB HKEY
   go_wp2
   try simp only [Exit.jump]
   go_ret
   exact ⟨HB1.out, .inr ⟨rfl, HP.out⟩⟩
  have HB1 := hid (HB.out.trans hb)
  have HBEG := hid (begin_st hst hN)
  clear hb hst HB HKEY
  go_wp2_with fail
  refine HBEG.out.mono ?_
  rintro e W2 (⟨rfl, hb, r3, f3, hst, hs3⟩ | ⟨rfl, hb, r3, hst, hs3, h91, h123⟩)
  ·have HB2 := hid (HB1.out.trans hb)
   have HEND := hid (isEnding_st hst)
   clear hb hst HB1 HBEG
   go_wp2_with fail
   refine HEND.out.mono ?_
   rintro e W3 ⟨hb, r4, hs4, (⟨rfl, hst⟩ | ⟨rfl, hst⟩)⟩
   ·have HB3 := hid (HB2.out.trans hb)
    have HALL := hid (endAll_st hst hN (fun e => by cases e))
    have hs34 : r4.size ≤ r1.size := by omega
    clear hb hst HB2 HEND
    go_wp2_with fail
    refine HALL.out.mono ?_
    rintro e W4 ⟨rfl, hb, r5, f5, S5, hst, hful, hs5, hstop⟩
    have HB4 := hid (HB3.out.trans hb)
    clear hb HB3 HALL
    obtain ⟨B, m, n, cap, lo, q, qs, hR, hH⟩ := id hst
    have c1 := hR.cells.1.2
    cases S5 with
    | nil =>
     have hn1 : n = 1 := by
      have h1 := hR.nums
      have h2 : ([] : List Fr).length = 0 := rfl
      omega
     have HD := hid (isDone_st hst (hful rfl))
     subst hn1
     clear hR hH hst hful hstop
     go_wp2_with fail
     refine HD.out.mono ?_
     rintro e W5 ⟨hb, (⟨rfl, hr⟩ | ⟨rfl, hP⟩)⟩
     ·have HR := hid hr
      have HB5 := hid (HB4.out.trans hb)
      clear hr hb HD HB4 c1
      go_wp2
      try simp only [Exit.jump]
      go_ret
      exact ⟨HB5.out, .inl ⟨rfl, HR.out⟩⟩
     ·have HP := hid hP
      have HB5 := hid (HB4.out.trans hb)
      clear hP hb HD HB4 c1
      go_wp2
      try simp only [Exit.jump]
      go_ret
      exact ⟨HB5.out, .inr ⟨rfl, HP.out⟩⟩
    | cons g5 T5 =>
     have hn1 : ((n : Int) == 1) = false := by
      have h1 := hR.nums
      rw [List.length_cons] at h1
      exact beq_eq_false_iff_ne.2 (by omega)
     have HT := hid (take_st hst hN (hstop (fun e => by cases e)))
     clear hR hH hst hful hstop
     go_wp2_with fail
     refine HT.out.mono ?_
     rintro e W5 ⟨hb, (⟨rfl, r6, hst, hs6⟩ | ⟨rfl, hP⟩)⟩
     ·have HST5 := hid hst
      have HB5 := hid (HB4.out.trans hb)
      clear hst hb HT HB4 c1
      go_wp2
      go_step3
      refine ⟨rfl, HK.out _ _ ⟨r6, f5, _, _, _, _, _, _, _, _, _, _, _, _, _, _, _, _, _, _, _, _, _, _, _, _, _, rfl, HST5.out, HB5.out⟩ ?_⟩
      rw [rm_of HST5.out, HM.out]
      omega
     ·have HP := hid hP
      have HB5 := hid (HB4.out.trans hb)
      clear hP hb HT HB4 c1
      go_wp2
      try simp only [Exit.jump]
      go_ret
      exact ⟨HB5.out, .inr ⟨rfl, HP.out⟩⟩
   ·have HB3 := hid (HB2.out.trans hb)
    have HST3 := hid hst
    clear hb hst HB2 HEND
    go_wp2
    go_step3
    refine ⟨rfl, HK.out _ _ ⟨r4, f3, _, _, _, _, _, _, _, _, _, _, _, _, _, _, _, _, _, _, _, _, _, _, _, _, _, rfl, HST3.out, HB3.out⟩ ?_⟩
    rw [rm_of HST3.out, HM.out]
    omega
  ·have HB2 := hid (HB1.out.trans hb)
   have HSC := hid (readScalar_st hst hN h91 h123)
   clear hb hst HB1 HBEG h91 h123
   go_wp2_with fail
   refine HSC.out.mono ?_
   rintro e W3 (⟨rfl, hP, hb⟩ | ⟨rfl, hb, r4, f4, hst, hne, hs4⟩)
   ·have HP := hid hP
    have HB3 := hid (HB2.out.trans hb)
    clear hP hb HB2 HSC
    go_wp2
    try simp only [Exit.jump]
    go_ret
    exact ⟨HB3.out, .inr ⟨rfl, HP.out⟩⟩
   ·have HB3 := hid (HB2.out.trans hb)
    have HALL := hid (endAll_st hst hN (fun _ => hne))
    have hs34 : r4.size ≤ r1.size := by omega
    clear hb hst HB2 HSC hne
    go_wp2_with fail
    refine HALL.out.mono ?_
    rintro e W4 ⟨rfl, hb, r5, f5, S5, hst, hful, hs5, hstop⟩
    have HB4 := hid (HB3.out.trans hb)
    clear hb HB3 HALL
    obtain ⟨B, m, n, cap, lo, q, qs, hR, hH⟩ := id hst
    have c1 := hR.cells.1.2
    cases S5 with
    | nil =>
     have hn1 : n = 1 := by
      have h1 := hR.nums
      have h2 : ([] : List Fr).length = 0 := rfl
      omega
     have HD := hid (isDone_st hst (hful rfl))
     subst hn1
     clear hR hH hst hful hstop
     go_wp2_with fail
     refine HD.out.mono ?_
     rintro e W5 ⟨hb, (⟨rfl, hr⟩ | ⟨rfl, hP⟩)⟩
     ·have HR := hid hr
      have HB5 := hid (HB4.out.trans hb)
      clear hr hb HD HB4 c1
      go_wp2
      try simp only [Exit.jump]
      go_ret
      exact ⟨HB5.out, .inl ⟨rfl, HR.out⟩⟩
     ·have HP := hid hP
      have HB5 := hid (HB4.out.trans hb)
      clear hP hb HD HB4 c1
      go_wp2
      try simp only [Exit.jump]
      go_ret
      exact ⟨HB5.out, .inr ⟨rfl, HP.out⟩⟩
    | cons g5 T5 =>
     have hn1 : ((n : Int) == 1) = false := by
      have h1 := hR.nums
      rw [List.length_cons] at h1
      exact beq_eq_false_iff_ne.2 (by omega)
     have HT := hid (take_st hst hN (hstop (fun e => by cases e)))
     clear hR hH hst hful hstop
     go_wp2_with fail
     refine HT.out.mono ?_
     rintro e W5 ⟨hb, (⟨rfl, r6, hst, hs6⟩ | ⟨rfl, hP⟩)⟩
     ·have HST5 := hid hst
      have HB5 := hid (HB4.out.trans hb)
      clear hst hb HT HB4 c1
      go_wp2
      go_step3
      refine ⟨rfl, HK.out _ _ ⟨r6, f5, _, _, _, _, _, _, _, _, _, _, _, _, _, _, _, _, _, _, _, _, _, _, _, _, _, rfl, HST5.out, HB5.out⟩ ?_⟩
      rw [rm_of HST5.out, HM.out]
      omega
     ·have HP := hid hP
      have HB5 := hid (HB4.out.trans hb)
      clear hP hb HT HB4 c1
      go_wp2
      try simp only [Exit.jump]
      go_ret
      exact ⟨HB5.out, .inr ⟨rfl, HP.out⟩⟩
end
section
open Go.RowKit Go.Sort
open Nw N8 Q6 F9 Go.ChangeShapes Go.WideShapes
def ParseC : Prop := ∀ (s : ByteArray) (w : World), s.size ≤ 500000 → ∀ (P : Option Nd), parP s.data.toList = P →
  Calls Tryz.prog 115 #[.string s] w fun e w' => ∃ (k : Int) (t : ByteArray) (a : Option Addr) (n c : Nat) (A : Option Addr) (m q : Nat),
   e = .returned (.tuple #[.agg #[.int .i64 k, .string t, .slice a n c, .slice A m q], .int .i64 (parE P)]) ∧ NdC (fun b => w.heap.size ≤ b ∧ b < w'.heap.size) w' (parD P) (.int .i64 k) (.string t) (.slice a n c) (.slice A m q) ∧ Below w.heap.size w w'
theorem make_one (W : World) : (Instr.makeSlice 24 (.int .i64 1) (.int .i64 1)).run Tryz.prog W = .ok (.slice (some ⟨W.heap.size, 0, none⟩) 1 1) (W.alloc (.cells #[.int .i64 0, .string ⟨#[]⟩, .slice none 0 0, .slice none 0 0] 26)) := by kernel_rfl
theorem start_st (s : ByteArray) (w : World) (P : Option Nd) (hP : parP s.data.toList = P) :
  ST elm (w.heap.size + 1) (w.heap.size + 1 + 1) s.size s.size P (((w.alloc (.cells #[.int .i64 0, .string ⟨#[]⟩, .slice none 0 0, .slice none 0 0] 26)).alloc (.cells #[.int .i64 0, .string ⟨#[]⟩, .slice none 0 0, .slice none 0 0] 26)).alloc (.cells #[.string s, .slice (some ⟨w.heap.size + 1, 0, none⟩) 1 1] 127)) s ⟨0, [], []⟩ [] := by
 subst hP
 obtain ⟨W1, h1⟩ : ∃ W1, w.alloc (.cells #[.int .i64 0, .string ⟨#[]⟩, .slice none 0 0, .slice none 0 0] 26) = W1 := ⟨_, rfl⟩
 have s1 : W1.heap.size = w.heap.size + 1 := by rw [← h1]; simp
 rw [h1]
 obtain ⟨W2, h2⟩ : ∃ W2, W1.alloc (.cells #[.int .i64 0, .string ⟨#[]⟩, .slice none 0 0, .slice none 0 0] 26) = W2 := ⟨_, rfl⟩
 have s2 : W2.heap.size = w.heap.size + 1 + 1 := by rw [← h2]; simp [s1]
 have b2 : W2.heap[w.heap.size + 1]? = some (.cells #[.int .i64 0, .string ⟨#[]⟩, .slice none 0 0, .slice none 0 0] 26 (0, 0)) := by
  rw [← h2, ← s1]; exact Row4.make W1 _ _ _ _ _
 rw [h2]
 obtain ⟨W3, h3⟩ : ∃ W3, W2.alloc (.cells #[.string s, .slice (some ⟨w.heap.size + 1, 0, none⟩) 1 1] 127) = W3 := ⟨_, rfl⟩
 have s3 : W3.heap.size = w.heap.size + 1 + 1 + 1 := by rw [← h3]; simp [s2]
 have b3 : W3.heap[w.heap.size + 1]? = some (.cells #[.int .i64 0, .string ⟨#[]⟩, .slice none 0 0, .slice none 0 0] 26 (0, 0)) := by
  rw [← h3]; exact (Below.heap_alloc W2 _ _ (by omega)).trans b2
 have c3 : W3.heap[w.heap.size + 1 + 1]? = some (.cells #[.string s, .slice (some ⟨w.heap.size + 1, 0, none⟩) 1 1] 127 (0, 0)) := by
  rw [← h3, ← s2]
  show (W2.heap.push _)[W2.heap.size]? = _
  simp
 rw [h3]
 refine ⟨w.heap.size + 1, 0, 1, 1, w.heap.size + 1 + 1 + 1, ⟨.int .i64 0, .string ⟨#[]⟩, .slice none 0 0, .slice none 0 0⟩, [], ⟨⟨by omega, rfl, rfl, by omega⟩, c3, ⟨rfl, .inr ⟨_, _, _, rfl, Nat.le_refl _, b3, Nat.le_refl _, by unfold maxLen; omega, rfl, rfl⟩⟩, ?_, Nat.le_refl _⟩, hld_start _⟩
 exact ⟨⟨rfl, rfl⟩, World.ownsRow_nil _ _ _ _, ⟨[], World.ownsRow_nil _ _ _ _, rfl, fun j hj => absurd hj (Nat.not_lt_zero _)⟩, fun b hb' => (by cases hb'), fun b hb' => (by cases hb')⟩
theorem rdy_at {b0 g : Nat} {P : Option Nd} {W : World} (h : Rdy b0 g P W) : ∃ (B c1 : Nat) (A : Option Addr) (n c b o : Nat) (k : Int) (t : ByteArray) (a2 : Option Addr) (n2 c2 : Nat) (A2 : Option Addr) (m2 q2 : Nat) (d : Nd),
  W.cell? ⟨g, 1, none⟩ = some (.slice (some ⟨B, 0, none⟩) 1 c1) ∧ W.cell? ⟨B, 3, none⟩ = some (.slice A n c) ∧ 0 < n ∧ A = some ⟨b, o, none⟩ ∧ W.cell? ⟨b, o, none⟩ = some (.int .i64 k) ∧ W.cell? ⟨b, o + 1, none⟩ = some (.string t) ∧
   W.cell? ⟨b, o + 2, none⟩ = some (.slice a2 n2 c2) ∧ W.cell? ⟨b, o + 3, none⟩ = some (.slice A2 m2 q2) ∧ NdC (fun b => g < b ∧ b < W.heap.size) W d (.int .i64 k) (.string t) (.slice a2 n2 c2) (.slice A2 m2 q2) ∧ P = some d := by
 obtain ⟨B, m, n, cap, lo, r, q, qs, f, hR, d, ds, hds, hP⟩ := h
 have hn := hR.nums
 have h0 : ([] : List Fr).length = 0 := rfl
 obtain rfl : m = 0 := by omega
 obtain rfl : n = 1 := by omega
 have c1 := hR.cells.1.2
 have t3 := hR.top.1.2.2.2
 rw [Nat.zero_mul, Nat.zero_add] at t3
 obtain ⟨-, A, c, hqd⟩ := hR.shapes
 obtain ⟨-, -, ⟨ps, hko⟩, -, h6⟩ := hR.2.2.2.1
 have hlo := hR.lt.2.2.2
 have hk : KdS (fun b => g < b ∧ b < W.heap.size) W q.d f.ds := hko.kdS (fun b hb => ⟨by have := hb.1; omega, hb.2.1⟩) fun b hb => ⟨by have := (hko.1.lt b hb).1; omega, (h6 b hb).1⟩
 rw [hqd] at hk t3
 obtain ⟨b, o, e0, e1, e2, e3, hA, -, y0, y1, y2, y3, hN⟩ := hk.kid 0 (by rw [hds]; exact Nat.succ_pos _)
 obtain ⟨k, t, a2, n2, c2, A2, m2, q2, rfl, rfl, rfl, rfl⟩ := hN.cellsOk
 rw [Nat.zero_mul, Nat.add_zero] at y0 y1 y2 y3
 have hd0 : f.ds[0]'(by rw [hds]; exact Nat.succ_pos _) = d := by simp [hds]
 rw [hd0] at hN
 exact ⟨B, cap, A, f.ds.length, c, b, o, k, t, a2, n2, c2, A2, m2, q2, d, c1, t3, by rw [hds]; exact Nat.succ_pos _, hA, y0, y1, y2, y3, hN, hP⟩
theorem parse_c : ParseC := by
 intro s w hs P hP
 have hmk := make_one
 have hst := start_st s w P hP
 have hfine : ∀ d, P = some d → Fine d := fun d hd => (par_got (by rw [hP, hd])).1
 have HRA := hid (readAll_st hst (by omega))
 have HBX := hid (Row4.make w 26 (.int .i64 0) (.string ⟨#[]⟩) (.slice none 0 0) (.slice none 0 0))
 have HB0 := hid ((((Below.refl w.heap.size w).alloc (Nat.le_refl _) (.cells #[.int .i64 0, .string ⟨#[]⟩, .slice none 0 0, .slice none 0 0] 26)).alloc (by simp) (.cells #[.int .i64 0, .string ⟨#[]⟩, .slice none 0 0, .slice none 0 0] 26)).alloc (by simp; omega) (.cells #[.string s, .slice (some ⟨w.heap.size + 1, 0, none⟩) 1 1] 127))
 have HB1 := hid ((HBX.out.alloc (.cells #[.int .i64 0, .string ⟨#[]⟩, .slice none 0 0, .slice none 0 0] 26)).alloc (.cells #[.string s, .slice (some ⟨w.heap.size + 1, 0, none⟩) 1 1] 127))
 have HFINE := hid hfine
 clear hs hP hst hfine HBX
 go_enter Tryz.func115, Tryz.ntmps115
 go_upto_region 2 with fail
 generalize ((w.alloc (.cells #[.int .i64 0, .string ⟨#[]⟩, .slice none 0 0, .slice none 0 0] 26)).alloc (.cells #[.int .i64 0, .string ⟨#[]⟩, .slice none 0 0, .slice none 0 0] 26)).alloc (.cells #[.string s, .slice (some ⟨w.heap.size + 1, 0, none⟩) 1 1] 127) = W3 at *
 clear hmk
 go_wp2_with fail
 refine HRA.out.mono ?_
 rintro e W4 ⟨hb, (⟨rfl, hr⟩ | ⟨rfl, hP⟩)⟩
 ·have HB4 := hid (HB0.out.trans (hb.mono (by omega)))
  have HX4 := hid (HB1.out.below hb (by omega))
  obtain ⟨B, cc, A, nn, cN, b, o, k, t, a2, n2, c2, A2, m2, q2, d, g1, g3, hn0, rfl, y0, y1, y2, y3, hN, hP⟩ := rdy_at hr
  have hn0z : (0 : Int) < (nn : Int) := by omega
  have hb5 : Below W4.heap.size W4 (W4.alloc (.cells #[.int .i64 k, .string t, .slice a2 n2 c2, .slice A2 m2 q2] 26)) := (Below.refl _ _).alloc (Nat.le_refl _) _
  have hN5 : NdC (fun b => w.heap.size + 1 + 1 < b ∧ b < (W4.alloc (.cells #[.int .i64 k, .string t, .slice a2 n2 c2, .slice A2 m2 q2] 26)).heap.size) (W4.alloc (.cells #[.int .i64 k, .string t, .slice a2 n2 c2, .slice A2 m2 q2] 26)) d (.int .i64 k) (.string t) (.slice a2 n2 c2) (.slice A2 m2 q2) := NdC.keep (fun b hx => ⟨⟨hx.1, Nat.lt_of_lt_of_le hx.2 hb5.size⟩, hb5.block b hx.2⟩) _ hN
  have hNW : NdW (W4.alloc (.cells #[.int .i64 k, .string t, .slice a2 n2 c2, .slice A2 m2 q2] 26)) d (.int .i64 k) (.string t) (.slice a2 n2 c2) (.slice A2 m2 q2) := NdC.keep (fun b hx => ⟨hx.2, rfl⟩) _ hN5
  obtain ⟨ok, hok⟩ : ∃ ok, okT 2000 d = ok := ⟨_, rfl⟩
  have HRI := hid (Right_gen d (HFINE.out d hP) ok hok _ _ _ _ _ hNW)
  have HN5 := hid hN5
  have HX5 := hid (HX4.out.below hb5 HX4.out.lt)
  have HB5 := hid (HB4.out.trans (hb5.mono HB4.out.size))
  have HY5 := hid (Row4.make W4 26 (.int .i64 k) (.string t) (.slice a2 n2 c2) (.slice A2 m2 q2))
  have HP := hid hP
  have hHW : w.heap.size ≠ W4.heap.size := by have := HX4.out.lt; omega
  clear hP hb HB0 HB1 HRA HFINE hr hn0 hN hb5 hN5 hNW HX4 HB4
  go_upto_region 5 with fail
  generalize W4.alloc (.cells #[.int .i64 k, .string t, .slice a2 n2 c2, .slice A2 m2 q2] 26) = W5 at *
  generalize W4.heap.size = gx at *
  clear g1 g3 y0 y1 y2 y3
  obtain ⟨z0, z1, z2, z3⟩ := HY5.out.cells
  go_wp2_with fail
  refine HRI.out.mono ?_
  rintro e W6 ⟨rfl, hb6⟩
  have HX6 := hid (HX5.out.below hb6 HX5.out.lt)
  have HY6 := hid (HY5.out.below hb6 HY5.out.lt)
  have HB6 := hid (HB5.out.trans (hb6.mono HB5.out.size))
  have HN6 := hid (show NdC (fun b => w.heap.size < b ∧ b < W6.heap.size) W6 d (.int .i64 k) (.string t) (.slice a2 n2 c2) (.slice A2 m2 q2) from NdC.keep (fun b hx => ⟨⟨by have := hx.1; omega, Nat.lt_of_lt_of_le hx.2 hb6.size⟩, hb6.block b hx.2⟩) _ HN5.out)
  clear hb6 HX5 HY5 HB5 HN5 HRI z0 z1 z2 z3
  obtain ⟨r0, r1, r2, r3⟩ := HX6.out.cells
  obtain ⟨fr0, fr1, fr2, fr3⟩ := HX6.out.frozen
  cases ok with
  | true =>
   have HE := hid (par_yes hok)
   rw [← HP.out] at HE
   obtain ⟨z0, z1, z2, z3⟩ := HY6.out.cells
   clear hok HY6 HX6
   go_wp2
   refine bodyPost_ret (v := .tuple #[.agg #[.int .i64 k, .string t, .slice a2 n2 c2, .slice A2 m2 q2], .int .i64 0]) (by simp [results, Tryz.results115, go_sem, r0, r1, r2, r3]) rfl
    ⟨k, t, a2, n2, c2, A2, m2, q2, by rw [HE.out.1], ?_, below_p4 HB6.out (Nat.le_refl _) _ _ _ _⟩
   rw [← HE.out.2]
   exact NdC.keep (fun b hx => ⟨⟨Nat.le_of_lt hx.1, by simp [World.setCell]; exact hx.2⟩, by
    have hne : b ≠ w.heap.size := by have := hx.1; omega
    rw [set_oth _ _ _ _ hne, set_oth _ _ _ _ hne, set_oth _ _ _ _ hne, set_oth _ _ _ _ hne]⟩) _ HN6.out
  | false =>
   have HE := hid (par_no hok)
   rw [← HP.out] at HE
   clear hok HY6 HX6 HN6
   go_wp2
   refine bodyPost_ret (v := .tuple #[.agg #[.int .i64 0, .string ⟨#[]⟩, .slice none 0 0, .slice none 0 0], .int .i64 9]) (by simp [results, Tryz.results115, go_sem, r0, r1, r2, r3]) rfl
    ⟨0, ⟨#[]⟩, none, 0, 0, none, 0, 0, by rw [← HE.out.1], ?_, below_p4 HB6.out (Nat.le_refl _) _ _ _ _⟩
   rw [← HE.out.2]
   exact nd_nul _ _
 ·have HB4 := hid (HB0.out.trans (hb.mono (by omega)))
  have HX4 := hid (HB1.out.below hb (by omega))
  have HP := hid hP
  clear hP hb HB0 HB1 HRA HFINE
  obtain ⟨r0, r1, r2, r3⟩ := HX4.out.cells
  obtain ⟨fr0, fr1, fr2, fr3⟩ := HX4.out.frozen
  go_wp2
  refine bodyPost_ret (v := .tuple #[.agg #[.int .i64 0, .string ⟨#[]⟩, .slice none 0 0, .slice none 0 0], .int .i64 3]) (by simp [results, Tryz.results115, go_sem, r0, r1, r2, r3]) rfl
   ⟨0, ⟨#[]⟩, none, 0, 0, none, 0, 0, by rw [HP.out]; rfl, ?_, below_p4 HB4.out (Nat.le_refl _) _ _ _ _⟩
  rw [HP.out]
  exact nd_nul _ _
end
end Go.Proofs.YtecglpocmhkkiaaGreatDoor
