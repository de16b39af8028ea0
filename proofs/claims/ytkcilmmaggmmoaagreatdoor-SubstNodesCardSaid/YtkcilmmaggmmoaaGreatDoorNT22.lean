/- RefTmp3 -/
import Derived.Deep.RegionHeld3
import Derived.Test.YtkcilmmaggmmoaaGreatDoorNT13
import Derived.Test.YtkcilmmaggmmoaaGreatDoorNT21
import Derived.Test.YtkcilmmaggmmoaaGreatDoorNT4
set_option linter.unusedVariables false
set_option linter.unusedSimpArgs false
set_option maxRecDepth 100000
set_option maxHeartbeats 16000000
open Go.Lib (hid)
namespace Go.Proofs.YtkcilmmaggmmoaaGreatDoor
namespace Nw
end Nw
namespace T13
end T13
end Go.Proofs.YtkcilmmaggmmoaaGreatDoor
namespace Go.Proofs.YtkcilmmaggmmoaaGreatDoor
section
open Go.RowKit Go.Sort
open Nw T13
attribute [local go_sem] Oper.semAt_some
theorem RNames13_any (ps : List Pt) (hc : cntL ps < 1000000) (v : Value) (w : World) (h : PtW w v ps) :
  Calls Tryz.prog 28 #[v] w fun e w' => ∃ v', e = .returned v' ∧ Rd w' v' (sortL (namL ps)) ∧ Below w.heap.size w w' := by
 have HD := hid (Rnames13_any 1000000 ps hc (Nat.le_refl _) v w h)
 have hn := namL_cnt ps
 obtain ⟨L, hL⟩ : ∃ L, namL ps = L := ⟨_, rfl⟩
 rw [hL] at HD hn ⊢
 have HS := hid (fun v1 w1 (hr : Rd w1 v1 L) => RSorted_own v1 L w1 hr (by omega))
 obtain ⟨A, cap, rfl, -⟩ := h
 clear hL
 go_enter Tryz.func28, Tryz.ntmps28
 go_wp2_with first
  | (go_at_call 43; refine HD.out.mono ?_; rintro e w1 ⟨v1, rfl, h1, b1⟩; have H1 := hid (rd_of_owns h1); have B1 := hid b1; clear h1 b1)
  | (go_at_call 29; refine (HS.out _ _ H1.out).mono ?_; rintro e w2 ⟨v2, rfl, h2, b2⟩; have H2 := hid (rd_of_owns h2); have B2 := hid (B1.out.trans (b2.mono B1.out.size)); clear h2 b2)
 go_ret
 exact ⟨_, rfl, H2.out, B2.out⟩
theorem txtL_snoc (a : List Pt) (p : Pt) : txtL (a ++ [p]) = txtL a ++ txtP p := by rw [txtL_app, txtL, txtL, List.append_nil]
theorem txtL_take {ps : List Pt} {j : Nat} (h : j < ps.length) : txtL (ps.take (j + 1)) = txtL (ps.take j) ++ txtP (ps[j]'h) := by rw [List.take_succ_eq_append_getElem h, txtL_snoc]
theorem txtL_pre (ps : List Pt) (j : Nat) : (txtL (ps.take j)).length ≤ (txtL ps).length := by
 conv => rhs; rw [← List.take_append_drop j ps, txtL_app, List.length_append]
 omega
theorem escD_take {t : L8} {k : Nat} (h : k < t.length) : escD (t.take (k + 1)) = escD (t.take k) ++ (if t[k]'h = 36 then [36, 36] else [t[k]'h]) := by
 rw [List.take_succ_eq_append_getElem h, escD_app]
 congr 1
theorem escD_pre (t : L8) (k : Nat) : (escD (t.take k)).length ≤ (escD t).length := by
 conv => rhs; rw [← List.take_append_drop k t, escD_app, List.length_append]
 omega
theorem escD_ge : ∀ t : L8, t.length ≤ (escD t).length
 | [] => Nat.le_refl _
 | c :: t => by
  have := escD_ge t
  unfold escD
  split <;> simp only [List.length_cons] <;> omega
theorem one_at13 (s : ByteArray) (k : Nat) (h : k < s.size) : (s.extract k (k + 1)).data.toList = [s[k]'h] := by
 rw [ByteArray.data_extract, Array.toList_extract]
 simp only [List.extract]
 rw [show k + 1 - k = 1 by omega]
 have hl : k < s.data.toList.length := h
 rw [List.drop_eq_getElem_cons hl]
 rfl
def BoxP (w : World) (g : Nat) (a b c d : Value) : Prop := w.heap[g]? = some (.cells #[a, b, c, d] 84 (0, 0))
theorem BoxP.go {w w' : World} {g : Nat} {a b c d : Value} (h : BoxP w g a b c d) (hb : Below w.heap.size w w') : BoxP w' g a b c d := (hb.block g (Array.getElem?_eq_some_iff.1 h).1).trans h
theorem BoxP.cells {w : World} {g : Nat} {a b c d : Value} (h : BoxP w g a b c d) : w.cell? ⟨g, 0, none⟩ = some a ∧ w.cell? ⟨g, 1, none⟩ = some b ∧ w.cell? ⟨g, 2, none⟩ = some c ∧ w.cell? ⟨g, 3, none⟩ = some d := by
 unfold BoxP at h
 exact ⟨by simp [World.cell?, h], by simp [World.cell?, h], by simp [World.cell?, h], by simp [World.cell?, h]⟩
theorem boxP_new (w : World) (a b c d : Value) : BoxP (w.alloc (.cells #[a, b, c, d] 84)) w.heap.size a b c d := Array.getElem?_push_size (xs := w.heap)
theorem data_app13 (a b : ByteArray) : (a ++ b).data.toList = a.data.toList ++ b.data.toList := by rw [ByteArray.data_append, Array.toList_append]
theorem exq (l : L8) : ∃ q : ByteArray, q.data.toList = l := ⟨⟨l.toArray⟩, by simp⟩
theorem len_eq13 (s : ByteArray) : s.data.toList.length = s.size := rfl
theorem bytes_ext13 {a b : ByteArray} (h : a.data.toList = b.data.toList) : a = b := by
 cases a; cases b
 congr 1
 exact Array.toList_inj.1 h
theorem RText13_any (N : Nat) : ∀ (ps : List Pt), cntL ps < N → N ≤ 1000000 → (txtL ps).length ≤ 1000000 → ∀ (v : Value) (w : World), PtW w v ps → ∀ q : ByteArray, q.data.toList = txtL ps →
  Calls Tryz.prog 66 #[v] w fun e w' => e = .returned (.string q) ∧ Below w.heap.size w w' := by
 induction N with
 | zero => intro ps hc; omega
 | succ N ih =>
  intro ps hc hN hlen v w h q hq
  have HIH := hid ih
  have HP := hid h
  have hln := cntL_len13 ps
  obtain ⟨A, cap, rfl, hcap, hcm, -⟩ := h
  unfold maxLen at hcm
  have HC := hid hc
  have HQ := hid hq
  obtain ⟨n, hn⟩ : ∃ n, n = ps.length := ⟨_, rfl⟩
  rw [← hn] at hcap hln HP ⊢
  have HN := hid hn
  have hn1 : n ≤ 1000000 := by omega
  have HN1 := hid hN
  have HLEN := hid hlen
  clear ih hc hn hln hN hq hlen
  go_enter Tryz.func66, Tryz.ntmps66
  go_wp2
  go_loopw [3, 4, 5, 6] (fun s i s5 s6 wr => ∃ (j : Nat) (T : ByteArray), j ≤ n ∧ i = .int .i64 (j : Int) ∧ s = .string T ∧ Hid (T.data.toList = txtL (ps.take j)) ∧ Hid (Below w.heap.size w wr)) (fun _ i _ _ _ => n - (intOf i).toNat)
  case atStart => exact ⟨0, ⟨#[]⟩, Nat.zero_le _, rfl, rfl, hid (by rw [List.take_zero, txtL]), hid (Below.refl _ _)⟩
  case round =>
   obtain ⟨j, T, hj, rfl, rfl, HT, HB⟩ := hrel
   by_cases hlt : j < n
   ·have hjl : Hid (j < ps.length) := hid (by have := HN.out; omega)
    obtain ⟨b, o, e0, e1, e2, e3, rfl, hbl, x0, x1, x2, x3, hsub⟩ := PtL.at_ HP.out j hjl.out
    have y0 := (HB.out.cell (p := ⟨b, o + j * 4, none⟩) hbl).trans x0
    have y1 := (HB.out.cell (p := ⟨b, o + j * 4 + 1, none⟩) hbl).trans x1
    have y2 := (HB.out.cell (p := ⟨b, o + j * 4 + 2, none⟩) hbl).trans x2
    have y3 := (HB.out.cell (p := ⟨b, o + j * 4 + 3, none⟩) hbl).trans x3
    clear x0 x1 x2 x3
    have hstep := txtL_take hjl.out
    have hpre := txtL_pre ps (j + 1)
    have hcs := @cnt_sub ps j hjl.out
    obtain ⟨p, hp⟩ : ∃ p, ps[j]'hjl.out = p := ⟨_, rfl⟩
    rw [hp] at hsub hstep
    obtain ⟨nm, tx, op, sb⟩ := p
    have hcs2 := hcs hp
    obtain ⟨rfl, rfl, rfl, hsb⟩ := hsub.sub
    have hjz : (j : Int) < (n : Int) := by omega
    have hjc : (j : Int) < (cap : Int) := by omega
    rw [← HT.out] at hstep
    rw [hstep, List.length_append, len_eq13] at hpre
    have hbig := Nat.le_trans hpre HLEN.out
    have HSB : Hid (∀ W, Below w.heap.size w W → PtW W e3 sb) := hid (fun W hW => PtW.below hsb hW)
    obtain ⟨sA, sn, hse⟩ : ∃ (sA : Option Addr) (sn : Nat), e3 = .slice sA sb.length sn := by obtain ⟨A', c', h', -⟩ := hsb; exact ⟨A', c', h'⟩
    obtain ⟨X, hX⟩ : ∃ X, ba nm = X := ⟨_, rfl⟩
    obtain ⟨Y, hY⟩ : ∃ Y, ba tx = Y := ⟨_, rfl⟩
    have HX : Hid (X.data.toList = nm) := hid (by rw [← hX, ba_data])
    have HY : Hid (Y.data.toList = tx) := hid (by rw [← hY, ba_data])
    rw [hX] at y0
    rw [hY] at y1
    have HST := hid hstep
    have HBG := hid hbig
    have HCS := hid hcs2
    obtain ⟨w0, hw0⟩ : ∃ w0, w0 = wr := ⟨_, rfl⟩
    subst hw0
    have HBX := hid (boxP_new w0 (.string X) (.string Y) (.int .i64 op) e3)
    have HB1 : Hid (Below w.heap.size w (w0.alloc (.cells #[.string X, .string Y, .int .i64 op, e3] 84))) := hid (HB.out.alloc HB.out.size _)
    clear hsub hp hcs hcs2 hX hY hstep hbig hpre
    subst hse
    by_cases ho : op = 0
    ·subst ho
     have hZ0 : (((0 : Int)) == 0) = true := rfl
     have htx : (txtP (Pt.mk nm tx 0 sb)) = escD tx := by rw [txtP, if_pos rfl]
     rw [htx] at HST HBG
     have hYl : tx.length = Y.size := by rw [← HY.out]; rfl
     have HYL := hid hYl
     clear hsb htx hYl
     obtain ⟨d0, d1, d2, d3⟩ := HBX.out.cells
     go_wp2
     go_loop [3, 6] (fun s k => ∃ (kk : Nat) (U : ByteArray), kk ≤ Y.size ∧ k = .int .i64 (kk : Int) ∧ s = .string U ∧ Hid (U.data.toList = T.data.toList ++ escD (tx.take kk))) (fun _ k => Y.size - (intOf k).toNat)
     case atStart => exact ⟨0, T, Nat.zero_le _, rfl, rfl, hid (by rw [List.take_zero]; show _ = _ ++ []; rw [List.append_nil])⟩
     case round =>
      obtain ⟨kk, U, hkk, rfl, rfl, HU⟩ := hrel
      by_cases hlk : kk < Y.size
      ·have hlz : (kk : Int) < (Y.size : Int) := by omega
       have hk1 : (kk : Int) + 1 ≤ (Y.size : Int) := by omega
       have e1 : (0 : Int) ≤ (kk : Int) + 1 := by omega
       have e2 : ((kk : Int) + 1).toNat = kk + 1 := by omega
       have hkle : (kk : Int) ≤ (kk : Int) + 1 := by omega
       have hYs : Y.size ≤ 1000000 := by have := escD_ge tx; have := HBG.out; have := HYL.out; omega
       have kw : IntKind.i64.wrap ((kk : Int) + 1) = (kk : Int) + 1 := IntWalk.i64_in _ (by omega)
       have hUs : U.size ≤ 1000000 := by
        have h1 := escD_pre tx kk
        have h2 : U.size = T.data.toList.length + (escD (tx.take kk)).length := by rw [← len_eq13, HU.out, List.length_append]
        have := HBG.out
        rw [len_eq13] at h2
        omega
       have hex := one_at13 Y kk hlk
       obtain ⟨E, hE⟩ : ∃ E, Y.extract kk (kk + 1) = E := ⟨_, rfl⟩
       rw [hE] at hex
       have hEs : E.size = 1 := by rw [← len_eq13, hex]; rfl
       have htk : kk < tx.length := by rw [HYL.out]; exact hlk
       have hst := escD_take htk
       obtain ⟨c, hc⟩ : ∃ c, Y[kk]'hlk = c := ⟨_, rfl⟩
       have htc : tx[kk]'htk = c := by
        have : ∀ (l : L8) (hl : l = tx) (h : kk < l.length), l[kk]'h = tx[kk]'htk := fun l hl h => by subst hl; rfl
        rw [← this Y.data.toList HY.out hlk, ← hc]; rfl
       rw [htc] at hst
       rw [hc] at hex
       have f1 : (9223372036854775807 < U.size + 1) = False := eq_false (by omega)
       have f2 : (9223372036854775807 < U.size + 1 + 1) = False := eq_false (by omega)
       by_cases hc36 : c = 36
       ·rw [if_pos hc36] at hst
        have HU2 : Hid ((U ++ ⟨#[36]⟩ ++ E).data.toList = T.data.toList ++ escD (tx.take (kk + 1))) := hid (by
         rw [data_app13, data_app13, HU.out, hst, hex, hc36, List.append_assoc, List.append_assoc]; rfl)
        have m36 : ((c.toNat : Int) == 36) = true := by rw [hc36]; rfl
        clear hst hex hc36 htc
        go_wp2
        go_round
        case rel => exact ⟨kk + 1, _, by omega, by go_num, rfl, HU2⟩
        case measure => simp [intOf]; omega
       ·rw [if_neg hc36] at hst
        have HU2 : Hid ((U ++ E).data.toList = T.data.toList ++ escD (tx.take (kk + 1))) := hid (by
         rw [data_app13, HU.out, hst, hex, List.append_assoc])
        have m36 : ((c.toNat : Int) == 36) = false := beq_eq_false_iff_ne.2 (fun e => hc36 (UInt8.toNat_inj.1 (by show c.toNat = 36; omega)))
        clear hst hex hc36 htc
        go_wp2
        go_round
        case rel => exact ⟨kk + 1, _, by omega, by go_num, rfl, HU2⟩
        case measure => simp [intOf]; omega
      ·obtain rfl : kk = Y.size := by omega
       have HF : Hid (U.data.toList = txtL (ps.take (j + 1))) := hid (by rw [HU.out, HST.out, ← HYL.out, List.take_length])
       go_wp2
       go_roundw
       case rel => exact ⟨j + 1, U, by omega, by go_num, rfl, HF, HB1⟩
       case measure => simp [intOf]; omega
    ·have hne : (op == 0) = false := beq_eq_false_iff_ne.2 ho
     obtain ⟨MK, hMK⟩ : ∃ MK, ba (markL op) = MK := ⟨_, rfl⟩
     have hMd : MK.data.toList = markL op := by rw [← hMK, ba_data]
     have HMC := hid (fun W => mark_any op W)
     rw [hMK] at HMC
     have hMs : MK.size ≤ 2 := by
      rw [← len_eq13, hMd]
      unfold markL
      repeat' split
      all_goals simp
     obtain ⟨Q, hQ⟩ := exq (txtL sb)
     have htx : txtP (Pt.mk nm tx op sb) = 36 :: 123 :: (nm ++ (markL op ++ ((if 1 < op then txtL sb else []) ++ [125]))) := by rw [txtP, if_neg ho]
     rw [htx] at HST HBG
     have hTs : T.size + 2 + X.size + MK.size + 1 ≤ 1000000 := by
      have h1 := HBG.out
      have h2 : nm.length = X.size := by rw [← HX.out]; rfl
      have h3 : (markL op).length = MK.size := by rw [← hMd]; rfl
      simp only [List.length_cons, List.length_append, List.length_nil] at h1
      omega
     have f1 : (9223372036854775807 < T.size + 1) = False := eq_false (by omega)
     have f2 : (9223372036854775807 < T.size + 1 + 1) = False := eq_false (by omega)
     have f3 : (9223372036854775807 < T.size + 1 + 1 + X.size) = False := eq_false (by omega)
     have f4 : (9223372036854775807 < T.size + 1 + 1 + X.size + MK.size) = False := eq_false (by omega)
     have f5 : (9223372036854775807 < T.size + 1 + 1 + X.size + MK.size + 1) = False := eq_false (by omega)
     have HS0 : Hid (w.heap.size ≤ w0.heap.size) := hid HB.out.size
     have HMD := hid hMd
     clear hsb htx ho hMK hMd
     go_wp2
     clear y0 y1 y2 y3
     generalize w0.alloc (.cells #[.string X, .string Y, .int .i64 op, .slice sA sb.length sn] 84) = W1 at HBX HB1 ⊢
     generalize w0.heap.size = g at HBX HS0 ⊢
     have HBD : Hid (BoxP W1.drew g (.string X) (.string Y) (.int .i64 op) (.slice sA sb.length sn)) := hid HBX.out
     have HBW : Hid (Below w.heap.size w W1.drew) := hid (HB1.out.trans ((below_drewN W1 1).mono HB1.out.size))
     have hS1 : W1.drew.cell? ⟨g, 0, none⟩ = some (.string X) ∧ W1.drew.cell? ⟨g, 2, none⟩ = some (.int .i64 op) := ⟨HBD.out.cells.1, HBD.out.cells.2.2.1⟩
     go_region_held3 (fun W => W.cell? ⟨g, 0, none⟩ = some (.string X) ∧ W.cell? ⟨g, 2, none⟩ = some (.int .i64 op)) (first | exact hS1 | exact hS2)
      (first | (go_at_call 81; refine (HMC.out _).mono ?_; rintro e2 w2 ⟨rfl, hb2⟩; have HX2 := hid (HBD.out.go hb2); have HW2 := hid (HBW.out.trans (hb2.mono HBW.out.size)); have hS2 : w2.cell? ⟨g, 0, none⟩ = some (.string X) ∧ w2.cell? ⟨g, 2, none⟩ = some (.int .i64 op) := ⟨HX2.out.cells.1, HX2.out.cells.2.2.1⟩; clear hb2))
     all_goals
      obtain ⟨d0, d1, d2, d3⟩ := HX2.out.cells
      clear hS1 hS2 HBD HBW HBX HB1
      by_cases h1 : 1 < op
      ·rw [if_pos h1] at HST HBG
       have hz1 : (1 : Int) < op := h1
       have hQs : T.size + 2 + X.size + MK.size + Q.size + 1 ≤ 1000000 := by
        have h1 := HBG.out
        have h2 : nm.length = X.size := by rw [← HX.out]; rfl
        have h3 : (markL op).length = MK.size := by rw [← HMD.out]; rfl
        have h4 : (txtL sb).length = Q.size := by rw [← hQ]; rfl
        simp only [List.length_cons, List.length_append, List.length_nil] at h1
        omega
       have f6 : (9223372036854775807 < T.size + 1 + 1 + X.size + MK.size + Q.size) = False := eq_false (by omega)
       have f7 : (9223372036854775807 < T.size + 1 + 1 + X.size + MK.size + Q.size + 1) = False := eq_false (by omega)
       have HQS := hid hQ
       have HR := hid (HIH.out sb (by have := HC.out; have := HCS.out; omega) (by have := HN1.out; omega) (by rw [← hQ, len_eq13]; omega) (.slice sA sb.length sn) w2 (HSB.out w2 HW2.out) Q hQ)
       have HF : Hid ((T ++ ⟨#[36]⟩ ++ ⟨#[123]⟩ ++ X ++ MK ++ Q ++ ⟨#[125]⟩).data.toList = txtL (ps.take (j + 1))) := hid (by
        rw [HST.out, data_app13, data_app13, data_app13, data_app13, data_app13, data_app13, HX.out, HMD.out, hQ]
        simp)
       clear hQ h1
       go_wp2_with (go_at_call 66; refine HR.out.mono ?_; rintro e w3 ⟨rfl, hb3⟩; have HW3 := hid (HW2.out.trans (hb3.mono HW2.out.size)); clear hb3)
       go_roundw
       case rel => exact ⟨j + 1, _, by omega, by go_num, rfl, HF, HW3⟩
       case measure => simp [intOf]; omega
      ·rw [if_neg h1] at HST HBG
       have hz1 : ¬ (1 : Int) < op := h1
       have HF : Hid ((T ++ ⟨#[36]⟩ ++ ⟨#[123]⟩ ++ X ++ MK ++ ⟨#[125]⟩).data.toList = txtL (ps.take (j + 1))) := hid (by
        rw [HST.out, data_app13, data_app13, data_app13, data_app13, data_app13, HX.out, HMD.out]
        simp)
       clear hQ h1
       go_wp2
       go_roundw
       case rel => exact ⟨j + 1, _, by omega, by go_num, rfl, HF, HW2⟩
       case measure => simp [intOf]; omega
   ·obtain rfl : j = n := by omega
    have HF : Hid (T = q) := hid (bytes_ext13 (by rw [HT.out, HQ.out, show j = ps.length from HN.out, List.take_length]))
    go_wp2
    go_ret
    exact ⟨ret_s13 HF.out, HB.out⟩
end
end Go.Proofs.YtkcilmmaggmmoaaGreatDoor
