/- BloRdF -/
import Derived.Maps.AppendAt
import Derived.Test.YtmdgpejedbkkdaaGreatDoorAT25
import Derived.Test.YtmdgpejedbkkdaaGreatDoorAT41
set_option linter.unusedVariables false
set_option linter.unusedSimpArgs false
set_option maxRecDepth 100000
set_option maxHeartbeats 16000000
open Go.Lib (hid)
namespace Go.Proofs.YtmdgpejedbkkdaaGreatDoor
section
open Go.RowKit Go.Sort
open Nw N8 Q6 F9 B10 Go.ChangeShapes Go.WideShapes
theorem big_le {M : List Ln} {p p1 : Nat} (h : p ≤ p1) : big (M.drop p1) ≤ big (M.drop p) := by
 have := big_drop (p1 - p) (M.drop p)
 rwa [List.drop_drop, show p + (p1 - p) = p1 by omega] at this
theorem RD.last {w0 w : World} {g n p : Nat} {sl : Value} {M : List Ln} (h : RD w0 g sl n w M p) (hp : p = n) : M.drop p = [] := List.drop_of_length_le (by rw [h.2.1.1, hp]; exact Nat.le_refl _)
theorem RD.more_ {w0 w : World} {g n p : Nat} {sl : Value} {M : List Ln} (h : RD w0 g sl n w M p) (hp : p ≠ n) : ∃ x l, M.drop p = x :: l := by
 have hpl : p < M.length := by rw [h.2.1.1]; have := h.2.1.2.1; omega
 exact ⟨_, _, List.drop_eq_getElem_cons hpl⟩
theorem pos_of {W : World} {g p : Nat} (h : W.cell? ⟨g, 1, none⟩ = some (.int .i64 (p : Int))) : (intOf ((W.cell? ⟨g, 1, none⟩).getD (.int .i64 0))).toNat = p := by rw [h]; rfl
section
variable {w0 w : World} {g n p : Nat} {sl : Value} {M : List Ln} {x : Ln} {l : List Ln}
theorem readSeq_any {N : Nat} (ih : BOf N) (hm : SomeMax w0) (h : RD w0 g sl n w M p) (hx : M.drop p = x :: l) (hh : hyp x.text = true) (hN : 2 * big (x :: l) ≤ N) :
  Calls Tryz.prog 73 #[.pointer (some ⟨g, 0, none⟩), .int .i64 (x.ind : Int)] w (Out w0 g sl n M p (p + 1) x.ind (seqB x.ind [] (x :: l)) w) := by
 have HST := hid (SQ.start h x.ind)
 rw [hx] at HST
 have HN := hid hN
 have HX0 := hid hx
 have HH0 := hid hh
 have HIH := hid ih
 have HMX := hid hm
 have hn := h.n_le
 have HIL := hid (h.ind_le hx)
 obtain ⟨L, hL⟩ : ∃ L : Nat, x.ind = L := ⟨_, rfl⟩
 have HL0 := hid hL
 rw [hL] at HST HIL ⊢
 obtain ⟨TT, hTT⟩ : ∃ TT, seqB L [] (x :: l) = TT := ⟨_, rfl⟩
 rw [hTT] at HST ⊢
 obtain ⟨ni, hni⟩ := infoN
 obtain ⟨hi0, hz0, hz1, hz2⟩ := hni
 clear hTT hL h hx hh hN ih hm
 go_enter Tryz.func73, Tryz.ntmps73
 go_wp2
 go_step3
 go_wp2
 go_step3
 go_wp2
 go_loopw [6] (fun s6 wr => ∃ (M1 : List Ln) (p1 : Nat) (ds : List Nd) (qs : List Q4), Hid (SQ w0 g sl n M p L TT w wr s6 M1 p1 ds qs)) (fun _ W => n - (intOf ((W.cell? ⟨g, 1, none⟩).getD (.int .i64 0))).toNat)
 case atStart => exact ⟨M, p, [], [], HST⟩
 case round =>
  clear HST
  obtain ⟨M1, p1, ds, qs, HQ⟩ := hrel
  by_cases hpn : p1 = n
  ·have HG : Hid (Gets L TT (.mk 2 [] [] ds) (p1 - p) (M1.drop p1)) := hid (by
    have h1 := HQ.out.2.2.1
    rw [HQ.out.rd.last hpn] at h1 ⊢
    exact h1.done)
   have HP : Hid (p + 1 ≤ p1) := hid (by
    have h1 := HQ.out.2.1
    rcases Nat.lt_or_eq_of_le h1.1 with h2 | h2
    ·exact h2
    ·subst h2
     have h3 := h1.2.2
     rw [HQ.out.rd.last hpn, HX0.out] at h3
     cases h3)
   have HDN := hid (isDone_any HQ.out.rd true (decide_eq_true hpn))
   go_wp2_with fail
   refine HDN.out.mono ?_
   rintro e w1 ⟨rfl, q, rfl⟩
   have HQ1 := hid (HQ.out.go (below_drewN wr q))
   clear HDN HQ
   generalize wr.drewN q = We at *
   have HFR := hid HQ1.out.1.2.2.2
   obtain ⟨sa, sc, hs6⟩ := own_shape HQ1.out.2.2.2.1
   subst hs6
   have HSE := hid (Seq10_any (SBk w We (.slice sa ds.length sc)) (w.heap.size + 1) (.slice sa ds.length sc) qs ds We (fun b hb => hb.2.1) HQ1.out.2.2.2 HQ1.out.few)
   obtain ⟨ln, hln⟩ : ∃ ln, ds.length = ln := ⟨_, rfl⟩
   rw [hln] at HQ1 HSE ⊢
   clear hln
   go_wp2_with fail
   refine HSE.out.mono ?_
   rintro e w5 ⟨A, m, q, rfl, hN5, hb5⟩
   have HEN := hid (HQ1.out.end_ HP.out HG.out hb5 hN5)
   have HX5 := hid (HFR.out.below hb5 HFR.out.lt)
   clear hN5 hb5 HSE HQ1 HFR
   obtain ⟨r0, r1, r2, r3⟩ := HX5.out.cells
   obtain ⟨fr0, fr1, fr2, fr3⟩ := HX5.out.frozen
   go_wp2
   refine bodyPost_ret (v := .tuple #[.agg #[.int .i64 2, .string ⟨#[]⟩, .slice none 0 0, .slice A m q], .int .i64 0]) (by simp [results, Tryz.results73, go_sem, r0, r1, r2, r3]) rfl ?_
   exact HEN.out
  ·obtain ⟨x1, l1, hx1⟩ := HQ.out.rd.more_ hpn
   have HX1 := hid hx1
   have HDN := hid (isDone_any HQ.out.rd false (decide_eq_false hpn))
   have hp1n : p1 < n := HQ.out.rd.at_lt hx1
   have HIL1 := hid (HQ.out.rd.ind_le hx1)
   have HBG : Hid (2 * big (x1 :: l1) ≤ N) := hid (by
    have h1 := big_le (M := M) HQ.out.2.1.1
    rw [HX0.out, ← HQ.out.2.1.2.2, hx1] at h1
    have := HN.out
    omega)
   have HOF : Hid (x1.ind ≠ L ∨ hyp x1.text = false → p + 1 ≤ p1) := hid (fun hor => by
    have h1 := HQ.out.2.1
    rcases Nat.lt_or_eq_of_le h1.1 with h2 | h2
    ·exact h2
    ·subst h2
     have h3 := h1.2.2
     rw [hx1, HX0.out] at h3
     injection h3 with h3 _
     subst h3
     rcases hor with hor | hor
     ·exact absurd HL0.out hor
     ·rw [HH0.out] at hor; cases hor)
   have HMS := hid (pos_of HQ.out.rd.cells.2.1)
   go_wp2_with fail
   refine HDN.out.mono ?_
   rintro e w1 ⟨rfl, q, rfl⟩
   have HQ1 := hid (HQ.out.go (below_drewN wr q))
   clear HDN HQ
   generalize wr.drewN q = Wa at *
   have hba : Below Wa.heap.size Wa (Wa.alloc (.cells #[.int .i64 0, .string ⟨#[]⟩, .slice none 0 0, .slice none 0 0] 25)) := (Below.refl _ _).alloc (Nat.le_refl _) _
   have HQ2 := hid (HQ1.out.go hba)
   have HK2 := hid (Row4.make Wa 25 (.int .i64 0) (.string ⟨#[]⟩) (.slice none 0 0) (.slice none 0 0))
   have HKL : Hid (w.heap.size < Wa.heap.size) := hid HQ1.out.low
   clear hba
   obtain ⟨c0, c1, -⟩ := HQ2.out.rd.cells
   obtain ⟨B, cap, rfl, hcap, hcm, ⟨x0, x1', x2⟩, -⟩ := HQ2.out.rd.here hx1
   obtain ⟨T, hT⟩ : ∃ T : ByteArray, (⟨x1.text.toArray⟩ : ByteArray) = T := ⟨_, rfl⟩
   have hTl : T.data.toList = x1.text := by rw [← hT]
   have HTL := hid hTl
   obtain ⟨I, hI⟩ : ∃ I : Nat, x1.ind = I := ⟨_, rfl⟩
   obtain ⟨no, hno⟩ : ∃ no : Nat, x1.no = no := ⟨_, rfl⟩
   have HIX := hid hI
   have HNX := hid hno
   rw [hT] at x2
   rw [hI] at x1'
   rw [hno] at x0
   have pz : (0 : Int) ≤ (p1 : Int) := by omega
   have pn : (p1 : Int) < (n : Int) := by omega
   have HBA0 : Hid (KP g (.slice (some ⟨B, 0, none⟩) n cap) Wa (Wa.alloc (.cells #[.int .i64 0, .string ⟨#[]⟩, .slice none 0 0, .slice none 0 0] 25))) := hid (KP.of ((Below.refl _ _).alloc (Nat.le_refl _) _))
   clear hT hI hno hTl hx1
   go_upto_region 5 with fail
   generalize Wa.alloc (.cells #[.int .i64 0, .string ⟨#[]⟩, .slice none 0 0, .slice none 0 0] 25) = W1 at *
   generalize hkb : Wa.heap.size = kb at *
   have HKE := hid hkb
   clear hkb
   go_region_held3 (fun W => W.cell? ⟨g, 0, none⟩ = some (.slice (some ⟨B, 0, none⟩) n cap) ∧ W.cell? ⟨g, 1, none⟩ = some (.int .i64 (p1 : Int)) ∧ W.cell? ⟨B, p1 * 3, none⟩ = some (.int .i64 (no : Int)) ∧ W.cell? ⟨B, p1 * 3 + 1, none⟩ = some (.int .i64 (I : Int)) ∧ W.cell? ⟨B, p1 * 3 + 2, none⟩ = some (.string T))
    (first | exact ⟨c0, c1, x0, x1', x2⟩ | assumption | exact ⟨cells_alloc c0, cells_alloc c1, cells_alloc x0, cells_alloc x1', cells_alloc x2⟩) (fail)
   have HQ3 := hid (HQ2.out.go (below_ad W1 (.cells #[.int .i64 (no : Int), .int .i64 (I : Int), .string T] 62)))
   have HK3 := hid (HK2.out.below (below_ad W1 (.cells #[.int .i64 (no : Int), .int .i64 (I : Int), .string T] 62)) HK2.out.lt)
   have HL3 : Hid (Row3 (W1.alloc (.cells #[.int .i64 (no : Int), .int .i64 (I : Int), .string T] 62)).drew W1.heap.size 62 (.int .i64 (no : Int)) (.int .i64 (I : Int)) (.string T)) := hid (Row3.make W1 _ _ _ _)
   have HKB : Hid (kb < W1.heap.size) := hid HK2.out.lt
   have HBA := hid (HBA0.out.go (below_ad W1 (.cells #[.int .i64 (no : Int), .int .i64 (I : Int), .string T] 62)))
   have HKS : Hid (kb < (W1.alloc (.cells #[.int .i64 (no : Int), .int .i64 (I : Int), .string T] 62)).drew.heap.size) := hid HK3.out.lt
   clear c0 c1 x0 x1' x2 HQ2 HK2 HBA0
   generalize (W1.alloc (.cells #[.int .i64 (no : Int), .int .i64 (I : Int), .string T] 62)).drew = W2 at *
   generalize W1.heap.size = lb at *
   obtain ⟨y0, y1, y2⟩ := HL3.out.cells
   by_cases hIL : I = L
   ·have hLI : L = I := hIL.symm
    clear hIL
    subst hLI
    cases hy : hyp T.data.toList with
    | false =>
     have HP : Hid (p + 1 ≤ p1) := hid (HOF.out (.inr (by rw [← HTL.out]; exact hy)))
     have HG : Hid (Gets L TT (.mk 2 [] [] ds) (p1 - p) (M1.drop p1)) := hid (by
      have h1 := HQ3.out.2.2.1
      rw [HX1.out] at h1 ⊢
      exact h1.off (.inr (by rw [← HTL.out]; exact hy)))
     have HROW := hid (fun W => Row_any10 T false W hy)
     replace HQ1 := HQ3
     clear hy HQ3 HK3
     go_wp2_with fail
     refine (HROW.out _).mono ?_
     rintro e w' ⟨rfl, rfl⟩
     have HFR := hid HQ1.out.1.2.2.2
     obtain ⟨sa, sc, hs6⟩ := own_shape HQ1.out.2.2.2.1
     subst hs6
     have HSE := hid (Seq10_any (SBk w W2 (.slice sa ds.length sc)) (w.heap.size + 1) (.slice sa ds.length sc) qs ds W2 (fun b hb => hb.2.1) HQ1.out.2.2.2 HQ1.out.few)
     obtain ⟨ln, hln⟩ : ∃ ln, ds.length = ln := ⟨_, rfl⟩
     rw [hln] at HQ1 HSE ⊢
     clear hln
     go_wp2_with fail
     refine HSE.out.mono ?_
     rintro e w5 ⟨A, m, q, rfl, hN5, hb5⟩
     have HEN := hid (HQ1.out.end_ HP.out HG.out hb5 hN5)
     have HX5 := hid (HFR.out.below hb5 HFR.out.lt)
     clear hN5 hb5 HSE HQ1 HFR
     obtain ⟨r0, r1, r2, r3⟩ := HX5.out.cells
     obtain ⟨fr0, fr1, fr2, fr3⟩ := HX5.out.frozen
     go_wp2
     refine bodyPost_ret (v := .tuple #[.agg #[.int .i64 2, .string ⟨#[]⟩, .slice none 0 0, .slice A m q], .int .i64 0]) (by simp [results, Tryz.results73, go_sem, r0, r1, r2, r3]) rfl ?_
     exact HEN.out
    | true =>
     have HHY : Hid (hyp x1.text = true) := hid (by rw [← HTL.out]; exact hy)
     have HIE : Hid (x1.ind = L) := HIX
     have HROW := hid (fun W => Row_any10 T true W hy)
     by_cases hd : T.data.toList = [45]
     ·skip
      obtain rfl := bytes_of (l := #[45]) hd
      have hlen : ¬ 1 < x1.text.length := by rw [← HTL.out]; decide
      have wp1 : IntKind.i64.wrap ((p1 : Int) + 1) = (p1 : Int) + 1 := IntWalk.i64_in _ (by omega)
      have wl : IntKind.i64.wrap ((L : Int) + 1) = ((L + 1 : Nat) : Int) := IntWalk.i64_in _ (by have := HIL.out; omega)
      obtain ⟨d0, d1, df⟩ := HQ3.out.rd.cells
      obtain ⟨hsk, kps⟩ := HQ3.out.rd.next hp1n
      have htl := HQ3.out.rd.tail HX1.out
      have HIN : Hid (Calls Tryz.prog 102 #[.pointer (some ⟨g, 0, none⟩), .int .i64 ((L + 1 : Nat) : Int)] (W2.setCell ⟨g, 1, none⟩ (.int .i64 ((p1 : Int) + 1))) (Out w0 g (.slice (some ⟨B, 0, none⟩) n cap) n M1 (p1 + 1) (p1 + 1) (L + 1) (innR (L + 1) l1) (W2.setCell ⟨g, 1, none⟩ (.int .i64 ((p1 : Int) + 1))))) := hid (by
       have := readInner_any HIH.out HMX.out hsk (L + 1) (by rw [htl]; have := HBG.out; simp only [big] at this; omega)
       rwa [htl] at this)
      have HKI : Hid (kidS L x1 l1 = (innR (L + 1) l1).more 1) := hid (kidS_inn hlen)
      have HKP := hid kps
      obtain ⟨J, hJ⟩ : ∃ J : Nat, L + 1 = J := ⟨_, rfl⟩
      have HJ : Hid (L ≤ J) := hid (by omega)
      rw [hJ] at HIN HKI wl
      clear hJ hsk kps htl hlen hy hd
      go_wp2_with (go_at_call 72; refine (HROW.out _).mono ?_; rintro e w' ⟨rfl, rfl⟩)
      refine HIN.out.mono ?_
      rintro e w4 ⟨k, t, a, i, cc, A, m, q, E, rfl, hk, hc⟩
      have HKW := hid (HKP.out.trans hk)
      have HC : Hid (OutC w0 g (.slice (some ⟨B, 0, none⟩) n cap) n M1 p1 (p1 + 1) L (kidS L x1 l1) E w4 (fun d => NdC (fun b => W2.heap.size ≤ b ∧ b < w4.heap.size) w4 d (.int .i64 k) (.string t) (.slice a i cc) (.slice A m q))) := hid (by
       rw [HKI.out]
       exact (hc.shift.low (Nat.le_refl _) HJ.out).imp (fun M' p' h' => h') fun d hd => NdC.keep (fun b hb => ⟨⟨Nat.le_trans HKP.out.size hb.1, hb.2⟩, rfl⟩) _ hd)
      clear hk hc HIN HKI HKP d0 d1 df
      have HXK := hid (HQ3.out.at_.row4 HKW.out (Nat.le_of_lt HKL.out) HK3.out)
      have HKA := hid (HBA.out.trans HKW.out)
      clear HK3
      obtain ⟨r0, r1, r2, r3⟩ := HXK.out.cells
      obtain ⟨fr0, fr1, fr2, fr3⟩ := HXK.out.frozen
      go_upto_region 12 with fail
      rw [show ((((w4.setCell ⟨kb, 0, none⟩ (.int .i64 k)).setCell ⟨kb, 1, none⟩ (.string t)).setCell ⟨kb, 2, none⟩ (.slice a i cc)).setCell ⟨kb, 3, none⟩ (.slice A m q)) = p4 w4 kb (.int .i64 k) (.string t) (.slice a i cc) (.slice A m q) from rfl]
      clear r0 r1 r2 r3 fr0 fr1 fr2 fr3
      have HF := hid (HQ1.out.fill (W2 := W2) (b := kb) (by rw [HKE.out]; exact Nat.le_refl _) HKS.out HKA.out HKW.out.size HC.out)
      have HX5 := hid (HXK.out.put (.int .i64 k) (.string t) (.slice a i cc) (.slice A m q))
      clear HXK HC HKW HQ3 HKA
      generalize p4 w4 kb (.int .i64 k) (.string t) (.slice a i cc) (.slice A m q) = W5 at *
      by_cases hE : E = 0
      ·subst hE
       have HOK : Hid (∃ M2 p2, RD w0 g (.slice (some ⟨B, 0, none⟩) n cap) n W5 M2 p2 ∧ p1 + 1 ≤ p2 ∧ M2.drop p2 = M1.drop p2 ∧ ∃ d, Gets L (kidS L x1 l1) d (p2 - p1) (M2.drop p2) ∧ NdC (fun z => Wa.heap.size ≤ z ∧ z < W5.heap.size) W5 d (.int .i64 k) (.string t) (.slice a i cc) (.slice A m q)) := hid (by
        obtain ⟨M2, p2, h1, h2⟩ := HF.out.2
        rcases h2 with ⟨-, h3, h4, d, h5, h6⟩ | ⟨h3, -⟩
        ·exact ⟨M2, p2, h1, h3, h4, d, h5, h6⟩
        ·exact absurd rfl h3)
       have HFW := hid HQ1.out.few
       have HOW := hid (HQ1.out.kept HF.out.1).1
       have HSZ : Hid (w.heap.size + 1 ≤ W5.heap.size) := hid (by have h1 := HQ1.out.low; have h2 := HF.out.1.size; omega)
       obtain ⟨sa, sc, hs6⟩ := own_shape HOW.out
       subst hs6
       obtain ⟨r0, r1, r2, r3⟩ := HX5.out.cells
       have HNX2 : Hid (∀ v' w6, w6.ownsRow (w.heap.size + 1) 25 4 v' (ds.length + 1) (flat4 qs ++ [.int .i64 k, .string t, .slice a i cc, .slice A m q]) → (W5.alloc (.cells #[.int .i64 k, .string t, .slice a i cc, .slice A m q] 25)).grownBy w6 (Value.slice sa ds.length sc).ownBlock → (v'.ownBlock = (Value.slice sa ds.length sc).ownBlock ∨ v'.ownBlock = some (W5.heap.size + 1)) →
         ∃ M2 p2 d, p1 + 1 ≤ p2 ∧ SQ w0 g (.slice (some ⟨B, 0, none⟩) n cap) n M p L TT w w6 v' M2 p2 (ds ++ [d]) (qs ++ [⟨.int .i64 k, .string t, .slice a i cc, .slice A m q⟩])) := hid (by
        intro v' w6 ho hg hk'
        obtain ⟨M2, p2, h1, h3, h4, d, h5, h6⟩ := HOK.out
        have hal : Below W5.heap.size W5 (W5.alloc (.cells #[.int .i64 k, .string t, .slice a i cc, .slice A m q] 25)) := (Below.refl _ _).alloc (Nat.le_refl _) _
        exact ⟨M2, p2, d, h3, HQ1.out.kid HX1.out HIE.out HHY.out (HF.out.1.go hal) (h1.go hal) h3 h4 h5 (q := ⟨.int .i64 k, .string t, .slice a i cc, .slice A m q⟩) (NdC.keep (fun z hz => ⟨⟨hz.1, Nat.lt_of_lt_of_le hz.2 hal.size⟩, hal.block z hz.2⟩) _ h6) ho hg (hk'.imp id fun e => by rw [e]; simp)⟩)
       obtain ⟨ln, hln⟩ : ∃ ln, ds.length = ln := ⟨_, rfl⟩
       obtain ⟨X8, hX8⟩ : ∃ X8, flat4 qs = X8 := ⟨_, rfl⟩
       rw [hln, hX8] at HOW HNX2
       rw [hln] at HFW ⊢
       have hlf := HFW.out
       clear hln hX8 HF HOK HQ1 HX5
       go_wp2_with (at_builtin; refine wpList_append_own_at _ rfl _ _ 23 rfl (w.heap.size + 1) 25 ni _ 4 72 Tryz.underlying23 hi0 hz0 hz1 hz2 rfl (by decide) (.slice sa ln sc) ln X8 rfl (HOW.out.alloc _) _ 1 1 [.int .i64 k, .string t, .slice a i cc, .slice A m q] rfl rfl (news_blk #[.int .i64 k, .string t, .slice a i cc, .slice A m q] (alloc_at _ _)) (four_nd _ _ _ _ _ _ _ _) (by unfold maxLen; omega) (by omega) (by have := HSZ.out; simp; omega) ?_)
       intro v'' w6 hownN hgN hnilN hkN
       have HQ6 := hid (HNX2.out v'' w6 hownN hgN hkN)
       obtain ⟨sa2, sc2, hsv⟩ := own_shape hownN
       subst hsv
       clear hownN hgN hnilN hkN HNX2 HOW
       go_wp2
       go_roundw
       case measure =>
        obtain ⟨M2, p2, d, hp2, hq2⟩ := HQ6.out
        have h1 := pos_of hq2.rd.cells.2.1
        have h2 := HMS.out
        have h3 := hq2.rd.2.1.2.1
        omega
       case rel =>
        obtain ⟨M2, p2, d, hp2, hq2⟩ := HQ6.out
        exact ⟨M2, p2, _, _, hq2⟩
      ·have HE := hid hE
       have eb : (E == 0) = false := beq_eq_false_iff_ne.2 hE
       have HRR := hid (HQ1.out.kept HF.out.1).2
       have HB5 : Hid (∀ k t a i cc A m q, Out w0 g (.slice (some ⟨B, 0, none⟩) n cap) n M p (p + 1) L TT w (.returned (.tuple #[.agg #[.int .i64 k, .string t, .slice a i cc, .slice A m q], .int .i64 E])) (p4 W5 w.heap.size (.int .i64 k) (.string t) (.slice a i cc) (.slice A m q))) := hid (by
        intro k t a i cc A m q
        obtain ⟨M2, p2, h1, h2⟩ := HF.out.2
        rcases h2 with ⟨h3, -⟩ | ⟨h3, y, t1, h4, h5⟩
        ·exact absurd h3 HE.out
        ·exact HQ1.out.bad HX1.out HIE.out HHY.out HF.out.1 h1 h3 h4 h5)
       obtain ⟨r0, r1, r2, r3⟩ := HRR.out.cells
       obtain ⟨fr0, fr1, fr2, fr3⟩ := HRR.out.frozen
       clear hE HF HX5 HQ1
       go_wp2
       refine bodyPost_ret (v := .tuple #[.agg #[.int .i64 0, .string ⟨#[]⟩, .slice none 0 0, .slice none 0 0], .int .i64 E]) (by simp [results, Tryz.results73, go_sem, r0, r1, r2, r3]) rfl ?_
       exact HB5.out 0 ⟨#[]⟩ none 0 0 none 0 0
     ·skip
      have hlen : 1 < x1.text.length := by
       rw [← HTL.out]
       unfold hyp at hy
       rw [Bool.and_eq_true, Bool.or_eq_true, decide_eq_true_iff, decide_eq_true_iff] at hy
       rcases Nat.lt_or_ge 1 T.data.toList.length with h1 | h1
       ·exact h1
       ·exfalso
        cases hl : T.data.toList with
        | nil => rw [hl] at hy; revert hy; simp
        | cons c r =>
         rw [hl] at hy hd h1
         cases r with
         | nil =>
          have h2 : c = 45 := hy.1
          exact hd (by rw [h2])
         | cons c2 r2 => simp at h1
      have hts : T.size ≤ 100000 := by rw [← len_eq, HTL.out]; have := HIL1.out; omega
      have htp : 1 ≤ T.size := by rw [← len_eq, HTL.out]; omega
      have b1 : (T.toList == [45]) = false := by rw [ByteArray.toList_eq]; exact beq_eq_false_iff_ne.2 hd
      have hi1 : L ≤ 100000 := by have h1 := HIL1.out; have h2 := HIX.out; omega
      obtain ⟨cm, hcm9⟩ : ∃ cm, cutN T.data.toList 1 = cm := ⟨_, rfl⟩
      obtain ⟨Q, hQ⟩ : ∃ Q : ByteArray, Q = ba (T.data.toList.drop cm) := ⟨_, rfl⟩
      have hQl : T.data.toList.drop cm = Q.data.toList := by rw [hQ, ba_data]
      obtain ⟨ci, hci⟩ : ∃ ci, L + cm = ci := ⟨_, rfl⟩
      have hcx : cut1 x1 = ⟨no, ci, Q.data.toList⟩ := by
       unfold cut1
       rw [← HTL.out, HNX.out, HIX.out, ← hQl, ← hci, ← hcm9]
       rfl
      have HCUT : Hid (∀ W, Calls Tryz.prog 103 #[.agg #[.int .i64 (no : Int), .int .i64 (L : Int), .string T], .int .i64 1] W fun e w' => e = .returned (.agg #[.int .i64 (no : Int), .int .i64 (ci : Int), .string Q]) ∧ Below W.heap.size W w') := hid (fun W => by
       have h := Cut_in (no : Int) (L : Int) 1 cm T Q W hts (by omega) (by omega) htp hcm9 hQl
       rw [show (L : Int) + (cm : Int) = (ci : Int) by omega] at h
       exact h)
      have hpl : p1 < M1.length := by rw [HQ3.out.rd.2.1.1]; exact hp1n
      have hMx : M1[p1]'hpl = x1 := by
       have h1 := HX1.out
       rw [List.drop_eq_getElem_cons hpl] at h1
       injection h1
      have HFB : Hid (FineB (M1.set p1 (cut1 x1))) := hid (by
       have h1 := fineB_set HQ3.out.rd.2.1.2.2 hpl (by rw [hMx]; exact hlen)
       rwa [hMx] at h1)
      have HSD : Hid ((M1.set p1 (cut1 x1)).drop p1 = cut1 x1 :: l1) := hid (by
       rw [set_drop hpl, HQ3.out.rd.tail HX1.out])
      have HBK : Hid (∀ W, RD w0 g (.slice (some ⟨B, 0, none⟩) n cap) n W (M1.set p1 (cut1 x1)) p1 → Calls Tryz.prog 52 #[.pointer (some ⟨g, 0, none⟩)] W (Out w0 g (.slice (some ⟨B, 0, none⟩) n cap) n (M1.set p1 (cut1 x1)) p1 (p1 + 1) (cut1 x1).ind (kidS L x1 l1) W)) := hid (fun W hW => by
       rw [kidS_cut hlen]
       exact HIH.out w0 g _ n W _ p1 _ l1 HMX.out hW HSD.out (by
        have h1 := HBG.out
        have h2 := cut1_lt hlen
        simp only [big] at h1 ⊢
        omega))
      have HLV : Hid (L ≤ (cut1 x1).ind) := hid (by rw [← HIE.out]; exact Nat.le_add_right _ _)
      have HPL := hid hpl
      have HCX := hid hcx
      obtain ⟨d0, d1, -⟩ := HQ3.out.rd.cells
      clear hlen hts htp hy hd hcm9 hQ hQl hci hcx hpl hMx hi1
      go_upto_region 6 with (go_at_call 72; refine (HROW.out _).mono ?_; rintro e w' ⟨rfl, rfl⟩)
      have hS1 : W2.cell? ⟨g, 0, none⟩ = some (.slice (some ⟨B, 0, none⟩) n cap) ∧ W2.cell? ⟨g, 1, none⟩ = some (.int .i64 (p1 : Int)) ∧ W2.cell? ⟨lb, 0, none⟩ = some (.int .i64 (no : Int)) ∧ W2.cell? ⟨lb, 1, none⟩ = some (.int .i64 (L : Int)) ∧ W2.cell? ⟨lb, 2, none⟩ = some (.string T) := ⟨d0, d1, y0, y1, y2⟩
      have HSS : Hid (∀ W, Below W2.heap.size W2 W → W.cell? ⟨g, 0, none⟩ = some (.slice (some ⟨B, 0, none⟩) n cap) ∧ W.cell? ⟨g, 1, none⟩ = some (.int .i64 (p1 : Int)) ∧ W.cell? ⟨lb, 0, none⟩ = some (.int .i64 (no : Int)) ∧ W.cell? ⟨lb, 1, none⟩ = some (.int .i64 (L : Int)) ∧ W.cell? ⟨lb, 2, none⟩ = some (.string T)) := hid (fun W hb => by
       have h1 := (HQ3.out.go hb).rd.cells
       have h2 := (HL3.out.below hb HL3.out.lt).cells
       exact ⟨h1.1, h1.2.1, h2.1, h2.2.1, h2.2.2⟩)
      have HFF : Hid (∀ W, Below W2.heap.size W2 W → (W.cell? ⟨B, p1 * 3, none⟩ = some (.int .i64 (x1.no : Int)) ∧ W.cell? ⟨B, p1 * 3 + 1, none⟩ = some (.int .i64 (x1.ind : Int)) ∧ W.cell? ⟨B, p1 * 3 + 2, none⟩ = some (.string ⟨x1.text.toArray⟩)) ∧ (W.frozen? ⟨B, p1 * 3, none⟩ = false ∧ W.frozen? ⟨B, p1 * 3 + 1, none⟩ = false ∧ W.frozen? ⟨B, p1 * 3 + 2, none⟩ = false)) := hid (fun W hb => by
       obtain ⟨B', cap', e1, -, -, h0, h2⟩ := (HQ3.out.go hb).rd.here HX1.out
       injection e1 with e1
       injection e1 with e1
       injection e1 with e1
       subst e1
       exact ⟨h0, h2⟩)
      have HNB : Hid (g ≠ B ∧ lb ≠ B) := hid (by
       have h1 := HQ3.out.rd.apart
       have h2 := HQ3.out.at_.own B rfl
       have h3 := HKE.out
       have h4 := HKL.out
       have h5 := HKB.out
       exact ⟨fun e => h1 (by rw [e]; rfl), by omega⟩)
      have HS3 : Hid (∀ W u1 u2 u3, (W.cell? ⟨g, 0, none⟩ = some (.slice (some ⟨B, 0, none⟩) n cap) ∧ W.cell? ⟨g, 1, none⟩ = some (.int .i64 (p1 : Int)) ∧ W.cell? ⟨lb, 0, none⟩ = some (.int .i64 (no : Int)) ∧ W.cell? ⟨lb, 1, none⟩ = some (.int .i64 (L : Int)) ∧ W.cell? ⟨lb, 2, none⟩ = some (.string T)) → (p3 W B (p1 * 3) u1 u2 u3).cell? ⟨g, 0, none⟩ = some (.slice (some ⟨B, 0, none⟩) n cap) ∧ (p3 W B (p1 * 3) u1 u2 u3).cell? ⟨g, 1, none⟩ = some (.int .i64 (p1 : Int)) ∧ (p3 W B (p1 * 3) u1 u2 u3).cell? ⟨lb, 0, none⟩ = some (.int .i64 (no : Int)) ∧ (p3 W B (p1 * 3) u1 u2 u3).cell? ⟨lb, 1, none⟩ = some (.int .i64 (L : Int)) ∧ (p3 W B (p1 * 3) u1 u2 u3).cell? ⟨lb, 2, none⟩ = some (.string T)) := hid (by
       rintro W u1 u2 u3 ⟨a1, a2, a3, a4, a5⟩
       obtain ⟨n1, n2⟩ := HNB.out
       unfold p3
       exact ⟨cell_set (cell_set (cell_set a1 n1) n1) n1, cell_set (cell_set (cell_set a2 n1) n1) n1, cell_set (cell_set (cell_set a3 n2) n2) n2, cell_set (cell_set (cell_set a4 n2) n2) n2, cell_set (cell_set (cell_set a5 n2) n2) n2⟩)
      clear d0 d1 y0 y1 y2
      go_region_held3 (fun W => W.cell? ⟨g, 0, none⟩ = some (.slice (some ⟨B, 0, none⟩) n cap) ∧ W.cell? ⟨g, 1, none⟩ = some (.int .i64 (p1 : Int)) ∧ W.cell? ⟨lb, 0, none⟩ = some (.int .i64 (no : Int)) ∧ W.cell? ⟨lb, 1, none⟩ = some (.int .i64 (L : Int)) ∧ W.cell? ⟨lb, 2, none⟩ = some (.string T)) (first | with_reducible exact hS1 | with_reducible assumption | exact HSS.out _ (below_drew _) | exact HS3.out _ _ _ _ (by assumption))
       (first | (go_at_call 103; refine (HCUT.out _).mono ?_; rintro e w5 ⟨rfl, hb5⟩; have hbw : Below W2.heap.size W2 w5 := (below_drew W2).trans hb5; have hS5 := HSS.out w5 hbw; obtain ⟨⟨gg0, gg1, gg2⟩, ff0, ff1, ff2⟩ := HFF.out w5 hbw))
      rw [show ((w5.setCell ⟨B, p1 * 3, none⟩ (.int .i64 (no : Int))).setCell ⟨B, p1 * 3 + 1, none⟩ (.int .i64 (ci : Int))).setCell ⟨B, p1 * 3 + 2, none⟩ (.string Q) = p3 w5 B (p1 * 3) (.int .i64 (no : Int)) (.int .i64 (ci : Int)) (.string Q) from rfl]
      have hline : RD w0 g (.slice (some ⟨B, 0, none⟩) n cap) n (p3 w5 B (p1 * 3) (.int .i64 (no : Int)) (.int .i64 (ci : Int)) (.string Q)) (M1.set p1 (cut1 x1)) p1 ∧ KP g (.slice (some ⟨B, 0, none⟩) n cap) w5 (p3 w5 B (p1 * 3) (.int .i64 (no : Int)) (.int .i64 (ci : Int)) (.string Q)) := by
       have h := (HQ3.out.go hbw).rd.line HPL.out (cut1 x1) HFB.out
       have e1 : (cut1 x1).no = no := by rw [HCX.out]
       have e2 : (cut1 x1).ind = ci := by rw [HCX.out]
       have e3 : (⟨(cut1 x1).text.toArray⟩ : ByteArray) = Q := by rw [HCX.out]
       rw [e1, e2, e3] at h
       exact h
      have HD4 := hid hline.1
      have HKC := hid ((KP.of hbw : KP g (.slice (some ⟨B, 0, none⟩) n cap) W2 w5).trans hline.2)
      clear hline hbw hb5 hS5 gg0 gg1 gg2 ff0 ff1 ff2 hS1 HSS HFF HS3 HNB
      generalize p3 w5 B (p1 * 3) (.int .i64 (no : Int)) (.int .i64 (ci : Int)) (.string Q) = W4 at *
      go_wp2_with fail
      refine (HBK.out _ HD4.out).mono ?_
      rintro e w4 ⟨k, t, a, i, cc, A, m, q, E, rfl, hk, hc⟩
      have HKW := hid (HKC.out.trans hk)
      have HC : Hid (OutC w0 g (.slice (some ⟨B, 0, none⟩) n cap) n M1 p1 (p1 + 1) L (kidS L x1 l1) E w4 (fun d => NdC (fun b => W2.heap.size ≤ b ∧ b < w4.heap.size) w4 d (.int .i64 k) (.string t) (.slice a i cc) (.slice A m q))) := hid
       ((hc.cut.low (Nat.le_refl _) HLV.out).imp (fun M' p' h' => h') fun d hd => NdC.keep (fun b hb => ⟨⟨Nat.le_trans HKC.out.size hb.1, hb.2⟩, rfl⟩) _ hd)
      clear hk hc HBK HKC HD4
      have HXK := hid (HQ3.out.at_.row4 HKW.out (Nat.le_of_lt HKL.out) HK3.out)
      have HKA := hid (HBA.out.trans HKW.out)
      clear HK3
      obtain ⟨r0, r1, r2, r3⟩ := HXK.out.cells
      obtain ⟨fr0, fr1, fr2, fr3⟩ := HXK.out.frozen
      go_upto_region 12 with fail
      rw [show ((((w4.setCell ⟨kb, 0, none⟩ (.int .i64 k)).setCell ⟨kb, 1, none⟩ (.string t)).setCell ⟨kb, 2, none⟩ (.slice a i cc)).setCell ⟨kb, 3, none⟩ (.slice A m q)) = p4 w4 kb (.int .i64 k) (.string t) (.slice a i cc) (.slice A m q) from rfl]
      clear r0 r1 r2 r3 fr0 fr1 fr2 fr3
      have HF := hid (HQ1.out.fill (W2 := W2) (b := kb) (by rw [HKE.out]; exact Nat.le_refl _) HKS.out HKA.out HKW.out.size HC.out)
      have HX5 := hid (HXK.out.put (.int .i64 k) (.string t) (.slice a i cc) (.slice A m q))
      clear HXK HC HKW HQ3 HKA
      generalize p4 w4 kb (.int .i64 k) (.string t) (.slice a i cc) (.slice A m q) = W5 at *
      by_cases hE : E = 0
      ·subst hE
       have HOK : Hid (∃ M2 p2, RD w0 g (.slice (some ⟨B, 0, none⟩) n cap) n W5 M2 p2 ∧ p1 + 1 ≤ p2 ∧ M2.drop p2 = M1.drop p2 ∧ ∃ d, Gets L (kidS L x1 l1) d (p2 - p1) (M2.drop p2) ∧ NdC (fun z => Wa.heap.size ≤ z ∧ z < W5.heap.size) W5 d (.int .i64 k) (.string t) (.slice a i cc) (.slice A m q)) := hid (by
        obtain ⟨M2, p2, h1, h2⟩ := HF.out.2
        rcases h2 with ⟨-, h3, h4, d, h5, h6⟩ | ⟨h3, -⟩
        ·exact ⟨M2, p2, h1, h3, h4, d, h5, h6⟩
        ·exact absurd rfl h3)
       have HFW := hid HQ1.out.few
       have HOW := hid (HQ1.out.kept HF.out.1).1
       have HSZ : Hid (w.heap.size + 1 ≤ W5.heap.size) := hid (by have h1 := HQ1.out.low; have h2 := HF.out.1.size; omega)
       obtain ⟨sa, sc, hs6⟩ := own_shape HOW.out
       subst hs6
       obtain ⟨r0, r1, r2, r3⟩ := HX5.out.cells
       have HNX2 : Hid (∀ v' w6, w6.ownsRow (w.heap.size + 1) 25 4 v' (ds.length + 1) (flat4 qs ++ [.int .i64 k, .string t, .slice a i cc, .slice A m q]) → (W5.alloc (.cells #[.int .i64 k, .string t, .slice a i cc, .slice A m q] 25)).grownBy w6 (Value.slice sa ds.length sc).ownBlock → (v'.ownBlock = (Value.slice sa ds.length sc).ownBlock ∨ v'.ownBlock = some (W5.heap.size + 1)) →
         ∃ M2 p2 d, p1 + 1 ≤ p2 ∧ SQ w0 g (.slice (some ⟨B, 0, none⟩) n cap) n M p L TT w w6 v' M2 p2 (ds ++ [d]) (qs ++ [⟨.int .i64 k, .string t, .slice a i cc, .slice A m q⟩])) := hid (by
        intro v' w6 ho hg hk'
        obtain ⟨M2, p2, h1, h3, h4, d, h5, h6⟩ := HOK.out
        have hal : Below W5.heap.size W5 (W5.alloc (.cells #[.int .i64 k, .string t, .slice a i cc, .slice A m q] 25)) := (Below.refl _ _).alloc (Nat.le_refl _) _
        exact ⟨M2, p2, d, h3, HQ1.out.kid HX1.out HIE.out HHY.out (HF.out.1.go hal) (h1.go hal) h3 h4 h5 (q := ⟨.int .i64 k, .string t, .slice a i cc, .slice A m q⟩) (NdC.keep (fun z hz => ⟨⟨hz.1, Nat.lt_of_lt_of_le hz.2 hal.size⟩, hal.block z hz.2⟩) _ h6) ho hg (hk'.imp id fun e => by rw [e]; simp)⟩)
       obtain ⟨ln, hln⟩ : ∃ ln, ds.length = ln := ⟨_, rfl⟩
       obtain ⟨X8, hX8⟩ : ∃ X8, flat4 qs = X8 := ⟨_, rfl⟩
       rw [hln, hX8] at HOW HNX2
       rw [hln] at HFW ⊢
       have hlf := HFW.out
       clear hln hX8 HF HOK HQ1 HX5
       go_wp2_with (at_builtin; refine wpList_append_own_at _ rfl _ _ 23 rfl (w.heap.size + 1) 25 ni _ 4 72 Tryz.underlying23 hi0 hz0 hz1 hz2 rfl (by decide) (.slice sa ln sc) ln X8 rfl (HOW.out.alloc _) _ 1 1 [.int .i64 k, .string t, .slice a i cc, .slice A m q] rfl rfl (news_blk #[.int .i64 k, .string t, .slice a i cc, .slice A m q] (alloc_at _ _)) (four_nd _ _ _ _ _ _ _ _) (by unfold maxLen; omega) (by omega) (by have := HSZ.out; simp; omega) ?_)
       intro v'' w6 hownN hgN hnilN hkN
       have HQ6 := hid (HNX2.out v'' w6 hownN hgN hkN)
       obtain ⟨sa2, sc2, hsv⟩ := own_shape hownN
       subst hsv
       clear hownN hgN hnilN hkN HNX2 HOW
       go_wp2
       go_roundw
       case measure =>
        obtain ⟨M2, p2, d, hp2, hq2⟩ := HQ6.out
        have h1 := pos_of hq2.rd.cells.2.1
        have h2 := HMS.out
        have h3 := hq2.rd.2.1.2.1
        omega
       case rel =>
        obtain ⟨M2, p2, d, hp2, hq2⟩ := HQ6.out
        exact ⟨M2, p2, _, _, hq2⟩
      ·have HE := hid hE
       have eb : (E == 0) = false := beq_eq_false_iff_ne.2 hE
       have HRR := hid (HQ1.out.kept HF.out.1).2
       have HB5 : Hid (∀ k t a i cc A m q, Out w0 g (.slice (some ⟨B, 0, none⟩) n cap) n M p (p + 1) L TT w (.returned (.tuple #[.agg #[.int .i64 k, .string t, .slice a i cc, .slice A m q], .int .i64 E])) (p4 W5 w.heap.size (.int .i64 k) (.string t) (.slice a i cc) (.slice A m q))) := hid (by
        intro k t a i cc A m q
        obtain ⟨M2, p2, h1, h2⟩ := HF.out.2
        rcases h2 with ⟨h3, -⟩ | ⟨h3, y, t1, h4, h5⟩
        ·exact absurd h3 HE.out
        ·exact HQ1.out.bad HX1.out HIE.out HHY.out HF.out.1 h1 h3 h4 h5)
       obtain ⟨r0, r1, r2, r3⟩ := HRR.out.cells
       obtain ⟨fr0, fr1, fr2, fr3⟩ := HRR.out.frozen
       clear hE HF HX5 HQ1
       go_wp2
       refine bodyPost_ret (v := .tuple #[.agg #[.int .i64 0, .string ⟨#[]⟩, .slice none 0 0, .slice none 0 0], .int .i64 E]) (by simp [results, Tryz.results73, go_sem, r0, r1, r2, r3]) rfl ?_
       exact HB5.out 0 ⟨#[]⟩ none 0 0 none 0 0
   ·skip
    have HP : Hid (p + 1 ≤ p1) := hid (HOF.out (.inl (by rw [HIX.out]; exact hIL)))
    have HG : Hid (Gets L TT (.mk 2 [] [] ds) (p1 - p) (M1.drop p1)) := hid (by
     have h1 := HQ3.out.2.2.1
     rw [HX1.out] at h1 ⊢
     exact h1.off (.inl (by rw [HIX.out]; exact hIL)))
    have iz : ((I : Int) == (L : Int)) = false := by rw [beq_eq_false_iff_ne]; omega
    replace HQ1 := HQ3
    clear HQ3 HK3
    have HFR := hid HQ1.out.1.2.2.2
    obtain ⟨sa, sc, hs6⟩ := own_shape HQ1.out.2.2.2.1
    subst hs6
    have HSE := hid (Seq10_any (SBk w W2 (.slice sa ds.length sc)) (w.heap.size + 1) (.slice sa ds.length sc) qs ds W2 (fun b hb => hb.2.1) HQ1.out.2.2.2 HQ1.out.few)
    obtain ⟨ln, hln⟩ : ∃ ln, ds.length = ln := ⟨_, rfl⟩
    rw [hln] at HQ1 HSE ⊢
    clear hln
    go_wp2_with fail
    refine HSE.out.mono ?_
    rintro e w5 ⟨A, m, q, rfl, hN5, hb5⟩
    have HEN := hid (HQ1.out.end_ HP.out HG.out hb5 hN5)
    have HX5 := hid (HFR.out.below hb5 HFR.out.lt)
    clear hN5 hb5 HSE HQ1 HFR
    obtain ⟨r0, r1, r2, r3⟩ := HX5.out.cells
    obtain ⟨fr0, fr1, fr2, fr3⟩ := HX5.out.frozen
    go_wp2
    refine bodyPost_ret (v := .tuple #[.agg #[.int .i64 2, .string ⟨#[]⟩, .slice none 0 0, .slice A m q], .int .i64 0]) (by simp [results, Tryz.results73, go_sem, r0, r1, r2, r3]) rfl ?_
    exact HEN.out
end
end
end Go.Proofs.YtmdgpejedbkkdaaGreatDoor
