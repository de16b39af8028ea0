/- RefBlo6 -/
import Derived.Test.YtecglpocmhkkiaaGreatDoorPT35
set_option linter.unusedVariables false
set_option linter.unusedSimpArgs false
set_option maxRecDepth 100000
set_option maxHeartbeats 16000000
open Go.Lib (hid)
namespace Go.Proofs.YtecglpocmhkkiaaGreatDoor
section
open Go.RowKit Go.Sort
open Nw N8 Q6 F9 B10 Go.ChangeShapes Go.WideShapes
theorem Rrow10_any (M : Nat) (ih : FOf M) : SOf (M + 1) := by
 intro ls v k w hk hw hf hM
 have HLR : Hid (∀ W, Below w.heap.size w W → LR W v ls) := hid fun W hb => hw.below hb
 obtain ⟨A, cap, rfl, hcap, hcell⟩ := hw
 obtain ⟨n, hn⟩ : ∃ n, ls.length = n := ⟨_, rfl⟩
 obtain ⟨m, hm⟩ : ∃ m : Nat, (ls[k]'hk).ind = m := ⟨_, rfl⟩
 obtain ⟨R, hR⟩ : ∃ R, seqB m [] (ls.drop k) = R := ⟨_, rfl⟩
 obtain ⟨g, rfl, hg, -, c1, -⟩ := hcell k hk
 rw [hm] at c1 ⊢
 rw [hR]
 have hl : n ≤ 100000 := hn ▸ hf.1
 have hkn : k < n := hn ▸ hk
 rw [hn] at hcap HLR ⊢
 have HCELL : Hid (∀ (j : Nat) (hj : j < ls.length), g < w.heap.size ∧ w.cell? ⟨g, j * 3, none⟩ = some (.int .i64 ((ls[j]'hj).no : Int)) ∧ w.cell? ⟨g, j * 3 + 1, none⟩ = some (.int .i64 ((ls[j]'hj).ind : Int)) ∧ w.cell? ⟨g, j * 3 + 2, none⟩ = some (.string ⟨(ls[j]'hj).text.toArray⟩)) := hid (fun j hj => by
  obtain ⟨g', h1, h2, h3⟩ := hcell j hj
  injection h1 with h1
  injection h1 with h1
  subst h1
  exact ⟨h2, h3⟩)
 have HN := hid hn
 have HF := hid hf
 have HIH := hid ih
 have HM := hid hM
 have HWR := hid (fun (n e : Int) W => Rwrong_any n e W)
 generalize hW0 : w.alloc (.cells #[.int .i64 0, .string ⟨#[]⟩, .slice none 0 0, .slice none 0 0, .int .i64 0, .int .i64 0, .int .i64 0] 50) = W0 at *
 have hsz : W0.heap.size = w.heap.size + 1 := by rw [← hW0]; simp
 have hb0 : Below w.heap.size w W0 := by rw [← hW0]; exact (Below.refl _ _).alloc (Nat.le_refl _) _
 have hr0 : Row7 W0 w.heap.size 50 (.int .i64 0) (.string ⟨#[]⟩) (.slice none 0 0) (.slice none 0 0) (.int .i64 0) (.int .i64 0) (.int .i64 0) := by rw [← hW0]; exact Row7.make w _ _ _ _ _ _ _ _
 have d1 := (hb0.cell (p := ⟨g, k * 3 + 1, none⟩) hg).trans c1
 have HG : Hid (∀ W W' : World, (fun W => Below w.heap.size w W ∧ Row7 W w.heap.size 50 (.int .i64 0) (.string ⟨#[]⟩) (.slice none 0 0) (.slice none 0 0) (.int .i64 0) (.int .i64 0) (.int .i64 0)) W → Below W0.heap.size W W' → (fun W => Below w.heap.size w W ∧ Row7 W w.heap.size 50 (.int .i64 0) (.string ⟨#[]⟩) (.slice none 0 0) (.slice none 0 0) (.int .i64 0) (.int .i64 0) (.int .i64 0)) W') := hid fun W W' h hb => ⟨h.1.trans (hb.mono (by omega)), h.2.below hb (by omega)⟩
 have hal : Below W0.heap.size W0 (W0.alloc (.cells #[.int .i64 2, .string ⟨#[]⟩, .slice none 0 0, .slice none 0 0] 26)) := (Below.refl _ _).alloc (Nat.le_refl _) _
 have HR : Hid (RZ (fun _ => False) W0.heap.size (fun W => Below w.heap.size w W ∧ Row7 W w.heap.size 50 (.int .i64 0) (.string ⟨#[]⟩) (.slice none 0 0) (.slice none 0 0) (.int .i64 0) (.int .i64 0) (.int .i64 0)) (W0.alloc (.cells #[.int .i64 2, .string ⟨#[]⟩, .slice none 0 0, .slice none 0 0] 26)) 2 ⟨#[]⟩ (.slice none 0 0) [] (.slice none 0 0) []) := hid
  ⟨fun b hb => hb.elim, HG.out _ _ ⟨hb0, hr0⟩ hal, Row4.make W0 _ _ _ _ _, World.ownsRow_nil _ _ _ _, [], World.ownsRow_nil _ _ _ _, rfl, fun j hj => absurd hj (Nat.not_lt_zero _)⟩
 have HL := hid hsz
 have HRA : Hid ((seqB m [] (ls.drop k)).more (k - k) = R) := hid (by rw [Nat.sub_self, more_zero]; exact hR)
 obtain ⟨j0t, hj0, hy0, hy1, hy2⟩ := infoN
 have hkz : (k : Int) < (n : Int) := by omega
 clear hR hsz hb0 hr0 hal hn hm hf ih hM hcell c1 hk
 go_enter Tryz.func38, Tryz.ntmps38
 go_wp2
 generalize W0.alloc (.cells #[.int .i64 2, .string ⟨#[]⟩, .slice none 0 0, .slice none 0 0] 26) = W1 at *
 generalize W0.heap.size = OUT at *
 clear hW0 d1
 go_loopw [1, 7, 8] (fun s1 s7 s8 wr => ∃ (j : Nat) (su : Value) (acc : List Nd), j ≤ n ∧ acc.length ≤ j ∧ s1 = .int .i64 (j : Int) ∧ Hid (k ≤ j) ∧ Hid (RZ (fun _ => False) OUT (fun W => Below w.heap.size w W ∧ Row7 W w.heap.size 50 (.int .i64 0) (.string ⟨#[]⟩) (.slice none 0 0) (.slice none 0 0) (.int .i64 0) (.int .i64 0) (.int .i64 0)) wr 2 ⟨#[]⟩ (.slice none 0 0) [] su acc) ∧ Hid ((seqB m acc (ls.drop j)).more (j - k) = R)) (fun s1 _ _ _ => n - (intOf s1).toNat)
 case atStart => exact ⟨k, _, [], by omega, Nat.zero_le _, rfl, hid (Nat.le_refl _), HR, HRA⟩
 case round =>
  clear HR HRA
  obtain ⟨j, su, acc, hj, hacc, rfl, HKJ, HR, HRA⟩ := hrel
  by_cases hlt : j < n
  ·have hjl : j < ls.length := by rw [HN.out]; exact hlt
   have hjz : (j : Int) < (n : Int) := by omega
   have hdr : ls.drop j = (ls[j]'hjl) :: ls.drop (j + 1) := List.drop_eq_getElem_cons hjl
   obtain ⟨hg1, c0, c1, c2⟩ := HCELL.out j hjl
   have hfx := HF.out.2 j hjl
   have HFS : Hid (1 < (ls[j]'hjl).text.length → FineB (ls.set j (cut1 (ls[j]'hjl)))) := hid (fineB_set HF.out hjl)
   obtain ⟨x, hx⟩ : ∃ x, ls[j]'hjl = x := ⟨_, rfl⟩
   rw [hx] at hdr c0 c1 c2 hfx HFS
   obtain ⟨nx, hnx⟩ : ∃ a : Nat, x.no = a := ⟨_, rfl⟩
   obtain ⟨i, hi⟩ : ∃ a : Nat, x.ind = a := ⟨_, rfl⟩
   obtain ⟨T, hT⟩ : ∃ a : ByteArray, (⟨x.text.toArray⟩ : ByteArray) = a := ⟨_, rfl⟩
   have hTl : T.data.toList = x.text := by rw [← hT]
   rw [hnx] at c0
   rw [hi] at c1
   rw [hT] at c2
   have d0 := (HR.out.2.1.1.cell (p := ⟨g, j * 3, none⟩) hg1).trans c0
   have d1 := (HR.out.2.1.1.cell (p := ⟨g, j * 3 + 1, none⟩) hg1).trans c1
   have d2 := (HR.out.2.1.1.cell (p := ⟨g, j * 3 + 2, none⟩) hg1).trans c2
   have HDR := hid hdr
   have HNX := hid hnx
   have HI := hid hi
   have HTL := hid hTl
   have HFX := hid hfx
   clear hx hT c0 c1 c2 hdr hnx hTl hfx
   rcases Nat.lt_trichotomy i m with hlow | heq | hhigh
   ·
    have hge : ¬ (m : Int) ≤ (i : Int) := by omega
    have hlz : (i : Int) < (m : Int) := by omega
    have HX : Hid (R = .ok (.mk 2 [] [] acc) (j - k)) := hid (by have h := HRA.out; rw [HDR.out, seq_low (by rw [HI.out]; exact hlow)] at h; exact h.symm)
    clear HRA
    clear hi hlow
    obtain ⟨z0, z1, z2, z3⟩ := HR.out.2.2.1.cells
    obtain ⟨r0, r1, r2, r3, r4, r5, r6⟩ := HR.out.2.1.2.cells
    obtain ⟨fr0, fr1, fr2, fr3, fr4, fr5, fr6⟩ := HR.out.2.1.2.frozen
    obtain ⟨hA, hcq, rfl⟩ := own_shape HR.out.2.2.2.2.choose_spec.1
    have HD := hid (fnd_out HR.out HR.out.2.1.1 HL.out HKJ.out HX.out)
    obtain ⟨ln, hln⟩ : ∃ ln, acc.length = ln := ⟨_, rfl⟩
    rw [hln] at HR HD z3
    clear hln
    go_wp2
    refine bodyPost_ret (v := .agg #[.int .i64 2, .string ⟨#[]⟩, .slice none 0 0, .slice hA ln hcq, .int .i64 (j : Int), .int .i64 0, .int .i64 0]) (by simp [results, Tryz.results38, go_sem, r0, r1, r2, r3, r4, r5, r6]) rfl HD.out
   ·subst heq
    have HXW : Hid (∀ b, hyp T.data.toList = b → ∀ W, Calls Tryz.prog 13 #[.string T] W fun e w' => e = .returned (.bool b) ∧ W = w') := hid (fun b hb W => RHyp_any T b W (by have := HFX.out; rw [← HTL.out, len_eq] at this; omega) hb)
    cases hh : hyp T.data.toList with
    | false =>
     have HROW := hid (HXW.out false hh)
     have HX : Hid (R = .ok (.mk 2 [] [] acc) (j - k)) := hid (by have h := HRA.out; rw [HDR.out, seq_other HI.out (by rw [← HTL.out]; exact hh)] at h; exact h.symm)
     clear HRA
     have HR1 := hid (HR.out.go HG.out ((Below.refl wr.heap.size wr).alloc (Nat.le_refl _) (.cells #[.int .i64 (nx : Int), .int .i64 (i : Int), .string T] 52)))
     clear hh HXW
     go_wp2_with fail
     refine (HROW.out _).mono ?_
     rintro e w' ⟨rfl, rfl⟩
     clear d0 d1 d2 HR
     generalize (wr.alloc (.cells #[.int .i64 (nx : Int), .int .i64 (i : Int), .string T] 52)) = W2 at *
     have HR := HR1
     obtain ⟨z0, z1, z2, z3⟩ := HR.out.2.2.1.cells
     obtain ⟨r0, r1, r2, r3, r4, r5, r6⟩ := HR.out.2.1.2.cells
     obtain ⟨fr0, fr1, fr2, fr3, fr4, fr5, fr6⟩ := HR.out.2.1.2.frozen
     obtain ⟨hA, hcq, rfl⟩ := own_shape HR.out.2.2.2.2.choose_spec.1
     have HD := hid (fnd_out HR.out HR.out.2.1.1 HL.out HKJ.out HX.out)
     obtain ⟨ln, hln⟩ : ∃ ln, acc.length = ln := ⟨_, rfl⟩
     rw [hln] at HR HD z3
     clear hln
     go_wp2
     refine bodyPost_ret (v := .agg #[.int .i64 2, .string ⟨#[]⟩, .slice none 0 0, .slice hA ln hcq, .int .i64 (j : Int), .int .i64 0, .int .i64 0]) (by simp [results, Tryz.results38, go_sem, r0, r1, r2, r3, r4, r5, r6]) rfl HD.out
    | true =>
     have HROW := hid (HXW.out true hh)
     have HHY : Hid (hyp x.text = true) := hid (by rw [← HTL.out]; exact hh)
     have wj : IntKind.i64.wrap ((j : Int) + 1) = (j : Int) + 1 := IntWalk.i64_in _ (by omega)
     have hb2 : Below wr.heap.size wr ((wr.alloc (.cells #[.int .i64 (nx : Int), .int .i64 (i : Int), .string T] 52)).alloc (.cells #[.int .i64 0, .string ⟨#[]⟩, .slice none 0 0, .slice none 0 0, .int .i64 ((j : Int) + 1), .int .i64 0, .int .i64 0] 50)) := ((Below.refl wr.heap.size wr).alloc (Nat.le_refl _) _).alloc (by simp) _
     have HB2 := hid hb2
     have HBW : Hid (Below w.heap.size w ((wr.alloc (.cells #[.int .i64 (nx : Int), .int .i64 (i : Int), .string T] 52)).alloc (.cells #[.int .i64 0, .string ⟨#[]⟩, .slice none 0 0, .slice none 0 0, .int .i64 ((j : Int) + 1), .int .i64 0, .int .i64 0] 50))) := hid (HR.out.2.1.1.trans (hb2.mono (Nat.le_of_lt HR.out.2.1.2.lt)))
     have HX3 : Hid (Row3 ((wr.alloc (.cells #[.int .i64 (nx : Int), .int .i64 (i : Int), .string T] 52)).alloc (.cells #[.int .i64 0, .string ⟨#[]⟩, .slice none 0 0, .slice none 0 0, .int .i64 ((j : Int) + 1), .int .i64 0, .int .i64 0] 50)) wr.heap.size 52 (.int .i64 (nx : Int)) (.int .i64 (i : Int)) (.string T)) := hid ((Row3.make wr _ _ _ _).alloc _)
     have HK7 : Hid (Row7 ((wr.alloc (.cells #[.int .i64 (nx : Int), .int .i64 (i : Int), .string T] 52)).alloc (.cells #[.int .i64 0, .string ⟨#[]⟩, .slice none 0 0, .slice none 0 0, .int .i64 ((j : Int) + 1), .int .i64 0, .int .i64 0] 50)) (wr.heap.size + 1) 50 (.int .i64 0) (.string ⟨#[]⟩) (.slice none 0 0) (.slice none 0 0) (.int .i64 ((j : Int) + 1)) (.int .i64 0) (.int .i64 0)) := hid (by
      have h := Row7.make (wr.alloc (.cells #[.int .i64 (nx : Int), .int .i64 (i : Int), .string T] 52)) 50 (.int .i64 0) (.string ⟨#[]⟩) (.slice none 0 0) (.slice none 0 0) (.int .i64 ((j : Int) + 1)) (.int .i64 0) (.int .i64 0)
      rw [show (wr.alloc (.cells #[.int .i64 (nx : Int), .int .i64 (i : Int), .string T] 52)).heap.size = wr.heap.size + 1 by simp] at h
      exact h)
     have HOW : Hid (OUT < wr.heap.size ∧ (∀ b, su.ownBlock = some b → b < wr.heap.size) ∧ w.heap.size < wr.heap.size) := hid ⟨HR.out.lt, fun b hb => (HR.out.2.2.2.2.choose_spec.1.lt b hb).2, HR.out.2.1.2.lt⟩
     obtain ⟨K, hK⟩ : ∃ K, kidS i x (ls.drop (j + 1)) = K := ⟨_, rfl⟩
     have HK := hid hK
     obtain ⟨tz, htz⟩ : ∃ tz, T.size = tz := ⟨_, rfl⟩
     have HTZ : Hid (x.text.length = tz) := hid (by rw [← HTL.out, len_eq]; exact htz)
     clear hh HXW hb2 hK
     by_cases h1 : 1 < tz
     case' pos =>
      have h1z : (1 : Int) < (tz : Int) := by omega
      obtain ⟨cm, hcm⟩ : ∃ cm, cutN T.data.toList 1 = cm := ⟨_, rfl⟩
      obtain ⟨Q, hQ⟩ : ∃ Q : ByteArray, Q = ba (T.data.toList.drop cm) := ⟨_, rfl⟩
      have hQl : T.data.toList.drop cm = Q.data.toList := by rw [hQ, ba_data]
      obtain ⟨ci, hci⟩ : ∃ ci, i + cm = ci := ⟨_, rfl⟩
      have hcx : cut1 x = ⟨nx, ci, Q.data.toList⟩ := by
       unfold cut1
       rw [← HTL.out, HNX.out, HI.out, ← hQl, ← hci, ← hcm]
       rfl
      have HCUT : Hid (∀ W, Calls Tryz.prog 65 #[.agg #[.int .i64 (nx : Int), .int .i64 (i : Int), .string T], .int .i64 1] W fun e w' => e = .returned (.agg #[.int .i64 (nx : Int), .int .i64 (ci : Int), .string Q]) ∧ Below W.heap.size W w') := hid (fun W => by
       have h := RCut_in (nx : Int) (i : Int) 1 cm T Q W (by have := HFX.out; have := HTZ.out; omega) (by omega) (by have := HFX.out; have := HI.out; omega) (by omega) hcm hQl
       rw [show (i : Int) + (cm : Int) = (ci : Int) by omega] at h
       exact h)
      have HWIT : Hid (∀ W, LR W (.slice (some ⟨g, 0, none⟩) n cap) ls → Calls Tryz.prog 64 #[.slice (some ⟨g, 0, none⟩) n cap, .int .i64 (j : Int), .agg #[.int .i64 (nx : Int), .int .i64 (ci : Int), .string Q]] W (GivesLn (ls.set j (cut1 x)) W)) := hid (fun W hW => by
       have h := RWithL_any _ ls j (cut1 x) Q (by rw [hcx]) W hW hjl HF.out.1
       rw [hcx] at h ⊢
       exact h)
      have HBL : Hid (∀ W v', LR W v' (ls.set j (cut1 x)) → Calls Tryz.prog 20 #[v', .int .i64 (j : Int)] W (GotF j K W)) := hid (fun W v' hW => by
       have h := HIH.out (ls.set j (cut1 x)) v' j W (by rw [List.length_set]; exact hjl) hW (HFS.out (by rw [HTZ.out]; exact h1)) (by
        have h2 := cut1_lt (x := x) (by rw [HTZ.out]; exact h1)
        have h3 := HM.out
        have h4 : big (ls.drop j) ≤ big (ls.drop k) := by
         have := big_drop (j - k) (ls.drop k)
         rw [List.drop_drop, show k + (j - k) = j by have := HKJ.out; omega] at this
         exact this
        rw [HDR.out] at h4
        rw [set_drop hjl]
        simp only [big] at h4 ⊢
        omega)
       rw [set_drop hjl] at h
       have hk9 := HK.out
       unfold kidS at hk9
       rw [if_pos (by rw [HTZ.out]; exact h1)] at hk9
       rw [hk9] at h
       exact h)
      clear hcm hQ hQl hci hcx h1
      go_wp2_with fail
      refine (HROW.out _).mono ?_
      rintro e w' ⟨rfl, rfl⟩
      go_wp2_with fail
      clear d0 d1 d2
      generalize ((wr.alloc (.cells #[.int .i64 (nx : Int), .int .i64 (i : Int), .string T] 52)).alloc (.cells #[.int .i64 0, .string ⟨#[]⟩, .slice none 0 0, .slice none 0 0, .int .i64 ((j : Int) + 1), .int .i64 0, .int .i64 0] 50)) = W2 at *
      generalize hwl : wr.heap.size = wl
      rw [hwl] at HX3 HK7 HOW
      have HWL := hid hwl
      clear hwl
      obtain ⟨x0, x1, x2⟩ := HX3.out.cells
      refine (HCUT.out _).mono ?_
      rintro e w3 ⟨rfl, hb3⟩
      go_wp2_with fail
      refine (HWIT.out _ (HLR.out _ (HBW.out.trans (hb3.mono HBW.out.size)))).mono ?_
      rintro e w4 ⟨v', rfl, hlr, hb4⟩
      go_wp2_with fail
      refine (HBL.out _ _ hlr).mono ?_
      clear hlr x0 x1 x2 HCUT HWIT HBL
      rintro e w5 ⟨v_k, v_s, v_a, v_n, v_c, v_A, v_m, v_q, v_x, v_o, v_e, rfl, hb5, hf5⟩
      have hb25 := (hb3.trans (hb4.mono hb3.size)).trans (hb5.mono (Nat.le_trans hb3.size hb4.size))
      have HK7b : Hid (Row7 (p7 w5 (wl + 1) (.int .i64 v_k) (.string v_s) (.slice v_a v_n v_c) (.slice v_A v_m v_q) (.int .i64 v_x) (.int .i64 v_o) (.int .i64 v_e)) (wl + 1) 50 (.int .i64 v_k) (.string v_s) (.slice v_a v_n v_c) (.slice v_A v_m v_q) (.int .i64 v_x) (.int .i64 v_o) (.int .i64 v_e)) := hid ((HK7.out.below hb25 HK7.out.lt).set _ _ _ _ _ _ _)
      have HR3 : Hid (RZ (fun _ => False) OUT (fun W => Below w.heap.size w W ∧ Row7 W w.heap.size 50 (.int .i64 0) (.string ⟨#[]⟩) (.slice none 0 0) (.slice none 0 0) (.int .i64 0) (.int .i64 0) (.int .i64 0)) (p7 w5 (wl + 1) (.int .i64 v_k) (.string v_s) (.slice v_a v_n v_c) (.slice v_A v_m v_q) (.int .i64 v_x) (.int .i64 v_o) (.int .i64 v_e)) 2 ⟨#[]⟩ (.slice none 0 0) [] su acc) := hid (HR.out.go HG.out (below_p7 (HB2.out.trans (hb25.mono HB2.out.size)) (by rw [HWL.out]; omega) _ _ _ _ _ _ _))
      have HFK : Hid (FIs (fun b => wl + 1 < b ∧ b < (p7 w5 (wl + 1) (.int .i64 v_k) (.string v_s) (.slice v_a v_n v_c) (.slice v_A v_m v_q) (.int .i64 v_x) (.int .i64 v_o) (.int .i64 v_e)).heap.size) (p7 w5 (wl + 1) (.int .i64 v_k) (.string v_s) (.slice v_a v_n v_c) (.slice v_A v_m v_q) (.int .i64 v_x) (.int .i64 v_o) (.int .i64 v_e)) j K v_k v_s (.slice v_a v_n v_c) (.slice v_A v_m v_q) v_x v_o v_e) := hid (FIs.keep (fun b (hb : w4.heap.size ≤ b ∧ b < w5.heap.size) => ⟨⟨Nat.lt_of_lt_of_le (Nat.lt_of_lt_of_le (Nat.lt_of_lt_of_le HK7.out.lt hb3.size) hb4.size) hb.1, by rw [p7_size]; exact hb.2⟩, p7_oth b (Nat.ne_of_gt (Nat.lt_of_lt_of_le (Nat.lt_of_lt_of_le (Nat.lt_of_lt_of_le HK7.out.lt hb3.size) hb4.size) hb.1)) _ _ _ _ _ _ _⟩) hf5)
      obtain ⟨q0, q1, q2, q3, q4, q5, q6⟩ := (HK7.out.below hb25 HK7.out.lt).cells
      obtain ⟨fq0, fq1, fq2, fq3, fq4, fq5, fq6⟩ := (HK7.out.below hb25 HK7.out.lt).frozen
      clear hb5 hf5 hb25 HK7 HR HX3 HB2 HBW HWL
      go_upto_region 13 with fail
      clear q0 q1 q2 q3 q4 q5 q6 fq0 fq1 fq2 fq3 fq4 fq5 fq6
      rw [show (((((((w5.setCell ⟨wl + 1, 0, none⟩ (.int .i64 v_k)).setCell ⟨wl + 1, 1, none⟩ (.string v_s)).setCell ⟨wl + 1, 2, none⟩ (.slice v_a v_n v_c)).setCell ⟨wl + 1, 3, none⟩ (.slice v_A v_m v_q)).setCell ⟨wl + 1, 4, none⟩ (.int .i64 v_x)).setCell ⟨wl + 1, 5, none⟩ (.int .i64 v_o)).setCell ⟨wl + 1, 6, none⟩ (.int .i64 v_e)) = (p7 w5 (wl + 1) (.int .i64 v_k) (.string v_s) (.slice v_a v_n v_c) (.slice v_A v_m v_q) (.int .i64 v_x) (.int .i64 v_o) (.int .i64 v_e)) from rfl]
      generalize (p7 w5 (wl + 1) (.int .i64 v_k) (.string v_s) (.slice v_a v_n v_c) (.slice v_A v_m v_q) (.int .i64 v_x) (.int .i64 v_o) (.int .i64 v_e)) = W3 at *
      have HR := HR3
      have HK7 := HK7b
      clear HR3 HK7b
      clear hb3 hb4
     case' neg =>
      have h1z : ¬ (1 : Int) < (tz : Int) := by omega
      have HDE : Hid (∀ b, deep i (ls.drop (j + 1)) = b → ∀ W, LR W (.slice (some ⟨g, 0, none⟩) n cap) ls → Calls Tryz.prog 66 #[.slice (some ⟨g, 0, none⟩) n cap, .int .i64 ((j : Int) + 1), .int .i64 (i : Int)] W fun e w' => e = .returned (.bool b) ∧ W = w') := hid (fun b hb W hW => RDeeper_any _ ls (j + 1) i b W hW HF.out.1 hjl hb)
      cases hdp : deep i (ls.drop (j + 1))
      case' true =>
       have HDB := hid (HDE.out true hdp)
       have hj1 : j + 1 < ls.length := by
        rcases Nat.lt_or_ge (j + 1) ls.length with h | h
        ·exact h
        ·rw [List.drop_of_length_le h] at hdp; cases hdp
       have HBL : Hid (∀ W, LR W (.slice (some ⟨g, 0, none⟩) n cap) ls → Calls Tryz.prog 20 #[.slice (some ⟨g, 0, none⟩) n cap, .int .i64 ((j : Int) + 1)] W (GotF (j + 1) (blkB (ls.drop (j + 1))) W)) := hid (fun W hW => HIH.out ls _ (j + 1) W hj1 hW HF.out (by
        have h3 := HM.out
        have h4 : big (ls.drop j) ≤ big (ls.drop k) := by
         have := big_drop (j - k) (ls.drop k)
         rw [List.drop_drop, show k + (j - k) = j by have := HKJ.out; omega] at this
         exact this
        rw [HDR.out] at h4
        simp only [big] at h4
        omega))
       have HKB : Hid ((blkB (ls.drop (j + 1))).more 1 = K) := hid (by
        have hk9 := HK.out
        unfold kidS at hk9
        rw [if_neg (by rw [HTZ.out]; exact h1), if_pos hdp] at hk9
        exact hk9)
       clear h1 hdp HDE
       go_wp2_with fail
       refine (HROW.out _).mono ?_
       rintro e w' ⟨rfl, rfl⟩
       go_wp2_with fail
       clear d0 d1 d2
       generalize ((wr.alloc (.cells #[.int .i64 (nx : Int), .int .i64 (i : Int), .string T] 52)).alloc (.cells #[.int .i64 0, .string ⟨#[]⟩, .slice none 0 0, .slice none 0 0, .int .i64 ((j : Int) + 1), .int .i64 0, .int .i64 0] 50)) = W2 at *
       generalize hwl : wr.heap.size = wl
       rw [hwl] at HX3 HK7 HOW
       have HWL := hid hwl
       clear hwl
       refine (HDB.out _ (HLR.out _ HBW.out)).mono ?_
       rintro e w' ⟨rfl, rfl⟩
       go_wp2_with fail
       refine (HBL.out _ (HLR.out _ HBW.out)).mono ?_
       clear HBL HDB
       rintro e w5 ⟨v_k, v_s, v_a, v_n, v_c, v_A, v_m, v_q, v_x, v_o, v_e, rfl, hb5, hf5⟩
       have hb25 := hb5
       have HK7b : Hid (Row7 (p7 w5 (wl + 1) (.int .i64 v_k) (.string v_s) (.slice v_a v_n v_c) (.slice v_A v_m v_q) (.int .i64 v_x) (.int .i64 v_o) (.int .i64 v_e)) (wl + 1) 50 (.int .i64 v_k) (.string v_s) (.slice v_a v_n v_c) (.slice v_A v_m v_q) (.int .i64 v_x) (.int .i64 v_o) (.int .i64 v_e)) := hid ((HK7.out.below hb25 HK7.out.lt).set _ _ _ _ _ _ _)
       have HR3 : Hid (RZ (fun _ => False) OUT (fun W => Below w.heap.size w W ∧ Row7 W w.heap.size 50 (.int .i64 0) (.string ⟨#[]⟩) (.slice none 0 0) (.slice none 0 0) (.int .i64 0) (.int .i64 0) (.int .i64 0)) (p7 w5 (wl + 1) (.int .i64 v_k) (.string v_s) (.slice v_a v_n v_c) (.slice v_A v_m v_q) (.int .i64 v_x) (.int .i64 v_o) (.int .i64 v_e)) 2 ⟨#[]⟩ (.slice none 0 0) [] su acc) := hid (HR.out.go HG.out (below_p7 (HB2.out.trans (hb25.mono HB2.out.size)) (by rw [HWL.out]; omega) _ _ _ _ _ _ _))
       have HFK : Hid (FIs (fun b => wl + 1 < b ∧ b < (p7 w5 (wl + 1) (.int .i64 v_k) (.string v_s) (.slice v_a v_n v_c) (.slice v_A v_m v_q) (.int .i64 v_x) (.int .i64 v_o) (.int .i64 v_e)).heap.size) (p7 w5 (wl + 1) (.int .i64 v_k) (.string v_s) (.slice v_a v_n v_c) (.slice v_A v_m v_q) (.int .i64 v_x) (.int .i64 v_o) (.int .i64 v_e)) j K v_k v_s (.slice v_a v_n v_c) (.slice v_A v_m v_q) v_x v_o v_e) := hid (FIs.keep (fun b (hb : W2.heap.size ≤ b ∧ b < w5.heap.size) => ⟨⟨Nat.lt_of_lt_of_le HK7.out.lt hb.1, by rw [p7_size]; exact hb.2⟩, p7_oth b (Nat.ne_of_gt (Nat.lt_of_lt_of_le HK7.out.lt hb.1)) _ _ _ _ _ _ _⟩) (by have h9 := FIs.more hf5; rw [HKB.out] at h9; exact h9))
       obtain ⟨q0, q1, q2, q3, q4, q5, q6⟩ := (HK7.out.below hb25 HK7.out.lt).cells
       obtain ⟨fq0, fq1, fq2, fq3, fq4, fq5, fq6⟩ := (HK7.out.below hb25 HK7.out.lt).frozen
       clear hb5 hf5 hb25 HK7 HR HX3 HB2 HBW HWL
       go_upto_region 13 with fail
       clear q0 q1 q2 q3 q4 q5 q6 fq0 fq1 fq2 fq3 fq4 fq5 fq6
       rw [show (((((((w5.setCell ⟨wl + 1, 0, none⟩ (.int .i64 v_k)).setCell ⟨wl + 1, 1, none⟩ (.string v_s)).setCell ⟨wl + 1, 2, none⟩ (.slice v_a v_n v_c)).setCell ⟨wl + 1, 3, none⟩ (.slice v_A v_m v_q)).setCell ⟨wl + 1, 4, none⟩ (.int .i64 v_x)).setCell ⟨wl + 1, 5, none⟩ (.int .i64 v_o)).setCell ⟨wl + 1, 6, none⟩ (.int .i64 v_e)) = (p7 w5 (wl + 1) (.int .i64 v_k) (.string v_s) (.slice v_a v_n v_c) (.slice v_A v_m v_q) (.int .i64 v_x) (.int .i64 v_o) (.int .i64 v_e)) from rfl]
       generalize (p7 w5 (wl + 1) (.int .i64 v_k) (.string v_s) (.slice v_a v_n v_c) (.slice v_A v_m v_q) (.int .i64 v_x) (.int .i64 v_o) (.int .i64 v_e)) = W3 at *
       have HR := HR3
       have HK7 := HK7b
       clear HR3 HK7b
      case' false =>
       have HDB := hid (HDE.out false hdp)
       have HKB : Hid (K = .ok nul 1) := hid (by
        have hk9 := HK.out
        unfold kidS at hk9
        rw [if_neg (by rw [HTZ.out]; exact h1), if_neg (by rw [hdp]; decide)] at hk9
        exact hk9.symm)
       clear h1 hdp HDE
       go_wp2_with fail
       refine (HROW.out _).mono ?_
       rintro e w' ⟨rfl, rfl⟩
       go_wp2_with fail
       clear d0 d1 d2
       generalize ((wr.alloc (.cells #[.int .i64 (nx : Int), .int .i64 (i : Int), .string T] 52)).alloc (.cells #[.int .i64 0, .string ⟨#[]⟩, .slice none 0 0, .slice none 0 0, .int .i64 ((j : Int) + 1), .int .i64 0, .int .i64 0] 50)) = W3 at *
       generalize hwl : wr.heap.size = wl
       rw [hwl] at HX3 HK7 HOW
       clear hwl
       refine (HDB.out _ (HLR.out _ HBW.out)).mono ?_
       rintro e w' ⟨rfl, rfl⟩
       have HR := hid (HR.out.go HG.out HB2.out)
       obtain ⟨v_k, hv_k⟩ : ∃ a : Int, a = 0 := ⟨_, rfl⟩
       obtain ⟨v_o, hv_o⟩ : ∃ a : Int, a = 0 := ⟨_, rfl⟩
       obtain ⟨v_e, hv_e⟩ : ∃ a : Int, a = 0 := ⟨_, rfl⟩
       obtain ⟨v_s, hv_s⟩ : ∃ a : ByteArray, a = ⟨#[]⟩ := ⟨_, rfl⟩
       obtain ⟨v_a, hv_a⟩ : ∃ a : Option Addr, a = none := ⟨_, rfl⟩
       obtain ⟨v_A, hv_A⟩ : ∃ a : Option Addr, a = none := ⟨_, rfl⟩
       obtain ⟨v_n, hv_n⟩ : ∃ a : Nat, a = 0 := ⟨_, rfl⟩
       obtain ⟨v_c, hv_c⟩ : ∃ a : Nat, a = 0 := ⟨_, rfl⟩
       obtain ⟨v_m, hv_m⟩ : ∃ a : Nat, a = 0 := ⟨_, rfl⟩
       obtain ⟨v_q, hv_q⟩ : ∃ a : Nat, a = 0 := ⟨_, rfl⟩
       obtain ⟨v_x, hv_x⟩ : ∃ a : Int, a = (j : Int) + 1 := ⟨_, rfl⟩
       have HK7b : Hid (Row7 W3 (wl + 1) 50 (.int .i64 v_k) (.string v_s) (.slice v_a v_n v_c) (.slice v_A v_m v_q) (.int .i64 v_x) (.int .i64 v_o) (.int .i64 v_e)) := hid (by subst hv_k; subst hv_o; subst hv_e; subst hv_s; subst hv_a; subst hv_A; subst hv_n; subst hv_c; subst hv_m; subst hv_q; subst hv_x; exact HK7.out)
       have HFK : Hid (FIs (fun b => wl + 1 < b ∧ b < W3.heap.size) W3 j K v_k v_s (.slice v_a v_n v_c) (.slice v_A v_m v_q) v_x v_o v_e) := hid (by subst hv_k; subst hv_o; subst hv_e; subst hv_s; subst hv_a; subst hv_A; subst hv_n; subst hv_c; subst hv_m; subst hv_q; subst hv_x; rw [HKB.out]; exact ⟨rfl, rfl, nd_nul _ _⟩)
       clear HK7 HB2 HBW HX3 hv_k hv_o hv_e hv_s hv_a hv_A hv_n hv_c hv_m hv_q hv_x HDB
       have HK7 := HK7b
       clear HK7b
     all_goals
      rcases K with ⟨bn, be⟩ | ⟨d, k2⟩
      ·
       obtain ⟨ho, he⟩ := HFK.out
       have hne := kids_err HK.out
       rw [← he] at hne
       have e1 : (v_e == 0) = false := beq_eq_false_iff_ne.2 hne
       have e2 : (v_e != 0) = true := by rw [bne_iff_ne]; exact hne
       have HX : Hid (R = .bad bn be) := hid (seq_wrong HDR.out HI.out HHY.out HRA.out HK.out)
       have HD := hid (fnd_ret2 (k := k) (R := R) (w := w) (W := W3) (kk := v_k) (t := v_s) (a := v_a) (nn := v_n) (c := v_c) (A := v_A) (m := v_m) (q := v_q) (nx := v_x) (no := v_o) (er := v_e) HR.out.2.1.1 (by rw [HX.out]; exact ⟨ho, he⟩))
       clear ho he hne HRA HFK
       obtain ⟨b0, b1, b2, b3, b4, b5, b6⟩ := HK7.out.cells
       obtain ⟨r0, r1, r2, r3, r4, r5, r6⟩ := HR.out.2.1.2.cells
       obtain ⟨fr0, fr1, fr2, fr3, fr4, fr5, fr6⟩ := HR.out.2.1.2.frozen
       go_wp2
       refine bodyPost_ret (v := .agg #[.int .i64 v_k, .string v_s, .slice v_a v_n v_c, .slice v_A v_m v_q, .int .i64 v_x, .int .i64 v_o, .int .i64 v_e]) (by simp [results, Tryz.results38, go_sem, r0, r1, r2, r3, r4, r5, r6]) rfl HD.out
      ·
       obtain ⟨he, hx2, hnd⟩ := HFK.out
       subst he
       obtain ⟨j2, hj2⟩ : ∃ j2, j + k2 = j2 := ⟨_, rfl⟩
       rw [hj2] at hx2
       subst hx2
       have hkt := kids_took HK.out
       rw [List.length_drop, HN.out] at hkt
       have hj2n : j2 ≤ n := by omega
       have hjlt : j < j2 := by omega
       have HRA2 : Hid ((seqB i (acc ++ [d]) (ls.drop j2)).more (j2 - k) = R) := hid (by have h := seq_on HDR.out HI.out HHY.out HKJ.out HRA.out HK.out; rw [hj2] at h; exact h)
       have HKJ2 : Hid (k ≤ j2) := hid (by have := HKJ.out; omega)
       have HNDD := hid hnd
       clear hnd hkt hj2 HRA HFK HK HHY HDR HFS
       obtain ⟨b0, b1, b2, b3, b4, b5, b6⟩ := HK7.out.cells
       obtain ⟨z0, z1, z2, z3⟩ := HR.out.2.2.1.cells
       obtain ⟨f0, f1, f2, f3⟩ := HR.out.2.2.1.frozen
       obtain ⟨qs, hko⟩ := HR.out.2.2.2.2
       have HQ := hid hko
       have HOWN := hid hko.1
       obtain ⟨ln, hln⟩ : ∃ ln, acc.length = ln := ⟨_, rfl⟩
       obtain ⟨X8, hX8⟩ : ∃ X8, flat4 qs = X8 := ⟨_, rfl⟩
       have HX8 := hid hX8
       have HLN := hid hln
       rw [hX8, hln] at HOWN
       rw [hln] at hacc
       have hOlt := HR.out.lt
       have n8O : su.ownBlock ≠ some OUT := fun e => by have := (hko.1.lt _ e).1; omega
       clear hko hX8 hln
       go_upto_region 16 with (at_builtin; refine wpList_append_own_at _ rfl _ _ 24 rfl (OUT + 1) 26 j0t _ 4 72 Tryz.underlying24 hj0 hy0 hy1 hy2 rfl (by decide) su ln X8 rfl (HOWN.out.alloc _) _ 1 1 [.int .i64 v_k, .string v_s, .slice v_a v_n v_c, .slice v_A v_m v_q] rfl rfl (news_blk #[.int .i64 v_k, .string v_s, .slice v_a v_n v_c, .slice v_A v_m v_q] (alloc_at _ _)) (four_nd _ _ _ _ _ _ _ _) (by unfold maxLen; omega) (by omega) (by simp; omega) ?_; intro v'' w4 hownN hgN hnilN hkN; obtain ⟨a8, q8, rfl⟩ := own_shape hownN; have hz4 : w4.cell? ⟨OUT, 3, none⟩ = some su := cell_grown (cells_alloc z3) hgN n8O; have hf4 : w4.frozen? ⟨OUT, 3, none⟩ = false := frozen_grown (frozen_alloc f3 hOlt) hgN (by simp; omega) n8O)
       have hal : Below W3.heap.size W3 (W3.alloc (.cells #[.int .i64 v_k, .string v_s, .slice v_a v_n v_c, .slice v_A v_m v_q] 26)) := (Below.refl _ _).alloc (Nat.le_refl _) _
       have hg9 : World.grownBy (W3.alloc (.cells #[.int .i64 v_k, .string v_s, .slice v_a v_n v_c, .slice v_A v_m v_q] 26)) w4 su.ownBlock := ⟨hgN.os, hgN.tape, hgN.output, hgN.size, hgN.block⟩
       have HK9 : Hid (Row7 (w4.setCell ⟨OUT, 3, none⟩ (.slice a8 (ln + 1) q8)) (wl + 1) 50 (.int .i64 v_k) (.string v_s) (.slice v_a v_n v_c) (.slice v_A v_m v_q) (.int .i64 (j2 : Int)) (.int .i64 v_o) (.int .i64 0)) := hid ((set_oth _ ⟨OUT, 3, none⟩ _ _ (by show wl + 1 ≠ OUT; have := HOW.out.1; omega)).trans ((hg9.block _ (Nat.lt_of_lt_of_le HK7.out.lt hal.size) (fun e => by have := HOW.out.2.1 _ e.symm; omega)).trans (HK7.out.below hal HK7.out.lt)))
       have HR3 := hid (RZ.kids2 (B := fun b => wl + 1 < b ∧ b < W3.heap.size) (q := ⟨.int .i64 v_k, .string v_s, .slice v_a v_n v_c, .slice v_A v_m v_q⟩) (e := d) HG.out HR.out hal (by rw [HLN.out]) qs HQ.out (by rw [HX8.out]) hownN hg9 hkN (fun b hb => ⟨by have := HOW.out.1; omega, hb.2, fun e => (by cases e), fun e => by have := HOW.out.2.1 _ e; omega⟩) HNDD.out)
       have HR := HR3
       clear HR3 hz4 hf4 hownN hgN hg9 hkN hal hnilN HQ HOWN HX8 z0 z1 z2 z3 f0 f1 f2 f3 b0 b1 b2 b3 b4 b5 b6 HNDD n8O hOlt HK7
       have HLN2 : Hid ((acc ++ [d]).length = ln + 1) := hid (by rw [List.length_append, HLN.out]; rfl)
       generalize w4.setCell ⟨OUT, 3, none⟩ (.slice a8 (ln + 1) q8) = W5 at *
       obtain ⟨b0, b1, b2, b3, b4, b5, b6⟩ := HK9.out.cells
       go_wp2
       go_roundw
       case measure => simp [intOf]; omega
       case rel => exact ⟨j2, _, acc ++ [d], hj2n, by rw [HLN2.out]; omega, rfl, HKJ2, HR, HRA2⟩
   ·
    have hgt : (i : Int) > (m : Int) := by omega
    have hgt2 : (m : Int) < (i : Int) := by omega
    have hge : (m : Int) ≤ (i : Int) := by omega
    have HX : Hid (R = .bad nx 3) := hid (by
     have h := HRA.out
     rw [HDR.out, seq_high (by rw [HI.out]; exact hhigh), HNX.out] at h
     exact h.symm)
    have hb1 : Below wr.heap.size wr (wr.alloc (.cells #[.int .i64 (nx : Int), .int .i64 (i : Int), .string T] 52)) := (Below.refl wr.heap.size wr).alloc (Nat.le_refl _) _
    have HR1 := hid (HR.out.go HG.out hb1)
    clear hhigh HRA hb1
    go_wp2_with fail
    refine (HWR.out _ _ _).mono ?_
    rintro e w3 ⟨rfl, hb3⟩
    clear d0 d1 d2 HR
    generalize (wr.alloc (.cells #[.int .i64 (nx : Int), .int .i64 (i : Int), .string T] 52)) = W2 at *
    have HR := hid (HR1.out.go HG.out hb3)
    have HD := hid (fnd_ret2 (k := k) (R := R) (w := w) (W := w3) (kk := 0) (t := ⟨#[]⟩) (a := none) (nn := 0) (c := 0) (A := none) (m := 0) (q := 0) (nx := 0) (no := (nx : Int)) (er := 3) HR.out.2.1.1 (by rw [HX.out]; exact ⟨rfl, rfl⟩))
    clear hb3 HR1
    obtain ⟨r0, r1, r2, r3, r4, r5, r6⟩ := HR.out.2.1.2.cells
    obtain ⟨fr0, fr1, fr2, fr3, fr4, fr5, fr6⟩ := HR.out.2.1.2.frozen
    go_wp2
    refine bodyPost_ret (v := .agg #[.int .i64 0, .string ⟨#[]⟩, .slice none 0 0, .slice none 0 0, .int .i64 0, .int .i64 (nx : Int), .int .i64 3]) (by simp [results, Tryz.results38, go_sem, r0, r1, r2, r3, r4, r5, r6]) rfl HD.out
  ·obtain rfl : j = n := by omega
   have HX : Hid (R = .ok (.mk 2 [] [] acc) (j - k)) := hid (by have h := HRA.out; rw [List.drop_of_length_le (by rw [HN.out]; exact Nat.le_refl _), seq_nil] at h; exact h.symm)
   clear HRA
   obtain ⟨z0, z1, z2, z3⟩ := HR.out.2.2.1.cells
   obtain ⟨r0, r1, r2, r3, r4, r5, r6⟩ := HR.out.2.1.2.cells
   obtain ⟨fr0, fr1, fr2, fr3, fr4, fr5, fr6⟩ := HR.out.2.1.2.frozen
   obtain ⟨hA, hcq, rfl⟩ := own_shape HR.out.2.2.2.2.choose_spec.1
   have HD := hid (fnd_out HR.out HR.out.2.1.1 HL.out HKJ.out HX.out)
   obtain ⟨ln, hln⟩ : ∃ ln, acc.length = ln := ⟨_, rfl⟩
   rw [hln] at HR HD z3
   clear hln
   go_wp2
   refine bodyPost_ret (v := .agg #[.int .i64 2, .string ⟨#[]⟩, .slice none 0 0, .slice hA ln hcq, .int .i64 (j : Int), .int .i64 0, .int .i64 0]) (by simp [results, Tryz.results38, go_sem, r0, r1, r2, r3, r4, r5, r6]) rfl HD.out
end
end Go.Proofs.YtecglpocmhkkiaaGreatDoor
