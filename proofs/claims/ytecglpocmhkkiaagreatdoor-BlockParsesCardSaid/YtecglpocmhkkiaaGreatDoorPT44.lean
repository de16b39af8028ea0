/- RefBlo7 -/
import Derived.Test.YtecglpocmhkkiaaGreatDoorPT43
set_option linter.unusedVariables false
set_option linter.unusedSimpArgs false
set_option maxRecDepth 100000
set_option maxHeartbeats 16000000
open Go.Lib (hid)
namespace Go.Proofs.YtecglpocmhkkiaaGreatDoor
section
open Go.RowKit Go.Sort
open Nw N8 Q6 F9 B10 Go.ChangeShapes Go.WideShapes
theorem Rpairs10_any (M : Nat) (ih : FOf M) : PairsOf (M + 1) := by
 intro ls v k w hk hw hf hM
 have HLR : Hid (∀ W, Below w.heap.size w W → LR W v ls) := hid fun W hb => hw.below hb
 obtain ⟨A, cap, rfl, hcap, hcell⟩ := hw
 obtain ⟨n, hn⟩ : ∃ n, ls.length = n := ⟨_, rfl⟩
 obtain ⟨m, hm⟩ : ∃ m : Nat, (ls[k]'hk).ind = m := ⟨_, rfl⟩
 obtain ⟨R, hR⟩ : ∃ R, mapB m [] [] (ls.drop k) = R := ⟨_, rfl⟩
 obtain ⟨g, rfl, hg, -, c1, -⟩ := hcell k hk
 rw [hm] at c1 ⊢
 rw [hR]
 have hl : n ≤ 100000 := hn ▸ hf.1
 have hkn : k < n := hn ▸ hk
 rw [hn] at hcap HLR ⊢
 have HCELL : Hid (∀ (j : Nat) (hj : j < ls.length), g < w.heap.size ∧ w.cell? ⟨g, j * 3, none⟩ = some (.int .i64 ((ls[j]'hj).no : Int)) ∧ w.cell? ⟨g, j * 3 + 1, none⟩ = some (.int .i64 ((ls[j]'hj).ind : Int)) ∧ w.cell? ⟨g, j * 3 + 2, none⟩ = some (.string ⟨(ls[j]'hj).text.toArray⟩)) := hid (fun j hj => by
  obtain ⟨g', h1, h2, h3⟩ := hcell j hj
  injection h1 with h1
  injection h1 with h1
  subst h1
  exact ⟨h2, h3⟩)
 have HN := hid hn
 have HF := hid hf
 have HIH := hid ih
 have HM := hid hM
 have HWR := hid (fun (n e : Int) W => Rwrong_any n e W)
 generalize hW0 : w.alloc (.cells #[.int .i64 0, .string ⟨#[]⟩, .slice none 0 0, .slice none 0 0, .int .i64 0, .int .i64 0, .int .i64 0] 50) = W0 at *
 have hsz : W0.heap.size = w.heap.size + 1 := by rw [← hW0]; simp
 have hb0 : Below w.heap.size w W0 := by rw [← hW0]; exact (Below.refl _ _).alloc (Nat.le_refl _) _
 have hr0 : Row7 W0 w.heap.size 50 (.int .i64 0) (.string ⟨#[]⟩) (.slice none 0 0) (.slice none 0 0) (.int .i64 0) (.int .i64 0) (.int .i64 0) := by rw [← hW0]; exact Row7.make w _ _ _ _ _ _ _ _
 have d1 := (hb0.cell (p := ⟨g, k * 3 + 1, none⟩) hg).trans c1
 have HG : Hid (∀ W W' : World, (fun W => Below w.heap.size w W ∧ Row7 W w.heap.size 50 (.int .i64 0) (.string ⟨#[]⟩) (.slice none 0 0) (.slice none 0 0) (.int .i64 0) (.int .i64 0) (.int .i64 0)) W → Below W0.heap.size W W' → (fun W => Below w.heap.size w W ∧ Row7 W w.heap.size 50 (.int .i64 0) (.string ⟨#[]⟩) (.slice none 0 0) (.slice none 0 0) (.int .i64 0) (.int .i64 0) (.int .i64 0)) W') := hid fun W W' h hb => ⟨h.1.trans (hb.mono (by omega)), h.2.below hb (by omega)⟩
 have hal : Below W0.heap.size W0 (W0.alloc (.cells #[.int .i64 3, .string ⟨#[]⟩, .slice none 0 0, .slice none 0 0] 26)) := (Below.refl _ _).alloc (Nat.le_refl _) _
 have HR : Hid (RZ (fun _ => False) W0.heap.size (fun W => Below w.heap.size w W ∧ Row7 W w.heap.size 50 (.int .i64 0) (.string ⟨#[]⟩) (.slice none 0 0) (.slice none 0 0) (.int .i64 0) (.int .i64 0) (.int .i64 0)) (W0.alloc (.cells #[.int .i64 3, .string ⟨#[]⟩, .slice none 0 0, .slice none 0 0] 26)) 3 ⟨#[]⟩ (.slice none 0 0) [] (.slice none 0 0) []) := hid
  ⟨fun b hb => hb.elim, HG.out _ _ ⟨hb0, hr0⟩ hal, Row4.make W0 _ _ _ _ _, World.ownsRow_nil _ _ _ _, [], World.ownsRow_nil _ _ _ _, rfl, fun j hj => absurd hj (Nat.not_lt_zero _)⟩
 have HL := hid hsz
 have HRA : Hid ((mapB m [] [] (ls.drop k)).more (k - k) = R) := hid (by rw [Nat.sub_self, more_zero]; exact hR)
 obtain ⟨j0t, hj0, hy0, hy1, hy2⟩ := infoN
 obtain ⟨i0t, hi0, hz0, hz1, hz2⟩ := infoS
 have hkz : (k : Int) < (n : Int) := by omega
 clear hR hsz hb0 hr0 hal hn hm hf ih hM hcell c1 hk
 go_enter Tryz.func40, Tryz.ntmps40
 go_wp2
 generalize W0.alloc (.cells #[.int .i64 3, .string ⟨#[]⟩, .slice none 0 0, .slice none 0 0] 26) = W1 at *
 generalize W0.heap.size = OUT at *
 clear hW0 d1
 go_loopw [1, 7, 8, 9, 10, 11] (fun s1 s7 s8 s9 s10 s11 wr => ∃ (j : Nat) (sk su : Value) (ak : List L8) (ad : List Nd), j ≤ n ∧ ad.length ≤ j ∧ ak.length ≤ j ∧ s1 = .int .i64 (j : Int) ∧ Hid (k ≤ j) ∧ Hid (RZ (fun _ => False) OUT (fun W => Below w.heap.size w W ∧ Row7 W w.heap.size 50 (.int .i64 0) (.string ⟨#[]⟩) (.slice none 0 0) (.slice none 0 0) (.int .i64 0) (.int .i64 0) (.int .i64 0)) wr 3 ⟨#[]⟩ sk ak su ad) ∧ Hid ((mapB m ak ad (ls.drop j)).more (j - k) = R)) (fun s1 _ _ _ _ _ _ => n - (intOf s1).toNat)
 case atStart => exact ⟨k, _, _, [], [], by omega, Nat.zero_le _, Nat.zero_le _, rfl, hid (Nat.le_refl _), HR, HRA⟩
 case round =>
  clear HR HRA
  obtain ⟨j, sk, su, ak, ad, hj, hacc, hacck, rfl, HKJ, HR, HRA⟩ := hrel
  by_cases hlt : j < n
  ·have hjl : j < ls.length := by rw [HN.out]; exact hlt
   have hjz : (j : Int) < (n : Int) := by omega
   have hdr : ls.drop j = (ls[j]'hjl) :: ls.drop (j + 1) := List.drop_eq_getElem_cons hjl
   obtain ⟨hg1, c0, c1, c2⟩ := HCELL.out j hjl
   have hfx := HF.out.2 j hjl
   obtain ⟨x, hx⟩ : ∃ x, ls[j]'hjl = x := ⟨_, rfl⟩
   rw [hx] at hdr c0 c1 c2 hfx
   obtain ⟨nx, hnx⟩ : ∃ a : Nat, x.no = a := ⟨_, rfl⟩
   obtain ⟨i, hi⟩ : ∃ a : Nat, x.ind = a := ⟨_, rfl⟩
   obtain ⟨T, hT⟩ : ∃ a : ByteArray, (⟨x.text.toArray⟩ : ByteArray) = a := ⟨_, rfl⟩
   have hTl : T.data.toList = x.text := by rw [← hT]
   rw [hnx] at c0
   rw [hi] at c1
   rw [hT] at c2
   have d0 := (HR.out.2.1.1.cell (p := ⟨g, j * 3, none⟩) hg1).trans c0
   have d1 := (HR.out.2.1.1.cell (p := ⟨g, j * 3 + 1, none⟩) hg1).trans c1
   have d2 := (HR.out.2.1.1.cell (p := ⟨g, j * 3 + 2, none⟩) hg1).trans c2
   have HDR := hid hdr
   have HNX := hid hnx
   have HI := hid hi
   have HTL := hid hTl
   have HFX := hid hfx
   have HTS : Hid (T.size ≤ 100000) := hid (by rw [← hTl, len_eq] at hfx; omega)
   have HEN := hid (fun (K : Option (Option (L8 × L8))) (hK : entP T.data.toList = K) (y r : ByteArray) (hy : entY K = y.data.toList) (hr : entR K = r.data.toList) (x : Int) (hx : entN K = x) (W : World) => REnt_any T W T.size rfl HTS.out K hK y r hy hr x hx)
   clear hx hT c0 c1 c2 hdr hnx hTl hfx
   rcases Nat.lt_trichotomy i m with hlow | heq | hhigh
   ·
    have hge : ¬ (m : Int) ≤ (i : Int) := by omega
    have hlz : (i : Int) < (m : Int) := by omega
    have HX : Hid (R = .ok (.mk 3 [] ak ad) (j - k)) := hid (by have h := HRA.out; rw [HDR.out, map_low (by rw [HI.out]; exact hlow)] at h; exact h.symm)
    clear HRA
    clear hi hlow HEN
    obtain ⟨z0, z1, z2, z3⟩ := HR.out.2.2.1.cells
    obtain ⟨r0, r1, r2, r3, r4, r5, r6⟩ := HR.out.2.1.2.cells
    obtain ⟨fr0, fr1, fr2, fr3, fr4, fr5, fr6⟩ := HR.out.2.1.2.frozen
    obtain ⟨hK, hck, rfl⟩ := own_shape HR.out.2.2.2.1
    obtain ⟨hA, hcq, rfl⟩ := own_shape HR.out.2.2.2.2.choose_spec.1
    have HD := hid (fnd_out HR.out HR.out.2.1.1 HL.out HKJ.out HX.out)
    obtain ⟨lk, hlk⟩ : ∃ lk, ak.length = lk := ⟨_, rfl⟩
    rw [hlk] at HR HD z2
    clear hlk
    obtain ⟨ln, hln⟩ : ∃ ln, ad.length = ln := ⟨_, rfl⟩
    rw [hln] at HR HD z3
    clear hln
    go_wp2
    refine bodyPost_ret (v := .agg #[.int .i64 3, .string ⟨#[]⟩, .slice hK lk hck, .slice hA ln hcq, .int .i64 (j : Int), .int .i64 0, .int .i64 0]) (by simp [results, Tryz.results40, go_sem, r0, r1, r2, r3, r4, r5, r6]) rfl HD.out
   ·subst heq
    cases he : entP T.data.toList with
    | none =>
     have HENT := hid (HEN.out none he ⟨#[]⟩ ⟨#[]⟩ rfl rfl (-1) rfl)
     have HX : Hid (R = .bad nx 3) := hid (by
      have h := HRA.out
      rw [HDR.out, map_bad HI.out (by rw [← HTL.out]; exact he), HNX.out] at h
      exact h.symm)
     clear he HEN HRA
     go_wp2_with fail
     refine (HENT.out _).mono ?_
     rintro e w1 ⟨rfl, hb1⟩
     have hbr : Below wr.heap.size wr w1 := ((Below.refl wr.heap.size wr).alloc (Nat.le_refl _) _).trans (hb1.mono (by simp))
     have HB1 := hid hbr
     have HR1 := hid (HR.out.go HG.out hbr)
     have HX3 : Hid (Row3 w1 wr.heap.size 52 (.int .i64 (nx : Int)) (.int .i64 (i : Int)) (.string T)) := hid ((Row3.make wr _ _ _ _).below hb1 (by simp))
     clear hb1 hbr d0 d1 d2 HENT
     obtain ⟨x0, x1, x2⟩ := HX3.out.cells
     go_wp2_with fail
     refine (HWR.out _ _ _).mono ?_
     rintro e w3 ⟨rfl, hb3⟩
     clear x0 x1 x2 HX3 HB1 HR
     have HR := hid (HR1.out.go HG.out hb3)
     have HD := hid (fnd_ret2 (k := k) (R := R) (w := w) (W := w3) (kk := 0) (t := ⟨#[]⟩) (a := none) (nn := 0) (c := 0) (A := none) (m := 0) (q := 0) (nx := 0) (no := (nx : Int)) (er := 3) HR.out.2.1.1 (by rw [HX.out]; exact ⟨rfl, rfl⟩))
     clear hb3 HR1
     obtain ⟨r0, r1, r2, r3, r4, r5, r6⟩ := HR.out.2.1.2.cells
     obtain ⟨fr0, fr1, fr2, fr3, fr4, fr5, fr6⟩ := HR.out.2.1.2.frozen
     go_wp2
     refine bodyPost_ret (v := .agg #[.int .i64 0, .string ⟨#[]⟩, .slice none 0 0, .slice none 0 0, .int .i64 0, .int .i64 (nx : Int), .int .i64 3]) (by simp [results, Tryz.results40, go_sem, r0, r1, r2, r3, r4, r5, r6]) rfl HD.out
    | some K1 =>
    cases K1 with
    | none =>
     have HENT := hid (HEN.out (some none) he ⟨#[]⟩ ⟨#[]⟩ rfl rfl 0 rfl)
     have HX : Hid (R = .ok (.mk 3 [] ak ad) (j - k)) := hid (by have h := HRA.out; rw [HDR.out, map_other HI.out (by rw [← HTL.out]; exact he)] at h; exact h.symm)
     clear HRA
     clear he HEN
     go_wp2_with fail
     refine (HENT.out _).mono ?_
     rintro e w1 ⟨rfl, hb1⟩
     have hbr : Below wr.heap.size wr w1 := ((Below.refl wr.heap.size wr).alloc (Nat.le_refl _) _).trans (hb1.mono (by simp))
     have HB1 := hid hbr
     have HR1 := hid (HR.out.go HG.out hbr)
     have HX3 : Hid (Row3 w1 wr.heap.size 52 (.int .i64 (nx : Int)) (.int .i64 (i : Int)) (.string T)) := hid ((Row3.make wr _ _ _ _).below hb1 (by simp))
     clear hb1 hbr d0 d1 d2 HENT
     obtain ⟨x0, x1, x2⟩ := HX3.out.cells
     clear x0 x1 x2 HR HB1
     obtain ⟨x0, x1, x2⟩ := HX3.out.cells
     have HR := HR1
     clear HR1
     obtain ⟨z0, z1, z2, z3⟩ := HR.out.2.2.1.cells
     obtain ⟨r0, r1, r2, r3, r4, r5, r6⟩ := HR.out.2.1.2.cells
     obtain ⟨fr0, fr1, fr2, fr3, fr4, fr5, fr6⟩ := HR.out.2.1.2.frozen
     obtain ⟨hK, hck, rfl⟩ := own_shape HR.out.2.2.2.1
     obtain ⟨hA, hcq, rfl⟩ := own_shape HR.out.2.2.2.2.choose_spec.1
     have HD := hid (fnd_out HR.out HR.out.2.1.1 HL.out HKJ.out HX.out)
     obtain ⟨lk, hlk⟩ : ∃ lk, ak.length = lk := ⟨_, rfl⟩
     rw [hlk] at HR HD z2
     clear hlk
     obtain ⟨ln, hln⟩ : ∃ ln, ad.length = ln := ⟨_, rfl⟩
     rw [hln] at HR HD z3
     clear hln
     go_wp2
     refine bodyPost_ret (v := .agg #[.int .i64 3, .string ⟨#[]⟩, .slice hK lk hck, .slice hA ln hcq, .int .i64 (j : Int), .int .i64 0, .int .i64 0]) (by simp [results, Tryz.results40, go_sem, r0, r1, r2, r3, r4, r5, r6]) rfl HD.out
    | some p =>
     obtain ⟨y0, r0⟩ := p
     obtain ⟨y, hy⟩ : ∃ y : ByteArray, ba y0 = y := ⟨_, rfl⟩
     have hyl : y0 = y.data.toList := by rw [← hy, ba_data]
     obtain ⟨r, hr⟩ : ∃ r : ByteArray, ba r0 = r := ⟨_, rfl⟩
     have hrl : r0 = r.data.toList := by rw [← hr, ba_data]
     clear hy hr
     subst hyl
     subst hrl
     have HENT := hid (HEN.out (some (some (y.data.toList, r.data.toList))) he y r rfl rfl 1 rfl)
     have HEP : Hid (entP x.text = some (some (y.data.toList, r.data.toList))) := hid (by rw [← HTL.out]; exact he)
     have HRS : Hid (r.size ≤ 100000) := hid (by have h := ent_len he; rw [len_eq, len_eq] at h; have := HTS.out; omega)
     have HIN := hid (fun (b : Bool) (hb : decide (y.data.toList ∈ ak) = b) W (hW : Rd W sk ak) => hb ▸ RIn_any sk ak y W hW)
     clear he HEN
     cases hin : decide (y.data.toList ∈ ak) with
     | true =>
      have HINB := hid (HIN.out true hin)
      have HX : Hid (R = .bad nx 3) := hid (by
       have h := HRA.out
       rw [HDR.out, map_twice HI.out HEP.out (of_decide_eq_true hin), HNX.out] at h
       exact h.symm)
      clear hin HIN HRA
      go_wp2_with fail
      refine (HENT.out _).mono ?_
      rintro e w1 ⟨rfl, hb1⟩
      have hbr : Below wr.heap.size wr w1 := ((Below.refl wr.heap.size wr).alloc (Nat.le_refl _) _).trans (hb1.mono (by simp))
      have HB1 := hid hbr
      have HR1 := hid (HR.out.go HG.out hbr)
      have HX3 : Hid (Row3 w1 wr.heap.size 52 (.int .i64 (nx : Int)) (.int .i64 (i : Int)) (.string T)) := hid ((Row3.make wr _ _ _ _).below hb1 (by simp))
      clear hb1 hbr d0 d1 d2 HENT
      obtain ⟨x0, x1, x2⟩ := HX3.out.cells
      obtain ⟨z0, z1, z2, z3⟩ := HR1.out.2.2.1.cells
      go_wp2_with fail
      refine (HINB.out _ (rd_of_owns HR1.out.2.2.2.1)).mono ?_
      rintro e w' ⟨rfl, rfl⟩
      clear z0 z1 z2 z3
      go_wp2_with fail
      refine (HWR.out _ _ _).mono ?_
      rintro e w3 ⟨rfl, hb3⟩
      clear x0 x1 x2 HX3 HB1 HR
      have HR := hid (HR1.out.go HG.out hb3)
      have HD := hid (fnd_ret2 (k := k) (R := R) (w := w) (W := w3) (kk := 0) (t := ⟨#[]⟩) (a := none) (nn := 0) (c := 0) (A := none) (m := 0) (q := 0) (nx := 0) (no := (nx : Int)) (er := 3) HR.out.2.1.1 (by rw [HX.out]; exact ⟨rfl, rfl⟩))
      clear hb3 HR1
      obtain ⟨r0, r1, r2, r3, r4, r5, r6⟩ := HR.out.2.1.2.cells
      obtain ⟨fr0, fr1, fr2, fr3, fr4, fr5, fr6⟩ := HR.out.2.1.2.frozen
      go_wp2
      refine bodyPost_ret (v := .agg #[.int .i64 0, .string ⟨#[]⟩, .slice none 0 0, .slice none 0 0, .int .i64 0, .int .i64 (nx : Int), .int .i64 3]) (by simp [results, Tryz.results40, go_sem, r0, r1, r2, r3, r4, r5, r6]) rfl HD.out
     | false =>
     have HINB := hid (HIN.out false hin)
     have HNI : Hid (y.data.toList ∉ ak) := hid (of_decide_eq_false hin)
     have wj : IntKind.i64.wrap ((j : Int) + 1) = (j : Int) + 1 := IntWalk.i64_in _ (by omega)
     obtain ⟨K, hK⟩ : ∃ K, kidM i x (ls.drop (j + 1)) r.data.toList = K := ⟨_, rfl⟩
     have HK := hid hK
     clear hin HIN hK
     by_cases h0 : r.data.toList = []
     case' neg =>
      have hrp : 0 < r.size := by
       have := List.length_pos_iff.2 h0
       rw [len_eq] at this
       exact this
      obtain ⟨rz, hrz⟩ : ∃ rz, r.size = rz := ⟨_, rfl⟩
      have hrpz : (0 : Int) < (rz : Int) := by omega
      have HVL : Hid (∀ W, Calls Tryz.prog 41 #[.string r, .int .i64 (nx : Int), .int .i64 ((j : Int) + 1)] W (GotF j K W)) := hid (fun W => RVal_any r HRS.out nx j K (by
       have hk9 := HK.out
       unfold kidM at hk9
       rw [if_pos h0, HNX.out] at hk9
       exact hk9) W)
      clear h0
      go_wp2_with fail
      refine (HENT.out _).mono ?_
      rintro e w1 ⟨rfl, hb1⟩
      have hbr : Below wr.heap.size wr w1 := ((Below.refl wr.heap.size wr).alloc (Nat.le_refl _) _).trans (hb1.mono (by simp))
      have HB1 := hid hbr
      have HR1 := hid (HR.out.go HG.out hbr)
      have HX3 : Hid (Row3 w1 wr.heap.size 52 (.int .i64 (nx : Int)) (.int .i64 (i : Int)) (.string T)) := hid ((Row3.make wr _ _ _ _).below hb1 (by simp))
      clear hb1 hbr d0 d1 d2 HENT
      obtain ⟨x0, x1, x2⟩ := HX3.out.cells
      obtain ⟨z0, z1, z2, z3⟩ := HR1.out.2.2.1.cells
      go_wp2_with fail
      refine (HINB.out _ (rd_of_owns HR1.out.2.2.2.1)).mono ?_
      rintro e w' ⟨rfl, rfl⟩
      clear z0 z1 z2 z3 HINB
      have hb2 : Below wr.heap.size wr (w1.alloc (.cells #[.int .i64 0, .string ⟨#[]⟩, .slice none 0 0, .slice none 0 0, .int .i64 ((j : Int) + 1), .int .i64 0, .int .i64 0] 50)) := HB1.out.alloc HB1.out.size _
      have HB2 := hid hb2
      have HBW : Hid (Below w.heap.size w (w1.alloc (.cells #[.int .i64 0, .string ⟨#[]⟩, .slice none 0 0, .slice none 0 0, .int .i64 ((j : Int) + 1), .int .i64 0, .int .i64 0] 50))) := hid (HR.out.2.1.1.trans (hb2.mono (Nat.le_of_lt HR.out.2.1.2.lt)))
      have HX9 := hid (HX3.out.alloc (.cells #[.int .i64 0, .string ⟨#[]⟩, .slice none 0 0, .slice none 0 0, .int .i64 ((j : Int) + 1), .int .i64 0, .int .i64 0] 50))
      have HK7 : Hid (Row7 (w1.alloc (.cells #[.int .i64 0, .string ⟨#[]⟩, .slice none 0 0, .slice none 0 0, .int .i64 ((j : Int) + 1), .int .i64 0, .int .i64 0] 50)) w1.heap.size 50 (.int .i64 0) (.string ⟨#[]⟩) (.slice none 0 0) (.slice none 0 0) (.int .i64 ((j : Int) + 1)) (.int .i64 0) (.int .i64 0)) := hid (Row7.make w1 _ _ _ _ _ _ _ _)
      have HOW : Hid (OUT < w1.heap.size ∧ (∀ b, sk.ownBlock = some b → b < w1.heap.size) ∧ (∀ b, su.ownBlock = some b → b < w1.heap.size) ∧ wr.heap.size ≤ w1.heap.size) := hid ⟨HR1.out.lt, fun b hb => (HR1.out.2.2.2.1.lt b hb).2, fun b hb => (HR1.out.2.2.2.2.choose_spec.1.lt b hb).2, HB1.out.size⟩
      clear hb2 HR1 HB1
      obtain ⟨xx0, xx1, xx2⟩ := HX9.out.cells
      go_wp2_with fail
      clear xx0 xx1 xx2
      clear x0 x1 x2 HX3
      generalize (w1.alloc (.cells #[.int .i64 0, .string ⟨#[]⟩, .slice none 0 0, .slice none 0 0, .int .i64 ((j : Int) + 1), .int .i64 0, .int .i64 0] 50)) = W2 at *
      generalize w1.heap.size = wl at *
      refine (HVL.out _).mono ?_
      clear HVL
      rintro e w5 ⟨v_k, v_s, v_a, v_n, v_c, v_A, v_m, v_q, v_x, v_o, v_e, rfl, hb5, hf5⟩
      have hb25 := hb5
      have HK7b : Hid (Row7 (p7 w5 wl (.int .i64 v_k) (.string v_s) (.slice v_a v_n v_c) (.slice v_A v_m v_q) (.int .i64 v_x) (.int .i64 v_o) (.int .i64 v_e)) wl 50 (.int .i64 v_k) (.string v_s) (.slice v_a v_n v_c) (.slice v_A v_m v_q) (.int .i64 v_x) (.int .i64 v_o) (.int .i64 v_e)) := hid ((HK7.out.below hb25 HK7.out.lt).set _ _ _ _ _ _ _)
      have HR3 : Hid (RZ (fun _ => False) OUT (fun W => Below w.heap.size w W ∧ Row7 W w.heap.size 50 (.int .i64 0) (.string ⟨#[]⟩) (.slice none 0 0) (.slice none 0 0) (.int .i64 0) (.int .i64 0) (.int .i64 0)) (p7 w5 wl (.int .i64 v_k) (.string v_s) (.slice v_a v_n v_c) (.slice v_A v_m v_q) (.int .i64 v_x) (.int .i64 v_o) (.int .i64 v_e)) 3 ⟨#[]⟩ sk ak su ad) := hid (HR.out.go HG.out (below_p7 (HB2.out.trans (hb25.mono HB2.out.size)) HOW.out.2.2.2 _ _ _ _ _ _ _))
      have HFK : Hid (FIs (fun b => wl < b ∧ b < (p7 w5 wl (.int .i64 v_k) (.string v_s) (.slice v_a v_n v_c) (.slice v_A v_m v_q) (.int .i64 v_x) (.int .i64 v_o) (.int .i64 v_e)).heap.size) (p7 w5 wl (.int .i64 v_k) (.string v_s) (.slice v_a v_n v_c) (.slice v_A v_m v_q) (.int .i64 v_x) (.int .i64 v_o) (.int .i64 v_e)) j K v_k v_s (.slice v_a v_n v_c) (.slice v_A v_m v_q) v_x v_o v_e) := hid (FIs.keep (fun b (hb : W2.heap.size ≤ b ∧ b < w5.heap.size) => ⟨⟨Nat.lt_of_lt_of_le HK7.out.lt hb.1, by rw [p7_size]; exact hb.2⟩, p7_oth b (Nat.ne_of_gt (Nat.lt_of_lt_of_le HK7.out.lt hb.1)) _ _ _ _ _ _ _⟩) hf5)
      obtain ⟨q0, q1, q2, q3, q4, q5, q6⟩ := (HK7.out.below hb25 HK7.out.lt).cells
      obtain ⟨fq0, fq1, fq2, fq3, fq4, fq5, fq6⟩ := (HK7.out.below hb25 HK7.out.lt).frozen
      clear hb5 hf5 hb25 HK7 HR HX9 HB2 HBW
      go_upto_region 14 with fail
      clear q0 q1 q2 q3 q4 q5 q6 fq0 fq1 fq2 fq3 fq4 fq5 fq6
      rw [show (((((((w5.setCell ⟨wl, 0, none⟩ (.int .i64 v_k)).setCell ⟨wl, 1, none⟩ (.string v_s)).setCell ⟨wl, 2, none⟩ (.slice v_a v_n v_c)).setCell ⟨wl, 3, none⟩ (.slice v_A v_m v_q)).setCell ⟨wl, 4, none⟩ (.int .i64 v_x)).setCell ⟨wl, 5, none⟩ (.int .i64 v_o)).setCell ⟨wl, 6, none⟩ (.int .i64 v_e)) = (p7 w5 wl (.int .i64 v_k) (.string v_s) (.slice v_a v_n v_c) (.slice v_A v_m v_q) (.int .i64 v_x) (.int .i64 v_o) (.int .i64 v_e)) from rfl]
      generalize (p7 w5 wl (.int .i64 v_k) (.string v_s) (.slice v_a v_n v_c) (.slice v_A v_m v_q) (.int .i64 v_x) (.int .i64 v_o) (.int .i64 v_e)) = W3 at *
      have HR := HR3
      have HK7 := HK7b
      clear HR3 HK7b
     case' pos =>
      obtain rfl := bytes_of (l := #[]) h0
      have HDE : Hid (∀ b, deep i (ls.drop (j + 1)) = b → ∀ W, LR W (.slice (some ⟨g, 0, none⟩) n cap) ls → Calls Tryz.prog 66 #[.slice (some ⟨g, 0, none⟩) n cap, .int .i64 ((j : Int) + 1), .int .i64 (i : Int)] W fun e w' => e = .returned (.bool b) ∧ W = w') := hid (fun b hb W hW => RDeeper_any _ ls (j + 1) i b W hW HF.out.1 hjl hb)
      have HBL : Hid (j + 1 < ls.length → ∀ W, LR W (.slice (some ⟨g, 0, none⟩) n cap) ls → Calls Tryz.prog 20 #[.slice (some ⟨g, 0, none⟩) n cap, .int .i64 ((j : Int) + 1)] W (GotF (j + 1) (blkB (ls.drop (j + 1))) W)) := hid (fun hj1 W hW => HIH.out ls _ (j + 1) W hj1 hW HF.out (by
       have h3 := HM.out
       have h4 : big (ls.drop j) ≤ big (ls.drop k) := by
        have := big_drop (j - k) (ls.drop k)
        rw [List.drop_drop, show k + (j - k) = j by have := HKJ.out; omega] at this
        exact this
       rw [HDR.out] at h4
       simp only [big] at h4
       omega))
      have HKD : Hid ((if deep i (ls.drop (j + 1)) || even i (ls.drop (j + 1)) then (blkB (ls.drop (j + 1))).more 1 else .ok nul 1) = K) := hid (by
       have hk9 := HK.out
       unfold kidM at hk9
       rw [if_neg (fun h => h h0)] at hk9
       exact hk9)
      cases hdp : deep i (ls.drop (j + 1))
      case' true =>
       have HDB := hid (HDE.out true hdp)
       have hj1 : j + 1 < ls.length := by
        rcases Nat.lt_or_ge (j + 1) ls.length with h | h
        ·exact h
        ·rw [List.drop_of_length_le h] at hdp; cases hdp
       have HBK := hid (HBL.out hj1)
       have HKB : Hid ((blkB (ls.drop (j + 1))).more 1 = K) := hid (by
        have h := HKD.out
        rw [hdp, Bool.true_or, if_pos rfl] at h
        exact h)
       clear h0 hdp HDE HKD HBL hj1
       go_wp2_with fail
       refine (HENT.out _).mono ?_
       rintro e w1 ⟨rfl, hb1⟩
       have hbr : Below wr.heap.size wr w1 := ((Below.refl wr.heap.size wr).alloc (Nat.le_refl _) _).trans (hb1.mono (by simp))
       have HB1 := hid hbr
       have HR1 := hid (HR.out.go HG.out hbr)
       have HX3 : Hid (Row3 w1 wr.heap.size 52 (.int .i64 (nx : Int)) (.int .i64 (i : Int)) (.string T)) := hid ((Row3.make wr _ _ _ _).below hb1 (by simp))
       clear hb1 hbr d0 d1 d2 HENT
       obtain ⟨x0, x1, x2⟩ := HX3.out.cells
       obtain ⟨z0, z1, z2, z3⟩ := HR1.out.2.2.1.cells
       go_wp2_with fail
       refine (HINB.out _ (rd_of_owns HR1.out.2.2.2.1)).mono ?_
       rintro e w' ⟨rfl, rfl⟩
       clear z0 z1 z2 z3 HINB
       have hb2 : Below wr.heap.size wr (w1.alloc (.cells #[.int .i64 0, .string ⟨#[]⟩, .slice none 0 0, .slice none 0 0, .int .i64 ((j : Int) + 1), .int .i64 0, .int .i64 0] 50)) := HB1.out.alloc HB1.out.size _
       have HB2 := hid hb2
       have HBW : Hid (Below w.heap.size w (w1.alloc (.cells #[.int .i64 0, .string ⟨#[]⟩, .slice none 0 0, .slice none 0 0, .int .i64 ((j : Int) + 1), .int .i64 0, .int .i64 0] 50))) := hid (HR.out.2.1.1.trans (hb2.mono (Nat.le_of_lt HR.out.2.1.2.lt)))
       have HX9 := hid (HX3.out.alloc (.cells #[.int .i64 0, .string ⟨#[]⟩, .slice none 0 0, .slice none 0 0, .int .i64 ((j : Int) + 1), .int .i64 0, .int .i64 0] 50))
       have HK7 : Hid (Row7 (w1.alloc (.cells #[.int .i64 0, .string ⟨#[]⟩, .slice none 0 0, .slice none 0 0, .int .i64 ((j : Int) + 1), .int .i64 0, .int .i64 0] 50)) w1.heap.size 50 (.int .i64 0) (.string ⟨#[]⟩) (.slice none 0 0) (.slice none 0 0) (.int .i64 ((j : Int) + 1)) (.int .i64 0) (.int .i64 0)) := hid (Row7.make w1 _ _ _ _ _ _ _ _)
       have HOW : Hid (OUT < w1.heap.size ∧ (∀ b, sk.ownBlock = some b → b < w1.heap.size) ∧ (∀ b, su.ownBlock = some b → b < w1.heap.size) ∧ wr.heap.size ≤ w1.heap.size) := hid ⟨HR1.out.lt, fun b hb => (HR1.out.2.2.2.1.lt b hb).2, fun b hb => (HR1.out.2.2.2.2.choose_spec.1.lt b hb).2, HB1.out.size⟩
       clear hb2 HR1 HB1
       go_wp2_with fail
       clear x0 x1 x2 HX3
       generalize (w1.alloc (.cells #[.int .i64 0, .string ⟨#[]⟩, .slice none 0 0, .slice none 0 0, .int .i64 ((j : Int) + 1), .int .i64 0, .int .i64 0] 50)) = W2 at *
       generalize w1.heap.size = wl at *
       refine (HDB.out _ (HLR.out _ HBW.out)).mono ?_
       rintro e w' ⟨rfl, rfl⟩
       go_wp2_with fail
       refine (HBK.out _ (HLR.out _ HBW.out)).mono ?_
       clear HBK HDB
       rintro e w5 ⟨v_k, v_s, v_a, v_n, v_c, v_A, v_m, v_q, v_x, v_o, v_e, rfl, hb5, hf5⟩
       have hb25 := hb5
       have HK7b : Hid (Row7 (p7 w5 wl (.int .i64 v_k) (.string v_s) (.slice v_a v_n v_c) (.slice v_A v_m v_q) (.int .i64 v_x) (.int .i64 v_o) (.int .i64 v_e)) wl 50 (.int .i64 v_k) (.string v_s) (.slice v_a v_n v_c) (.slice v_A v_m v_q) (.int .i64 v_x) (.int .i64 v_o) (.int .i64 v_e)) := hid ((HK7.out.below hb25 HK7.out.lt).set _ _ _ _ _ _ _)
       have HR3 : Hid (RZ (fun _ => False) OUT (fun W => Below w.heap.size w W ∧ Row7 W w.heap.size 50 (.int .i64 0) (.string ⟨#[]⟩) (.slice none 0 0) (.slice none 0 0) (.int .i64 0) (.int .i64 0) (.int .i64 0)) (p7 w5 wl (.int .i64 v_k) (.string v_s) (.slice v_a v_n v_c) (.slice v_A v_m v_q) (.int .i64 v_x) (.int .i64 v_o) (.int .i64 v_e)) 3 ⟨#[]⟩ sk ak su ad) := hid (HR.out.go HG.out (below_p7 (HB2.out.trans (hb25.mono HB2.out.size)) HOW.out.2.2.2 _ _ _ _ _ _ _))
       have HFK : Hid (FIs (fun b => wl < b ∧ b < (p7 w5 wl (.int .i64 v_k) (.string v_s) (.slice v_a v_n v_c) (.slice v_A v_m v_q) (.int .i64 v_x) (.int .i64 v_o) (.int .i64 v_e)).heap.size) (p7 w5 wl (.int .i64 v_k) (.string v_s) (.slice v_a v_n v_c) (.slice v_A v_m v_q) (.int .i64 v_x) (.int .i64 v_o) (.int .i64 v_e)) j K v_k v_s (.slice v_a v_n v_c) (.slice v_A v_m v_q) v_x v_o v_e) := hid (FIs.keep (fun b (hb : W2.heap.size ≤ b ∧ b < w5.heap.size) => ⟨⟨Nat.lt_of_lt_of_le HK7.out.lt hb.1, by rw [p7_size]; exact hb.2⟩, p7_oth b (Nat.ne_of_gt (Nat.lt_of_lt_of_le HK7.out.lt hb.1)) _ _ _ _ _ _ _⟩) (by have h9 := FIs.more hf5; rw [HKB.out] at h9; exact h9))
       obtain ⟨q0, q1, q2, q3, q4, q5, q6⟩ := (HK7.out.below hb25 HK7.out.lt).cells
       obtain ⟨fq0, fq1, fq2, fq3, fq4, fq5, fq6⟩ := (HK7.out.below hb25 HK7.out.lt).frozen
       clear hb5 hf5 hb25 HK7 HR HX9 HB2 HBW
       go_upto_region 14 with fail
       clear q0 q1 q2 q3 q4 q5 q6 fq0 fq1 fq2 fq3 fq4 fq5 fq6
       rw [show (((((((w5.setCell ⟨wl, 0, none⟩ (.int .i64 v_k)).setCell ⟨wl, 1, none⟩ (.string v_s)).setCell ⟨wl, 2, none⟩ (.slice v_a v_n v_c)).setCell ⟨wl, 3, none⟩ (.slice v_A v_m v_q)).setCell ⟨wl, 4, none⟩ (.int .i64 v_x)).setCell ⟨wl, 5, none⟩ (.int .i64 v_o)).setCell ⟨wl, 6, none⟩ (.int .i64 v_e)) = (p7 w5 wl (.int .i64 v_k) (.string v_s) (.slice v_a v_n v_c) (.slice v_A v_m v_q) (.int .i64 v_x) (.int .i64 v_o) (.int .i64 v_e)) from rfl]
       generalize (p7 w5 wl (.int .i64 v_k) (.string v_s) (.slice v_a v_n v_c) (.slice v_A v_m v_q) (.int .i64 v_x) (.int .i64 v_o) (.int .i64 v_e)) = W3 at *
       have HR := HR3
       have HK7 := HK7b
       clear HR3 HK7b
      case' false =>
      have HDB := hid (HDE.out false hdp)
      rw [hdp, Bool.false_or] at HKD
      by_cases hj1 : j + 1 < n
      case' neg =>
       have hj1z : ¬ (j : Int) + 1 < (n : Int) := by omega
       have hj1d : decide ((j : Int) + 1 < (n : Int)) = false := decide_eq_false hj1z
       have HKB : Hid (K = .ok nul 1) := hid (by
        have h := HKD.out
        rw [List.drop_of_length_le (by rw [HN.out]; omega)] at h
        rw [show even i [] = false from rfl, if_neg Bool.false_ne_true] at h
        exact h.symm)
       clear h0 HKD HBL hdp HDE
       go_wp2_with fail
       refine (HENT.out _).mono ?_
       rintro e w1 ⟨rfl, hb1⟩
       have hbr : Below wr.heap.size wr w1 := ((Below.refl wr.heap.size wr).alloc (Nat.le_refl _) _).trans (hb1.mono (by simp))
       have HB1 := hid hbr
       have HR1 := hid (HR.out.go HG.out hbr)
       have HX3 : Hid (Row3 w1 wr.heap.size 52 (.int .i64 (nx : Int)) (.int .i64 (i : Int)) (.string T)) := hid ((Row3.make wr _ _ _ _).below hb1 (by simp))
       clear hb1 hbr d0 d1 d2 HENT
       obtain ⟨x0, x1, x2⟩ := HX3.out.cells
       obtain ⟨z0, z1, z2, z3⟩ := HR1.out.2.2.1.cells
       go_wp2_with fail
       refine (HINB.out _ (rd_of_owns HR1.out.2.2.2.1)).mono ?_
       rintro e w' ⟨rfl, rfl⟩
       clear z0 z1 z2 z3 HINB
       have hb2 : Below wr.heap.size wr (w1.alloc (.cells #[.int .i64 0, .string ⟨#[]⟩, .slice none 0 0, .slice none 0 0, .int .i64 ((j : Int) + 1), .int .i64 0, .int .i64 0] 50)) := HB1.out.alloc HB1.out.size _
       have HB2 := hid hb2
       have HBW : Hid (Below w.heap.size w (w1.alloc (.cells #[.int .i64 0, .string ⟨#[]⟩, .slice none 0 0, .slice none 0 0, .int .i64 ((j : Int) + 1), .int .i64 0, .int .i64 0] 50))) := hid (HR.out.2.1.1.trans (hb2.mono (Nat.le_of_lt HR.out.2.1.2.lt)))
       have HX9 := hid (HX3.out.alloc (.cells #[.int .i64 0, .string ⟨#[]⟩, .slice none 0 0, .slice none 0 0, .int .i64 ((j : Int) + 1), .int .i64 0, .int .i64 0] 50))
       have HK7 : Hid (Row7 (w1.alloc (.cells #[.int .i64 0, .string ⟨#[]⟩, .slice none 0 0, .slice none 0 0, .int .i64 ((j : Int) + 1), .int .i64 0, .int .i64 0] 50)) w1.heap.size 50 (.int .i64 0) (.string ⟨#[]⟩) (.slice none 0 0) (.slice none 0 0) (.int .i64 ((j : Int) + 1)) (.int .i64 0) (.int .i64 0)) := hid (Row7.make w1 _ _ _ _ _ _ _ _)
       have HOW : Hid (OUT < w1.heap.size ∧ (∀ b, sk.ownBlock = some b → b < w1.heap.size) ∧ (∀ b, su.ownBlock = some b → b < w1.heap.size) ∧ wr.heap.size ≤ w1.heap.size) := hid ⟨HR1.out.lt, fun b hb => (HR1.out.2.2.2.1.lt b hb).2, fun b hb => (HR1.out.2.2.2.2.choose_spec.1.lt b hb).2, HB1.out.size⟩
       clear hb2 HR1 HB1
       go_wp2_with fail
       clear x0 x1 x2 HX3
       generalize (w1.alloc (.cells #[.int .i64 0, .string ⟨#[]⟩, .slice none 0 0, .slice none 0 0, .int .i64 ((j : Int) + 1), .int .i64 0, .int .i64 0] 50)) = W3 at *
       generalize w1.heap.size = wl at *
       refine (HDB.out _ (HLR.out _ HBW.out)).mono ?_
       rintro e w' ⟨rfl, rfl⟩
       go_upto_region 14 with fail
       have HR := hid (HR.out.go HG.out HB2.out)
       obtain ⟨v_k, hv_k⟩ : ∃ a : Int, a = 0 := ⟨_, rfl⟩
       obtain ⟨v_o, hv_o⟩ : ∃ a : Int, a = 0 := ⟨_, rfl⟩
       obtain ⟨v_e, hv_e⟩ : ∃ a : Int, a = 0 := ⟨_, rfl⟩
       obtain ⟨v_s, hv_s⟩ : ∃ a : ByteArray, a = ⟨#[]⟩ := ⟨_, rfl⟩
       obtain ⟨v_a, hv_a⟩ : ∃ a : Option Addr, a = none := ⟨_, rfl⟩
       obtain ⟨v_A, hv_A⟩ : ∃ a : Option Addr, a = none := ⟨_, rfl⟩
       obtain ⟨v_n, hv_n⟩ : ∃ a : Nat, a = 0 := ⟨_, rfl⟩
       obtain ⟨v_c, hv_c⟩ : ∃ a : Nat, a = 0 := ⟨_, rfl⟩
       obtain ⟨v_m, hv_m⟩ : ∃ a : Nat, a = 0 := ⟨_, rfl⟩
       obtain ⟨v_q, hv_q⟩ : ∃ a : Nat, a = 0 := ⟨_, rfl⟩
       obtain ⟨v_x, hv_x⟩ : ∃ a : Int, a = (j : Int) + 1 := ⟨_, rfl⟩
       have HK7b : Hid (Row7 W3 wl 50 (.int .i64 v_k) (.string v_s) (.slice v_a v_n v_c) (.slice v_A v_m v_q) (.int .i64 v_x) (.int .i64 v_o) (.int .i64 v_e)) := hid (by subst hv_k; subst hv_o; subst hv_e; subst hv_s; subst hv_a; subst hv_A; subst hv_n; subst hv_c; subst hv_m; subst hv_q; subst hv_x; exact HK7.out)
       have HFK : Hid (FIs (fun b => wl < b ∧ b < W3.heap.size) W3 j K v_k v_s (.slice v_a v_n v_c) (.slice v_A v_m v_q) v_x v_o v_e) := hid (by subst hv_k; subst hv_o; subst hv_e; subst hv_s; subst hv_a; subst hv_A; subst hv_n; subst hv_c; subst hv_m; subst hv_q; subst hv_x; rw [HKB.out]; exact ⟨rfl, rfl, nd_nul _ _⟩)
       clear HK7 HB2 HBW HX9 hv_k hv_o hv_e hv_s hv_a hv_A hv_n hv_c hv_m hv_q hv_x HDB
       have HK7 := HK7b
       clear HK7b
      case' pos =>
       have hj1l : j + 1 < ls.length := by rw [HN.out]; exact hj1
       have hj1z : (j : Int) + 1 < (n : Int) := by omega
       have pj1 : (0 : Int) ≤ (j : Int) + 1 := by omega
       have tj1 : ((j : Int) + 1).toNat = j + 1 := by omega
       obtain ⟨hg2, e0, e1, e2⟩ := HCELL.out (j + 1) hj1l
       have hdr2 : ls.drop (j + 1) = (ls[j + 1]'hj1l) :: ls.drop (j + 1 + 1) := List.drop_eq_getElem_cons hj1l
       have hf2 := HF.out.2 (j + 1) hj1l
       obtain ⟨x2', hx2'⟩ : ∃ x, ls[j + 1]'hj1l = x := ⟨_, rfl⟩
       rw [hx2'] at hdr2 e1 e2 hf2
       obtain ⟨i2, hi2⟩ : ∃ a : Nat, x2'.ind = a := ⟨_, rfl⟩
       obtain ⟨T2, hT2⟩ : ∃ a : ByteArray, (⟨x2'.text.toArray⟩ : ByteArray) = a := ⟨_, rfl⟩
       have hT2l : T2.data.toList = x2'.text := by rw [← hT2]
       have HT2S : Hid (T2.size ≤ 1000000) := hid (by rw [← hT2l, len_eq] at hf2; omega)
       have hev : even i (ls.drop (j + 1)) = (decide (i2 = i) && hyp T2.data.toList) := by rw [hdr2, hT2l, ← hi2]; rfl
       rw [hev] at HKD
       rw [hi2] at e1
       rw [hT2] at e2
       have HE1 := hid (And.intro hg2 (And.intro e1 e2))
       have HY2 := hid (fun b hb W => RHyp_any T2 b W HT2S.out hb)
       clear hdp HDE e0 e1 e2 hdr2 hf2 hx2' hi2 hT2 hT2l hev hg2
       by_cases hii : i2 = i
       case' neg =>
        have hiz : ((i2 : Int) == (i : Int)) = false := beq_eq_false_iff_ne.2 (by omega)
        have HKB : Hid (K = .ok nul 1) := hid (by
         have h := HKD.out
         rw [decide_eq_false hii, Bool.false_and, if_neg Bool.false_ne_true] at h
         exact h.symm)
        clear h0 HKD HBL HY2 hii
        go_wp2_with fail
        refine (HENT.out _).mono ?_
        rintro e w1 ⟨rfl, hb1⟩
        have hbr : Below wr.heap.size wr w1 := ((Below.refl wr.heap.size wr).alloc (Nat.le_refl _) _).trans (hb1.mono (by simp))
        have HB1 := hid hbr
        have HR1 := hid (HR.out.go HG.out hbr)
        have HX3 : Hid (Row3 w1 wr.heap.size 52 (.int .i64 (nx : Int)) (.int .i64 (i : Int)) (.string T)) := hid ((Row3.make wr _ _ _ _).below hb1 (by simp))
        clear hb1 hbr d0 d1 d2 HENT
        obtain ⟨x0, x1, x2⟩ := HX3.out.cells
        obtain ⟨z0, z1, z2, z3⟩ := HR1.out.2.2.1.cells
        go_wp2_with fail
        refine (HINB.out _ (rd_of_owns HR1.out.2.2.2.1)).mono ?_
        rintro e w' ⟨rfl, rfl⟩
        clear z0 z1 z2 z3 HINB
        have hb2 : Below wr.heap.size wr (w1.alloc (.cells #[.int .i64 0, .string ⟨#[]⟩, .slice none 0 0, .slice none 0 0, .int .i64 ((j : Int) + 1), .int .i64 0, .int .i64 0] 50)) := HB1.out.alloc HB1.out.size _
        have HB2 := hid hb2
        have HBW : Hid (Below w.heap.size w (w1.alloc (.cells #[.int .i64 0, .string ⟨#[]⟩, .slice none 0 0, .slice none 0 0, .int .i64 ((j : Int) + 1), .int .i64 0, .int .i64 0] 50))) := hid (HR.out.2.1.1.trans (hb2.mono (Nat.le_of_lt HR.out.2.1.2.lt)))
        have HX9 := hid (HX3.out.alloc (.cells #[.int .i64 0, .string ⟨#[]⟩, .slice none 0 0, .slice none 0 0, .int .i64 ((j : Int) + 1), .int .i64 0, .int .i64 0] 50))
        have HK7 : Hid (Row7 (w1.alloc (.cells #[.int .i64 0, .string ⟨#[]⟩, .slice none 0 0, .slice none 0 0, .int .i64 ((j : Int) + 1), .int .i64 0, .int .i64 0] 50)) w1.heap.size 50 (.int .i64 0) (.string ⟨#[]⟩) (.slice none 0 0) (.slice none 0 0) (.int .i64 ((j : Int) + 1)) (.int .i64 0) (.int .i64 0)) := hid (Row7.make w1 _ _ _ _ _ _ _ _)
        have HOW : Hid (OUT < w1.heap.size ∧ (∀ b, sk.ownBlock = some b → b < w1.heap.size) ∧ (∀ b, su.ownBlock = some b → b < w1.heap.size) ∧ wr.heap.size ≤ w1.heap.size) := hid ⟨HR1.out.lt, fun b hb => (HR1.out.2.2.2.1.lt b hb).2, fun b hb => (HR1.out.2.2.2.2.choose_spec.1.lt b hb).2, HB1.out.size⟩
        clear hb2 HR1 HB1
        go_wp2_with fail
        clear x0 x1 x2 HX3
        generalize (w1.alloc (.cells #[.int .i64 0, .string ⟨#[]⟩, .slice none 0 0, .slice none 0 0, .int .i64 ((j : Int) + 1), .int .i64 0, .int .i64 0] 50)) = W3 at *
        generalize w1.heap.size = wl at *
        refine (HDB.out _ (HLR.out _ HBW.out)).mono ?_
        rintro e w' ⟨rfl, rfl⟩
        have e1 := (HBW.out.cell (p := ⟨g, (j + 1) * 3 + 1, none⟩) HE1.out.1).trans HE1.out.2.1
        have e2 := (HBW.out.cell (p := ⟨g, (j + 1) * 3 + 2, none⟩) HE1.out.1).trans HE1.out.2.2
        go_upto_region 14 with fail
        clear e1 e2
        have HR := hid (HR.out.go HG.out HB2.out)
        obtain ⟨v_k, hv_k⟩ : ∃ a : Int, a = 0 := ⟨_, rfl⟩
        obtain ⟨v_o, hv_o⟩ : ∃ a : Int, a = 0 := ⟨_, rfl⟩
        obtain ⟨v_e, hv_e⟩ : ∃ a : Int, a = 0 := ⟨_, rfl⟩
        obtain ⟨v_s, hv_s⟩ : ∃ a : ByteArray, a = ⟨#[]⟩ := ⟨_, rfl⟩
        obtain ⟨v_a, hv_a⟩ : ∃ a : Option Addr, a = none := ⟨_, rfl⟩
        obtain ⟨v_A, hv_A⟩ : ∃ a : Option Addr, a = none := ⟨_, rfl⟩
        obtain ⟨v_n, hv_n⟩ : ∃ a : Nat, a = 0 := ⟨_, rfl⟩
        obtain ⟨v_c, hv_c⟩ : ∃ a : Nat, a = 0 := ⟨_, rfl⟩
        obtain ⟨v_m, hv_m⟩ : ∃ a : Nat, a = 0 := ⟨_, rfl⟩
        obtain ⟨v_q, hv_q⟩ : ∃ a : Nat, a = 0 := ⟨_, rfl⟩
        obtain ⟨v_x, hv_x⟩ : ∃ a : Int, a = (j : Int) + 1 := ⟨_, rfl⟩
        have HK7b : Hid (Row7 W3 wl 50 (.int .i64 v_k) (.string v_s) (.slice v_a v_n v_c) (.slice v_A v_m v_q) (.int .i64 v_x) (.int .i64 v_o) (.int .i64 v_e)) := hid (by subst hv_k; subst hv_o; subst hv_e; subst hv_s; subst hv_a; subst hv_A; subst hv_n; subst hv_c; subst hv_m; subst hv_q; subst hv_x; exact HK7.out)
        have HFK : Hid (FIs (fun b => wl < b ∧ b < W3.heap.size) W3 j K v_k v_s (.slice v_a v_n v_c) (.slice v_A v_m v_q) v_x v_o v_e) := hid (by subst hv_k; subst hv_o; subst hv_e; subst hv_s; subst hv_a; subst hv_A; subst hv_n; subst hv_c; subst hv_m; subst hv_q; subst hv_x; rw [HKB.out]; exact ⟨rfl, rfl, nd_nul _ _⟩)
        clear HK7 HB2 HBW HX9 hv_k hv_o hv_e hv_s hv_a hv_A hv_n hv_c hv_m hv_q hv_x HDB
        have HK7 := HK7b
        clear HK7b
       case' pos =>
        replace hii := hii.symm
        subst hii
        cases hh : hyp T2.data.toList
        case' true =>
         have HYB := hid (HY2.out true hh)
         have HBK := hid (HBL.out hj1l)
         have HKB : Hid ((blkB (ls.drop (j + 1))).more 1 = K) := hid (by
          have h := HKD.out
          rw [hh, decide_eq_true rfl, Bool.true_and, if_pos rfl] at h
          exact h)
         clear h0 HKD HBL hh HY2
         go_wp2_with fail
         refine (HENT.out _).mono ?_
         rintro e w1 ⟨rfl, hb1⟩
         have hbr : Below wr.heap.size wr w1 := ((Below.refl wr.heap.size wr).alloc (Nat.le_refl _) _).trans (hb1.mono (by simp))
         have HB1 := hid hbr
         have HR1 := hid (HR.out.go HG.out hbr)
         have HX3 : Hid (Row3 w1 wr.heap.size 52 (.int .i64 (nx : Int)) (.int .i64 (i : Int)) (.string T)) := hid ((Row3.make wr _ _ _ _).below hb1 (by simp))
         clear hb1 hbr d0 d1 d2 HENT
         obtain ⟨x0, x1, x2⟩ := HX3.out.cells
         obtain ⟨z0, z1, z2, z3⟩ := HR1.out.2.2.1.cells
         go_wp2_with fail
         refine (HINB.out _ (rd_of_owns HR1.out.2.2.2.1)).mono ?_
         rintro e w' ⟨rfl, rfl⟩
         clear z0 z1 z2 z3 HINB
         have hb2 : Below wr.heap.size wr (w1.alloc (.cells #[.int .i64 0, .string ⟨#[]⟩, .slice none 0 0, .slice none 0 0, .int .i64 ((j : Int) + 1), .int .i64 0, .int .i64 0] 50)) := HB1.out.alloc HB1.out.size _
         have HB2 := hid hb2
         have HBW : Hid (Below w.heap.size w (w1.alloc (.cells #[.int .i64 0, .string ⟨#[]⟩, .slice none 0 0, .slice none 0 0, .int .i64 ((j : Int) + 1), .int .i64 0, .int .i64 0] 50))) := hid (HR.out.2.1.1.trans (hb2.mono (Nat.le_of_lt HR.out.2.1.2.lt)))
         have HX9 := hid (HX3.out.alloc (.cells #[.int .i64 0, .string ⟨#[]⟩, .slice none 0 0, .slice none 0 0, .int .i64 ((j : Int) + 1), .int .i64 0, .int .i64 0] 50))
         have HK7 : Hid (Row7 (w1.alloc (.cells #[.int .i64 0, .string ⟨#[]⟩, .slice none 0 0, .slice none 0 0, .int .i64 ((j : Int) + 1), .int .i64 0, .int .i64 0] 50)) w1.heap.size 50 (.int .i64 0) (.string ⟨#[]⟩) (.slice none 0 0) (.slice none 0 0) (.int .i64 ((j : Int) + 1)) (.int .i64 0) (.int .i64 0)) := hid (Row7.make w1 _ _ _ _ _ _ _ _)
         have HOW : Hid (OUT < w1.heap.size ∧ (∀ b, sk.ownBlock = some b → b < w1.heap.size) ∧ (∀ b, su.ownBlock = some b → b < w1.heap.size) ∧ wr.heap.size ≤ w1.heap.size) := hid ⟨HR1.out.lt, fun b hb => (HR1.out.2.2.2.1.lt b hb).2, fun b hb => (HR1.out.2.2.2.2.choose_spec.1.lt b hb).2, HB1.out.size⟩
         clear hb2 HR1 HB1
         go_wp2_with fail
         clear x0 x1 x2 HX3
         generalize (w1.alloc (.cells #[.int .i64 0, .string ⟨#[]⟩, .slice none 0 0, .slice none 0 0, .int .i64 ((j : Int) + 1), .int .i64 0, .int .i64 0] 50)) = W2 at *
         generalize w1.heap.size = wl at *
         refine (HDB.out _ (HLR.out _ HBW.out)).mono ?_
         rintro e w' ⟨rfl, rfl⟩
         have e1 := (HBW.out.cell (p := ⟨g, (j + 1) * 3 + 1, none⟩) HE1.out.1).trans HE1.out.2.1
         have e2 := (HBW.out.cell (p := ⟨g, (j + 1) * 3 + 2, none⟩) HE1.out.1).trans HE1.out.2.2
         go_wp2_with fail
         refine (HYB.out _).mono ?_
         rintro e w' ⟨rfl, rfl⟩
         clear e1 e2
         go_wp2_with fail
         refine (HBK.out _ (HLR.out _ HBW.out)).mono ?_
         clear HBK HDB HYB
         rintro e w5 ⟨v_k, v_s, v_a, v_n, v_c, v_A, v_m, v_q, v_x, v_o, v_e, rfl, hb5, hf5⟩
         have hb25 := hb5
         have HK7b : Hid (Row7 (p7 w5 wl (.int .i64 v_k) (.string v_s) (.slice v_a v_n v_c) (.slice v_A v_m v_q) (.int .i64 v_x) (.int .i64 v_o) (.int .i64 v_e)) wl 50 (.int .i64 v_k) (.string v_s) (.slice v_a v_n v_c) (.slice v_A v_m v_q) (.int .i64 v_x) (.int .i64 v_o) (.int .i64 v_e)) := hid ((HK7.out.below hb25 HK7.out.lt).set _ _ _ _ _ _ _)
         have HR3 : Hid (RZ (fun _ => False) OUT (fun W => Below w.heap.size w W ∧ Row7 W w.heap.size 50 (.int .i64 0) (.string ⟨#[]⟩) (.slice none 0 0) (.slice none 0 0) (.int .i64 0) (.int .i64 0) (.int .i64 0)) (p7 w5 wl (.int .i64 v_k) (.string v_s) (.slice v_a v_n v_c) (.slice v_A v_m v_q) (.int .i64 v_x) (.int .i64 v_o) (.int .i64 v_e)) 3 ⟨#[]⟩ sk ak su ad) := hid (HR.out.go HG.out (below_p7 (HB2.out.trans (hb25.mono HB2.out.size)) HOW.out.2.2.2 _ _ _ _ _ _ _))
         have HFK : Hid (FIs (fun b => wl < b ∧ b < (p7 w5 wl (.int .i64 v_k) (.string v_s) (.slice v_a v_n v_c) (.slice v_A v_m v_q) (.int .i64 v_x) (.int .i64 v_o) (.int .i64 v_e)).heap.size) (p7 w5 wl (.int .i64 v_k) (.string v_s) (.slice v_a v_n v_c) (.slice v_A v_m v_q) (.int .i64 v_x) (.int .i64 v_o) (.int .i64 v_e)) j K v_k v_s (.slice v_a v_n v_c) (.slice v_A v_m v_q) v_x v_o v_e) := hid (FIs.keep (fun b (hb : W2.heap.size ≤ b ∧ b < w5.heap.size) => ⟨⟨Nat.lt_of_lt_of_le HK7.out.lt hb.1, by rw [p7_size]; exact hb.2⟩, p7_oth b (Nat.ne_of_gt (Nat.lt_of_lt_of_le HK7.out.lt hb.1)) _ _ _ _ _ _ _⟩) (by have h9 := FIs.more hf5; rw [HKB.out] at h9; exact h9))
         obtain ⟨q0, q1, q2, q3, q4, q5, q6⟩ := (HK7.out.below hb25 HK7.out.lt).cells
         obtain ⟨fq0, fq1, fq2, fq3, fq4, fq5, fq6⟩ := (HK7.out.below hb25 HK7.out.lt).frozen
         clear hb5 hf5 hb25 HK7 HR HX9 HB2 HBW
         go_upto_region 14 with fail
         clear q0 q1 q2 q3 q4 q5 q6 fq0 fq1 fq2 fq3 fq4 fq5 fq6
         rw [show (((((((w5.setCell ⟨wl, 0, none⟩ (.int .i64 v_k)).setCell ⟨wl, 1, none⟩ (.string v_s)).setCell ⟨wl, 2, none⟩ (.slice v_a v_n v_c)).setCell ⟨wl, 3, none⟩ (.slice v_A v_m v_q)).setCell ⟨wl, 4, none⟩ (.int .i64 v_x)).setCell ⟨wl, 5, none⟩ (.int .i64 v_o)).setCell ⟨wl, 6, none⟩ (.int .i64 v_e)) = (p7 w5 wl (.int .i64 v_k) (.string v_s) (.slice v_a v_n v_c) (.slice v_A v_m v_q) (.int .i64 v_x) (.int .i64 v_o) (.int .i64 v_e)) from rfl]
         generalize (p7 w5 wl (.int .i64 v_k) (.string v_s) (.slice v_a v_n v_c) (.slice v_A v_m v_q) (.int .i64 v_x) (.int .i64 v_o) (.int .i64 v_e)) = W3 at *
         have HR := HR3
         have HK7 := HK7b
         clear HR3 HK7b
        case' false =>
         have HYB := hid (HY2.out false hh)
         have HKB : Hid (K = .ok nul 1) := hid (by
          have h := HKD.out
          rw [hh, Bool.and_false, if_neg Bool.false_ne_true] at h
          exact h.symm)
         clear h0 HKD HBL hh HY2
         go_wp2_with fail
         refine (HENT.out _).mono ?_
         rintro e w1 ⟨rfl, hb1⟩
         have hbr : Below wr.heap.size wr w1 := ((Below.refl wr.heap.size wr).alloc (Nat.le_refl _) _).trans (hb1.mono (by simp))
         have HB1 := hid hbr
         have HR1 := hid (HR.out.go HG.out hbr)
         have HX3 : Hid (Row3 w1 wr.heap.size 52 (.int .i64 (nx : Int)) (.int .i64 (i : Int)) (.string T)) := hid ((Row3.make wr _ _ _ _).below hb1 (by simp))
         clear hb1 hbr d0 d1 d2 HENT
         obtain ⟨x0, x1, x2⟩ := HX3.out.cells
         obtain ⟨z0, z1, z2, z3⟩ := HR1.out.2.2.1.cells
         go_wp2_with fail
         refine (HINB.out _ (rd_of_owns HR1.out.2.2.2.1)).mono ?_
         rintro e w' ⟨rfl, rfl⟩
         clear z0 z1 z2 z3 HINB
         have hb2 : Below wr.heap.size wr (w1.alloc (.cells #[.int .i64 0, .string ⟨#[]⟩, .slice none 0 0, .slice none 0 0, .int .i64 ((j : Int) + 1), .int .i64 0, .int .i64 0] 50)) := HB1.out.alloc HB1.out.size _
         have HB2 := hid hb2
         have HBW : Hid (Below w.heap.size w (w1.alloc (.cells #[.int .i64 0, .string ⟨#[]⟩, .slice none 0 0, .slice none 0 0, .int .i64 ((j : Int) + 1), .int .i64 0, .int .i64 0] 50))) := hid (HR.out.2.1.1.trans (hb2.mono (Nat.le_of_lt HR.out.2.1.2.lt)))
         have HX9 := hid (HX3.out.alloc (.cells #[.int .i64 0, .string ⟨#[]⟩, .slice none 0 0, .slice none 0 0, .int .i64 ((j : Int) + 1), .int .i64 0, .int .i64 0] 50))
         have HK7 : Hid (Row7 (w1.alloc (.cells #[.int .i64 0, .string ⟨#[]⟩, .slice none 0 0, .slice none 0 0, .int .i64 ((j : Int) + 1), .int .i64 0, .int .i64 0] 50)) w1.heap.size 50 (.int .i64 0) (.string ⟨#[]⟩) (.slice none 0 0) (.slice none 0 0) (.int .i64 ((j : Int) + 1)) (.int .i64 0) (.int .i64 0)) := hid (Row7.make w1 _ _ _ _ _ _ _ _)
         have HOW : Hid (OUT < w1.heap.size ∧ (∀ b, sk.ownBlock = some b → b < w1.heap.size) ∧ (∀ b, su.ownBlock = some b → b < w1.heap.size) ∧ wr.heap.size ≤ w1.heap.size) := hid ⟨HR1.out.lt, fun b hb => (HR1.out.2.2.2.1.lt b hb).2, fun b hb => (HR1.out.2.2.2.2.choose_spec.1.lt b hb).2, HB1.out.size⟩
         clear hb2 HR1 HB1
         go_wp2_with fail
         clear x0 x1 x2 HX3
         generalize (w1.alloc (.cells #[.int .i64 0, .string ⟨#[]⟩, .slice none 0 0, .slice none 0 0, .int .i64 ((j : Int) + 1), .int .i64 0, .int .i64 0] 50)) = W3 at *
         generalize w1.heap.size = wl at *
         refine (HDB.out _ (HLR.out _ HBW.out)).mono ?_
         rintro e w' ⟨rfl, rfl⟩
         have e1 := (HBW.out.cell (p := ⟨g, (j + 1) * 3 + 1, none⟩) HE1.out.1).trans HE1.out.2.1
         have e2 := (HBW.out.cell (p := ⟨g, (j + 1) * 3 + 2, none⟩) HE1.out.1).trans HE1.out.2.2
         go_wp2_with fail
         refine (HYB.out _).mono ?_
         rintro e w' ⟨rfl, rfl⟩
         clear e1 e2
         have HR := hid (HR.out.go HG.out HB2.out)
         obtain ⟨v_k, hv_k⟩ : ∃ a : Int, a = 0 := ⟨_, rfl⟩
         obtain ⟨v_o, hv_o⟩ : ∃ a : Int, a = 0 := ⟨_, rfl⟩
         obtain ⟨v_e, hv_e⟩ : ∃ a : Int, a = 0 := ⟨_, rfl⟩
         obtain ⟨v_s, hv_s⟩ : ∃ a : ByteArray, a = ⟨#[]⟩ := ⟨_, rfl⟩
         obtain ⟨v_a, hv_a⟩ : ∃ a : Option Addr, a = none := ⟨_, rfl⟩
         obtain ⟨v_A, hv_A⟩ : ∃ a : Option Addr, a = none := ⟨_, rfl⟩
         obtain ⟨v_n, hv_n⟩ : ∃ a : Nat, a = 0 := ⟨_, rfl⟩
         obtain ⟨v_c, hv_c⟩ : ∃ a : Nat, a = 0 := ⟨_, rfl⟩
         obtain ⟨v_m, hv_m⟩ : ∃ a : Nat, a = 0 := ⟨_, rfl⟩
         obtain ⟨v_q, hv_q⟩ : ∃ a : Nat, a = 0 := ⟨_, rfl⟩
         obtain ⟨v_x, hv_x⟩ : ∃ a : Int, a = (j : Int) + 1 := ⟨_, rfl⟩
         have HK7b : Hid (Row7 W3 wl 50 (.int .i64 v_k) (.string v_s) (.slice v_a v_n v_c) (.slice v_A v_m v_q) (.int .i64 v_x) (.int .i64 v_o) (.int .i64 v_e)) := hid (by subst hv_k; subst hv_o; subst hv_e; subst hv_s; subst hv_a; subst hv_A; subst hv_n; subst hv_c; subst hv_m; subst hv_q; subst hv_x; exact HK7.out)
         have HFK : Hid (FIs (fun b => wl < b ∧ b < W3.heap.size) W3 j K v_k v_s (.slice v_a v_n v_c) (.slice v_A v_m v_q) v_x v_o v_e) := hid (by subst hv_k; subst hv_o; subst hv_e; subst hv_s; subst hv_a; subst hv_A; subst hv_n; subst hv_c; subst hv_m; subst hv_q; subst hv_x; rw [HKB.out]; exact ⟨rfl, rfl, nd_nul _ _⟩)
         clear HK7 HB2 HBW HX9 hv_k hv_o hv_e hv_s hv_a hv_A hv_n hv_c hv_m hv_q hv_x HDB
         have HK7 := HK7b
         clear HK7b
     all_goals
      rcases K with ⟨bn, be⟩ | ⟨d, k2⟩
      ·
       obtain ⟨ho, he⟩ := HFK.out
       have hne := kidm_err HK.out
       rw [← he] at hne
       have e1 : (v_e == 0) = false := beq_eq_false_iff_ne.2 hne
       have e2 : (v_e != 0) = true := by rw [bne_iff_ne]; exact hne
       have HX : Hid (R = .bad bn be) := hid (map_wrong HDR.out HI.out HEP.out HNI.out HRA.out HK.out)
       have HD := hid (fnd_ret2 (k := k) (R := R) (w := w) (W := W3) (kk := v_k) (t := v_s) (a := v_a) (nn := v_n) (c := v_c) (A := v_A) (m := v_m) (q := v_q) (nx := v_x) (no := v_o) (er := v_e) HR.out.2.1.1 (by rw [HX.out]; exact ⟨ho, he⟩))
       clear ho he hne HRA HFK
       obtain ⟨b0, b1, b2, b3, b4, b5, b6⟩ := HK7.out.cells
       obtain ⟨r0, r1, r2, r3, r4, r5, r6⟩ := HR.out.2.1.2.cells
       obtain ⟨fr0, fr1, fr2, fr3, fr4, fr5, fr6⟩ := HR.out.2.1.2.frozen
       go_wp2
       refine bodyPost_ret (v := .agg #[.int .i64 v_k, .string v_s, .slice v_a v_n v_c, .slice v_A v_m v_q, .int .i64 v_x, .int .i64 v_o, .int .i64 v_e]) (by simp [results, Tryz.results40, go_sem, r0, r1, r2, r3, r4, r5, r6]) rfl HD.out
      ·
       obtain ⟨he, hx2, hnd⟩ := HFK.out
       subst he
       obtain ⟨j2, hj2⟩ : ∃ j2, j + k2 = j2 := ⟨_, rfl⟩
       rw [hj2] at hx2
       subst hx2
       have hkt := kidm_took HK.out
       rw [List.length_drop, HN.out] at hkt
       have hj2n : j2 ≤ n := by omega
       have hjlt : j < j2 := by omega
       have HRA2 : Hid ((mapB i (ak ++ [y.data.toList]) (ad ++ [d]) (ls.drop j2)).more (j2 - k) = R) := hid (by have h := map_on HDR.out HI.out HEP.out HNI.out HKJ.out HRA.out HK.out; rw [hj2] at h; exact h)
       have HKJ2 : Hid (k ≤ j2) := hid (by have := HKJ.out; omega)
       obtain ⟨hi, hhi⟩ : ∃ hi, W3.heap.size = hi := ⟨_, rfl⟩
       rw [hhi] at hnd
       have HNDD := hid hnd
       have HHI := hid hhi
       clear hnd hkt hj2 HRA HFK HK HEP HDR hhi
       obtain ⟨b0, b1, b2, b3, b4, b5, b6⟩ := HK7.out.cells
       obtain ⟨z0, z1, z2, z3⟩ := HR.out.2.2.1.cells
       obtain ⟨f0, f1, f2, f3⟩ := HR.out.2.2.1.frozen
       obtain ⟨lk, hlk⟩ : ∃ lk, ak.length = lk := ⟨_, rfl⟩
       obtain ⟨ln, hln⟩ : ∃ ln, ad.length = ln := ⟨_, rfl⟩
       obtain ⟨XK, hXK⟩ : ∃ XK, ak.map encStr = XK := ⟨_, rfl⟩
       have HLN := hid hln
       have HLK1 : Hid ((ak ++ [y.data.toList]).length = lk + 1) := hid (by rw [List.length_append, hlk]; rfl)
       have HXK1 : Hid ((ak ++ [y.data.toList]).map encStr = XK ++ [.string y]) := hid (by rw [List.map_append, hXK]; show XK ++ [Value.string (ba y.data.toList)] = _; rw [ba_of])
       have hownK := HR.out.2.2.2.1
       rw [hlk, hXK] at hownK
       have HOK := hid hownK
       rw [hln] at hacc
       rw [hlk] at hacck
       have hOlt := HR.out.lt
       have n7O : sk.ownBlock ≠ some OUT := fun e => by have := (hownK.lt _ e).1; omega
       clear hownK hlk hln hXK
       go_upto_region 17 with (at_builtin; refine wpList_append_own_at _ rfl _ _ 23 rfl (OUT + 1) 9 i0t _ 1 16 Tryz.underlying23 hi0 hz0 hz1 hz2 rfl (by decide) sk lk XK rfl (HOK.out.alloc _) _ 1 1 [.string y] rfl rfl (news_blk #[.string y] (alloc_at _ _)) (one_str y) (by unfold maxLen; omega) (by omega) (by simp; omega) ?_; intro v' w3 hownS hgS hnilS hkS; obtain ⟨a7, q7, rfl⟩ := own_shape hownS; have hz3 : w3.cell? ⟨OUT, 2, none⟩ = some sk := cell_grown (cells_alloc z2) hgS n7O; have hf3 : w3.frozen? ⟨OUT, 2, none⟩ = false := frozen_grown (frozen_alloc f2 hOlt) hgS (by simp; omega) n7O)
       have hal : Below W3.heap.size W3 (W3.alloc (.cells #[.string y] 9)) := (Below.refl _ _).alloc (Nat.le_refl _) _
       have hg9 : World.grownBy (W3.alloc (.cells #[.string y] 9)) w3 sk.ownBlock := ⟨hgS.os, hgS.tape, hgS.output, hgS.size, hgS.block⟩
       have HR3 := hid (RZ.keys HG.out HR.out hal (l' := ak ++ [y.data.toList]) (by rw [HLK1.out, HXK1.out]; exact hownS) hg9 hkS)
       have HFAR := hid (fun b h1 h2 => far_keys hal hg9 (.slice a7 (lk + 1) q7) HOW.out.1 HOW.out.2.1 (b := b) h1 h2 2)
       have HK3 : Hid (Row7 (w3.setCell ⟨OUT, 2, none⟩ (.slice a7 (lk + 1) q7)) wl 50 (.int .i64 v_k) (.string v_s) (.slice v_a v_n v_c) (.slice v_A v_m v_q) (.int .i64 (j2 : Int)) (.int .i64 v_o) (.int .i64 0)) := hid ((HFAR.out wl (Nat.le_refl _) HK7.out.lt).trans HK7.out)
       have HV3 : Hid (NdC (fun b => wl < b ∧ b < hi) (w3.setCell ⟨OUT, 2, none⟩ (.slice a7 (lk + 1) q7)) d (.int .i64 v_k) (.string v_s) (.slice v_a v_n v_c) (.slice v_A v_m v_q)) := hid (NdC.keep (fun b hb => ⟨hb, HFAR.out b (Nat.le_of_lt hb.1) (by rw [HHI.out]; exact hb.2)⟩) _ HNDD.out)
       have HS7 : Hid (∀ g, (Value.slice a7 (lk + 1) q7).ownBlock = some g → g < wl ∨ hi ≤ g) := hid fun g hg => by
        rcases hkS with h | h
        ·exact .inl (HOW.out.2.1 g (h.symm.trans hg))
        ·rw [h] at hg
         injection hg with hg
         have := HHI.out
         simp at hg
         exact .inr (by omega)
       have HS3 : Hid (hi ≤ (w3.setCell ⟨OUT, 2, none⟩ (.slice a7 (lk + 1) q7)).heap.size) := hid (by
        have h1 := HHI.out
        have h2 := hal.size
        have h3 := hg9.size
        have h4 : (w3.setCell ⟨OUT, 2, none⟩ (.slice a7 (lk + 1) q7)).heap.size = w3.heap.size := by simp
        omega)
       have HR := HR3
       clear HR3 hg9 hkS hnilS hgS hownS hal HFAR HNDD HK7 z0 z1 z2 z3 f0 f1 f2 f3 b0 b1 b2 b3 b4 b5 b6 HOK n7O hOlt
       clear hz3 hf3
       generalize w3.setCell ⟨OUT, 2, none⟩ (.slice a7 (lk + 1) q7) = W4 at *
       obtain ⟨z0, z1, z2, z3⟩ := HR.out.2.2.1.cells
       obtain ⟨f0, f1, f2, f3⟩ := HR.out.2.2.1.frozen
       obtain ⟨b0, b1, b2, b3, b4, b5, b6⟩ := HK3.out.cells
       obtain ⟨qs, hko⟩ := HR.out.2.2.2.2
       have HQ := hid hko
       have HOWN := hid hko.1
       obtain ⟨X8, hX8⟩ : ∃ X8, flat4 qs = X8 := ⟨_, rfl⟩
       have HX8 := hid hX8
       rw [hX8, HLN.out] at HOWN
       have hOlt := HR.out.lt
       have n8O : su.ownBlock ≠ some OUT := fun e => by have := (hko.1.lt _ e).1; omega
       clear hko hX8
       go_upto_region 18 with (at_builtin; refine wpList_append_own_at _ rfl _ _ 24 rfl (OUT + 1) 26 j0t _ 4 72 Tryz.underlying24 hj0 hy0 hy1 hy2 rfl (by decide) su ln X8 rfl (HOWN.out.alloc _) _ 1 1 [.int .i64 v_k, .string v_s, .slice v_a v_n v_c, .slice v_A v_m v_q] rfl rfl (news_blk #[.int .i64 v_k, .string v_s, .slice v_a v_n v_c, .slice v_A v_m v_q] (alloc_at _ _)) (four_nd _ _ _ _ _ _ _ _) (by unfold maxLen; omega) (by omega) (by simp; omega) ?_; intro v'' w4 hownN hgN hnilN hkN; obtain ⟨a8, q8, rfl⟩ := own_shape hownN; have hz4 : w4.cell? ⟨OUT, 3, none⟩ = some su := cell_grown (cells_alloc z3) hgN n8O; have hf4 : w4.frozen? ⟨OUT, 3, none⟩ = false := frozen_grown (frozen_alloc f3 hOlt) hgN (by simp; omega) n8O)
       have hal : Below W4.heap.size W4 (W4.alloc (.cells #[.int .i64 v_k, .string v_s, .slice v_a v_n v_c, .slice v_A v_m v_q] 26)) := (Below.refl _ _).alloc (Nat.le_refl _) _
       have hg9 : World.grownBy (W4.alloc (.cells #[.int .i64 v_k, .string v_s, .slice v_a v_n v_c, .slice v_A v_m v_q] 26)) w4 su.ownBlock := ⟨hgN.os, hgN.tape, hgN.output, hgN.size, hgN.block⟩
       have HK9 : Hid (Row7 (w4.setCell ⟨OUT, 3, none⟩ (.slice a8 (ln + 1) q8)) wl 50 (.int .i64 v_k) (.string v_s) (.slice v_a v_n v_c) (.slice v_A v_m v_q) (.int .i64 (j2 : Int)) (.int .i64 v_o) (.int .i64 0)) := hid ((set_oth _ ⟨OUT, 3, none⟩ _ _ (by show wl ≠ OUT; have := HOW.out.1; omega)).trans ((hg9.block _ (Nat.lt_of_lt_of_le HK3.out.lt hal.size) (fun e => by have := HOW.out.2.2.1 _ e.symm; omega)).trans (HK3.out.below hal HK3.out.lt)))
       have HR3 := hid (RZ.kids2 (B := fun b => wl < b ∧ b < hi) (q := ⟨.int .i64 v_k, .string v_s, .slice v_a v_n v_c, .slice v_A v_m v_q⟩) (e := d) HG.out HR.out hal (by rw [HLN.out]) qs HQ.out (by rw [HX8.out]) hownN hg9 hkN (fun b hb => by
        have e1 := HOW.out.1
        have e2 := HS3.out
        obtain ⟨e3, e4⟩ := hb
        exact ⟨by omega, by omega, fun e => by have := HS7.out b e; omega, fun e => by have := HOW.out.2.2.1 b e; omega⟩) HV3.out)
       have HR := HR3
       clear HR3 hz4 hf4 hownN hgN hg9 hkN hal hnilN HQ HOWN HX8 z0 z1 z2 z3 f0 f1 f2 f3 b0 b1 b2 b3 b4 b5 b6 HV3 HK3 n8O hOlt HS7 HS3
       have HLN2 : Hid ((ad ++ [d]).length = ln + 1) := hid (by rw [List.length_append, HLN.out]; rfl)
       generalize w4.setCell ⟨OUT, 3, none⟩ (.slice a8 (ln + 1) q8) = W5 at *
       obtain ⟨b0, b1, b2, b3, b4, b5, b6⟩ := HK9.out.cells
       go_wp2
       go_roundw
       case measure => simp [intOf]; omega
       case rel => exact ⟨j2, _, _, ak ++ [y.data.toList], ad ++ [d], hj2n, by rw [HLN2.out]; omega, by rw [HLK1.out]; omega, rfl, HKJ2, HR, HRA2⟩
   ·
    have hgt : (i : Int) > (m : Int) := by omega
    have hgt2 : (m : Int) < (i : Int) := by omega
    have hge : (m : Int) ≤ (i : Int) := by omega
    have HX : Hid (R = .bad nx 3) := hid (by
     have h := HRA.out
     rw [HDR.out, map_high (by rw [HI.out]; exact hhigh), HNX.out] at h
     exact h.symm)
    obtain ⟨KE, hKE⟩ : ∃ KE, entP T.data.toList = KE := ⟨_, rfl⟩
    obtain ⟨y, hy⟩ : ∃ y : ByteArray, ba (entY KE) = y := ⟨_, rfl⟩
    obtain ⟨r, hr⟩ : ∃ r : ByteArray, ba (entR KE) = r := ⟨_, rfl⟩
    obtain ⟨xe, hxe⟩ : ∃ xe, entN KE = xe := ⟨_, rfl⟩
    have HENT := hid (HEN.out KE hKE y r (by rw [← hy, ba_data]) (by rw [← hr, ba_data]) xe hxe)
    clear hhigh HRA hKE hy hr hxe HEN
    go_wp2_with fail
    refine (HENT.out _).mono ?_
    rintro e w1 ⟨rfl, hb1⟩
    have hbr : Below wr.heap.size wr w1 := ((Below.refl wr.heap.size wr).alloc (Nat.le_refl _) _).trans (hb1.mono (by simp))
    have HB1 := hid hbr
    have HR1 := hid (HR.out.go HG.out hbr)
    have HX3 : Hid (Row3 w1 wr.heap.size 52 (.int .i64 (nx : Int)) (.int .i64 (i : Int)) (.string T)) := hid ((Row3.make wr _ _ _ _).below hb1 (by simp))
    clear hb1 hbr d0 d1 d2 HENT
    obtain ⟨x0, x1, x2⟩ := HX3.out.cells
    go_wp2_with fail
    refine (HWR.out _ _ _).mono ?_
    rintro e w3 ⟨rfl, hb3⟩
    clear x0 x1 x2 HX3 HB1 HR
    have HR := hid (HR1.out.go HG.out hb3)
    have HD := hid (fnd_ret2 (k := k) (R := R) (w := w) (W := w3) (kk := 0) (t := ⟨#[]⟩) (a := none) (nn := 0) (c := 0) (A := none) (m := 0) (q := 0) (nx := 0) (no := (nx : Int)) (er := 3) HR.out.2.1.1 (by rw [HX.out]; exact ⟨rfl, rfl⟩))
    clear hb3 HR1
    obtain ⟨r0, r1, r2, r3, r4, r5, r6⟩ := HR.out.2.1.2.cells
    obtain ⟨fr0, fr1, fr2, fr3, fr4, fr5, fr6⟩ := HR.out.2.1.2.frozen
    go_wp2
    refine bodyPost_ret (v := .agg #[.int .i64 0, .string ⟨#[]⟩, .slice none 0 0, .slice none 0 0, .int .i64 0, .int .i64 (nx : Int), .int .i64 3]) (by simp [results, Tryz.results40, go_sem, r0, r1, r2, r3, r4, r5, r6]) rfl HD.out
  ·obtain rfl : j = n := by omega
   have HX : Hid (R = .ok (.mk 3 [] ak ad) (j - k)) := hid (by have h := HRA.out; rw [List.drop_of_length_le (by rw [HN.out]; exact Nat.le_refl _), map_nil] at h; exact h.symm)
   clear HRA
   obtain ⟨z0, z1, z2, z3⟩ := HR.out.2.2.1.cells
   obtain ⟨r0, r1, r2, r3, r4, r5, r6⟩ := HR.out.2.1.2.cells
   obtain ⟨fr0, fr1, fr2, fr3, fr4, fr5, fr6⟩ := HR.out.2.1.2.frozen
   obtain ⟨hK, hck, rfl⟩ := own_shape HR.out.2.2.2.1
   obtain ⟨hA, hcq, rfl⟩ := own_shape HR.out.2.2.2.2.choose_spec.1
   have HD := hid (fnd_out HR.out HR.out.2.1.1 HL.out HKJ.out HX.out)
   obtain ⟨lk, hlk⟩ : ∃ lk, ak.length = lk := ⟨_, rfl⟩
   rw [hlk] at HR HD z2
   clear hlk
   obtain ⟨ln, hln⟩ : ∃ ln, ad.length = ln := ⟨_, rfl⟩
   rw [hln] at HR HD z3
   clear hln
   go_wp2
   refine bodyPost_ret (v := .agg #[.int .i64 3, .string ⟨#[]⟩, .slice hK lk hck, .slice hA ln hcq, .int .i64 (j : Int), .int .i64 0, .int .i64 0]) (by simp [results, Tryz.results40, go_sem, r0, r1, r2, r3, r4, r5, r6]) rfl HD.out
end
end Go.Proofs.YtecglpocmhkkiaaGreatDoor
