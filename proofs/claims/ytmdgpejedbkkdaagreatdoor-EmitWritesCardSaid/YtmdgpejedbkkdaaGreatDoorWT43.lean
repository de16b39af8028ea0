/- BloRdH -/
import Derived.Test.YtmdgpejedbkkdaaGreatDoorWT42
set_option linter.unusedVariables false
set_option linter.unusedSimpArgs false
set_option maxRecDepth 100000
set_option maxHeartbeats 16000000
open Go.Lib (hid)
namespace Go.Proofs.YtmdgpejedbkkdaaGreatDoor
open Go.RowKit Go.Sort
open Nw N8 Q6 F9 B10 Go.ChangeShapes Go.WideShapes
namespace B10
theorem ent_rlen {l : L8} {y r : L8} (h : entP l = some (some (y, r))) : r.length ≤ l.length := by
 unfold entP at h
 split at h
 ·cases h
 ·split at h
  ·split at h
   ·cases h
   ·split at h
    ·injection h with h
     injection h with h
     injection h with h1 h2
     rw [← h2]; unfold bhd; rw [List.length_drop]; omega
    ·cases h
  ·split at h
   ·cases h
   ·split at h
    ·injection h with h
     injection h with h
     injection h with h1 h2
     rw [← h2]; unfold bhd; rw [List.length_drop]; omega
    ·cases h
theorem ent_one {K : Option (Option (L8 × L8))} (h : entN K = 1) : K = some (some (entY K, entR K)) := by
 cases K with
 | none => exact absurd h (show (-1 : Int) ≠ 1 by decide)
 | some o =>
  cases o with
  | none => exact absurd h (show (0 : Int) ≠ 1 by decide)
  | some p => rfl
end B10
section
variable {w0 w : World} {g n p : Nat} {sl : Value} {M : List Ln} {x : Ln} {l : List Ln}
theorem readMap_any {N : Nat} (ih : BOf N) (hm : SomeMax w0) (h : RD w0 g sl n w M p) (hx : M.drop p = x :: l) (he : ∃ y r, entP x.text = some (some (y, r))) (hN : 2 * big (x :: l) ≤ N) :
  Calls Tryz.prog 75 #[.pointer (some ⟨g, 0, none⟩), .int .i64 (x.ind : Int)] w (Out w0 g sl n M p (p + 1) x.ind (mapB x.ind [] [] (x :: l)) w) := by
 have HST := hid (MQ.start h x.ind)
 rw [hx] at HST
 have HN := hid hN
 have HX0 := hid hx
 have HE0 := hid he
 have HIH := hid ih
 have HMX := hid hm
 have hn := h.n_le
 have HIL := hid (h.ind_le hx)
 obtain ⟨L, hL⟩ : ∃ L : Nat, x.ind = L := ⟨_, rfl⟩
 have HL0 := hid hL
 rw [hL] at HST HIL ⊢
 obtain ⟨TT, hTT⟩ : ∃ TT, mapB L [] [] (x :: l) = TT := ⟨_, rfl⟩
 rw [hTT] at HST ⊢
 obtain ⟨ni, hni⟩ := infoN
 obtain ⟨hi0, hz0, hz1, hz2⟩ := hni
 obtain ⟨si, hsi⟩ := infoS
 obtain ⟨si0, sz0, sz1, sz2⟩ := hsi
 clear hTT hL h hx he hN ih hm
 go_enter Tryz.func75, Tryz.ntmps75
 go_wp2
 go_step3
 go_wp2
 go_step3
 go_wp2
 go_loopw [12] (fun _ wr => ∃ (kv dv : Value) (M1 : List Ln) (p1 : Nat) (ks : List L8) (ds : List Nd) (qs : List Q4), Hid (MQ w0 g sl n M p L TT w wr kv dv M1 p1 ks ds qs)) (fun _ W => n - (intOf ((W.cell? ⟨g, 1, none⟩).getD (.int .i64 0))).toNat)
 case atStart => exact ⟨_, _, M, p, [], [], [], HST⟩
 case round =>
  clear HST
  obtain ⟨kv, dv, M1, p1, ks, ds, qs, HQ⟩ := hrel
  by_cases hpn : p1 = n
  ·have HG : Hid (Gets L TT (.mk 3 [] ks ds) (p1 - p) (M1.drop p1)) := hid (by
    have h1 := HQ.out.2.2.1
    rw [HQ.out.rd.last hpn] at h1 ⊢
    exact h1.done)
   have HP : Hid (p + 1 ≤ p1) := hid (by
    have h1 := HQ.out.2.1
    rcases Nat.lt_or_eq_of_le h1.1 with h2 | h2
    ·exact h2
    ·subst h2
     have h3 := h1.2.2.2
     rw [HQ.out.rd.last hpn, HX0.out] at h3
     cases h3)
   have HDN := hid (isDone_any HQ.out.rd true (decide_eq_true hpn))
   go_wp2_with fail
   refine HDN.out.mono ?_
   rintro e w1 ⟨rfl, q, rfl⟩
   have HQ1 := hid (HQ.out.go (below_drewN wr q))
   clear HDN HQ
   generalize wr.drewN q = We at *
   have HEN := hid (HQ1.out.end_ HP.out HG.out)
   have HRS := hid HQ1.out.res
   have HBX := hid HQ1.out.box
   obtain ⟨ka, kc, hkv⟩ := own_shape HQ1.out.2.2.2.1
   obtain ⟨da, dc, hdv⟩ := own_shape HQ1.out.2.2.2.2.1
   subst hkv
   subst hdv
   obtain ⟨kl, hkl⟩ : ∃ kl, ks.length = kl := ⟨_, rfl⟩
   obtain ⟨dl, hdl⟩ : ∃ dl, ds.length = dl := ⟨_, rfl⟩
   rw [hkl, hdl] at HEN HBX
   clear hkl hdl HQ1
   obtain ⟨r0, r1, r2, r3⟩ := HRS.out.cells
   obtain ⟨fr0, fr1, fr2, fr3⟩ := HRS.out.frozen
   obtain ⟨z0, z1, z2, z3⟩ := HBX.out.cells
   go_wp2
   refine bodyPost_ret (v := .tuple #[.agg #[.int .i64 3, .string ⟨#[]⟩, .slice ka kl kc, .slice da dl dc], .int .i64 0]) (by simp [results, Tryz.results75, go_sem, r0, r1, r2, r3]) rfl ?_
   exact HEN.out
  ·obtain ⟨x1, l1, hx1⟩ := HQ.out.rd.more_ hpn
   have HX1 := hid hx1
   have HDN := hid (isDone_any HQ.out.rd false (decide_eq_false hpn))
   have hp1n : p1 < n := HQ.out.rd.at_lt hx1
   have HIL1 := hid (HQ.out.rd.ind_le hx1)
   have HBG : Hid (2 * big (x1 :: l1) ≤ N) := hid (by
    have h1 := big_le (M := M) HQ.out.2.1.1
    rw [HX0.out, ← HQ.out.2.1.2.2.2, hx1] at h1
    have := HN.out
    omega)
   have HOF : Hid (x1.ind ≠ L ∨ entN (entP x1.text) ≠ 1 → p + 1 ≤ p1) := hid (fun hor => by
    have h1 := HQ.out.2.1
    rcases Nat.lt_or_eq_of_le h1.1 with h2 | h2
    ·exact h2
    ·subst h2
     have h3 := h1.2.2.2
     rw [hx1, HX0.out] at h3
     injection h3 with h3 _
     subst h3
     rcases hor with hor | hor
     ·exact absurd HL0.out hor
     ·obtain ⟨y, r, h4⟩ := HE0.out
      rw [h4] at hor; exact absurd rfl hor)
   have HMS := hid (pos_of HQ.out.rd.cells.2.1)
   go_wp2_with fail
   refine HDN.out.mono ?_
   rintro e w1 ⟨rfl, q, rfl⟩
   have HQ2 := hid (HQ.out.go (below_drewN wr q))
   clear HDN HQ
   generalize wr.drewN q = Wa at *
   obtain ⟨c0, c1, -⟩ := HQ2.out.rd.cells
   obtain ⟨B, cap, rfl, hcap, hcm, ⟨x0, x1', x2⟩, -⟩ := HQ2.out.rd.here hx1
   obtain ⟨T, hT⟩ : ∃ T : ByteArray, (⟨x1.text.toArray⟩ : ByteArray) = T := ⟨_, rfl⟩
   have hTl : T.data.toList = x1.text := by rw [← hT]
   have HTL := hid hTl
   have hTs : T.size ≤ 100000 := by rw [← len_eq, hTl]; have := HIL1.out; omega
   obtain ⟨K, hK⟩ : ∃ K, entP x1.text = K := ⟨_, rfl⟩
   have HEN0 := hid (fun W hW => Entry_any T W hW hTs K (by rw [hTl]; exact hK))
   have HKK := hid hK
   obtain ⟨kn, hkn⟩ : ∃ kn, entN K = kn := ⟨_, rfl⟩
   have HKN := hid hkn
   have HENT : Hid (∀ W, SomeMax W → Calls Tryz.prog 74 #[.string T] W fun e w' => ∃ (y r : ByteArray), y.data.toList = entY K ∧ r.data.toList = entR K ∧ e = .returned (.tuple #[.string y, .string r, .int .i64 kn]) ∧ Below W.heap.size W w') := hid (by
    rw [← hkn]; exact HEN0.out)
   clear HEN0 hkn hK
   obtain ⟨I, hI⟩ : ∃ I : Nat, x1.ind = I := ⟨_, rfl⟩
   obtain ⟨no, hno⟩ : ∃ no : Nat, x1.no = no := ⟨_, rfl⟩
   have HIX := hid hI
   have HNX := hid hno
   rw [hT] at x2
   rw [hI] at x1'
   rw [hno] at x0
   have pz : (0 : Int) ≤ (p1 : Int) := by omega
   have pn : (p1 : Int) < (n : Int) := by omega
   clear hT hI hno hTl hTs hx1
   go_upto_region 3 with fail
   go_region_held3 (fun W => W.cell? ⟨g, 0, none⟩ = some (.slice (some ⟨B, 0, none⟩) n cap) ∧ W.cell? ⟨g, 1, none⟩ = some (.int .i64 (p1 : Int)) ∧ W.cell? ⟨B, p1 * 3, none⟩ = some (.int .i64 (no : Int)) ∧ W.cell? ⟨B, p1 * 3 + 1, none⟩ = some (.int .i64 (I : Int)) ∧ W.cell? ⟨B, p1 * 3 + 2, none⟩ = some (.string T))
    (first | exact ⟨c0, c1, x0, x1', x2⟩ | assumption | exact ⟨cells_alloc c0, cells_alloc c1, cells_alloc x0, cells_alloc x1', cells_alloc x2⟩) (fail)
   have HQ3 := hid (HQ2.out.go (below_ad Wa (.cells #[.int .i64 (no : Int), .int .i64 (I : Int), .string T] 62)))
   have HL3 : Hid (Row3 (Wa.alloc (.cells #[.int .i64 (no : Int), .int .i64 (I : Int), .string T] 62)).drew Wa.heap.size 62 (.int .i64 (no : Int)) (.int .i64 (I : Int)) (.string T)) := hid (Row3.make Wa _ _ _ _)
   clear c0 c1 x0 x1' x2 HQ2
   generalize (Wa.alloc (.cells #[.int .i64 (no : Int), .int .i64 (I : Int), .string T] 62)).drew = W2 at *
   generalize Wa.heap.size = lb at *
   obtain ⟨y0, y1, y2⟩ := HL3.out.cells
   go_wp2_with fail
   refine (HENT.out _ (HQ3.out.rd.some_max HMX.out)).mono ?_
   rintro e w3 ⟨yy, rr, hyy, hrr, rfl, hb3⟩
   have HQ4 := hid (HQ3.out.go hb3)
   have HL4 := hid (HL3.out.below hb3 HL3.out.lt)
   have HYY := hid hyy
   have HRR := hid hrr
   clear hyy hrr hb3 HQ3 HL3 y0 y1 y2 HENT
   obtain ⟨y0, y1, y2⟩ := HL4.out.cells
   by_cases hIL : I = L
   ·have hLI : L = I := hIL.symm
    clear hIL
    subst hLI
    by_cases hk1 : kn = 1
    ·subst hk1
     have HIE : Hid (x1.ind = L) := HIX
     have HEP : Hid (entP x1.text = some (some (yy.data.toList, rr.data.toList))) := hid (by rw [HKK.out, HYY.out, HRR.out]; exact ent_one HKN.out)
     have HIN := hid (In_any kv ks yy w3 HQ4.out.keys)
     have HBX := hid HQ4.out.box
     obtain ⟨z0, z1, z2, z3⟩ := HBX.out.cells
     by_cases hdu : yy.data.toList ∈ ks
     ·rw [decide_eq_true hdu] at HIN
      have HRS := hid HQ4.out.res
      have HBD : Hid (∀ k t a i cc A m q, Out w0 g (.slice (some ⟨B, 0, none⟩) n cap) n M p (p + 1) L TT w (.returned (.tuple #[.agg #[.int .i64 k, .string t, .slice a i cc, .slice A m q], .int .i64 3])) (p4 w3 w.heap.size (.int .i64 k) (.string t) (.slice a i cc) (.slice A m q))) := hid (by
       intro k t a i cc A m q
       have h1 := HQ4.out.2.2.1
       rw [HX1.out] at h1
       exact HQ4.out.wrong (KP.refl _ _ _) HQ4.out.rd (by decide) (h1.twice HIE.out HEP.out hdu) HX1.out)
      obtain ⟨ka, kc, hkv⟩ := own_shape HQ4.out.2.2.2.1
      subst hkv
      clear hdu HQ4
      obtain ⟨r0, r1, r2, r3⟩ := HRS.out.cells
      obtain ⟨fr0, fr1, fr2, fr3⟩ := HRS.out.frozen
      go_wp2_with fail
      refine HIN.out.mono ?_
      rintro e w' ⟨rfl, rfl⟩
      go_wp2
      refine bodyPost_ret (v := .tuple #[.agg #[.int .i64 0, .string ⟨#[]⟩, .slice none 0 0, .slice none 0 0], .int .i64 3]) (by simp [results, Tryz.results75, go_sem, r0, r1, r2, r3]) rfl ?_
      exact HBD.out 0 ⟨#[]⟩ none 0 0 none 0 0
     ·rw [decide_eq_false hdu] at HIN
      have HDU := hid hdu
      have hrs : rr.size ≤ 500000 := by
       rw [← len_eq]
       have h1 := ent_rlen HEP.out
       have h2 := HIL1.out
       omega
      have HRE : Hid (Calls Tryz.prog 110 #[.pointer (some ⟨g, 0, none⟩), .int .i64 (L : Int), .string rr] w3 (Out w0 g (.slice (some ⟨B, 0, none⟩) n cap) n M1 p1 (p1 + 1) L (kidM L x1 l1 rr.data.toList) w3)) := hid (by
       have h1 := readEntry_any HIH.out HMX.out HQ4.out.rd HX1.out (by have h2 := HBG.out; simp only [big] at h2; omega) rr hrs
       rwa [HIE.out] at h1)
      obtain ⟨ka, kc, hkv⟩ := own_shape HQ4.out.2.2.2.1
      subst hkv
      clear hdu hrs
      go_wp2_with (go_at_call 109; refine HIN.out.mono ?_; rintro e w' ⟨rfl, rfl⟩)
      refine HRE.out.mono ?_
      rintro e w4 ⟨k, t, a, i, cc, A, m, q, E, rfl, hk, hc⟩
      have HKW := hid (hk.alloc (.cells #[.int .i64 k, .string t, .slice a i cc, .slice A m q] 25))
      have hal : Below w4.heap.size w4 (w4.alloc (.cells #[.int .i64 k, .string t, .slice a i cc, .slice A m q] 25)) := (Below.refl _ _).alloc (Nat.le_refl _) _
      have HC5 : Hid (OutC w0 g (.slice (some ⟨B, 0, none⟩) n cap) n M1 p1 (p1 + 1) L (kidM L x1 l1 rr.data.toList) E (w4.alloc (.cells #[.int .i64 k, .string t, .slice a i cc, .slice A m q] 25)) (fun d => NdC (fun b => w3.heap.size ≤ b ∧ b < (w4.alloc (.cells #[.int .i64 k, .string t, .slice a i cc, .slice A m q] 25)).heap.size) (w4.alloc (.cells #[.int .i64 k, .string t, .slice a i cc, .slice A m q] 25)) d (.int .i64 k) (.string t) (.slice a i cc) (.slice A m q))) := hid
       (hc.imp (fun M' p' h' => h'.go hal) fun d hd => NdC.keep (fun b hb => ⟨⟨hb.1, Nat.lt_of_lt_of_le hb.2 hal.size⟩, hal.block b hb.2⟩) _ hd)
      have HXK := hid (Row4.make w4 25 (.int .i64 k) (.string t) (.slice a i cc) (.slice A m q))
      have HKL0 : Hid (w3.heap.size ≤ w4.heap.size) := hid hk.size
      clear hk hc hal HRE HIN HBX z0 z1 z2 z3
      go_upto_region 9 with fail
      generalize w4.alloc (.cells #[.int .i64 k, .string t, .slice a i cc, .slice A m q] 25) = W5 at *
      generalize w4.heap.size = kb at *
      have HKL : Hid (w3.heap.size ≤ kb) := HKL0
      have HKP := hid (HQ4.out.kept HKW.out)
      by_cases hE : E = 0
      ·subst hE
       have HOK : Hid (∃ M2 p2', RD w0 g (.slice (some ⟨B, 0, none⟩) n cap) n W5 M2 p2' ∧ p1 + 1 ≤ p2' ∧ M2.drop p2' = M1.drop p2' ∧ ∃ d, Gets L (kidM L x1 l1 rr.data.toList) d (p2' - p1) (M2.drop p2') ∧ NdC (fun z => w3.heap.size ≤ z ∧ z < W5.heap.size) W5 d (.int .i64 k) (.string t) (.slice a i cc) (.slice A m q)) := hid (by
        obtain ⟨M2, p2', h1, h2⟩ := HC5.out
        rcases h2 with ⟨-, h3, h4, d, h5, h6⟩ | ⟨h3, -⟩
        ·exact ⟨M2, p2', h1, h3, h4, d, h5, h6⟩
        ·exact absurd rfl h3)
       obtain ⟨da, dc, hdv⟩ := own_shape HQ4.out.2.2.2.2.1
       subst hdv
       have HNX2 : Hid (∀ kv' dv' w6, PM (w.heap.size + 2) W5 (.slice ka ks.length kc) (.slice da ds.length dc) w6 kv' (ks.length + 1) (ks.map encStr ++ [.string yy]) dv' (ds.length + 1) (flat4 qs ++ [.int .i64 k, .string t, .slice a i cc, .slice A m q]) →
        ∃ M2 p2' d, p1 + 1 ≤ p2' ∧ MQ w0 g (.slice (some ⟨B, 0, none⟩) n cap) n M p L TT w (p2 w6 (w.heap.size + 1) kv' dv') kv' dv' M2 p2' (ks ++ [yy.data.toList]) (ds ++ [d]) (qs ++ [⟨.int .i64 k, .string t, .slice a i cc, .slice A m q⟩])) := hid (by
        intro kv' dv' w6 hP
        obtain ⟨M2, p2', h1, h3, h4, d, h5, h6⟩ := HOK.out
        exact ⟨M2, p2', d, h3, HQ4.out.kid HX1.out HIE.out HEP.out HDU.out HKW.out h1 h3 h4 h5 (q := ⟨.int .i64 k, .string t, .slice a i cc, .slice A m q⟩) h6 (by rw [ba_of]; exact hP)⟩)
       have hkp := HKP.out
       have HFW := hid HQ4.out.few
       have S0 : CM (w.heap.size + 1) kb (.slice ka ks.length kc) (.slice da ds.length dc) (.int .i64 k) (.string t) (.slice a i cc) (.slice A m q) W5.drew := CM.of (W := W5.drew) hkp.2.1 HXK.out
       have P0 := PM.start hkp.2.2.2.2 hkp.2.2.1 hkp.2.2.2.1
       have hlk : ∀ b, (Value.slice ka ks.length kc).ownBlock = some b → b < W5.heap.size := fun b e => (hkp.2.2.1.lt b e).2
       have hnk : (Value.slice ka ks.length kc).ownBlock ≠ some (w.heap.size + 1) := fun e => by have := (hkp.2.2.1.lt _ e).1; omega
       have hnd : (Value.slice da ds.length dc).ownBlock ≠ some (w.heap.size + 1) := fun e => by have := (hkp.2.2.2.1.lt _ e).1; omega
       have hnkb : (Value.slice ka ks.length kc).ownBlock ≠ some kb := fun e => by have h1 := (HQ4.out.2.2.2.1.lt _ e).2; have h2 := HKL.out; omega
       have hndb : (Value.slice da ds.length dc).ownBlock ≠ some kb := fun e => by have h1 := (HQ4.out.2.2.2.2.1.lt _ e).2; have h2 := HKL.out; omega
       obtain ⟨kl, hkl⟩ : ∃ kl, ks.length = kl := ⟨_, rfl⟩
       obtain ⟨dl, hdl⟩ : ∃ dl, ds.length = dl := ⟨_, rfl⟩
       obtain ⟨X7, hX7⟩ : ∃ X7, ks.map encStr = X7 := ⟨_, rfl⟩
       obtain ⟨X8, hX8⟩ : ∃ X8, flat4 qs = X8 := ⟨_, rfl⟩
       rw [hkl, hdl] at S0
       rw [hkl, hdl, hX7, hX8] at P0 HNX2
       rw [hkl] at hlk hnk hnkb ⊢
       rw [hdl] at hnd hndb
       rw [hkl, hdl] at HFW
       have hfw := HFW.out
       clear hkl hdl hX7 hX8 HOK HC5 HQ4 hkp HKP HXK
       go_upto_region 11 with fail
       refine wp_region_noPanic ?_
       refine wp_region_till 11 (CM (w.heap.size + 1) kb (.slice ka kl kc) (.slice da dl dc) (.int .i64 k) (.string t) (.slice a i cc) (.slice A m q)) (by kernel_rfl) ?_
       refine till_take 0 [11] (.pointer (some ⟨w.heap.size + 1, 2, none⟩)) (by kernel_rfl) (by kernel_rfl) (by kernel_rfl) (by kernel_rfl) (by kernel_rfl) (fun _ _ _ _ h => h) S0 ?_
       simp only [List.getElem?_toArray, List.getElem?_cons_succ, List.getElem?_cons_zero]
       refine ⟨Or.inl ⟨by rfl, ?_⟩, ?_⟩
       ·intro W HSW
        obtain ⟨-, ⟨s2, s3⟩, -, s4, s5, s6, s7⟩ := HSW
        go_simp
       simp only [Act.put, List.setIfInBounds_toArray, List.set_cons_zero, List.set_cons_succ]
       refine till_take 1 [11] (.slice ka kl kc) (by kernel_rfl) (by kernel_rfl) (by kernel_rfl) (by kernel_rfl) (by kernel_rfl) (fun _ _ _ _ h => h) S0 ?_
       simp only [List.getElem?_toArray, List.getElem?_cons_succ, List.getElem?_cons_zero]
       refine ⟨Or.inl ⟨by rfl, ?_⟩, ?_⟩
       ·intro W HSW
        obtain ⟨-, ⟨s2, s3⟩, -, s4, s5, s6, s7⟩ := HSW
        go_simp
       simp only [Act.put, List.setIfInBounds_toArray, List.set_cons_zero, List.set_cons_succ]
       refine till_take 2 [11] (.string yy) (by kernel_rfl) (by kernel_rfl) (by kernel_rfl) (by kernel_rfl) (by kernel_rfl) (fun _ _ _ _ h => h) S0 ?_
       simp only [List.getElem?_toArray, List.getElem?_cons_succ, List.getElem?_cons_zero]
       refine ⟨Or.inl ⟨by rfl, ?_⟩, ?_⟩
       ·intro W HSW
        obtain ⟨-, ⟨s2, s3⟩, -, s4, s5, s6, s7⟩ := HSW
        go_simp
       simp only [Act.put, List.setIfInBounds_toArray, List.set_cons_zero, List.set_cons_succ]
       refine till_take 5 [11] (.pointer (some ⟨w.heap.size + 1, 3, none⟩)) (by kernel_rfl) (by kernel_rfl) (by kernel_rfl) (by kernel_rfl) (by kernel_rfl) (fun _ _ _ _ h => h) S0 ?_
       simp only [List.getElem?_toArray, List.getElem?_cons_succ, List.getElem?_cons_zero]
       refine ⟨Or.inl ⟨by rfl, ?_⟩, ?_⟩
       ·intro W HSW
        obtain ⟨-, ⟨s2, s3⟩, -, s4, s5, s6, s7⟩ := HSW
        go_simp
       simp only [Act.put, List.setIfInBounds_toArray, List.set_cons_zero, List.set_cons_succ]
       refine till_take 6 [11] (.slice da dl dc) (by kernel_rfl) (by kernel_rfl) (by kernel_rfl) (by kernel_rfl) (by kernel_rfl) (fun _ _ _ _ h => h) S0 ?_
       simp only [List.getElem?_toArray, List.getElem?_cons_succ, List.getElem?_cons_zero]
       refine ⟨Or.inl ⟨by rfl, ?_⟩, ?_⟩
       ·intro W HSW
        obtain ⟨-, ⟨s2, s3⟩, -, s4, s5, s6, s7⟩ := HSW
        go_simp
       simp only [Act.put, List.setIfInBounds_toArray, List.set_cons_zero, List.set_cons_succ]
       refine till_take 7 [8, 9, 11] (.agg #[.int .i64 k, .string t, .slice a i cc, .slice A m q]) (by kernel_rfl) (by kernel_rfl) (by kernel_rfl) (by kernel_rfl) (by kernel_rfl) (fun _ _ _ _ h => h) S0 ?_
       simp only [List.getElem?_toArray, List.getElem?_cons_succ, List.getElem?_cons_zero]
       refine ⟨Or.inl ⟨by rfl, ?_⟩, ?_⟩
       ·intro W HSW
        obtain ⟨-, ⟨s2, s3⟩, -, s4, s5, s6, s7⟩ := HSW
        go_simp
       simp only [Act.put, List.setIfInBounds_toArray, List.set_cons_zero, List.set_cons_succ]
       refine till_two 3 8 (by kernel_rfl) ?_ ?_
       ·refine till_step (by kernel_rfl) ?_
        intro o9 ho9 Kx hKx
        simp only [List.getElem?_toArray, List.getElem?_cons_succ, List.getElem?_cons_zero, Option.some.injEq] at ho9
        subst ho9
        go_simp
        have S1 := S0.alloc (.cells #[.string yy] 9)
        have P1 := P0.alloc (.cells #[.string yy] 9)
        refine hKx.out _ _ (fun _ => S1) ?_
        clear hKx Kx
        try simp only [Act.put, List.setIfInBounds_toArray, List.set_cons_zero, List.set_cons_succ]
        refine till_two 4 8 (by kernel_rfl) ?_ ?_
        ·refine till_step (by kernel_rfl) ?_
         intro o9 ho9 Kx hKx
         simp only [List.getElem?_toArray, List.getElem?_cons_succ, List.getElem?_cons_zero, Option.some.injEq] at ho9
         subst ho9
         refine step_append_own_at rfl _ _ 22 rfl (w.heap.size + 2) 9 si _ 1 16 Tryz.underlying22 si0 sz0 sz1 sz2 rfl (by decide) (.slice ka kl kc) kl X7 (by rfl) P1.2.2.1 ⟨W5.drew.heap.size, 0, none⟩ 1 1 [.string yy] (by rfl) rfl (news_blk #[.string yy] (alloc_at _ _)) (one_str yy) (by unfold maxLen; omega) (by omega) P1.base ?_
         intro kv' Wk hoS hgS hkS
         have S2 := S1.grown hgS hnk hnkb
         have P2 := P1.nextS hoS hgS hkS
         refine hKx.out _ _ (fun _ => S2) ?_
         clear hKx Kx
         obtain ⟨ka', kc', hkv'⟩ := own_shape hoS
         subst hkv'
         try simp only [Act.put, List.setIfInBounds_toArray, List.set_cons_zero, List.set_cons_succ]
         refine till_take 10 [11] (.pointer (some ⟨w.heap.size + 1, 2, none⟩)) (by kernel_rfl) (by kernel_rfl) (by kernel_rfl) (by kernel_rfl) (by kernel_rfl) (fun _ _ _ _ h => h) S2 ?_
         simp only [List.getElem?_toArray, List.getElem?_cons_succ, List.getElem?_cons_zero]
         refine ⟨Or.inl ⟨by rfl, ?_⟩, ?_⟩
         ·intro W HSW
          obtain ⟨-, ⟨s2, s3⟩, -, s4, s5, s6, s7⟩ := HSW
          go_simp
         simp only [Act.put, List.setIfInBounds_toArray, List.set_cons_zero, List.set_cons_succ]
         refine till_one 8 (by kernel_rfl) ?_
         refine till_step (by kernel_rfl) ?_
         intro o9 ho9 Kx hKx
         simp only [List.getElem?_toArray, List.getElem?_cons_succ, List.getElem?_cons_zero, Option.some.injEq] at ho9
         subst ho9
         go_simp
         have S3 := S2.alloc (.cells #[.int .i64 k, .string t, .slice a i cc, .slice A m q] 25)
         have P3 := P2.alloc (.cells #[.int .i64 k, .string t, .slice a i cc, .slice A m q] 25)
         refine hKx.out _ _ (fun _ => S3) ?_
         clear hKx Kx
         try simp only [Act.put, List.setIfInBounds_toArray, List.set_cons_zero, List.set_cons_succ]
         refine till_one 9 (by kernel_rfl) ?_
         refine till_step (by kernel_rfl) ?_
         intro o9 ho9 Kx hKx
         simp only [List.getElem?_toArray, List.getElem?_cons_succ, List.getElem?_cons_zero, Option.some.injEq] at ho9
         subst ho9
         refine step_append_own_at rfl _ _ 23 rfl (w.heap.size + 2) 25 ni _ 4 72 Tryz.underlying23 hi0 hz0 hz1 hz2 rfl (by decide) (.slice da dl dc) dl X8 (by rfl) P3.2.2.2.1 ⟨Wk.heap.size, 0, none⟩ 1 1 [.int .i64 k, .string t, .slice a i cc, .slice A m q] (by rfl) rfl (news_blk #[.int .i64 k, .string t, .slice a i cc, .slice A m q] (alloc_at _ _)) (four_nd _ _ _ _ _ _ _ _) (by unfold maxLen; omega) (by omega) P3.base ?_
         intro dv' Wd hoN hgN hkN
         have S4 := S3.grown hgN hnd hndb
         have P4 := P3.nextN hoN hgN hkN
         refine hKx.out _ _ (fun _ => S4) ?_
         clear hKx Kx
         obtain ⟨da', dc', hdv'⟩ := own_shape hoN
         subst hdv'
         try simp only [Act.put, List.setIfInBounds_toArray, List.set_cons_zero, List.set_cons_succ]
         refine till_one 11 (by kernel_rfl) ?_
         refine till_step (by kernel_rfl) ?_
         intro o9 ho9 Kx hKx
         simp only [List.getElem?_toArray, List.getElem?_cons_succ, List.getElem?_cons_zero, Option.some.injEq] at ho9
         subst ho9
         obtain ⟨-, ⟨s2, s3⟩, ⟨f2, f3⟩, -⟩ := S4
         have HPF := hid P4
         go_simp
         refine hKx.out _ _ (fun h => absurd h (by decide)) ?_
         clear hKx Kx
         try simp only [Act.put, List.setIfInBounds_toArray, List.set_cons_zero, List.set_cons_succ]
         refine till_one 12 (by kernel_rfl) ?_
         refine till_step (by kernel_rfl) ?_
         intro o9 ho9 Kx hKx
         simp only [List.getElem?_toArray, List.getElem?_cons_succ, List.getElem?_cons_zero, Option.some.injEq] at ho9
         subst ho9
         go_simp
         refine hKx.out _ _ (fun h => absurd h (by decide)) ?_
         clear hKx Kx
         try simp only [Act.put, List.setIfInBounds_toArray, List.set_cons_zero, List.set_cons_succ]
         refine till_one 13 (by kernel_rfl) ?_
         refine till_step (by kernel_rfl) ?_
         intro o9 ho9 Kx hKx
         simp only [List.getElem?_toArray, List.getElem?_cons_succ, List.getElem?_cons_zero, Option.some.injEq] at ho9
         subst ho9
         go_simp
         refine hKx.out _ _ (fun h => absurd h (by decide)) ?_
         clear hKx Kx
         try simp only [Act.put, List.setIfInBounds_toArray, List.set_cons_zero, List.set_cons_succ]
         refine till_done (by kernel_rfl) ?_ _
         refine NoPanic.normal ?_
         have HQ6 := hid (HNX2.out _ _ _ HPF.out)
         rw [show (Wd.setCell ⟨w.heap.size + 1, 2, none⟩ (.slice ka' (kl + 1) kc')).setCell ⟨w.heap.size + 1, 3, none⟩ (.slice da' (dl + 1) dc') = p2 Wd (w.heap.size + 1) (.slice ka' (kl + 1) kc') (.slice da' (dl + 1) dc') from rfl]
         generalize p2 Wd (w.heap.size + 1) (.slice ka' (kl + 1) kc') (.slice da' (dl + 1) dc') = W6 at *
         clear HPF s2 s3 f2 f3
         go_wp2
         go_roundw
         case measure =>
          obtain ⟨M2, p2', d, hp2, hq2⟩ := HQ6.out
          have h1 := pos_of hq2.rd.cells.2.1
          have h2 := HMS.out
          have h3 := hq2.rd.2.1.2.1
          omega
         case rel =>
          obtain ⟨M2, p2', d, hp2, hq2⟩ := HQ6.out
          exact ⟨_, _, M2, p2', _, _, _, hq2⟩
        ·refine till_step (by kernel_rfl) ?_
         intro o9 ho9 Kx hKx
         simp only [List.getElem?_toArray, List.getElem?_cons_succ, List.getElem?_cons_zero, Option.some.injEq] at ho9
         subst ho9
         go_simp
         have S2 := S1.alloc (.cells #[.int .i64 k, .string t, .slice a i cc, .slice A m q] 25)
         have P2 := P1.alloc (.cells #[.int .i64 k, .string t, .slice a i cc, .slice A m q] 25)
         refine hKx.out _ _ (fun _ => S2) ?_
         clear hKx Kx
         try simp only [Act.put, List.setIfInBounds_toArray, List.set_cons_zero, List.set_cons_succ]
         refine till_one 4 (by kernel_rfl) ?_
         refine till_step (by kernel_rfl) ?_
         intro o9 ho9 Kx hKx
         simp only [List.getElem?_toArray, List.getElem?_cons_succ, List.getElem?_cons_zero, Option.some.injEq] at ho9
         subst ho9
         refine step_append_own_at rfl _ _ 22 rfl (w.heap.size + 2) 9 si _ 1 16 Tryz.underlying22 si0 sz0 sz1 sz2 rfl (by decide) (.slice ka kl kc) kl X7 (by rfl) P2.2.2.1 ⟨W5.drew.heap.size, 0, none⟩ 1 1 [.string yy] (by rfl) rfl (news_blk #[.string yy] (alloc_at0 _ _ _)) (one_str yy) (by unfold maxLen; omega) (by omega) P2.base ?_
         intro kv' Wk hoS hgS hkS
         have S3 := S2.grown hgS hnk hnkb
         have P3 := P2.nextS hoS hgS hkS
         refine hKx.out _ _ (fun _ => S3) ?_
         clear hKx Kx
         obtain ⟨ka', kc', hkv'⟩ := own_shape hoS
         subst hkv'
         try simp only [Act.put, List.setIfInBounds_toArray, List.set_cons_zero, List.set_cons_succ]
         refine till_take 10 [11] (.pointer (some ⟨w.heap.size + 1, 2, none⟩)) (by kernel_rfl) (by kernel_rfl) (by kernel_rfl) (by kernel_rfl) (by kernel_rfl) (fun _ _ _ _ h => h) S3 ?_
         simp only [List.getElem?_toArray, List.getElem?_cons_succ, List.getElem?_cons_zero]
         refine ⟨Or.inl ⟨by rfl, ?_⟩, ?_⟩
         ·intro W HSW
          obtain ⟨-, ⟨s2, s3⟩, -, s4, s5, s6, s7⟩ := HSW
          go_simp
         simp only [Act.put, List.setIfInBounds_toArray, List.set_cons_zero, List.set_cons_succ]
         refine till_one 9 (by kernel_rfl) ?_
         refine till_step (by kernel_rfl) ?_
         intro o9 ho9 Kx hKx
         simp only [List.getElem?_toArray, List.getElem?_cons_succ, List.getElem?_cons_zero, Option.some.injEq] at ho9
         subst ho9
         refine step_append_own_at rfl _ _ 23 rfl (w.heap.size + 2) 25 ni _ 4 72 Tryz.underlying23 hi0 hz0 hz1 hz2 rfl (by decide) (.slice da dl dc) dl X8 (by rfl) P3.2.2.2.1 ⟨W5.drew.heap.size + 1, 0, none⟩ 1 1 [.int .i64 k, .string t, .slice a i cc, .slice A m q] (by rfl) rfl (news_blk #[.int .i64 k, .string t, .slice a i cc, .slice A m q] ((hgS.block _ (by simp) (fun e => by have := hlk _ e.symm; simp at this; omega)).trans (alloc_at1 _ _ _))) (four_nd _ _ _ _ _ _ _ _) (by unfold maxLen; omega) (by omega) P3.base ?_
         intro dv' Wd hoN hgN hkN
         have S4 := S3.grown hgN hnd hndb
         have P4 := P3.nextN hoN hgN hkN
         refine hKx.out _ _ (fun _ => S4) ?_
         clear hKx Kx
         obtain ⟨da', dc', hdv'⟩ := own_shape hoN
         subst hdv'
         try simp only [Act.put, List.setIfInBounds_toArray, List.set_cons_zero, List.set_cons_succ]
         refine till_one 11 (by kernel_rfl) ?_
         refine till_step (by kernel_rfl) ?_
         intro o9 ho9 Kx hKx
         simp only [List.getElem?_toArray, List.getElem?_cons_succ, List.getElem?_cons_zero, Option.some.injEq] at ho9
         subst ho9
         obtain ⟨-, ⟨s2, s3⟩, ⟨f2, f3⟩, -⟩ := S4
         have HPF := hid P4
         go_simp
         refine hKx.out _ _ (fun h => absurd h (by decide)) ?_
         clear hKx Kx
         try simp only [Act.put, List.setIfInBounds_toArray, List.set_cons_zero, List.set_cons_succ]
         refine till_one 12 (by kernel_rfl) ?_
         refine till_step (by kernel_rfl) ?_
         intro o9 ho9 Kx hKx
         simp only [List.getElem?_toArray, List.getElem?_cons_succ, List.getElem?_cons_zero, Option.some.injEq] at ho9
         subst ho9
         go_simp
         refine hKx.out _ _ (fun h => absurd h (by decide)) ?_
         clear hKx Kx
         try simp only [Act.put, List.setIfInBounds_toArray, List.set_cons_zero, List.set_cons_succ]
         refine till_one 13 (by kernel_rfl) ?_
         refine till_step (by kernel_rfl) ?_
         intro o9 ho9 Kx hKx
         simp only [List.getElem?_toArray, List.getElem?_cons_succ, List.getElem?_cons_zero, Option.some.injEq] at ho9
         subst ho9
         go_simp
         refine hKx.out _ _ (fun h => absurd h (by decide)) ?_
         clear hKx Kx
         try simp only [Act.put, List.setIfInBounds_toArray, List.set_cons_zero, List.set_cons_succ]
         refine till_done (by kernel_rfl) ?_ _
         refine NoPanic.normal ?_
         have HQ6 := hid (HNX2.out _ _ _ HPF.out)
         rw [show (Wd.setCell ⟨w.heap.size + 1, 2, none⟩ (.slice ka' (kl + 1) kc')).setCell ⟨w.heap.size + 1, 3, none⟩ (.slice da' (dl + 1) dc') = p2 Wd (w.heap.size + 1) (.slice ka' (kl + 1) kc') (.slice da' (dl + 1) dc') from rfl]
         generalize p2 Wd (w.heap.size + 1) (.slice ka' (kl + 1) kc') (.slice da' (dl + 1) dc') = W6 at *
         clear HPF s2 s3 f2 f3
         go_wp2
         go_roundw
         case measure =>
          obtain ⟨M2, p2', d, hp2, hq2⟩ := HQ6.out
          have h1 := pos_of hq2.rd.cells.2.1
          have h2 := HMS.out
          have h3 := hq2.rd.2.1.2.1
          omega
         case rel =>
          obtain ⟨M2, p2', d, hp2, hq2⟩ := HQ6.out
          exact ⟨_, _, M2, p2', _, _, _, hq2⟩
       ·refine till_step (by kernel_rfl) ?_
        intro o9 ho9 Kx hKx
        simp only [List.getElem?_toArray, List.getElem?_cons_succ, List.getElem?_cons_zero, Option.some.injEq] at ho9
        subst ho9
        go_simp
        have S1 := S0.alloc (.cells #[.int .i64 k, .string t, .slice a i cc, .slice A m q] 25)
        have P1 := P0.alloc (.cells #[.int .i64 k, .string t, .slice a i cc, .slice A m q] 25)
        refine hKx.out _ _ (fun _ => S1) ?_
        clear hKx Kx
        try simp only [Act.put, List.setIfInBounds_toArray, List.set_cons_zero, List.set_cons_succ]
        refine till_one 3 (by kernel_rfl) ?_
        refine till_step (by kernel_rfl) ?_
        intro o9 ho9 Kx hKx
        simp only [List.getElem?_toArray, List.getElem?_cons_succ, List.getElem?_cons_zero, Option.some.injEq] at ho9
        subst ho9
        go_simp
        have S2 := S1.alloc (.cells #[.string yy] 9)
        have P2 := P1.alloc (.cells #[.string yy] 9)
        refine hKx.out _ _ (fun _ => S2) ?_
        clear hKx Kx
        try simp only [Act.put, List.setIfInBounds_toArray, List.set_cons_zero, List.set_cons_succ]
        refine till_one 4 (by kernel_rfl) ?_
        refine till_step (by kernel_rfl) ?_
        intro o9 ho9 Kx hKx
        simp only [List.getElem?_toArray, List.getElem?_cons_succ, List.getElem?_cons_zero, Option.some.injEq] at ho9
        subst ho9
        refine step_append_own_at rfl _ _ 22 rfl (w.heap.size + 2) 9 si _ 1 16 Tryz.underlying22 si0 sz0 sz1 sz2 rfl (by decide) (.slice ka kl kc) kl X7 (by rfl) P2.2.2.1 ⟨W5.drew.heap.size + 1, 0, none⟩ 1 1 [.string yy] (by rfl) rfl (news_blk #[.string yy] (alloc_at1 _ _ _)) (one_str yy) (by unfold maxLen; omega) (by omega) P2.base ?_
        intro kv' Wk hoS hgS hkS
        have S3 := S2.grown hgS hnk hnkb
        have P3 := P2.nextS hoS hgS hkS
        refine hKx.out _ _ (fun _ => S3) ?_
        clear hKx Kx
        obtain ⟨ka', kc', hkv'⟩ := own_shape hoS
        subst hkv'
        try simp only [Act.put, List.setIfInBounds_toArray, List.set_cons_zero, List.set_cons_succ]
        refine till_take 10 [11] (.pointer (some ⟨w.heap.size + 1, 2, none⟩)) (by kernel_rfl) (by kernel_rfl) (by kernel_rfl) (by kernel_rfl) (by kernel_rfl) (fun _ _ _ _ h => h) S3 ?_
        simp only [List.getElem?_toArray, List.getElem?_cons_succ, List.getElem?_cons_zero]
        refine ⟨Or.inl ⟨by rfl, ?_⟩, ?_⟩
        ·intro W HSW
         obtain ⟨-, ⟨s2, s3⟩, -, s4, s5, s6, s7⟩ := HSW
         go_simp
        simp only [Act.put, List.setIfInBounds_toArray, List.set_cons_zero, List.set_cons_succ]
        refine till_one 9 (by kernel_rfl) ?_
        refine till_step (by kernel_rfl) ?_
        intro o9 ho9 Kx hKx
        simp only [List.getElem?_toArray, List.getElem?_cons_succ, List.getElem?_cons_zero, Option.some.injEq] at ho9
        subst ho9
        refine step_append_own_at rfl _ _ 23 rfl (w.heap.size + 2) 25 ni _ 4 72 Tryz.underlying23 hi0 hz0 hz1 hz2 rfl (by decide) (.slice da dl dc) dl X8 (by rfl) P3.2.2.2.1 ⟨W5.drew.heap.size, 0, none⟩ 1 1 [.int .i64 k, .string t, .slice a i cc, .slice A m q] (by rfl) rfl (news_blk #[.int .i64 k, .string t, .slice a i cc, .slice A m q] ((hgS.block _ (by simp <;> omega) (fun e => by have := hlk _ e.symm; simp at this)).trans (alloc_at0 _ _ _))) (four_nd _ _ _ _ _ _ _ _) (by unfold maxLen; omega) (by omega) P3.base ?_
        intro dv' Wd hoN hgN hkN
        have S4 := S3.grown hgN hnd hndb
        have P4 := P3.nextN hoN hgN hkN
        refine hKx.out _ _ (fun _ => S4) ?_
        clear hKx Kx
        obtain ⟨da', dc', hdv'⟩ := own_shape hoN
        subst hdv'
        try simp only [Act.put, List.setIfInBounds_toArray, List.set_cons_zero, List.set_cons_succ]
        refine till_one 11 (by kernel_rfl) ?_
        refine till_step (by kernel_rfl) ?_
        intro o9 ho9 Kx hKx
        simp only [List.getElem?_toArray, List.getElem?_cons_succ, List.getElem?_cons_zero, Option.some.injEq] at ho9
        subst ho9
        obtain ⟨-, ⟨s2, s3⟩, ⟨f2, f3⟩, -⟩ := S4
        have HPF := hid P4
        go_simp
        refine hKx.out _ _ (fun h => absurd h (by decide)) ?_
        clear hKx Kx
        try simp only [Act.put, List.setIfInBounds_toArray, List.set_cons_zero, List.set_cons_succ]
        refine till_one 12 (by kernel_rfl) ?_
        refine till_step (by kernel_rfl) ?_
        intro o9 ho9 Kx hKx
        simp only [List.getElem?_toArray, List.getElem?_cons_succ, List.getElem?_cons_zero, Option.some.injEq] at ho9
        subst ho9
        go_simp
        refine hKx.out _ _ (fun h => absurd h (by decide)) ?_
        clear hKx Kx
        try simp only [Act.put, List.setIfInBounds_toArray, List.set_cons_zero, List.set_cons_succ]
        refine till_one 13 (by kernel_rfl) ?_
        refine till_step (by kernel_rfl) ?_
        intro o9 ho9 Kx hKx
        simp only [List.getElem?_toArray, List.getElem?_cons_succ, List.getElem?_cons_zero, Option.some.injEq] at ho9
        subst ho9
        go_simp
        refine hKx.out _ _ (fun h => absurd h (by decide)) ?_
        clear hKx Kx
        try simp only [Act.put, List.setIfInBounds_toArray, List.set_cons_zero, List.set_cons_succ]
        refine till_done (by kernel_rfl) ?_ _
        refine NoPanic.normal ?_
        have HQ6 := hid (HNX2.out _ _ _ HPF.out)
        rw [show (Wd.setCell ⟨w.heap.size + 1, 2, none⟩ (.slice ka' (kl + 1) kc')).setCell ⟨w.heap.size + 1, 3, none⟩ (.slice da' (dl + 1) dc') = p2 Wd (w.heap.size + 1) (.slice ka' (kl + 1) kc') (.slice da' (dl + 1) dc') from rfl]
        generalize p2 Wd (w.heap.size + 1) (.slice ka' (kl + 1) kc') (.slice da' (dl + 1) dc') = W6 at *
        clear HPF s2 s3 f2 f3
        go_wp2
        go_roundw
        case measure =>
         obtain ⟨M2, p2', d, hp2, hq2⟩ := HQ6.out
         have h1 := pos_of hq2.rd.cells.2.1
         have h2 := HMS.out
         have h3 := hq2.rd.2.1.2.1
         omega
        case rel =>
         obtain ⟨M2, p2', d, hp2, hq2⟩ := HQ6.out
         exact ⟨_, _, M2, p2', _, _, _, hq2⟩
      ·skip
       have HE := hid hE
       have eb : (E == 0) = false := beq_eq_false_iff_ne.2 hE
       have HRW := hid HKP.out.1
       have HB5 : Hid (∀ k t a i cc A m q, Out w0 g (.slice (some ⟨B, 0, none⟩) n cap) n M p (p + 1) L TT w (.returned (.tuple #[.agg #[.int .i64 k, .string t, .slice a i cc, .slice A m q], .int .i64 E])) (p4 W5 w.heap.size (.int .i64 k) (.string t) (.slice a i cc) (.slice A m q))) := hid (by
        intro k t a i cc A m q
        obtain ⟨M2, p2', h1, h2⟩ := HC5.out
        rcases h2 with ⟨h3, -⟩ | ⟨h3, y, t1, h4, h5⟩
        ·exact absurd h3 HE.out
        ·have h6 := HQ4.out.2.2.1
         rw [HX1.out] at h6
         exact HQ4.out.wrong HKW.out h1 h3 (h6.bad HIE.out HEP.out HDU.out h4) h5)
       obtain ⟨r0, r1, r2, r3⟩ := HRW.out.cells
       obtain ⟨fr0, fr1, fr2, fr3⟩ := HRW.out.frozen
       clear hE HC5 HXK HQ4 HKP
       go_wp2
       refine bodyPost_ret (v := .tuple #[.agg #[.int .i64 0, .string ⟨#[]⟩, .slice none 0 0, .slice none 0 0], .int .i64 E]) (by simp [results, Tryz.results75, go_sem, r0, r1, r2, r3]) rfl ?_
       exact HB5.out 0 ⟨#[]⟩ none 0 0 none 0 0
    ·skip
     have HP : Hid (p + 1 ≤ p1) := hid (HOF.out (.inr (by rw [HKK.out, HKN.out]; exact hk1)))
     have HG : Hid (Gets L TT (.mk 3 [] ks ds) (p1 - p) (M1.drop p1)) := hid (by
      have h1 := HQ4.out.2.2.1
      rw [HX1.out] at h1 ⊢
      exact h1.off (.inr (by rw [HKK.out, HKN.out]; exact hk1)))
     have kz : (kn == 1) = false := beq_eq_false_iff_ne.2 hk1
     have HQ1 := HQ4
     clear HQ4
     have HEN := hid (HQ1.out.end_ HP.out HG.out)
     have HRS := hid HQ1.out.res
     have HBX := hid HQ1.out.box
     obtain ⟨ka, kc, hkv⟩ := own_shape HQ1.out.2.2.2.1
     obtain ⟨da, dc, hdv⟩ := own_shape HQ1.out.2.2.2.2.1
     subst hkv
     subst hdv
     obtain ⟨kl, hkl⟩ : ∃ kl, ks.length = kl := ⟨_, rfl⟩
     obtain ⟨dl, hdl⟩ : ∃ dl, ds.length = dl := ⟨_, rfl⟩
     rw [hkl, hdl] at HEN HBX
     clear hkl hdl HQ1
     obtain ⟨r0, r1, r2, r3⟩ := HRS.out.cells
     obtain ⟨fr0, fr1, fr2, fr3⟩ := HRS.out.frozen
     obtain ⟨z0, z1, z2, z3⟩ := HBX.out.cells
     go_wp2
     refine bodyPost_ret (v := .tuple #[.agg #[.int .i64 3, .string ⟨#[]⟩, .slice ka kl kc, .slice da dl dc], .int .i64 0]) (by simp [results, Tryz.results75, go_sem, r0, r1, r2, r3]) rfl ?_
     exact HEN.out
   ·skip
    have HP : Hid (p + 1 ≤ p1) := hid (HOF.out (.inl (by rw [HIX.out]; exact hIL)))
    have HG : Hid (Gets L TT (.mk 3 [] ks ds) (p1 - p) (M1.drop p1)) := hid (by
     have h1 := HQ4.out.2.2.1
     rw [HX1.out] at h1 ⊢
     exact h1.off (.inl (by rw [HIX.out]; exact hIL)))
    have iz : ((I : Int) == (L : Int)) = false := by rw [beq_eq_false_iff_ne]; omega
    have HQ1 := HQ4
    clear HQ4
    have HEN := hid (HQ1.out.end_ HP.out HG.out)
    have HRS := hid HQ1.out.res
    have HBX := hid HQ1.out.box
    obtain ⟨ka, kc, hkv⟩ := own_shape HQ1.out.2.2.2.1
    obtain ⟨da, dc, hdv⟩ := own_shape HQ1.out.2.2.2.2.1
    subst hkv
    subst hdv
    obtain ⟨kl, hkl⟩ : ∃ kl, ks.length = kl := ⟨_, rfl⟩
    obtain ⟨dl, hdl⟩ : ∃ dl, ds.length = dl := ⟨_, rfl⟩
    rw [hkl, hdl] at HEN HBX
    clear hkl hdl HQ1
    obtain ⟨r0, r1, r2, r3⟩ := HRS.out.cells
    obtain ⟨fr0, fr1, fr2, fr3⟩ := HRS.out.frozen
    obtain ⟨z0, z1, z2, z3⟩ := HBX.out.cells
    go_wp2
    refine bodyPost_ret (v := .tuple #[.agg #[.int .i64 3, .string ⟨#[]⟩, .slice ka kl kc, .slice da dl dc], .int .i64 0]) (by simp [results, Tryz.results75, go_sem, r0, r1, r2, r3]) rfl ?_
    exact HEN.out
end
end Go.Proofs.YtmdgpejedbkkdaaGreatDoor
