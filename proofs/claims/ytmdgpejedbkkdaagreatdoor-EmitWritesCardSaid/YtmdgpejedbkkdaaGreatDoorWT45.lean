/- RefEmi4 -/
import Derived.Test.YtmdgpejedbkkdaaGreatDoorWT23
set_option linter.unusedVariables false
set_option linter.unusedSimpArgs false
set_option maxRecDepth 100000
set_option maxHeartbeats 16000000
open Go.Lib (hid)
namespace Go.Proofs.YtmdgpejedbkkdaaGreatDoor
section
open Go.RowKit Go.Sort
open Nw N8 Q6 F9 B10 E11
theorem scw_two {k : L8} (h : scw k = [60, 60]) : keyw k = [34, 60, 60, 34] := by
 have e : k = [60, 60] := by
  unfold scw at h
  split at h
  ·exact h
  ·unfold dblL at h
   injection h with h1 h2
   exact absurd h1 (by decide)
 subst e; decide
theorem scw_not {k : L8} (h : scw k ≠ [60, 60]) : keyw k = scw k := by
 unfold keyw
 rw [if_neg]
 rintro rfl
 exact h (by decide)
theorem keys11 {M : Nat} {k : Int} {t : L8} {ks : List L8} {ds : List Nd} (h : allT M (.mk k t ks ds)) : (∀ x ∈ ks, x.length ≤ M) ∧ ∀ d ∈ ds, allT M d := by
 rw [allT] at h
 exact ⟨h.2.1, allL_iff.1 h.2.2⟩
theorem RRows_map (N : Nat) (ih : RRowsOf N) (t : L8) (ks : List L8) (ds : List Nd) (hl : ks.length = ds.length) (hN : cntL ds ≤ N) (hf : ∀ d ∈ ds, N8.Fine d) (ha : ∀ d ∈ ds, allT 100000 d) (hka : ∀ x ∈ ks, x.length ≤ 100000) (F P : ByteArray) (hF : F.size ≤ 1000) (hP : P.size + 2 + 2 * depL ds ≤ 1000) (hs : (rfM ks ds F.data.toList P.data.toList).length ≤ 1000000000)
  (c0 c1 c2 c3 : Value) (w : World) (hd : NdW w (.mk 3 t ks ds) c0 c1 c2 c3) (q : ByteArray) (hq : rfM ks ds F.data.toList P.data.toList = q.data.toList) :
  Calls Tryz.prog 23 #[.agg #[c0, c1, c2, c3], .string F, .string P] w fun e w' => e = .returned (.string q) ∧ Below w.heap.size w w' := by
 have HB0 := hid (Boxed.make hd)
 obtain ⟨rfl, rfl, hks, A, cap, rfl, hcap, hcm, _⟩ := hd.parts
 obtain ⟨ka, kcap, rfl, hkc, hkm⟩ := rd_slice hks
 have HQ := hid hq
 obtain ⟨T, hT⟩ : ∃ T, ba t = T := ⟨_, rfl⟩
 rw [hT] at HB0 ⊢
 obtain ⟨n, hn⟩ : ∃ n, ds.length = n := ⟨_, rfl⟩
 have HN := hid hn
 have HM : Hid (ks.length = n) := hid (by rw [hl, hn])
 have HL := hid hl
 rw [hn, HM.out] at HB0 ⊢
 rw [hn] at hcap
 rw [HM.out] at hkc
 unfold maxLen at hcm hkm
 have HIH := hid ih
 have HCN := hid (And.intro hN (And.intro hf (And.intro ha hka)))
 have HSL := hid hs
 have HPP := hid hP
 have hP2 : P.size ≤ 1000 := by omega
 obtain ⟨x0, x1, x2, x3⟩ := HB0.out.2.1.cells
 clear hd hs hq hT hn ih hN hf ha hka hP hl hks
 go_enter Tryz.func23, Tryz.ntmps23
 go_wp2
 clear x0 x1 x2 x3
 go_loopw [7, 8] (fun s7 s8 wr => ∃ (j : Nat) (O : ByteArray), j ≤ n ∧ s7 = .string O ∧ s8 = .int .i64 (j : Int) ∧ Hid (O.data.toList = rfM (ks.take j) (ds.take j) F.data.toList P.data.toList) ∧ Hid (Boxed w wr (.mk 3 t ks ds) (.int .i64 3) (.string T) (.slice ka n kcap) (.slice A n cap))) (fun _ s8 _ => n - (intOf s8).toNat)
 case atStart => exact ⟨0, ⟨#[]⟩, Nat.zero_le _, rfl, rfl, hid (by rw [List.take_zero, List.take_zero, rfM_nil]), HB0⟩
 case round =>
  clear HB0
  obtain ⟨j, O, hj, rfl, rfl, HO, HB⟩ := hrel
  by_cases hlt : j < n
  ·have hjl : j < ds.length := by rw [HN.out]; exact hlt
   have hjk : j < ks.length := by rw [HM.out]; exact hlt
   have hjz : (j : Int) < (n : Int) := by omega
   obtain ⟨kb, ko, rfl, hkb, _⟩ := rd_at HB.out.2.2.parts.2.2.1 j hjk
   obtain ⟨b, o, E0, E1, E2, E3, rfl, hb, y0, y1, y2, y3, hnd⟩ := HB.out.2.2.kid j hjl
   obtain ⟨k1, s1, a1, n1, q1, A1, m1, r1, rfl, rfl, rfl, rfl⟩ := nd_shape hnd
   obtain ⟨d, hdj⟩ : ∃ d, ds[j]'hjl = d := ⟨_, rfl⟩
   obtain ⟨kk, hkj⟩ : ∃ kk, ks[j]'hjk = kk := ⟨_, rfl⟩
   have hmem : d ∈ ds := by rw [← hdj]; exact List.getElem_mem hjl
   have hkmem : kk ∈ ks := by rw [← hkj]; exact List.getElem_mem hjk
   have hst := rfM_step (f := F.data.toList) (p := P.data.toList) HL.out hjk hjl
   have hsn := rfM_snoc ks ds F.data.toList P.data.toList j hjk hjl
   rw [hdj, hkj] at hst hsn
   rw [hdj] at hnd
   have hO : O.size + (pieM P.data.toList kk d).length ≤ 1000000000 := by rw [← len_eq, HO.out]; have := HSL.out; omega
   have hfd := HCN.out.2.1 d hmem
   have had := HCN.out.2.2.1 d hmem
   have hkl := HCN.out.2.2.2 kk hkmem
   have hdp := depL_in hmem
   have hcn := cntL_in hmem
   have HK := hid (Boxed.make hnd)
   have HA := hid (HB.out.go ((Below.refl wr.heap.size wr).alloc (Nat.le_refl _) (.cells #[.int .i64 k1, .string s1, .slice a1 n1 q1, .slice A1 m1 r1] 25)))
   have HR0 := Row4.make wr 25 (.int .i64 0) (.string ⟨#[]⟩) (.slice none 0 0) (.slice none 0 0)
   obtain ⟨p0, p1, p2, p3⟩ := HR0.cells
   obtain ⟨g0, g1, g2, g3⟩ := HR0.frozen
   clear HR0
   obtain ⟨z0, z1, z2, z3⟩ := HK.out.2.1.cells
   obtain ⟨x0, x1, x2, x3⟩ := HB.out.2.1.cells
   obtain ⟨v0, v1, v2, v3⟩ := HA.out.2.1.cells
   obtain ⟨K, hK⟩ : ∃ K, ba kk = K := ⟨_, rfl⟩
   have hKl : K.data.toList = kk := by rw [← hK, ba_data]
   obtain ⟨kb2, ko2, hee, hkb2, u0⟩ := rd_at HA.out.2.2.parts.2.2.1 j hjk
   injection hee with hee1
   injection hee1 with hee2 hee3
   subst hee2 hee3
   rw [hkj, hK] at u0
   obtain ⟨Y, hY⟩ : ∃ Y, ba (scw kk) = Y := ⟨_, rfl⟩
   have hYl : Y.data.toList = scw kk := by rw [← hY, ba_data]
   have HTX := hid (RScalar11_any K (wr.alloc (.cells #[.int .i64 k1, .string s1, .slice a1 n1 q1, .slice A1 m1 r1] 25)) (by rw [← len_eq, hKl]; omega) Y (by rw [hKl, hYl]))
   obtain ⟨sh, hsh⟩ : ∃ sh, shrt d = sh := ⟨_, rfl⟩
   have HS := hid (fun W (hW : NdW W d (.int .i64 k1) (.string s1) (.slice a1 n1 q1) (.slice A1 m1 r1)) => RShort11_any d sh hsh (.int .i64 k1) (.string s1) (.slice a1 n1 q1) (.slice A1 m1 r1) W hW)
   have HSN := hid hsn
   have HYL := hid hYl
   clear hnd hsn hst hK hKl hY hmem hkmem hdj hkj hkl hkb2
   cases sh with
   | true =>
    obtain ⟨Z, hZ⟩ : ∃ Z, ba (scal d) = Z := ⟨_, rfl⟩
    have hZl : Z.data.toList = scal d := by rw [← hZ, ba_data]
    have hpie : pieM P.data.toList kk d = keyw kk ++ [58, 32] ++ Z.data.toList ++ [10] := by unfold pieM; rw [if_pos hsh, hZl]
    have HZ := hid (fun W (hW : NdW W d (.int .i64 k1) (.string s1) (.slice a1 n1 q1) (.slice A1 m1 r1)) => Rscal11_any d hfd (Nat.le_trans (text_all had) (by omega)) Z hZl.symm (.int .i64 k1) (.string s1) (.slice a1 n1 q1) (.slice A1 m1 r1) W hW)
    have HPI := hid hpie
    rw [hpie] at hO
    clear hfd had hdp hcn hZ hZl hpie hsh
    by_cases hj0 : j = 0
    ·have hj2 : ((j : Int) == 0) = true := by rw [hj0]; rfl
     by_cases hyy : Y.data.toList = [60, 60]
     ·have hkw : keyw kk = [34, 60, 60, 34] := scw_two (by rw [← HYL.out]; exact hyy)
      have b2 : (Y.toList == [60, 60]) = true := by rw [ByteArray.toList_eq]; exact beq_iff_eq.2 hyy
      have hsz : O.size + Z.size + 4 ≤ 1000000000 := by rw [hkw] at hO; simp only [List.length_append, List.length_cons, List.length_nil, len_eq] at hO; omega
      have HO2 : Hid ((O ++ F ++ ⟨#[34, 60, 60, 34]⟩ ++ ⟨#[58, 32]⟩ ++ Z ++ ⟨#[10]⟩).data.toList = rfM (ks.take (j + 1)) (ds.take (j + 1)) F.data.toList P.data.toList) := hid (by rw [HSN.out, HPI.out, hkw, if_pos hj0, ← HO.out, app_list, app_list, app_list, app_list, app_list] <;> simp)
      clear hj0 hkw hyy hO
      go_wp2_with fail
      refine HTX.out.mono ?_
      rintro e w2 ⟨rfl, hb1⟩
      have HK2 := hid (HK.out.go hb1)
      have HB2 := hid (HA.out.go hb1)
      obtain ⟨z0, z1, z2, z3⟩ := HK2.out.2.1.cells
      obtain ⟨x0, x1, x2, x3⟩ := HB2.out.2.1.cells
      have HS2 := hid (HS.out w2 HK2.out.2.2)
      clear hb1 HTX HS
      go_wp2_with fail
      refine HS2.out.mono ?_
      rintro e w3 ⟨rfl, hb2⟩
      have HK3 := hid (HK2.out.go hb2)
      have HB3 := hid (HB2.out.go hb2)
      obtain ⟨z0, z1, z2, z3⟩ := HK3.out.2.1.cells
      obtain ⟨x0, x1, x2, x3⟩ := HB3.out.2.1.cells
      have HZ3 := hid (HZ.out w3 HK3.out.2.2)
      clear hb2 HS2 HZ
      go_wp2_with fail
      refine HZ3.out.mono ?_
      rintro e w4 ⟨rfl, hb3⟩
      have HB4 := hid (HB3.out.go hb3)
      clear hb3
      go_wp2
      go_roundw
      case measure => simp [intOf]; omega
      case rel => exact ⟨j + 1, _, by omega, rfl, by go_num, HO2, HB4⟩
     ·have hkw : keyw kk = Y.data.toList := by rw [scw_not (by rw [← HYL.out]; exact hyy), HYL.out]
      have b2 : (Y.toList == [60, 60]) = false := by rw [ByteArray.toList_eq]; exact beq_eq_false_iff_ne.2 hyy
      have hsz : O.size + Z.size + Y.size ≤ 1000000000 := by rw [hkw] at hO; simp only [List.length_append, List.length_cons, List.length_nil, len_eq] at hO; omega
      have HO2 : Hid ((O ++ F ++ Y ++ ⟨#[58, 32]⟩ ++ Z ++ ⟨#[10]⟩).data.toList = rfM (ks.take (j + 1)) (ds.take (j + 1)) F.data.toList P.data.toList) := hid (by rw [HSN.out, HPI.out, hkw, if_pos hj0, ← HO.out, app_list, app_list, app_list, app_list, app_list] <;> simp)
      clear hj0 hkw hyy hO
      go_wp2_with fail
      refine HTX.out.mono ?_
      rintro e w2 ⟨rfl, hb1⟩
      have HK2 := hid (HK.out.go hb1)
      have HB2 := hid (HA.out.go hb1)
      obtain ⟨z0, z1, z2, z3⟩ := HK2.out.2.1.cells
      obtain ⟨x0, x1, x2, x3⟩ := HB2.out.2.1.cells
      have HS2 := hid (HS.out w2 HK2.out.2.2)
      clear hb1 HTX HS
      go_wp2_with fail
      refine HS2.out.mono ?_
      rintro e w3 ⟨rfl, hb2⟩
      have HK3 := hid (HK2.out.go hb2)
      have HB3 := hid (HB2.out.go hb2)
      obtain ⟨z0, z1, z2, z3⟩ := HK3.out.2.1.cells
      obtain ⟨x0, x1, x2, x3⟩ := HB3.out.2.1.cells
      have HZ3 := hid (HZ.out w3 HK3.out.2.2)
      clear hb2 HS2 HZ
      go_wp2_with fail
      refine HZ3.out.mono ?_
      rintro e w4 ⟨rfl, hb3⟩
      have HB4 := hid (HB3.out.go hb3)
      clear hb3
      go_wp2
      go_roundw
      case measure => simp [intOf]; omega
      case rel => exact ⟨j + 1, _, by omega, rfl, by go_num, HO2, HB4⟩
    ·have hj1 : ¬ (j : Int) = 0 := by omega
     have hj2 : ((j : Int) == 0) = false := beq_eq_false_iff_ne.2 hj1
     by_cases hyy : Y.data.toList = [60, 60]
     ·have hkw : keyw kk = [34, 60, 60, 34] := scw_two (by rw [← HYL.out]; exact hyy)
      have b2 : (Y.toList == [60, 60]) = true := by rw [ByteArray.toList_eq]; exact beq_iff_eq.2 hyy
      have hsz : O.size + Z.size + 4 ≤ 1000000000 := by rw [hkw] at hO; simp only [List.length_append, List.length_cons, List.length_nil, len_eq] at hO; omega
      have HO2 : Hid ((O ++ P ++ ⟨#[34, 60, 60, 34]⟩ ++ ⟨#[58, 32]⟩ ++ Z ++ ⟨#[10]⟩).data.toList = rfM (ks.take (j + 1)) (ds.take (j + 1)) F.data.toList P.data.toList) := hid (by rw [HSN.out, HPI.out, hkw, if_neg hj0, ← HO.out, app_list, app_list, app_list, app_list, app_list] <;> simp)
      clear hj0 hkw hyy hO
      go_wp2_with fail
      refine HTX.out.mono ?_
      rintro e w2 ⟨rfl, hb1⟩
      have HK2 := hid (HK.out.go hb1)
      have HB2 := hid (HA.out.go hb1)
      obtain ⟨z0, z1, z2, z3⟩ := HK2.out.2.1.cells
      obtain ⟨x0, x1, x2, x3⟩ := HB2.out.2.1.cells
      have HS2 := hid (HS.out w2 HK2.out.2.2)
      clear hb1 HTX HS
      go_wp2_with fail
      refine HS2.out.mono ?_
      rintro e w3 ⟨rfl, hb2⟩
      have HK3 := hid (HK2.out.go hb2)
      have HB3 := hid (HB2.out.go hb2)
      obtain ⟨z0, z1, z2, z3⟩ := HK3.out.2.1.cells
      obtain ⟨x0, x1, x2, x3⟩ := HB3.out.2.1.cells
      have HZ3 := hid (HZ.out w3 HK3.out.2.2)
      clear hb2 HS2 HZ
      go_wp2_with fail
      refine HZ3.out.mono ?_
      rintro e w4 ⟨rfl, hb3⟩
      have HB4 := hid (HB3.out.go hb3)
      clear hb3
      go_wp2
      go_roundw
      case measure => simp [intOf]; omega
      case rel => exact ⟨j + 1, _, by omega, rfl, by go_num, HO2, HB4⟩
     ·have hkw : keyw kk = Y.data.toList := by rw [scw_not (by rw [← HYL.out]; exact hyy), HYL.out]
      have b2 : (Y.toList == [60, 60]) = false := by rw [ByteArray.toList_eq]; exact beq_eq_false_iff_ne.2 hyy
      have hsz : O.size + Z.size + Y.size ≤ 1000000000 := by rw [hkw] at hO; simp only [List.length_append, List.length_cons, List.length_nil, len_eq] at hO; omega
      have HO2 : Hid ((O ++ P ++ Y ++ ⟨#[58, 32]⟩ ++ Z ++ ⟨#[10]⟩).data.toList = rfM (ks.take (j + 1)) (ds.take (j + 1)) F.data.toList P.data.toList) := hid (by rw [HSN.out, HPI.out, hkw, if_neg hj0, ← HO.out, app_list, app_list, app_list, app_list, app_list] <;> simp)
      clear hj0 hkw hyy hO
      go_wp2_with fail
      refine HTX.out.mono ?_
      rintro e w2 ⟨rfl, hb1⟩
      have HK2 := hid (HK.out.go hb1)
      have HB2 := hid (HA.out.go hb1)
      obtain ⟨z0, z1, z2, z3⟩ := HK2.out.2.1.cells
      obtain ⟨x0, x1, x2, x3⟩ := HB2.out.2.1.cells
      have HS2 := hid (HS.out w2 HK2.out.2.2)
      clear hb1 HTX HS
      go_wp2_with fail
      refine HS2.out.mono ?_
      rintro e w3 ⟨rfl, hb2⟩
      have HK3 := hid (HK2.out.go hb2)
      have HB3 := hid (HB2.out.go hb2)
      obtain ⟨z0, z1, z2, z3⟩ := HK3.out.2.1.cells
      obtain ⟨x0, x1, x2, x3⟩ := HB3.out.2.1.cells
      have HZ3 := hid (HZ.out w3 HK3.out.2.2)
      clear hb2 HS2 HZ
      go_wp2_with fail
      refine HZ3.out.mono ?_
      rintro e w4 ⟨rfl, hb3⟩
      have HB4 := hid (HB3.out.go hb3)
      clear hb3
      go_wp2
      go_roundw
      case measure => simp [intOf]; omega
      case rel => exact ⟨j + 1, _, by omega, rfl, by go_num, HO2, HB4⟩
   | false =>
    obtain ⟨Z, hZ⟩ : ∃ Z, ba (rfR d (P.data.toList ++ [32, 32]) (P.data.toList ++ [32, 32])) = Z := ⟨_, rfl⟩
    have hZl : Z.data.toList = rfR d (P.data.toList ++ [32, 32]) (P.data.toList ++ [32, 32]) := by rw [← hZ, ba_data]
    have hpie : pieM P.data.toList kk d = keyw kk ++ [58, 10] ++ Z.data.toList := by unfold pieM; rw [if_neg (by rw [hsh]; decide), hZl]
    have hP3 : (P ++ ⟨#[32, 32]⟩).data.toList = P.data.toList ++ [32, 32] := by rw [app_list]
    have hP4 : (P ++ ⟨#[32, 32]⟩).size = P.size + 2 := by rw [← len_eq, ← len_eq, hP3, List.length_append]; rfl
    rw [hpie] at hO
    have hZ9 : Z.data.toList.length ≤ 1000000000 := by simp only [List.length_append] at hO; omega
    have HZ := hid (fun W (hW : NdW W d (.int .i64 k1) (.string s1) (.slice a1 n1 q1) (.slice A1 m1 r1)) => HIH.out d (Nat.le_trans hcn HCN.out.1) hfd hsh had (P ++ ⟨#[32, 32]⟩) (P ++ ⟨#[32, 32]⟩) (by rw [hP4]; have := HPP.out; omega) (by rw [hP4]; have := HPP.out; omega) (by rw [hP3, ← hZl]; exact hZ9) (.int .i64 k1) (.string s1) (.slice a1 n1 q1) (.slice A1 m1 r1) W hW Z (by rw [hP3]; exact hZl.symm))
    have HPI := hid hpie
    clear hfd had hdp hcn hZ hZl hpie hsh hP3 hP4 hZ9
    by_cases hj0 : j = 0
    ·have hj2 : ((j : Int) == 0) = true := by rw [hj0]; rfl
     by_cases hyy : Y.data.toList = [60, 60]
     ·have hkw : keyw kk = [34, 60, 60, 34] := scw_two (by rw [← HYL.out]; exact hyy)
      have b2 : (Y.toList == [60, 60]) = true := by rw [ByteArray.toList_eq]; exact beq_iff_eq.2 hyy
      have hsz : O.size + Z.size + 4 ≤ 1000000000 := by rw [hkw] at hO; simp only [List.length_append, List.length_cons, List.length_nil, len_eq] at hO; omega
      have HO2 : Hid ((O ++ F ++ ⟨#[34, 60, 60, 34]⟩ ++ ⟨#[58, 10]⟩ ++ Z).data.toList = rfM (ks.take (j + 1)) (ds.take (j + 1)) F.data.toList P.data.toList) := hid (by rw [HSN.out, HPI.out, hkw, if_pos hj0, ← HO.out, app_list, app_list, app_list, app_list] <;> simp)
      clear hj0 hkw hyy hO
      go_wp2_with fail
      refine HTX.out.mono ?_
      rintro e w2 ⟨rfl, hb1⟩
      have HK2 := hid (HK.out.go hb1)
      have HB2 := hid (HA.out.go hb1)
      obtain ⟨z0, z1, z2, z3⟩ := HK2.out.2.1.cells
      obtain ⟨x0, x1, x2, x3⟩ := HB2.out.2.1.cells
      have HS2 := hid (HS.out w2 HK2.out.2.2)
      clear hb1 HTX HS
      go_wp2_with fail
      refine HS2.out.mono ?_
      rintro e w3 ⟨rfl, hb2⟩
      have HK3 := hid (HK2.out.go hb2)
      have HB3 := hid (HB2.out.go hb2)
      obtain ⟨z0, z1, z2, z3⟩ := HK3.out.2.1.cells
      obtain ⟨x0, x1, x2, x3⟩ := HB3.out.2.1.cells
      have HZ3 := hid (HZ.out w3 HK3.out.2.2)
      clear hb2 HS2 HZ
      go_wp2_with fail
      refine HZ3.out.mono ?_
      rintro e w4 ⟨rfl, hb3⟩
      have HB4 := hid (HB3.out.go hb3)
      clear hb3
      go_wp2
      go_roundw
      case measure => simp [intOf]; omega
      case rel => exact ⟨j + 1, _, by omega, rfl, by go_num, HO2, HB4⟩
     ·have hkw : keyw kk = Y.data.toList := by rw [scw_not (by rw [← HYL.out]; exact hyy), HYL.out]
      have b2 : (Y.toList == [60, 60]) = false := by rw [ByteArray.toList_eq]; exact beq_eq_false_iff_ne.2 hyy
      have hsz : O.size + Z.size + Y.size ≤ 1000000000 := by rw [hkw] at hO; simp only [List.length_append, List.length_cons, List.length_nil, len_eq] at hO; omega
      have HO2 : Hid ((O ++ F ++ Y ++ ⟨#[58, 10]⟩ ++ Z).data.toList = rfM (ks.take (j + 1)) (ds.take (j + 1)) F.data.toList P.data.toList) := hid (by rw [HSN.out, HPI.out, hkw, if_pos hj0, ← HO.out, app_list, app_list, app_list, app_list] <;> simp)
      clear hj0 hkw hyy hO
      go_wp2_with fail
      refine HTX.out.mono ?_
      rintro e w2 ⟨rfl, hb1⟩
      have HK2 := hid (HK.out.go hb1)
      have HB2 := hid (HA.out.go hb1)
      obtain ⟨z0, z1, z2, z3⟩ := HK2.out.2.1.cells
      obtain ⟨x0, x1, x2, x3⟩ := HB2.out.2.1.cells
      have HS2 := hid (HS.out w2 HK2.out.2.2)
      clear hb1 HTX HS
      go_wp2_with fail
      refine HS2.out.mono ?_
      rintro e w3 ⟨rfl, hb2⟩
      have HK3 := hid (HK2.out.go hb2)
      have HB3 := hid (HB2.out.go hb2)
      obtain ⟨z0, z1, z2, z3⟩ := HK3.out.2.1.cells
      obtain ⟨x0, x1, x2, x3⟩ := HB3.out.2.1.cells
      have HZ3 := hid (HZ.out w3 HK3.out.2.2)
      clear hb2 HS2 HZ
      go_wp2_with fail
      refine HZ3.out.mono ?_
      rintro e w4 ⟨rfl, hb3⟩
      have HB4 := hid (HB3.out.go hb3)
      clear hb3
      go_wp2
      go_roundw
      case measure => simp [intOf]; omega
      case rel => exact ⟨j + 1, _, by omega, rfl, by go_num, HO2, HB4⟩
    ·have hj1 : ¬ (j : Int) = 0 := by omega
     have hj2 : ((j : Int) == 0) = false := beq_eq_false_iff_ne.2 hj1
     by_cases hyy : Y.data.toList = [60, 60]
     ·have hkw : keyw kk = [34, 60, 60, 34] := scw_two (by rw [← HYL.out]; exact hyy)
      have b2 : (Y.toList == [60, 60]) = true := by rw [ByteArray.toList_eq]; exact beq_iff_eq.2 hyy
      have hsz : O.size + Z.size + 4 ≤ 1000000000 := by rw [hkw] at hO; simp only [List.length_append, List.length_cons, List.length_nil, len_eq] at hO; omega
      have HO2 : Hid ((O ++ P ++ ⟨#[34, 60, 60, 34]⟩ ++ ⟨#[58, 10]⟩ ++ Z).data.toList = rfM (ks.take (j + 1)) (ds.take (j + 1)) F.data.toList P.data.toList) := hid (by rw [HSN.out, HPI.out, hkw, if_neg hj0, ← HO.out, app_list, app_list, app_list, app_list] <;> simp)
      clear hj0 hkw hyy hO
      go_wp2_with fail
      refine HTX.out.mono ?_
      rintro e w2 ⟨rfl, hb1⟩
      have HK2 := hid (HK.out.go hb1)
      have HB2 := hid (HA.out.go hb1)
      obtain ⟨z0, z1, z2, z3⟩ := HK2.out.2.1.cells
      obtain ⟨x0, x1, x2, x3⟩ := HB2.out.2.1.cells
      have HS2 := hid (HS.out w2 HK2.out.2.2)
      clear hb1 HTX HS
      go_wp2_with fail
      refine HS2.out.mono ?_
      rintro e w3 ⟨rfl, hb2⟩
      have HK3 := hid (HK2.out.go hb2)
      have HB3 := hid (HB2.out.go hb2)
      obtain ⟨z0, z1, z2, z3⟩ := HK3.out.2.1.cells
      obtain ⟨x0, x1, x2, x3⟩ := HB3.out.2.1.cells
      have HZ3 := hid (HZ.out w3 HK3.out.2.2)
      clear hb2 HS2 HZ
      go_wp2_with fail
      refine HZ3.out.mono ?_
      rintro e w4 ⟨rfl, hb3⟩
      have HB4 := hid (HB3.out.go hb3)
      clear hb3
      go_wp2
      go_roundw
      case measure => simp [intOf]; omega
      case rel => exact ⟨j + 1, _, by omega, rfl, by go_num, HO2, HB4⟩
     ·have hkw : keyw kk = Y.data.toList := by rw [scw_not (by rw [← HYL.out]; exact hyy), HYL.out]
      have b2 : (Y.toList == [60, 60]) = false := by rw [ByteArray.toList_eq]; exact beq_eq_false_iff_ne.2 hyy
      have hsz : O.size + Z.size + Y.size ≤ 1000000000 := by rw [hkw] at hO; simp only [List.length_append, List.length_cons, List.length_nil, len_eq] at hO; omega
      have HO2 : Hid ((O ++ P ++ Y ++ ⟨#[58, 10]⟩ ++ Z).data.toList = rfM (ks.take (j + 1)) (ds.take (j + 1)) F.data.toList P.data.toList) := hid (by rw [HSN.out, HPI.out, hkw, if_neg hj0, ← HO.out, app_list, app_list, app_list, app_list] <;> simp)
      clear hj0 hkw hyy hO
      go_wp2_with fail
      refine HTX.out.mono ?_
      rintro e w2 ⟨rfl, hb1⟩
      have HK2 := hid (HK.out.go hb1)
      have HB2 := hid (HA.out.go hb1)
      obtain ⟨z0, z1, z2, z3⟩ := HK2.out.2.1.cells
      obtain ⟨x0, x1, x2, x3⟩ := HB2.out.2.1.cells
      have HS2 := hid (HS.out w2 HK2.out.2.2)
      clear hb1 HTX HS
      go_wp2_with fail
      refine HS2.out.mono ?_
      rintro e w3 ⟨rfl, hb2⟩
      have HK3 := hid (HK2.out.go hb2)
      have HB3 := hid (HB2.out.go hb2)
      obtain ⟨z0, z1, z2, z3⟩ := HK3.out.2.1.cells
      obtain ⟨x0, x1, x2, x3⟩ := HB3.out.2.1.cells
      have HZ3 := hid (HZ.out w3 HK3.out.2.2)
      clear hb2 HS2 HZ
      go_wp2_with fail
      refine HZ3.out.mono ?_
      rintro e w4 ⟨rfl, hb3⟩
      have HB4 := hid (HB3.out.go hb3)
      clear hb3
      go_wp2
      go_roundw
      case measure => simp [intOf]; omega
      case rel => exact ⟨j + 1, _, by omega, rfl, by go_num, HO2, HB4⟩
  ·obtain rfl : j = n := by omega
   obtain ⟨x0, x1, x2, x3⟩ := HB.out.2.1.cells
   have HE : Hid (O.data.toList = q.data.toList) := hid (by rw [HO.out, show ds.take j = ds from List.take_of_length_le (by rw [HN.out]; exact Nat.le_refl _), show ks.take j = ks from List.take_of_length_le (by rw [HM.out]; exact Nat.le_refl _), ← HQ.out])
   go_wp2
   go_ret
   exact ⟨str_of HE.out, HB.out.1⟩
theorem RRows_any (N : Nat) : RRowsOf N := by
 induction N with
 | zero => intro d h; have := cnt_pos d; omega
 | succ N ih =>
  intro d hN hf hs ha F P hF hP hL c0 c1 c2 c3 w hd q hq
  obtain ⟨k, t, ks, ds⟩ := d
  have hff := hf
  obtain ⟨⟨h0, h3⟩, -, -, -, hfd⟩ := fine_in hf
  rw [cntT] at hN
  rw [depT] at hP
  unfold shrt at hs
  rw [Bool.or_eq_false_iff] at hs
  have h2 : ¬ k < 2 := of_decide_eq_false hs.1
  obtain ⟨ha1, ha2⟩ := keys11 ha
  rw [rfR] at hL hq
  by_cases e2 : k = 2
  ·subst e2
   rw [if_pos rfl] at hL hq
   exact RRows_seq N ih t ks ds (by omega) hfd ha2 F P hF (by omega) hL c0 c1 c2 c3 w hd q hq
  ·obtain rfl : k = 3 := by omega
   rw [if_neg e2] at hL hq
   have hl : ks.length = ds.length := by
    cases hff with
    | mk a b c dd ee => exact (dd rfl).1
   exact RRows_map N ih t ks ds hl (by omega) hfd ha2 ha1 F P hF (by omega) hL c0 c1 c2 c3 w hd q hq
end
end Go.Proofs.YtmdgpejedbkkdaaGreatDoor
