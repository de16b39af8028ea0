/- RefSub2 -/
import Derived.Test.YtkcilmmaggmmoaaGreatDoorNT23
import Derived.Test.YtkcilmmaggmmoaaGreatDoorNT28
set_option linter.unusedVariables false
set_option linter.unusedSimpArgs false
set_option maxRecDepth 100000
set_option maxHeartbeats 16000000
open Go.Lib (hid)
namespace Go.Proofs.YtkcilmmaggmmoaaGreatDoor
namespace Nw
end Nw
namespace S14
end S14
namespace T13
end T13
namespace V12
end V12
end Go.Proofs.YtkcilmmaggmmoaaGreatDoor
namespace Go.Proofs.YtkcilmmaggmmoaaGreatDoor
section
open Go.RowKit Go.Sort
open Nw T13 V12 S14
theorem wf_sub14 {d : Nat} {n t : L8} {o : Int} {s : List Pt} (h : WfP d (.mk n t o s)) : (s = [] ∨ (1 < o ∧ ∃ d', WfL d' s)) := by
 rw [WfP] at h
 rcases h with h | h | h
 ·exact .inl h.2.2.2.1
 ·exact .inl h.2.2.2.1
 ·exact .inr ⟨by omega, _, h.2.2.2.2.2.1⟩
theorem wf_at14 : ∀ {ps : List Pt} {d : Nat} {j : Nat} (h : j < ps.length), WfL d ps → WfP d (ps[j]'h)
 | p :: ps, d, 0, _, h => by rw [WfL] at h; exact h.1
 | p :: ps, d, j + 1, hj, h => by rw [WfL] at h; exact wf_at14 (Nat.lt_of_succ_lt_succ hj) h.2
theorem say_step (E : Env) (out : L8) (ps : List Pt) (j : Nat) (h : j < ps.length) : sayL E out (ps.drop j) = match sayP E (ps[j]'h) with
  | .err e k y => .err e k y
  | .ok t => if 8192 < (out ++ t).length then .err 9 [] [] else sayL E (out ++ t) (ps.drop (j + 1)) := by
 rw [List.drop_eq_getElem_cons h, sayL]
 cases sayP E (ps[j]'h) <;> rfl
def BoxS (w : World) (g : Nat) (a b c d : Value) : Prop := w.heap[g]? = some (.cells #[a, b, c, d] 47 (0, 0))
theorem BoxS.cells {w : World} {g : Nat} {a b c d : Value} (h : BoxS w g a b c d) : w.cell? ⟨g, 0, none⟩ = some a ∧ w.cell? ⟨g, 1, none⟩ = some b ∧ w.cell? ⟨g, 2, none⟩ = some c ∧ w.cell? ⟨g, 3, none⟩ = some d := by
 unfold BoxS at h
 exact ⟨by simp [World.cell?, h], by simp [World.cell?, h], by simp [World.cell?, h], by simp [World.cell?, h]⟩
theorem BoxS.froz {w : World} {g : Nat} {a b c d : Value} (h : BoxS w g a b c d) : w.frozen? ⟨g, 0, none⟩ = false ∧ w.frozen? ⟨g, 1, none⟩ = false ∧ w.frozen? ⟨g, 2, none⟩ = false ∧ w.frozen? ⟨g, 3, none⟩ = false := by
 unfold BoxS at h
 exact ⟨by simp [World.frozen?, h], by simp [World.frozen?, h], by simp [World.frozen?, h], by simp [World.frozen?, h]⟩
theorem BoxS.go {w w' : World} {g : Nat} {a b c d : Value} (h : BoxS w g a b c d) (hb : Below w.heap.size w w') : BoxS w' g a b c d := (hb.block g (Array.getElem?_eq_some_iff.1 h).1).trans h
theorem boxS_new (w : World) (a b c d : Value) : BoxS (w.alloc (.cells #[a, b, c, d] 47)) w.heap.size a b c d := Array.getElem?_push_size (xs := w.heap)
theorem RParts14 (l : List KV) (hE : ∀ n v, lastV l n = some v → v.length ≤ 1000000) (N : Nat) : ∀ (ps : List Pt) (d : Nat), cntL ps < N → N ≤ 1000000 → (txtL ps).length ≤ 1000000 → WfL d ps → ∀ (c3 v : Value) (w : World), PtW w c3 ps → VR w v l →
  Calls Tryz.prog 36 #[c3, v] w (SayW (sayL (lastV l) [] ps) w) := by
 induction N with
 | zero => intro ps d h; omega
 | succ N ih =>
  intro ps d hc hN hT hwf c3 v w hp hv
  have HIH := hid ih
  have HP := hid hp
  have HV := hid hv
  have HC := hid (And.intro hc hN)
  have HT := hid hT
  have HWF := hid hwf
  have HE := hid hE
  have hln := cntL_len13 ps
  obtain ⟨A, cap, rfl, hcap, hcm, -⟩ := hp
  unfold maxLen at hcm
  obtain ⟨n, hn⟩ : ∃ n, n = ps.length := ⟨_, rfl⟩
  rw [← hn] at hcap HP ⊢
  have HN := hid hn
  have hn1 : n ≤ 1000000 := by omega
  obtain ⟨R, hR⟩ : ∃ R, sayL (lastV l) [] ps = R := ⟨_, rfl⟩
  rw [hR]
  have HR := hid hR
  obtain ⟨W0, hW0⟩ : ∃ W0, W0 = w.alloc (.cells #[.string ⟨#[]⟩, .string ⟨#[]⟩, .string ⟨#[]⟩, .int .i64 0] 47) := ⟨_, rfl⟩
  have HW0 := hid hW0
  have h0s : W0.heap.size = w.heap.size + 1 := by rw [hW0]; simp
  have HB0 : Hid (Below w.heap.size w W0) := hid (by rw [hW0]; exact (Below.refl _ _).alloc (Nat.le_refl _) _)
  have HX0 : Hid (BoxS W0 w.heap.size (.string ⟨#[]⟩) (.string ⟨#[]⟩) (.string ⟨#[]⟩) (.int .i64 0)) := hid (by rw [hW0]; exact boxS_new _ _ _ _ _)
  clear ih hc hN hT hwf hE hln hn hR hv hW0
  go_enter Tryz.func36, Tryz.ntmps36
  go_wp2
  go_loopw [5, 6] (fun s i wr => ∃ (j : Nat) (T : ByteArray), j ≤ n ∧ T.size ≤ 8192 ∧ i = .int .i64 (j : Int) ∧ s = .string T ∧ Hid (sayL (lastV l) T.data.toList (ps.drop j) = R) ∧ Hid (Below W0.heap.size W0 wr)) (fun _ i _ => n - (intOf i).toNat)
  case atStart => exact ⟨0, ⟨#[]⟩, Nat.zero_le _, Nat.zero_le _, rfl, rfl, hid (by rw [List.drop_zero]; exact HR.out), hid (by rw [← HW0.out]; exact Below.refl _ _)⟩
  case round =>
   obtain ⟨j, T, hj, hTs, rfl, rfl, HS, HB⟩ := hrel
   have hx := HX0.out.go HB.out
   obtain ⟨q0, q1, q2, q3⟩ := hx.cells
   obtain ⟨f0, f1, f2, f3⟩ := hx.froz
   have hbw := HB0.out.trans (HB.out.mono HB0.out.size)
   have HBW := hid hbw
   have hws := HB.out.size
   by_cases hlt : j < n
   ·have hjl : Hid (j < ps.length) := hid (by have := HN.out; omega)
    obtain ⟨b, o, e0, e1, e2, e3, rfl, hbl, x0, x1, x2, x3, hsub⟩ := PtL.at_ HP.out j hjl.out
    have y0 := (hbw.cell (p := ⟨b, o + j * 4, none⟩) hbl).trans x0
    have y1 := (hbw.cell (p := ⟨b, o + j * 4 + 1, none⟩) hbl).trans x1
    have y2 := (hbw.cell (p := ⟨b, o + j * 4 + 2, none⟩) hbl).trans x2
    have y3 := (hbw.cell (p := ⟨b, o + j * 4 + 3, none⟩) hbl).trans x3
    have hst := say_step (lastV l) T.data.toList ps j hjl.out
    rw [HS.out] at hst
    have hcs := @cnt_sub ps j hjl.out
    have hwp := wf_at14 hjl.out HWF.out
    have htp := txtP_le hjl.out
    obtain ⟨p, hp⟩ : ∃ p, ps[j]'hjl.out = p := ⟨_, rfl⟩
    rw [hp] at hsub hst hwp htp
    obtain ⟨nm, tx, op, sb⟩ := p
    have hcs2 := hcs hp
    obtain ⟨rfl, rfl, rfl, hsb⟩ := hsub.sub
    have hts : (txtL sb).length ≤ 1000000 := by
     rcases wf_sub14 hwp with e | ⟨e, -⟩
     ·rw [e, txtL]; exact Nat.zero_le _
     ·have := txtS_le nm tx op sb e; have := HT.out; omega
    obtain ⟨d', hwd⟩ : ∃ d', WfL d' sb := by
     rcases wf_sub14 hwp with e | ⟨-, e⟩
     ·exact ⟨1, by rw [e, WfL]; trivial⟩
     ·exact e
    have HCP := hid (Rpart14 l nm tx op sb e3 v wr (PtW.below hsb hbw) (HV.out.below hbw) (by have := HC.out; omega) hts fun W hW => HIH.out sb d' (by have := HC.out; omega) (by have := HC.out; omega) hts hwd e3 v W (PtW.below (PtW.below hsb hbw) hW) ((HV.out.below hbw).below hW))
    have hjz : (j : Int) < (n : Int) := by omega
    have hjc : (j : Int) < (cap : Int) := by omega
    obtain ⟨X, hX⟩ : ∃ X, ba nm = X := ⟨_, rfl⟩
    obtain ⟨Y, hY⟩ : ∃ Y, ba tx = Y := ⟨_, rfl⟩
    rw [hX] at y0 HCP
    rw [hY] at y1 HCP
    have HTP : Hid ((txtP (.mk nm tx op sb)).length ≤ 1000000) := hid (by have := HT.out; omega)
    have HX := hid hx
    clear hsub hp hcs hcs2 hwp htp hts hwd hsb x0 x1 x2 x3 hX hY hx hbw
    cases hr : sayP (lastV l) (.mk nm tx op sb) with
    | err e k y =>
     rw [hr] at HCP hst
     have hne : e ≠ 0 := by rcases sayP_err _ hr with rfl | rfl <;> decide
     have hne1 : (e != 0) = true := bne_iff_ne.2 hne
     have hne2 : (e == 0) = false := beq_eq_false_iff_ne.2 hne
     have HRE : Hid (R = .err e k y) := hid hst
     obtain ⟨K, hK⟩ : ∃ K, ba k = K := ⟨_, rfl⟩
     obtain ⟨Z, hZ⟩ : ∃ Z, ba y = Z := ⟨_, rfl⟩
     have HSV : Hid (SaidV (.err e k y) = .agg #[.string ⟨#[]⟩, .string K, .string Z, .int .i64 e]) := hid (by rw [← hK, ← hZ]; rfl)
     have HCQ : Hid (Calls Tryz.prog 50 #[.agg #[.string X, .string Y, .int .i64 op, e3], v] wr fun ee w' => ee = .returned (.agg #[.string ⟨#[]⟩, .string K, .string Z, .int .i64 e]) ∧ Below wr.heap.size wr w') := hid (HCP.out.mono fun ee w' h => ⟨by rw [← HSV.out]; exact h.1, h.2⟩)
     clear hst hr HCP hne hK hZ
     go_wp2_with (go_at_call 50; refine HCQ.out.mono ?_; rintro ee w4 ⟨rfl, hb4⟩; have HB4 := hid (HBW.out.trans (hb4.mono HBW.out.size)); have hz4 : w.heap.size < w4.heap.size := (by have := hb4.size; omega); have hz5 : ¬ w.heap.size = w4.heap.size := (by omega); have HX4 := hid (HX.out.go hb4); have HB5 : Hid (Below W0.heap.size W0 w4) := hid (HB.out.trans (hb4.mono HB.out.size)); obtain ⟨v0, v1, v2, v3⟩ := HX4.out.cells; obtain ⟨u0', u1', u2', u3'⟩ := HX4.out.froz; obtain ⟨c0', c1', c2', c3'⟩ := (HX4.out.go ((Below.refl _ _).alloc (Nat.le_refl _) (.cells #[.string ⟨#[]⟩, .string K, .string Z, .int .i64 e] 47))).cells; obtain ⟨t0', t1', t2', t3'⟩ := (HX4.out.go ((Below.refl _ _).alloc (Nat.le_refl _) (.cells #[.string ⟨#[]⟩, .string K, .string Z, .int .i64 e] 47))).froz; clear hb4)
     exact bodyPost_ret (v := .agg #[.string ⟨#[]⟩, .string K, .string Z, .int .i64 e]) (by simp [results, Tryz.results36, go_sem, v0, v1, v2, v3, hz4]) rfl ⟨by rw [HRE.out, HSV.out], ((((HB4.out.setCell (Nat.le_refl _) _).setCell (Nat.le_refl _) _).setCell (Nat.le_refl _) _).setCell (Nat.le_refl _) _).alloc (by simp [World.setCell]; omega) _⟩
    | ok t =>
     rw [hr] at HCP hst
     have htl := sayP_len HE.out _ HTP.out hr
     obtain ⟨U, hU⟩ : ∃ U, ba t = U := ⟨_, rfl⟩
     have hUl : U.data.toList = t := by rw [← hU, ba_data]
     have hUs : U.size ≤ 1000000 := by rw [← len_eq13, hUl]; exact htl
     have HCQ : Hid (Calls Tryz.prog 50 #[.agg #[.string X, .string Y, .int .i64 op, e3], v] wr fun ee w' => ee = .returned (.agg #[.string U, .string ⟨#[]⟩, .string ⟨#[]⟩, .int .i64 0]) ∧ Below wr.heap.size wr w') := hid (HCP.out.mono fun ee w' h => ⟨by rw [← hU]; exact h.1, h.2⟩)
     have hTU : T.data.toList ++ t = (T ++ U).data.toList := by rw [data_app13, hUl]
     have hsz : (T ++ U).size = T.size + U.size := ByteArray.size_append
     have hst2 : R = if 8192 < (T.data.toList ++ t).length then .err 9 [] [] else sayL (lastV l) (T.data.toList ++ t) (ps.drop (j + 1)) := hst
     rw [hTU, len_eq13, hsz] at hst2
     have f1 : (9223372036854775807 < T.size + U.size) = False := eq_false (by omega)
     clear hst hr HCP htl hU hUl hTU
     by_cases h81 : 8192 < T.size + U.size
     ·rw [if_pos h81] at hst2
      have HRE := hid hst2
      have h82 : (8192 : Int) < (T.size : Int) + (U.size : Int) := by omega
      clear hst2
      go_wp2_with (go_at_call 50; refine HCQ.out.mono ?_; rintro ee w4 ⟨rfl, hb4⟩; have HB4 := hid (HBW.out.trans (hb4.mono HBW.out.size)); have hz4 : w.heap.size < w4.heap.size := (by have := hb4.size; omega); have hz5 : ¬ w.heap.size = w4.heap.size := (by omega); have HX4 := hid (HX.out.go hb4); have HB5 : Hid (Below W0.heap.size W0 w4) := hid (HB.out.trans (hb4.mono HB.out.size)); obtain ⟨v0, v1, v2, v3⟩ := HX4.out.cells; obtain ⟨u0', u1', u2', u3'⟩ := HX4.out.froz; obtain ⟨c0', c1', c2', c3'⟩ := (HX4.out.go ((Below.refl _ _).alloc (Nat.le_refl _) (.cells #[.string U, .string ⟨#[]⟩, .string ⟨#[]⟩, .int .i64 0] 47))).cells; obtain ⟨t0', t1', t2', t3'⟩ := (HX4.out.go ((Below.refl _ _).alloc (Nat.le_refl _) (.cells #[.string U, .string ⟨#[]⟩, .string ⟨#[]⟩, .int .i64 0] 47))).froz; clear hb4)
      exact bodyPost_ret (v := .agg #[.string ⟨#[]⟩, .string ⟨#[]⟩, .string ⟨#[]⟩, .int .i64 9]) (by simp [results, Tryz.results36, go_sem, v0, v1, v2, v3, hz4]) rfl ⟨by rw [HRE.out]; rfl, ((((HB4.out.setCell (Nat.le_refl _) _).setCell (Nat.le_refl _) _).setCell (Nat.le_refl _) _).setCell (Nat.le_refl _) _).alloc (by simp [World.setCell]; omega) _⟩
     ·rw [if_neg h81] at hst2
      have HS2 : Hid (sayL (lastV l) (T ++ U).data.toList (ps.drop (j + 1)) = R) := hid hst2.symm
      have h82 : (T.size : Int) + (U.size : Int) ≤ 8192 := by omega
      clear hst2
      go_wp2_with (go_at_call 50; refine HCQ.out.mono ?_; rintro ee w4 ⟨rfl, hb4⟩; have HB4 := hid (HBW.out.trans (hb4.mono HBW.out.size)); have hz4 : w.heap.size < w4.heap.size := (by have := hb4.size; omega); have hz5 : ¬ w.heap.size = w4.heap.size := (by omega); have HX4 := hid (HX.out.go hb4); have HB5 : Hid (Below W0.heap.size W0 w4) := hid (HB.out.trans (hb4.mono HB.out.size)); obtain ⟨v0, v1, v2, v3⟩ := HX4.out.cells; obtain ⟨u0', u1', u2', u3'⟩ := HX4.out.froz; obtain ⟨c0', c1', c2', c3'⟩ := (HX4.out.go ((Below.refl _ _).alloc (Nat.le_refl _) (.cells #[.string U, .string ⟨#[]⟩, .string ⟨#[]⟩, .int .i64 0] 47))).cells; obtain ⟨t0', t1', t2', t3'⟩ := (HX4.out.go ((Below.refl _ _).alloc (Nat.le_refl _) (.cells #[.string U, .string ⟨#[]⟩, .string ⟨#[]⟩, .int .i64 0] 47))).froz; clear hb4)
      go_roundw
      case rel => exact ⟨j + 1, T ++ U, by omega, by omega, by go_num, rfl, HS2, hid (HB5.out.alloc HB5.out.size _)⟩
      case measure => simp [intOf]; omega
   ·obtain rfl : j = n := by omega
    have HRE : Hid (R = .ok T.data.toList) := hid (by rw [← HS.out, show ps.drop j = [] from List.drop_eq_nil_of_le (by have := HN.out; omega), sayL])
    obtain ⟨tl, htl⟩ : ∃ tl, T.data.toList = tl := ⟨_, rfl⟩
    have HTB : Hid (ba T.data.toList = T) := hid (ba_of T)
    clear htl
    go_wp2
    exact bodyPost_ret (v := .agg #[.string T, .string ⟨#[]⟩, .string ⟨#[]⟩, .int .i64 0]) (by simp [results, Tryz.results36, go_sem, q0, q1, q2, q3]) rfl ⟨by rw [HRE.out]; show Ending.returned (Value.agg #[.string T, .string ⟨#[]⟩, .string ⟨#[]⟩, .int .i64 0]) = .returned (.agg #[.string (ba T.data.toList), .string ⟨#[]⟩, .string ⟨#[]⟩, .int .i64 0]); rw [HTB.out], (((HBW.out.setCell (Nat.le_refl _) _).setCell (Nat.le_refl _) _).setCell (Nat.le_refl _) _).setCell (Nat.le_refl _) _⟩
end
end Go.Proofs.YtkcilmmaggmmoaaGreatDoor
