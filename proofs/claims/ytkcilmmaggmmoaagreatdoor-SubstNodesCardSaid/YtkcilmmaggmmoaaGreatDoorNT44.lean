/- NamRboth, RefSub5 -/
import Derived.Test.YtkcilmmaggmmoaaGreatDoorNT11
import Derived.Test.YtkcilmmaggmmoaaGreatDoorNT4
import Derived.Test.YtkcilmmaggmmoaaGreatDoorNT42
import Derived.Test.YtkcilmmaggmmoaaGreatDoorNT43
set_option linter.unusedVariables false
set_option linter.unusedSimpArgs false
set_option maxRecDepth 100000
set_option maxHeartbeats 16000000
open Go.Lib (hid)
namespace Go.Proofs.YtkcilmmaggmmoaaGreatDoor
namespace N8
end N8
namespace Nw
end Nw
namespace S14
end S14
namespace V12
end V12
end Go.Proofs.YtkcilmmaggmmoaaGreatDoor
namespace Go.Proofs.YtkcilmmaggmmoaaGreatDoor
section
open Go.RowKit Go.Sort
open Nw Go.ChangeShapes Go.WideShapes
theorem below_trans' {w w1 w2 : World} (h1 : Below w.heap.size w w1) (h2 : Below w1.heap.size w1 w2) : Below w.heap.size w w2 := h1.trans (h2.mono h1.size)
theorem take_next {l : List L8} {k : Nat} (h : k < l.length) : (l.take (k + 1)).map encStr = (l.take k).map encStr ++ [.string (ba l[k])] := by
 rw [List.take_succ_eq_append_getElem h, List.map_append]; rfl
theorem RBoth_own (v u : Value) (l m : List L8) (w : World) (h : Rd w v l) (hm : Rd w u m) (hbig : l.length + m.length ≤ 4398046511103) :
  Calls Tryz.prog 27 #[v, u] w fun e w' => ∃ v', e = .returned v' ∧ w'.ownsRow w.heap.size 9 1 v' (sortL (l ++ m)).length ((sortL (l ++ m)).map encStr) ∧ Below w.heap.size w w' := by
 obtain ⟨i0, hi, hz0, hz1, hz2⟩ := infoS
 have HSort : Hid (∀ (v1 : Value) (w1 : World), w1.ownsRow w.heap.size 9 1 v1 (l ++ m).length ((l ++ m).map encStr) → Below w.heap.size w w1 →
   Calls Tryz.prog 29 #[v1] w1 fun e w' => ∃ v', e = .returned v' ∧ w'.ownsRow w.heap.size 9 1 v' (sortL (l ++ m)).length ((sortL (l ++ m)).map encStr) ∧ Below w.heap.size w w') := hid (by
  intro v1 w1 ho hb
  refine (RSorted_own v1 (l ++ m) w1 (rd_of_owns ho) (by rw [List.length_append]; exact hbig)).mono ?_
  rintro e w' ⟨v', rfl, ho', hb'⟩
  exact ⟨v', rfl, owns_low ho' hb.size, below_trans' hb hb'⟩)
 generalize hlm : sortL (l ++ m) = SS at HSort ⊢
 clear hlm
 generalize SS.length = NS at HSort ⊢
 generalize SS.map encStr = XS at HSort ⊢
 have HBig := hid hbig
 have HL := hid h
 have HM := hid hm
 clear hbig
 obtain ⟨a, cap, rfl, h1, h2, h3⟩ := h
 obtain ⟨a2, cap2, rfl, k1, k2, k3⟩ := hm
 unfold maxLen at h2 k2
 have H3 := hid h3
 have K3 := hid k3
 clear h3 k3
 go_enter Tryz.func27, Tryz.ntmps27
 go_wp2
 go_loopw [5, 6] (fun v5 i wr => ∃ k : Nat, k ≤ l.length ∧ i = .int .i64 k ∧ wr.ownsRow w.heap.size 9 1 v5 k ((l.take k).map encStr) ∧ Below w.heap.size w wr) (fun _ i _ => l.length - (intOf i).toNat)
 case atStart => exact ⟨0, Nat.zero_le _, rfl, own_literal w _ (Nat.le_refl _), (Below.refl _ _).alloc (Nat.le_refl _) _⟩
 case round =>
  obtain ⟨k, hk, rfl, hown, hbel⟩ := hrel
  have HO := hid hown
  have HB := hid hbel
  clear hbel
  by_cases hlt : k < l.length
  ·rcases H3.out with ⟨e0, _⟩ | ⟨b, o, ha, h4, h5⟩
   ·rw [e0] at hlt; exact absurd hlt (Nat.not_lt_zero _)
   subst ha
   have hc : wr.cell? ⟨b, o + k, none⟩ = some (.string (ba l[k])) := (HB.out.cell (p := ⟨b, o + k, none⟩) h4).trans (h5 k hlt)
   clear h5
   have hltz : (k : Int) < (l.length : Int) := by omega
   have HX := hid (take_next hlt)
   generalize ba l[k] = X at hc HX
   obtain ⟨YS, hYS⟩ : ∃ YS, YS = (l.take k).map encStr := ⟨_, rfl⟩
   rw [← hYS] at hown
   have HYS := hid hYS
   clear hYS
   go_wp2_with (at_builtin; refine wpList_append_own _ rfl _ _ 22 rfl w.heap.size 9 i0 _ 1 16 Tryz.underlying22 hi hz0 hz1 hz2 rfl (by decide) _ _ _ rfl (hown.alloc _) ⟨wr.heap.size, 0, none⟩ 1 1 [.string X] rfl rfl ?c1 ?c2 ?c3 ?c4 ?c5 ?_)
   case c1 =>
    intro j u hj
    match j, hj with
    | 0, hj => simp at hj; subst hj; simp [Addr.add]
   case c2 => intro u hu; simp at hu; subst hu; rfl
   case c3 => have := HBig.out; unfold maxLen; omega
   case c4 => have := HBig.out; omega
   case c5 => have := HB.out.size; simp; omega
   ·intro v' w2 hown' hgrow _
    have HW2 := hid hown'
    have HG2 := hid hgrow
    clear hown' hgrow hown
    go_wp2
    go_roundw
    case measure => simp [intOf]; omega
    case rel =>
     refine ⟨k + 1, by omega, by go_num, ?_, ?_⟩
     ·rw [HX.out, ← HYS.out]; exact HW2.out
     ·refine (HB.out.alloc HB.out.size _).grown HG2.out (by have := HB.out.size; simp; omega) ?_
      intro p hp
      exact (HO.out.lt p hp).1
  ·obtain rfl : k = l.length := by omega
   clear hown
   go_wp2
   go_loopw [5, 7] (fun v5 i wr => ∃ k : Nat, k ≤ m.length ∧ i = .int .i64 k ∧ wr.ownsRow w.heap.size 9 1 v5 (l.length + k) ((l ++ m.take k).map encStr) ∧ Below w.heap.size w wr) (fun _ i _ => m.length - (intOf i).toNat)
   case atStart =>
    refine ⟨0, Nat.zero_le _, rfl, ?_, HB.out⟩
    have := HO.out
    rw [List.take_length] at this
    simpa using this
   case round =>
    obtain ⟨k, hk, rfl, hown, hbel⟩ := hrel
    clear HO HB
    have HO := hid hown
    have HB := hid hbel
    clear hbel
    by_cases hlt : k < m.length
    ·rcases K3.out with ⟨e0, _⟩ | ⟨b, o, ha, h4, h5⟩
     ·rw [e0] at hlt; exact absurd hlt (Nat.not_lt_zero _)
     subst ha
     have hc : wr.cell? ⟨b, o + k, none⟩ = some (.string (ba m[k])) := (HB.out.cell (p := ⟨b, o + k, none⟩) h4).trans (h5 k hlt)
     clear h5
     have hltz : (k : Int) < (m.length : Int) := by omega
     have HX := hid (take_next hlt)
     generalize ba m[k] = X at hc HX
     obtain ⟨YS, hYS⟩ : ∃ YS, YS = (l ++ m.take k).map encStr := ⟨_, rfl⟩
     rw [← hYS] at hown
     have HYS := hid hYS
     clear hYS
     obtain ⟨NN, hNN⟩ : ∃ NN, NN = l.length + k := ⟨_, rfl⟩
     rw [← hNN] at hown
     have HNN := hid hNN
     clear hNN
     go_wp2_with (at_builtin; refine wpList_append_own _ rfl _ _ 22 rfl w.heap.size 9 i0 _ 1 16 Tryz.underlying22 hi hz0 hz1 hz2 rfl (by decide) _ _ _ rfl (hown.alloc _) ⟨wr.heap.size, 0, none⟩ 1 1 [.string X] rfl rfl ?c1 ?c2 ?c3 ?c4 ?c5 ?_)
     case c1 =>
      intro j u hj
      match j, hj with
      | 0, hj => simp at hj; subst hj; simp [Addr.add]
     case c2 => intro u hu; simp at hu; subst hu; rfl
     case c3 => have := HBig.out; have := HNN.out; unfold maxLen; omega
     case c4 => have := HBig.out; have := HNN.out; omega
     case c5 => have := HB.out.size; simp; omega
     ·intro v' w2 hown' hgrow _
      have HW2 := hid hown'
      have HG2 := hid hgrow
      clear hown' hgrow hown
      go_wp2
      go_roundw
      case measure => simp [intOf]; omega
      case rel =>
       refine ⟨k + 1, by omega, by go_num, ?_, ?_⟩
       ·rw [List.map_append, HX.out, ← List.append_assoc, ← List.map_append, ← HYS.out, ← Nat.add_assoc, ← HNN.out]; exact HW2.out
       ·refine (HB.out.alloc HB.out.size _).grown HG2.out (by have := HB.out.size; simp; omega) ?_
        intro p hp
        exact (HO.out.lt p hp).1
    ·obtain rfl : k = m.length := by omega
     have hcall := HSort.out _ _ (by rw [List.length_append]; have := HO.out; rwa [List.take_length] at this) HB.out
     clear hown
     go_wp2_with (go_at_call 29; refine hcall.mono ?_; rintro e w2 ⟨v2, rfl, hown2, hbel2⟩)
     go_ret
     exact ⟨_, rfl, hown2, hbel2⟩
end
section
open Go.RowKit Go.Sort
open Nw V12 S14 Go.ChangeShapes Go.WideShapes
open N8 (Nd)
def FewN (L : List L8) (j : Nat) : Prop := L.length ≤ 200000 * j
theorem FewN.next {L Z : List L8} {j m : Nat} (h : FewN L j) (hm : m ≤ 200000) (hz : Z.length ≤ L.length + m) : FewN Z (j + 1) := by
 unfold FewN at *
 omega
theorem FewN.few {L : List L8} {j : Nat} (h : FewN L j) (hj : j ≤ 100000) : L.length ≤ 20000000000 := by
 unfold FewN at h
 omega
theorem namXs_step (a : List L8) (l : List L8) (j : Nat) (h : j < l.length) : namXs a (l.drop j) = match T13.prsT (l[j]'h) with
  | .err _ => namXs a (l.drop (j + 1))
  | .ok ps _ => namXs (sortL (a ++ sortL (T13.namL ps))) (l.drop (j + 1)) := by
 rw [List.drop_eq_getElem_cons h, namXs]
 cases T13.prsT (l[j]'h) <;> rfl
theorem RNames14 (HParse : ∀ (s : ByteArray) (W : World), s.size ≤ 100000 → Calls Tryz.prog 26 #[.string s] W (GivesP (T13.prsT s.data.toList) W))
  (d : Nd) (hc : N8.cntT d ≤ 100000) (ht : ∀ t ∈ N8.textsT d, t.length ≤ 100000) (c0 c1 c2 c3 : Value) (w : World) (hd : NdW w d c0 c1 c2 c3) :
  Calls Tryz.prog 13 #[.agg #[c0, c1, c2, c3]] w fun e w' => ∃ v', e = .returned v' ∧ Rd w' v' (namXs [] (N8.textsT d)) ∧ Below w.heap.size w w' := by
 obtain ⟨ck, cs, ca, cn, cc, cA, cm, cq, rfl, rfl, rfl, rfl⟩ := NdC.cellsOk hd
 obtain ⟨W1, hW1⟩ : ∃ W1, w.alloc (.cells #[.int .i64 ck, .string cs, .slice ca cn cc, .slice cA cm cq] 25) = W1 := ⟨_, rfl⟩
 have hb1 : Below w.heap.size w W1 := by rw [← hW1]; exact (Below.refl _ _).alloc (Nat.le_refl _) _
 have hX : Row4 W1 w.heap.size 25 (.int .i64 ck) (.string cs) (.slice ca cn cc) (.slice cA cm cq) := by rw [← hW1]; exact Row4.make w _ _ _ _ _
 obtain ⟨x0, x1, x2, x3⟩ := hX.cells
 obtain ⟨W2, hW2⟩ : ∃ W2, W1.alloc (.cells #[] 9) = W2 := ⟨_, rfl⟩
 have hb2 : Below w.heap.size w W2 := by rw [← hW2]; exact hb1.alloc hb1.size _
 have hX2 : Row4 W2 w.heap.size 25 (.int .i64 ck) (.string cs) (.slice ca cn cc) (.slice cA cm cq) := by rw [← hW2]; exact hX.alloc _
 obtain ⟨y0, y1, y2, y3⟩ := hX2.cells
 have hR0 : Rd W2 (.slice (some ⟨W1.heap.size, 0, none⟩) 0 0) [] := rd_empty _ _ _ (Nat.zero_le _) fun h => by cases h
 have HT := hid (RTexts_any (N8.cntT d) d (Nat.le_refl _) hc _ _ _ _ W2 (hd.below hb2))
 have htl := N8.textsT_len d
 obtain ⟨l, hl⟩ : ∃ l, N8.textsT d = l := ⟨_, rfl⟩
 rw [hl] at HT ht htl ⊢
 obtain ⟨n, hn⟩ : ∃ n, l.length = n := ⟨_, rfl⟩
 have HN := hid hn
 rw [hn] at htl
 have HTX := hid ht
 have HPA := hid HParse
 have HB2 := hid hb2
 have HR0 := hid hR0
 obtain ⟨RR, hRR⟩ : ∃ RR, namXs [] l = RR := ⟨_, rfl⟩
 rw [hRR]
 have HRR : Hid (namXs [] (l.drop 0) = RR) := hid (by rw [List.drop_zero]; exact hRR)
 have hnl : n ≤ 100000 := by omega
 clear hd hc ht htl hl hn hb1 hb2 hX hX2 hR0 hRR HParse
 go_enter Tryz.func13, Tryz.ntmps13
 go_wp2_with (go_at_call 25; refine HT.out.mono ?_; rintro e W3 ⟨v3, rfl, ho3, hb3⟩; have HB3 := hid (HB2.out.trans (hb3.mono HB2.out.size)); have hr3 := rd_of_owns ho3; obtain ⟨a3, c3, hv3, hc3, -⟩ := id hr3; rw [HN.out] at hv3 hc3; subst hv3; have HR3 := hid hr3; have HRO := hid (HR0.out.below hb3); clear hr3 ho3 hb3)
 clear hW1 hW2 x0 x1 x2 x3 y0 y1 y2 y3
 go_loopw [3, 5] (fun s3 si wr => ∃ (j : Nat) (L : List L8), j ≤ n ∧ si = .int .i64 (j : Int) ∧ Hid (FewN L j) ∧ Hid (namXs L (l.drop j) = RR) ∧ Hid (Rd wr s3 L) ∧ Hid (Rd wr (.slice a3 n c3) l) ∧ Hid (Below w.heap.size w wr)) (fun _ si _ => n - (intOf si).toNat)
 case atStart => exact ⟨0, [], Nat.zero_le _, rfl, hid (show FewN [] 0 from Nat.zero_le _), HRR, HRO, HR3, HB3⟩
 case round =>
  clear HRR HRO HR3 HB3
  obtain ⟨j, L, hj, rfl, HLl, HS, HRL, HRT, HB⟩ := hrel
  by_cases hlt : j < n
  ·have hjl : j < l.length := by rw [HN.out]; exact hlt
   have hjz : (j : Int) < (n : Int) := by omega
   have hjc : (j : Int) < (c3 : Int) := by omega
   obtain ⟨kb, ko, ha, hkb, q0⟩ := rd_at HRT.out j hjl
   subst ha
   have hst := namXs_step L l j hjl
   rw [HS.out] at hst
   have htl : (l[j]'hjl).length ≤ 100000 := HTX.out _ (List.getElem_mem hjl)
   obtain ⟨K, hK⟩ : ∃ K, ba (l[j]'hjl) = K := ⟨_, rfl⟩
   have hKl : K.data.toList = l[j]'hjl := by rw [← hK, ba_data]
   rw [hK] at q0
   rw [← hKl] at hst htl
   have hKs : K.size ≤ 100000 := by rw [← len_eq13]; exact htl
   have hP := HPA.out K wr hKs
   cases hR : T13.prsT K.data.toList with
   | err er =>
    have hne : (er == 0) = false := beq_eq_false_iff_ne.2 (T13.prsT_err hR)
    rw [hR] at hP hst
    have HP := hid hP
    have HST : Hid (namXs L (l.drop (j + 1)) = RR) := hid hst.symm
    clear hP hst hR htl hKl hK
    go_wp2_with (go_at_call 26; refine HP.out.mono ?_; rintro e W4 ⟨v4, rfl, -, hb4⟩; have HB4 := hid (HB.out.trans (hb4.mono HB.out.size)); have HRL4 := hid (HRL.out.below hb4); have HRT4 := hid (HRT.out.below hb4); clear hb4)
    go_roundw
    case rel => exact ⟨j + 1, L, by omega, by go_num, hid (HLl.out.next (m := 0) (Nat.zero_le _) (Nat.le_refl _)), HST, HRL4, HRT4, HB4⟩
    case measure => simp [intOf]; omega
   | ok ps r =>
    rw [hR] at hP hst
    obtain ⟨hwf, -⟩ := T13.prsT_wf hR
    have hsz := T13.prsT_size hR
    rw [show K.data.toList.length = K.size from rfl] at hsz
    have hcn := T13.cntL_le ps 1 hwf
    have hnm := T13.namL_len ps
    have hs1 := sortL_length_le (T13.namL ps)
    have hs2 := sortL_length_le (L ++ sortL (T13.namL ps))
    rw [List.length_append] at hs2
    have HP := hid hP
    have HST : Hid (namXs (sortL (L ++ sortL (T13.namL ps))) (l.drop (j + 1)) = RR) := hid hst.symm
    have HNM := hid (fun (v : Value) (W : World) (h : PtW W v ps) => RNames13_any ps (by omega) v W h)
    have HBO := hid (fun (v u : Value) (W : World) (h : Rd W v L) (h2 : Rd W u (sortL (T13.namL ps))) => RBoth_own v u L (sortL (T13.namL ps)) W h h2 (by have := HLl.out.few (by omega); omega))
    obtain ⟨M, hM⟩ : ∃ M, sortL (T13.namL ps) = M := ⟨_, rfl⟩
    rw [hM] at HNM HBO HST hs1 hs2
    obtain ⟨Z, hZ⟩ : ∃ Z, sortL (L ++ M) = Z := ⟨_, rfl⟩
    rw [hZ] at HBO HST hs2
    have HZl : Hid (FewN Z (j + 1)) := hid (HLl.out.next (m := M.length) (by omega) hs2)
    clear hP hst hR htl hKl hK hwf hsz hcn hnm hs1 hs2 hM hZ
    go_wp2_with first
     | (go_at_call 26; refine HP.out.mono ?_; rintro e W4 ⟨v4, rfl, hp4, hb4⟩; have HP4 := hid hp4; have HB4 := hid (HB.out.trans (hb4.mono HB.out.size)); have HRL4 := hid (HRL.out.below hb4); have HRT4 := hid (HRT.out.below hb4); clear hb4 hp4)
     | (go_at_call 28; refine (HNM.out _ _ HP4.out).mono ?_; rintro e W5 ⟨v5, rfl, hr5, hb5⟩; have HR5 := hid hr5; have HB5 := hid (HB4.out.trans (hb5.mono HB4.out.size)); have HRL5 := hid (HRL4.out.below hb5); have HRT5 := hid (HRT4.out.below hb5); clear hb5 hr5)
     | (go_at_call 27; refine (HBO.out _ _ _ HRL5.out HR5.out).mono ?_; rintro e W6 ⟨v6, rfl, ho6, hb6⟩; have HRL6 := hid (rd_of_owns ho6); have HB6 := hid (HB5.out.trans (hb6.mono HB5.out.size)); have HRT6 := hid (HRT5.out.below hb6); clear hb6 ho6)
    go_roundw
    case rel => exact ⟨j + 1, Z, by omega, by go_num, HZl, HST, HRL6, HRT6, HB6⟩
    case measure => simp [intOf]; omega
  ·obtain rfl : j = n := by omega
   have HE : Hid (L = RR) := hid (by rw [← HS.out, List.drop_eq_nil_of_le (by rw [HN.out]; exact Nat.le_refl _), namXs])
   go_wp2
   go_ret
   exact ⟨_, rfl, by rw [← HE.out]; exact HRL.out, HB.out⟩
end
end Go.Proofs.YtkcilmmaggmmoaaGreatDoor
