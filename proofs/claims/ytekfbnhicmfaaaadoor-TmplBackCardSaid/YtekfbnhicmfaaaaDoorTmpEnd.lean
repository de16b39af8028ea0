/- The contracts of hasEnd, deepest and Deep. -/
import Derived.Test.YtekfbnhicmfaaaaDoorTmpPar
import Derived.Test.YtekfbnhicmfaaaaDoorRefTmp1
namespace Go.Proofs.YtekfbnhicmfaaaaDoor
open Go.RowKit Go.Sort
open Nw T13 Go.ChangeShapes Go.WideShapes
set_option linter.unusedVariables false
theorem depL_le_take (ps : List Pt) (j : Nat) : depL (ps.take j) ≤ depL ps := by
  conv => rhs; rw [← List.take_append_drop j ps]
  generalize ps.take j = a
  generalize ps.drop j = c
  induction a with
  | nil => rw [depL]; exact Nat.zero_le _
  | cons x a ih => rw [List.cons_append, depL, depL]; omega
theorem depL_mem {ps : List Pt} {j : Nat} (h : j < ps.length) : depP (ps[j]'h) ≤ depL ps := by
  have h1 := depL_le_take ps (j + 1)
  rw [depL_take h] at h1
  omega
theorem PtL.slice {S : Nat → Prop} {w : World} {v : Value} {ps : List Pt} (h : PtL S w v ps) : ∃ (A : Option Addr) (n cap : Nat), v = .slice A n cap := by
  obtain ⟨A, cap, h1, -⟩ := h
  exact ⟨A, _, cap, h1⟩
set_option maxRecDepth 100000 in
set_option maxHeartbeats 8000000 in
theorem hasEnd_any (N : Nat) : ∀ (ps : List Pt), cntL ps < N → N ≤ 1000000 → ∀ (k : Nat), depL ps ≤ k → k ≤ 65536 → ∀ (v : Value) (w : World), PtW w v ps →
    Calls Tryd.prog 17 #[v, .int .i64 (k : Int)] w fun e w' => e = .returned (.bool true) ∧ Below w.heap.size w w' := by
  induction N with
  | zero => intro ps hc; omega
  | succ N ih =>
    intro ps hc hN k hk hk2 v w h
    have HIH := Lib.hid ih
    have HP := Lib.hid h
    have hln := cntL_len13 ps
    obtain ⟨A, cap, rfl, hcap, hcm, -⟩ := h
    unfold maxLen at hcm
    have HC := Lib.hid hc
    have HK := Lib.hid hk
    obtain ⟨n, hn⟩ : ∃ n, n = ps.length := ⟨_, rfl⟩
    rw [← hn] at hcap hln HP ⊢
    have HN := Lib.hid hn
    have hn1 : n ≤ 1000000 := by omega
    have HN1 := Lib.hid hN
    clear ih hc hn hln hN hk
    go_enter Tryd.func17, Tryd.ntmps17
    go_wp2
    go_loopw [9] (fun i wr => ∃ j : Nat, j ≤ n ∧ i = .int .i64 (j : Int) ∧ Hid (Below w.heap.size w wr)) (fun i _ => n - (intOf i).toNat)
    case atStart => exact ⟨0, Nat.zero_le _, rfl, Lib.hid (Below.refl _ _)⟩
    case round =>
      obtain ⟨j, hj, rfl, HB⟩ := hrel
      by_cases hlt : j < n
      · have hjl : Hid (j < ps.length) := Lib.hid (by have := HN.out; omega)
        obtain ⟨b, o, e0, e1, e2, e3, rfl, hbl, x0, x1, x2, x3, hsub⟩ := PtL.at_ HP.out j hjl.out
        have y0 := (HB.out.cell (p := ⟨b, o + j * 4, none⟩) hbl).trans x0
        have y1 := (HB.out.cell (p := ⟨b, o + j * 4 + 1, none⟩) hbl).trans x1
        have y2 := (HB.out.cell (p := ⟨b, o + j * 4 + 2, none⟩) hbl).trans x2
        have y3 := (HB.out.cell (p := ⟨b, o + j * 4 + 3, none⟩) hbl).trans x3
        clear x0 x1 x2 x3
        have hdm := depL_mem hjl.out
        have hcs := @cnt_sub ps j hjl.out
        obtain ⟨p, hp⟩ : ∃ p, ps[j]'hjl.out = p := ⟨_, rfl⟩
        rw [hp] at hsub hdm
        obtain ⟨nm, tx, op, sb⟩ := p
        have hcs2 := hcs hp
        obtain ⟨rfl, rfl, rfl, hsb⟩ := hsub.sub
        obtain ⟨B, n2, c2, rfl⟩ := hsb.slice
        have hjz : (j : Int) < (n : Int) := by omega
        have hjc : (j : Int) < (cap : Int) := by omega
        rw [depP] at hdm
        generalize ba nm = Nm at y0
        generalize ba tx = Tx at y1
        obtain ⟨z0, z1, z2, z3⟩ := (Row4.make wr 40 (.string Nm) (.string Tx) (.int .i64 op) (.slice B n2 c2)).cells
        have HB2 : Hid (Below w.heap.size w (wr.alloc (.cells #[.string Nm, .string Tx, .int .i64 op, .slice B n2 c2] 40))) := Lib.hid (HB.out.alloc HB.out.size _)
        by_cases ho : op = 0
        · have hne : (op != 0) = false := by rw [ho]; rfl
          clear hsub hp hcs hcs2 hsb ho hdm
          go_wp2
          go_roundw
          case rel => exact ⟨j + 1, by omega, by go_num, HB2⟩
          case measure => simp [intOf]; omega
        · rw [if_neg ho] at hdm
          obtain ⟨k1, rfl⟩ : ∃ k1, k = k1 + 1 := ⟨k - 1, by have := HK.out; omega⟩
          have HD : Hid (∀ W, Below w.heap.size w W → Calls Tryd.prog 17 #[.slice B n2 c2, .int .i64 (k1 : Int)] W fun e w' => e = .returned (.bool true) ∧ Below W.heap.size W w') := Lib.hid (fun W hW => HIH.out sb (by have := HC.out; omega) (by have := HN1.out; omega) k1 (by have := HK.out; omega) (by omega) _ W (PtW.below hsb hW))
          have hne : (op != 0) = true := bne_iff_ne.2 ho
          have hk0 : (((k1 + 1 : Nat) : Int) == 0) = false := beq_eq_false_iff_ne.2 (by omega)
          have hk3 : ((k1 + 1 : Nat) : Int) - 1 = (k1 : Int) := by omega
          have hk4 : IntKind.i64.wrap (((k1 + 1 : Nat) : Int) - 1) = (k1 : Int) := by rw [hk3]; exact IntWalk.i64_in _ (by omega)
          obtain ⟨K, hK⟩ : ∃ K : Int, ((k1 + 1 : Nat) : Int) = K := ⟨_, rfl⟩
          rw [hK] at hk0 hk3 hk4 ⊢
          have HKE := Lib.hid hK
          clear hsub hp hcs hcs2 hsb ho hdm hK
          go_wp2_with (go_at_call 17; refine (HD.out _ HB2.out).mono ?_; rintro e W2 ⟨rfl, hb2⟩; have HB3 := Lib.hid (HB2.out.trans (hb2.mono HB2.out.size)); clear hb2)
          go_roundw
          case rel => exact ⟨j + 1, by omega, by go_num, HB3⟩
          case measure => simp [intOf]; omega
      · obtain rfl : j = n := by omega
        go_wp2
        go_ret
        exact ⟨rfl, HB.out⟩
set_option maxRecDepth 100000 in
set_option maxHeartbeats 8000000 in
theorem deepest_any (N : Nat) : ∀ (ps : List Pt), cntL ps < N → N ≤ 1000000 → ∀ (v : Value) (w : World), PtW w v ps →
    Calls Tryd.prog 24 #[v] w fun e w' => e = .returned (.int .i64 (depL ps : Int)) ∧ Below w.heap.size w w' := by
  induction N with
  | zero => intro ps hc; omega
  | succ N ih =>
    intro ps hc hN v w h
    have HIH := Lib.hid ih
    have HP := Lib.hid h
    have hln := cntL_len13 ps
    obtain ⟨A, cap, rfl, hcap, hcm, -⟩ := h
    unfold maxLen at hcm
    have HC := Lib.hid hc
    obtain ⟨n, hn⟩ : ∃ n, n = ps.length := ⟨_, rfl⟩
    rw [← hn] at hcap hln HP ⊢
    have HN := Lib.hid hn
    have hn1 : n ≤ 1000000 := by omega
    have HN1 := Lib.hid hN
    obtain ⟨R, hR⟩ : ∃ R, depL ps = R := ⟨_, rfl⟩
    rw [hR]
    have HR := Lib.hid hR
    have HZ : Hid (depL (ps.take 0) = 0) := Lib.hid (by rw [List.take_zero, depL])
    clear ih hc hn hln hN hR
    go_enter Tryd.func24, Tryd.ntmps24
    go_wp2
    go_loopw [3, 8] (fun s3 i wr => ∃ j T : Nat, j ≤ n ∧ T ≤ 1000000 ∧ i = .int .i64 (j : Int) ∧ s3 = .int .i64 (T : Int) ∧ Hid (T = depL (ps.take j)) ∧ Hid (Below w.heap.size w wr)) (fun _ i _ => n - (intOf i).toNat)
    case atStart => exact ⟨0, 0, Nat.zero_le _, Nat.zero_le _, rfl, rfl, Lib.hid HZ.out.symm, Lib.hid (Below.refl _ _)⟩
    case round =>
      clear HZ
      obtain ⟨j, T, hj, hT1, rfl, rfl, HT, HB⟩ := hrel
      by_cases hlt : j < n
      · have hjl : Hid (j < ps.length) := Lib.hid (by have := HN.out; omega)
        obtain ⟨b, o, e0, e1, e2, e3, rfl, hbl, x0, x1, x2, x3, hsub⟩ := PtL.at_ HP.out j hjl.out
        have y0 := (HB.out.cell (p := ⟨b, o + j * 4, none⟩) hbl).trans x0
        have y1 := (HB.out.cell (p := ⟨b, o + j * 4 + 1, none⟩) hbl).trans x1
        have y2 := (HB.out.cell (p := ⟨b, o + j * 4 + 2, none⟩) hbl).trans x2
        have y3 := (HB.out.cell (p := ⟨b, o + j * 4 + 3, none⟩) hbl).trans x3
        clear x0 x1 x2 x3
        have hstep := depL_take hjl.out
        have hcs := @cnt_sub ps j hjl.out
        obtain ⟨p, hp⟩ : ∃ p, ps[j]'hjl.out = p := ⟨_, rfl⟩
        rw [hp] at hsub hstep
        obtain ⟨nm, tx, op, sb⟩ := p
        have hcs2 := hcs hp
        obtain ⟨rfl, rfl, rfl, hsb⟩ := hsub.sub
        obtain ⟨B, n2, c2, rfl⟩ := hsb.slice
        have hjz : (j : Int) < (n : Int) := by omega
        have hjc : (j : Int) < (cap : Int) := by omega
        rw [depP, ← HT.out] at hstep
        generalize ba nm = Nm at y0
        generalize ba tx = Tx at y1
        obtain ⟨z0, z1, z2, z3⟩ := (Row4.make wr 40 (.string Nm) (.string Tx) (.int .i64 op) (.slice B n2 c2)).cells
        have HB2 : Hid (Below w.heap.size w (wr.alloc (.cells #[.string Nm, .string Tx, .int .i64 op, .slice B n2 c2] 40))) := Lib.hid (HB.out.alloc HB.out.size _)
        by_cases ho : op = 0
        · rw [if_pos ho, Nat.max_zero] at hstep
          have HST := Lib.hid hstep
          have hne : (op != 0) = false := by rw [ho]; rfl
          clear hsub hp hcs hcs2 hsb ho hstep
          go_wp2
          go_roundw
          case rel => exact ⟨j + 1, T, by omega, hT1, by go_num, rfl, Lib.hid HST.out.symm, HB2⟩
          case measure => simp [intOf]; omega
        · rw [if_neg ho] at hstep
          have hdl : depL sb ≤ 999998 := by have := depL_cnt sb; have := HC.out; have := HN1.out; omega
          have HD := Lib.hid (fun W (hW : Below w.heap.size w W) => HIH.out sb (by have := HC.out; omega) (by have := HN1.out; omega) (.slice B n2 c2) W (PtW.below hsb hW))
          have hne : (op != 0) = true := bne_iff_ne.2 ho
          obtain ⟨D, hD⟩ : ∃ D, depL sb = D := ⟨_, rfl⟩
          rw [hD] at HD hstep hdl
          have HST := Lib.hid hstep
          have kw : IntKind.i64.wrap (1 + (D : Int)) = 1 + (D : Int) := IntWalk.i64_in _ (by omega)
          clear hsub hp hcs hcs2 hsb ho hstep hD
          by_cases hgt : T < 1 + D
          · have hgz : (T : Int) < 1 + (D : Int) := by omega
            have hgm : max (T : Int) (1 + (D : Int)) = 1 + (D : Int) := by omega
            go_wp2_with (go_at_call 24; refine (HD.out _ HB2.out).mono ?_; rintro e W2 ⟨rfl, hb2⟩; have HB3 := Lib.hid (HB2.out.trans (hb2.mono HB2.out.size)); clear hb2)
            go_roundw
            case rel => exact ⟨j + 1, 1 + D, by omega, by omega, by go_num, by go_num, Lib.hid (by rw [HST.out]; omega), HB3⟩
            case measure => simp [intOf]; omega
          · have hgz : ¬ (T : Int) < 1 + (D : Int) := by omega
            have hgm : max (T : Int) (1 + (D : Int)) = (T : Int) := by omega
            go_wp2_with (go_at_call 24; refine (HD.out _ HB2.out).mono ?_; rintro e W2 ⟨rfl, hb2⟩; have HB3 := Lib.hid (HB2.out.trans (hb2.mono HB2.out.size)); clear hb2)
            go_roundw
            case rel => exact ⟨j + 1, T, by omega, by omega, by go_num, by go_num, Lib.hid (by rw [HST.out]; omega), HB3⟩
            case measure => simp [intOf]; omega
      · obtain rfl : j = n := by omega
        have HF : Hid (T = R) := Lib.hid (by rw [HT.out, ← HR.out, show j = ps.length from HN.out, List.take_length])
        go_wp2
        go_ret
        exact ⟨by rw [HF.out]; rfl, HB.out⟩
theorem Deep13_any (v : Value) (ps : List Pt) (w : World) (h : PtW w v ps) (hw : WfL 1 ps) (hc : cntL ps ≤ 100000) (hd : depL ps ≤ 8) :
    Calls Tryd.prog 13 #[v] w fun e w' => e = .returned (.int .i64 (depL ps : Int)) ∧ Below w.heap.size w w' := by
  have HE := Lib.hid (hasEnd_any 1000000 ps (by omega) (Nat.le_refl _) 65536 (by omega) (Nat.le_refl _) v w h)
  have HD := Lib.hid (fun W (hW : Below w.heap.size w W) => deepest_any 1000000 ps (by omega) (Nat.le_refl _) v W (PtW.below h hW))
  obtain ⟨R, hR⟩ : ∃ R, depL ps = R := ⟨_, rfl⟩
  rw [hR] at HD ⊢
  clear h hw hc hd hR
  go_enter Tryd.func13, Tryd.ntmps13
  go_wp2_with first
    | (go_at_call 17; refine HE.out.mono ?_; rintro e W1 ⟨rfl, hb1⟩; have HB1 := Lib.hid hb1; clear hb1)
    | (go_at_call 24; refine (HD.out _ HB1.out).mono ?_; rintro e W2 ⟨rfl, hb2⟩; have HB2 := Lib.hid (HB1.out.trans (hb2.mono HB1.out.size)); clear hb2)
  go_ret
  exact ⟨rfl, HB2.out⟩
end Go.Proofs.YtekfbnhicmfaaaaDoor
