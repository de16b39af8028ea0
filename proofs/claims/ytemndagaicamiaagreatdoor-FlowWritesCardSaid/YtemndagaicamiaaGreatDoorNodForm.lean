/- The contracts of the program's hasForm, isFormed, isWithin, isWalkable and Right, at valid nodes. -/
import Derived.Test.YtemndagaicamiaaGreatDoorNodSorted
import Derived.Test.YtemndagaicamiaaGreatDoorNodMeas
import Derived.Test.YtemndagaicamiaaGreatDoorNodKd
import Derived.Test.YtemndagaicamiaaGreatDoorMergeM
import Derived.Deep.RegionHeld3
namespace Go.Proofs.YtemndagaicamiaaGreatDoor
open Go.RowKit Go.Sort
open Nw N8 Go.ChangeShapes Go.WideShapes
set_option linter.unusedVariables false
theorem Sorted_rd {v : Value} {l : List L8} {w : World} (h : Rd w v l) (hb : l.length ≤ 4398046511103) :
    Calls Tryz.prog 66 #[v] w fun e w' => ∃ v', e = .returned v' ∧ Rd w' v' (sortL l) ∧ Below w.heap.size w w' :=
  (Sorted_own v l w h hb).mono fun e w' ⟨v', h1, h2, h3⟩ => ⟨v', h1, rd_of_owns h2, h3⟩
set_option maxRecDepth 100000 in
set_option maxHeartbeats 4000000 in
theorem hasForm_any (d : Nd) (hf : Fine d) (hc : cntT d ≤ 100000) (c0 c1 c2 c3 : Value) (w : World) (hd : NdW w d c0 c1 c2 c3) :
    Calls Tryz.prog 48 #[.agg #[c0, c1, c2, c3]] w fun e w' => e = .returned (.bool true) ∧ Below w.heap.size w w' := by
  have HB0 := Lib.hid (Boxed.make hd)
  have hkc := kids_cnt d
  cases hf with
  | @mk k t ks ds h0 h3 hf hk hdd =>
    obtain ⟨rfl, rfl, hks, A, cap, rfl, hcap, hm, -, -⟩ := hd.parts
    obtain ⟨a, kcap, rfl, hkc2, hkm⟩ := rd_slice hks
    have hds : ds.length ≤ 100000 := Nat.le_trans hkc hc
    obtain ⟨x0, x1, x2, x3⟩ := HB0.out.2.1.cells
    unfold formB at hf
    unfold maxLen at hm hkm
    clear hdd hd hkc hc
    have hk4 : k = 0 ∨ k = 1 ∨ k = 2 ∨ k = 3 := by omega
    rcases hk4 with rfl | rfl | rfl | rfl
    · simp at hf
      obtain ⟨⟨rfl, rfl⟩, rfl⟩ := hf
      rw [show ba [] = ⟨#[]⟩ from rfl] at HB0 x1 ⊢
      clear hk h0 h3 hks
      go_enter Tryz.func48, Tryz.ntmps48
      go_wp2
      go_ret
      exact ⟨rfl, HB0.out.1⟩
    · simp at hf
      obtain ⟨rfl, rfl⟩ := hf
      clear hk h0 h3 hks
      obtain ⟨T, hT⟩ : ∃ T, ba t = T := ⟨_, rfl⟩
      rw [hT] at HB0 x0 x1 x2 x3 ⊢
      clear hT
      go_enter Tryz.func48, Tryz.ntmps48
      go_wp2
      go_ret
      exact ⟨rfl, HB0.out.1⟩
    · simp at hf
      obtain ⟨rfl, rfl⟩ := hf
      rw [show ba [] = ⟨#[]⟩ from rfl] at HB0 x1 ⊢
      clear hk h0 h3 hks
      generalize ds.length = n at *
      go_enter Tryz.func48, Tryz.ntmps48
      go_wp2
      go_ret
      exact ⟨rfl, HB0.out.1⟩
    · simp at hf
      obtain rfl := hf
      obtain ⟨h1, h2⟩ := hk rfl
      have HK := Lib.hid hks
      have hn : ks.length ≤ 100000 := by omega
      have HSO := Lib.hid (fun W (hW : Rd W (.slice a ks.length kcap) ks) => Sorted_rd hW (by omega))
      have HL : Hid ((sortL ks).length = ds.length) := Lib.hid (by rw [h2, h1])
      rw [show ba [] = ⟨#[]⟩ from rfl] at HB0 x1 ⊢
      have HB1 := Lib.hid (HB0.out.go (below_drew _))
      obtain ⟨n, hnn⟩ : ∃ n, ds.length = n := ⟨_, rfl⟩
      have h1n := h1.trans hnn
      rw [hnn] at HL
      rw [h1n] at HSO hkc2
      simp only [h1n, hnn] at HB0 HB1 x1 x2 x3 HK hcap hn hds ⊢
      clear h0 h3 hks h1 h2 hk hnn h1n
      go_enter Tryz.func48, Tryz.ntmps48
      go_wp2_with fail
      have hS1 : ((w.alloc (.cells #[.int .i64 3, .string ⟨#[]⟩, .slice a n kcap, .slice A n cap] 25)).drew).cell? ⟨w.heap.size, 1, none⟩ = some (.string ⟨#[]⟩) ∧ ((w.alloc (.cells #[.int .i64 3, .string ⟨#[]⟩, .slice a n kcap, .slice A n cap] 25)).drew).cell? ⟨w.heap.size, 2, none⟩ = some (.slice a n kcap) ∧ ((w.alloc (.cells #[.int .i64 3, .string ⟨#[]⟩, .slice a n kcap, .slice A n cap] 25)).drew).cell? ⟨w.heap.size, 3, none⟩ = some (.slice A n cap) := ⟨x1, x2, x3⟩
      go_region_held3 (fun W => W.cell? ⟨w.heap.size, 1, none⟩ = some (.string ⟨#[]⟩) ∧ W.cell? ⟨w.heap.size, 2, none⟩ = some (.slice a n kcap) ∧ W.cell? ⟨w.heap.size, 3, none⟩ = some (.slice A n cap)) (first | exact hS1 | assumption)
        (first | (go_at_call 66; refine (HSO.out _ HB1.out.keys).mono ?_; rintro e w2 ⟨v2, rfl, hr2, hb2⟩; have HB2 := Lib.hid (HB1.out.go hb2); have hS2 := HB2.out.2.1.cells.2; obtain ⟨a2, c2, rfl, -, -⟩ := rd_slice hr2))
      all_goals
        rw [HL.out]
        go_wp2
        go_ret
        exact ⟨ret_b (by simp), HB2.out.1⟩
def FormedOf (N : Nat) : Prop := ∀ (d : Nd), cntT d ≤ N → Fine d → cntT d ≤ 100000 → ∀ (c0 c1 c2 c3 : Value) (w : World), NdW w d c0 c1 c2 c3 →
    Calls Tryz.prog 33 #[.agg #[c0, c1, c2, c3]] w fun e w' => e = .returned (.bool true) ∧ Below w.heap.size w w'
set_option maxRecDepth 100000 in
set_option maxHeartbeats 4000000 in
theorem notFormed_any (d : Nd) (c0 c1 c2 c3 : Value) (w : World) (hd : NdW w d c0 c1 c2 c3)
    (h : ∀ W, NdW W d c0 c1 c2 c3 → Calls Tryz.prog 33 #[.agg #[c0, c1, c2, c3]] W fun e w' => e = .returned (.bool true) ∧ Below W.heap.size W w') :
    Calls Tryz.prog 50 #[.agg #[c0, c1, c2, c3]] w fun e w' => e = .returned (.bool false) ∧ Below w.heap.size w w' := by
  have HB0 := Lib.hid (Boxed.make hd)
  have HR := Lib.hid (h _ HB0.out.2.2)
  obtain ⟨x0, x1, x2, x3⟩ := HB0.out.2.1.cells
  clear hd h
  go_enter Tryz.func50, Tryz.ntmps50
  go_wp2_with (go_at_call 33; refine HR.out.mono ?_; rintro e w2 ⟨rfl, hb2⟩)
  go_ret
  exact ⟨rfl, (HB0.out.go hb2).1⟩
set_option maxRecDepth 100000 in
set_option maxHeartbeats 4000000 in
theorem IndexFunc_any (N : Nat) (ih : FormedOf N) (ds : List Nd) (hN : cntL ds ≤ N) (hc : cntL ds ≤ 100000) (hf : ∀ d ∈ ds, Fine d) (v : Value) (w : World) (hd : Kd w v ds) :
    Calls Tryz.prog 67 #[v, .func (.func 50) #[] #[]] w fun x w' => x = .returned (.int .i64 (-1)) ∧ Below w.heap.size w w' := by
  have eg : ∀ args w, (callFunc 50 args).run Tryz.prog w = .ok (.enter 50 args) w := enters_of Tryz.func50 (by kernel_rfl) rfl
  have HD0 := Lib.hid hd
  obtain ⟨A, cap, rfl, hcap, hm⟩ := hd.shape
  have HIH := Lib.hid ih
  have HCN := Lib.hid (And.intro hN (And.intro hc hf))
  obtain ⟨n, hn⟩ : ∃ n, ds.length = n := ⟨_, rfl⟩
  have HN := Lib.hid hn
  rw [hn] at HD0 hcap ⊢
  unfold maxLen at hm
  have hn63 : n ≤ 9223372036854775807 := by omega
  have HB0 : Hid (Below w.heap.size w w) := Lib.hid (Below.refl _ _)
  clear ih hd hn hN hc hf
  go_enter Tryz.func67, Tryz.ntmps67
  go_wp2
  go_loopw [5, 8] (fun s5 si wr => ∃ (i : Nat), i ≤ n ∧ si = .int .i64 (i : Int) ∧ Hid (Below w.heap.size w wr)) (fun _ si _ => n - (intOf si).toNat)
  case atStart => exact ⟨0, Nat.zero_le _, rfl, HB0⟩
  case round =>
    clear HB0
    obtain ⟨i, hi, rfl, HB⟩ := hrel
    by_cases hin : i < n
    · have hil : i < ds.length := by rw [HN.out]; exact hin
      have hiz : (i : Int) < (n : Int) := by omega
      obtain ⟨b, o, e0, e1, e2, e3, rfl, hb, y0, y1, y2, y3, hnd⟩ := (HD0.out.below HB.out).kid i hil
      obtain ⟨k1, s1, a1, n1, q1, A1, m1, r1, rfl, rfl, rfl, rfl⟩ := ndw_shape hnd
      have hck : cntT (ds[i]'hil) ≤ cntL ds := cntL_mem (List.getElem_mem hil)
      have HR := Lib.hid (notFormed_any (ds[i]'hil) _ _ _ _ wr hnd fun W hW => HIH.out (ds[i]'hil) (Nat.le_trans hck HCN.out.1) (HCN.out.2.2 _ (List.getElem_mem hil)) (Nat.le_trans hck HCN.out.2.1) _ _ _ _ W hW)
      clear hnd hck
      go_wp2_with (go_at_fn 50; refine HR.out.mono ?_; rintro e w2 ⟨rfl, hb2⟩)
      have HB2 := Lib.hid (belowNext HB.out hb2)
      clear hb2
      go_roundw
      case measure => simp [intOf]; omega
      case rel => exact ⟨i + 1, by omega, by go_num, HB2⟩
    · obtain rfl : i = n := by omega
      go_wp2
      go_ret
      exact ⟨rfl, HB.out⟩
set_option maxRecDepth 100000 in
set_option maxHeartbeats 4000000 in
theorem isFormed_any (N : Nat) : FormedOf N := by
  induction N with
  | zero => intro d h; have := cntT_pos d; omega
  | succ N ih =>
    intro d hN hf hc c0 c1 c2 c3 w hd
    have HB0 := Lib.hid (Boxed.make hd)
    have HH := Lib.hid (fun W hW => hasForm_any d hf hc c0 c1 c2 c3 W hW)
    obtain ⟨x0, x1, x2, x3⟩ := HB0.out.2.1.cells
    cases hf with
    | @mk k t ks ds h0 h3 hf' hk hdd =>
      rw [cntT] at hN hc
      have HI := Lib.hid (fun W hW => IndexFunc_any N ih ds (by omega) (by omega) hdd c3 W hW)
      clear hd ih h0 h3 hf' hk hdd hN hc
      have HCF : Hid (∀ W, Kd W c3 ds → Calls Tryz.prog 49 #[c3, .func (.func 50) #[] #[]] W fun x w' => x = .returned (.bool false) ∧ Below W.heap.size W w') := Lib.hid (by
        intro W hW
        have hr := HI.out W hW
        obtain ⟨A, cap, rfl, -, -⟩ := hW.shape
        clear x0 x1 x2 x3
        generalize ds.length = n at *
        go_enter Tryz.func49, Tryz.ntmps49
        go_wp2_with (go_at_call 67; refine hr.mono ?_; rintro e w2 ⟨rfl, hb2⟩)
        go_ret
        exact ⟨rfl, hb2⟩)
      go_enter Tryz.func33, Tryz.ntmps33
      go_wp2_with fail
      refine (HH.out _ HB0.out.2.2).mono ?_
      rintro e w2 ⟨rfl, hb2⟩
      have HB2 := Lib.hid (HB0.out.go hb2)
      clear hb2 x0 x1 x2 x3
      obtain ⟨x0, x1, x2, x3⟩ := HB2.out.2.1.cells
      go_wp2_with fail
      refine (HCF.out _ HB2.out.2.2.kd).mono ?_
      rintro e w3 ⟨rfl, hb3⟩
      go_wp2
      go_ret
      exact ⟨rfl, (HB2.out.go hb3).1⟩
set_option maxRecDepth 100000 in
set_option maxHeartbeats 4000000 in
/-- At a valid node of few nodes. -/
theorem isWithin_any (d : Nd) (hf : Fine d) (nodes nest : Int) (hc : (cntT d : Int) ≤ nodes) (hd9 : (depT d : Int) ≤ nest) (hn : nodes ≤ 99999) (c0 c1 c2 c3 : Value) (w : World) (hd : NdW w d c0 c1 c2 c3) :
    Calls Tryz.prog 20 #[.agg #[c0, c1, c2, c3], .int .i64 nodes, .int .i64 nest] w fun e w' => e = .returned (.bool true) ∧ Below w.heap.size w w' := by
  have HB0 := Lib.hid (Boxed.make hd)
  have hp := cntT_pos d
  have el : IntKind.i64.wrap (nodes + 1) = nodes + 1 := IntWalk.i64_in _ (by omega)
  have HM := Lib.hid (measure_any (cntT d) d (Nat.le_refl _) (nodes + 1) (by omega) (by omega) c0 c1 c2 c3 _ HB0.out.2.2)
  have HF := Lib.hid (fun W hW => isFormed_any (cntT d) d (Nat.le_refl _) hf (by omega) c0 c1 c2 c3 W hW)
  obtain ⟨x0, x1, x2, x3⟩ := HB0.out.2.1.cells
  obtain ⟨C, hC⟩ : ∃ C, (cntT d : Int) = C := ⟨_, rfl⟩
  obtain ⟨D, hD⟩ : ∃ D, (depT d : Int) = D := ⟨_, rfl⟩
  obtain ⟨M, hM⟩ : ∃ M, nodes + 1 = M := ⟨_, rfl⟩
  rw [hC, hD, hM] at HM
  rw [hC] at hc
  rw [hD] at hd9
  rw [hM] at el
  clear hd hf hp hC hD
  go_enter Tryz.func20, Tryz.ntmps20
  go_wp2_with fail
  refine HM.out.mono ?_
  rintro e w2 ⟨rfl, hb2⟩
  have HB2 := Lib.hid (HB0.out.go hb2)
  clear hb2 x0 x1 x2 x3
  obtain ⟨x0, x1, x2, x3⟩ := HB2.out.2.1.cells
  go_wp2_with fail
  refine (HF.out _ HB2.out.2.2).mono ?_
  rintro e w3 ⟨rfl, hb3⟩
  go_wp2
  go_ret
  exact ⟨rfl, (HB2.out.go hb3).1⟩
set_option maxRecDepth 100000 in
set_option maxHeartbeats 4000000 in
theorem Right_any (d : Nd) (hf : Fine d) (hc : cntT d ≤ 2000) (hd9 : depT d ≤ 12) (c0 c1 c2 c3 : Value) (w : World) (hd : NdW w d c0 c1 c2 c3) :
    Calls Tryz.prog 14 #[.agg #[c0, c1, c2, c3]] w fun e w' => e = .returned (.bool true) ∧ Below w.heap.size w w' := by
  have HB0 := Lib.hid (Boxed.make hd)
  have HM := Lib.hid (isWithin_any d hf 2000 12 (by omega) (by omega) (by omega) c0 c1 c2 c3 _ HB0.out.2.2)
  obtain ⟨x0, x1, x2, x3⟩ := HB0.out.2.1.cells
  clear hd hf hd9 hc
  go_enter Tryz.func14, Tryz.ntmps14
  go_wp2_with (go_at_call 20; refine HM.out.mono ?_; rintro e w2 ⟨rfl, hb2⟩)
  go_ret
  exact ⟨rfl, (HB0.out.go hb2).1⟩
end Go.Proofs.YtemndagaicamiaaGreatDoor
