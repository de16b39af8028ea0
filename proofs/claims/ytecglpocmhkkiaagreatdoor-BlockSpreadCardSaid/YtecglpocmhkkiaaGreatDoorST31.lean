/- NodKd, NodForm, NodRight -/
import Derived.Deep.RegionHeld3
import Derived.Test.YtecglpocmhkkiaaGreatDoorST17
import Derived.Test.YtecglpocmhkkiaaGreatDoorST2
import Derived.Test.YtecglpocmhkkiaaGreatDoorST27
import Derived.Test.YtecglpocmhkkiaaGreatDoorST3
import Derived.Test.YtecglpocmhkkiaaGreatDoorST9
set_option linter.unusedVariables false
set_option linter.unusedSimpArgs false
set_option maxRecDepth 100000
set_option maxHeartbeats 16000000
open Go.Lib (hid)
namespace Go.Proofs.YtecglpocmhkkiaaGreatDoor
section
open Go.RowKit Go.Sort
open Nw N8 Go.ChangeShapes Go.WideShapes
def Kd (w : World) (v : Value) (ds : List Nd) : Prop :=
 ∃ (A : Option Addr) (cap : Nat), v = .slice A ds.length cap ∧ ds.length ≤ cap ∧ cap ≤ maxLen ∧ (A = none → cap = 0) ∧ NdK (· < w.heap.size) w ds A 0
theorem Kd.below {w w' : World} {v : Value} {ds : List Nd} (h : Kd w v ds) (hb : Below w.heap.size w w') : Kd w' v ds := by
 obtain ⟨A, cap, h1, h2, h3, h4, h5⟩ := h
 exact ⟨A, cap, h1, h2, h3, h4, NdK.keep (fun b hlt => ⟨Nat.lt_of_lt_of_le hlt hb.size, hb.block b hlt⟩) ds h5⟩
theorem Kd.kid {w : World} {A : Option Addr} {n cap : Nat} {ds : List Nd} (h : Kd w (.slice A n cap) ds) (j : Nat) (hj : j < ds.length) :
  ∃ (b o : Nat) (e0 e1 e2 e3 : Value), A = some ⟨b, o, none⟩ ∧ b < w.heap.size ∧ w.cell? ⟨b, o + j * 4, none⟩ = some e0 ∧ w.cell? ⟨b, o + j * 4 + 1, none⟩ = some e1 ∧
    w.cell? ⟨b, o + j * 4 + 2, none⟩ = some e2 ∧ w.cell? ⟨b, o + j * 4 + 3, none⟩ = some e3 ∧ NdW w (ds[j]'hj) e0 e1 e2 e3 := by
 obtain ⟨A', cap', h1, -, -, -, h5⟩ := h
 have hAe : A = A' := by injection h1
 subst hAe
 have := NdK.at_ h5 j hj
 rw [Nat.zero_add] at this
 exact this
theorem NdW.kd {w : World} {k : Int} {t : L8} {ks : List L8} {ds : List Nd} {c0 c1 c2 c3 : Value} (h : NdW w (.mk k t ks ds) c0 c1 c2 c3) : Kd w c3 ds := by
 unfold NdW at h
 rw [NdC] at h
 obtain ⟨-, -, -, h⟩ := h
 exact h
theorem Kd.shape {w : World} {v : Value} {ds : List Nd} (h : Kd w v ds) : ∃ (A : Option Addr) (cap : Nat), v = .slice A ds.length cap ∧ ds.length ≤ cap ∧ cap ≤ maxLen := by
 obtain ⟨A, cap, h1, h2, h3, -⟩ := h
 exact ⟨A, cap, h1, h2, h3⟩
theorem kids_cnt (d : Nd) : d.kids.length ≤ cntT d := by
 cases d with
 | mk k t ks ds =>
  have := cntL_len ds
  show ds.length ≤ _
  rw [cntT]; omega
end
section
open Go.RowKit Go.Sort
open Nw N8 Go.ChangeShapes Go.WideShapes
theorem Sorted_rd {v : Value} {l : List L8} {w : World} (h : Rd w v l) (hb : l.length ≤ 4398046511103) :
  Calls Tryz.prog 117 #[v] w fun e w' => ∃ v', e = .returned v' ∧ Rd w' v' (sortL l) ∧ Below w.heap.size w w' :=
 (Sorted_own v l w h hb).mono fun e w' ⟨v', h1, h2, h3⟩ => ⟨v', h1, rd_of_owns h2, h3⟩
theorem hasForm_any (d : Nd) (hf : Fine d) (hc : cntT d ≤ 100000) (c0 c1 c2 c3 : Value) (w : World) (hd : NdW w d c0 c1 c2 c3) :
  Calls Tryz.prog 96 #[.agg #[c0, c1, c2, c3]] w fun e w' => e = .returned (.bool true) ∧ Below w.heap.size w w' := by
 have HB0 := hid (Boxed.make hd)
 have hkc := kids_cnt d
 cases hf with
 | @mk k t ks ds h0 h3 hf hk hdd =>
  obtain ⟨rfl, rfl, hks, A, cap, rfl, hcap, hm, -, -⟩ := hd.parts
  obtain ⟨a, kcap, rfl, hkc2, hkm⟩ := rd_slice hks
  have hds : ds.length ≤ 100000 := Nat.le_trans hkc hc
  obtain ⟨x0, x1, x2, x3⟩ := HB0.out.2.1.cells
  unfold formB at hf
  unfold maxLen at hm hkm
  clear hdd hd hkc hc
  have hk4 : k = 0 ∨ k = 1 ∨ k = 2 ∨ k = 3 := by omega
  rcases hk4 with rfl | rfl | rfl | rfl
  ·simp at hf
   obtain ⟨⟨rfl, rfl⟩, rfl⟩ := hf
   rw [show ba [] = ⟨#[]⟩ from rfl] at HB0 x1 ⊢
   clear hk h0 h3 hks
   go_enter Tryz.func96, Tryz.ntmps96
   go_wp2
   go_ret
   exact ⟨rfl, HB0.out.1⟩
  ·simp at hf
   obtain ⟨rfl, rfl⟩ := hf
   clear hk h0 h3 hks
   obtain ⟨T, hT⟩ : ∃ T, ba t = T := ⟨_, rfl⟩
   rw [hT] at HB0 x0 x1 x2 x3 ⊢
   clear hT
   go_enter Tryz.func96, Tryz.ntmps96
   go_wp2
   go_ret
   exact ⟨rfl, HB0.out.1⟩
  ·simp at hf
   obtain ⟨rfl, rfl⟩ := hf
   rw [show ba [] = ⟨#[]⟩ from rfl] at HB0 x1 ⊢
   clear hk h0 h3 hks
   generalize ds.length = n at *
   go_enter Tryz.func96, Tryz.ntmps96
   go_wp2
   go_ret
   exact ⟨rfl, HB0.out.1⟩
  ·simp at hf
   obtain rfl := hf
   obtain ⟨h1, h2⟩ := hk rfl
   have HK := hid hks
   have hn : ks.length ≤ 100000 := by omega
   have HSO := hid (fun W (hW : Rd W (.slice a ks.length kcap) ks) => Sorted_rd hW (by omega))
   have HL : Hid ((sortL ks).length = ds.length) := hid (by rw [h2, h1])
   rw [show ba [] = ⟨#[]⟩ from rfl] at HB0 x1 ⊢
   have HB1 := hid (HB0.out.go (below_drew _))
   obtain ⟨n, hnn⟩ : ∃ n, ds.length = n := ⟨_, rfl⟩
   have h1n := h1.trans hnn
   rw [hnn] at HL
   rw [h1n] at HSO hkc2
   simp only [h1n, hnn] at HB0 HB1 x1 x2 x3 HK hcap hn hds ⊢
   clear h0 h3 hks h1 h2 hk hnn h1n
   go_enter Tryz.func96, Tryz.ntmps96
   go_wp2_with fail
   have hS1 : ((w.alloc (.cells #[.int .i64 3, .string ⟨#[]⟩, .slice a n kcap, .slice A n cap] 26)).drew).cell? ⟨w.heap.size, 1, none⟩ = some (.string ⟨#[]⟩) ∧ ((w.alloc (.cells #[.int .i64 3, .string ⟨#[]⟩, .slice a n kcap, .slice A n cap] 26)).drew).cell? ⟨w.heap.size, 2, none⟩ = some (.slice a n kcap) ∧ ((w.alloc (.cells #[.int .i64 3, .string ⟨#[]⟩, .slice a n kcap, .slice A n cap] 26)).drew).cell? ⟨w.heap.size, 3, none⟩ = some (.slice A n cap) := ⟨x1, x2, x3⟩
   go_region_held3 (fun W => W.cell? ⟨w.heap.size, 1, none⟩ = some (.string ⟨#[]⟩) ∧ W.cell? ⟨w.heap.size, 2, none⟩ = some (.slice a n kcap) ∧ W.cell? ⟨w.heap.size, 3, none⟩ = some (.slice A n cap)) (first | exact hS1 | assumption)
    (first | (go_at_call 117; refine (HSO.out _ HB1.out.keys).mono ?_; rintro e w2 ⟨v2, rfl, hr2, hb2⟩; have HB2 := hid (HB1.out.go hb2); have hS2 := HB2.out.2.1.cells.2; obtain ⟨a2, c2, rfl, -, -⟩ := rd_slice hr2))
   all_goals
    rw [HL.out]
    go_wp2
    go_ret
    exact ⟨ret_b (by simp), HB2.out.1⟩
def FormedOf (N : Nat) : Prop := ∀ (d : Nd), cntT d ≤ N → Fine d → cntT d ≤ 100000 → ∀ (c0 c1 c2 c3 : Value) (w : World), NdW w d c0 c1 c2 c3 →
  Calls Tryz.prog 62 #[.agg #[c0, c1, c2, c3]] w fun e w' => e = .returned (.bool true) ∧ Below w.heap.size w w'
theorem notFormed_any (d : Nd) (c0 c1 c2 c3 : Value) (w : World) (hd : NdW w d c0 c1 c2 c3)
  (h : ∀ W, NdW W d c0 c1 c2 c3 → Calls Tryz.prog 62 #[.agg #[c0, c1, c2, c3]] W fun e w' => e = .returned (.bool true) ∧ Below W.heap.size W w') :
  Calls Tryz.prog 98 #[.agg #[c0, c1, c2, c3]] w fun e w' => e = .returned (.bool false) ∧ Below w.heap.size w w' := by
 have HB0 := hid (Boxed.make hd)
 have HR := hid (h _ HB0.out.2.2)
 obtain ⟨x0, x1, x2, x3⟩ := HB0.out.2.1.cells
 clear hd h
 go_enter Tryz.func98, Tryz.ntmps98
 go_wp2_with (go_at_call 62; refine HR.out.mono ?_; rintro e w2 ⟨rfl, hb2⟩)
 go_ret
 exact ⟨rfl, (HB0.out.go hb2).1⟩
theorem IndexFunc_any (N : Nat) (ih : FormedOf N) (ds : List Nd) (hN : cntL ds ≤ N) (hc : cntL ds ≤ 100000) (hf : ∀ d ∈ ds, Fine d) (v : Value) (w : World) (hd : Kd w v ds) :
  Calls Tryz.prog 118 #[v, .func (.func 98) #[] #[]] w fun x w' => x = .returned (.int .i64 (-1)) ∧ Below w.heap.size w w' := by
 have eg : ∀ args w, (callFunc 98 args).run Tryz.prog w = .ok (.enter 98 args) w := enters_of Tryz.func98 (by kernel_rfl) rfl
 have HD0 := hid hd
 obtain ⟨A, cap, rfl, hcap, hm⟩ := hd.shape
 have HIH := hid ih
 have HCN := hid (And.intro hN (And.intro hc hf))
 obtain ⟨n, hn⟩ : ∃ n, ds.length = n := ⟨_, rfl⟩
 have HN := hid hn
 rw [hn] at HD0 hcap ⊢
 unfold maxLen at hm
 have hn63 : n ≤ 9223372036854775807 := by omega
 have HB0 : Hid (Below w.heap.size w w) := hid (Below.refl _ _)
 clear ih hd hn hN hc hf
 go_enter Tryz.func118, Tryz.ntmps118
 go_wp2
 go_loopw [5, 8] (fun s5 si wr => ∃ (i : Nat), i ≤ n ∧ si = .int .i64 (i : Int) ∧ Hid (Below w.heap.size w wr)) (fun _ si _ => n - (intOf si).toNat)
 case atStart => exact ⟨0, Nat.zero_le _, rfl, HB0⟩
 case round =>
  clear HB0
  obtain ⟨i, hi, rfl, HB⟩ := hrel
  by_cases hin : i < n
  ·have hil : i < ds.length := by rw [HN.out]; exact hin
   have hiz : (i : Int) < (n : Int) := by omega
   obtain ⟨b, o, e0, e1, e2, e3, rfl, hb, y0, y1, y2, y3, hnd⟩ := (HD0.out.below HB.out).kid i hil
   obtain ⟨k1, s1, a1, n1, q1, A1, m1, r1, rfl, rfl, rfl, rfl⟩ := ndw_shape hnd
   have hck : cntT (ds[i]'hil) ≤ cntL ds := cntL_mem (List.getElem_mem hil)
   have HR := hid (notFormed_any (ds[i]'hil) _ _ _ _ wr hnd fun W hW => HIH.out (ds[i]'hil) (Nat.le_trans hck HCN.out.1) (HCN.out.2.2 _ (List.getElem_mem hil)) (Nat.le_trans hck HCN.out.2.1) _ _ _ _ W hW)
   clear hnd hck
   go_wp2_with (go_at_fn 98; refine HR.out.mono ?_; rintro e w2 ⟨rfl, hb2⟩)
   have HB2 := hid (belowNext HB.out hb2)
   clear hb2
   go_roundw
   case measure => simp [intOf]; omega
   case rel => exact ⟨i + 1, by omega, by go_num, HB2⟩
  ·obtain rfl : i = n := by omega
   go_wp2
   go_ret
   exact ⟨rfl, HB.out⟩
theorem isFormed_any (N : Nat) : FormedOf N := by
 induction N with
 | zero => intro d h; have := cntT_pos d; omega
 | succ N ih =>
  intro d hN hf hc c0 c1 c2 c3 w hd
  have HB0 := hid (Boxed.make hd)
  have HH := hid (fun W hW => hasForm_any d hf hc c0 c1 c2 c3 W hW)
  obtain ⟨x0, x1, x2, x3⟩ := HB0.out.2.1.cells
  cases hf with
  | @mk k t ks ds h0 h3 hf' hk hdd =>
   rw [cntT] at hN hc
   have HI := hid (fun W hW => IndexFunc_any N ih ds (by omega) (by omega) hdd c3 W hW)
   clear hd ih h0 h3 hf' hk hdd hN hc
   have HCF : Hid (∀ W, Kd W c3 ds → Calls Tryz.prog 97 #[c3, .func (.func 98) #[] #[]] W fun x w' => x = .returned (.bool false) ∧ Below W.heap.size W w') := hid (by
    intro W hW
    have hr := HI.out W hW
    obtain ⟨A, cap, rfl, -, -⟩ := hW.shape
    clear x0 x1 x2 x3
    generalize ds.length = n at *
    go_enter Tryz.func97, Tryz.ntmps97
    go_wp2_with (go_at_call 118; refine hr.mono ?_; rintro e w2 ⟨rfl, hb2⟩)
    go_ret
    exact ⟨rfl, hb2⟩)
   go_enter Tryz.func62, Tryz.ntmps62
   go_wp2_with fail
   refine (HH.out _ HB0.out.2.2).mono ?_
   rintro e w2 ⟨rfl, hb2⟩
   have HB2 := hid (HB0.out.go hb2)
   clear hb2 x0 x1 x2 x3
   obtain ⟨x0, x1, x2, x3⟩ := HB2.out.2.1.cells
   go_wp2_with fail
   refine (HCF.out _ HB2.out.2.2.kd).mono ?_
   rintro e w3 ⟨rfl, hb3⟩
   go_wp2
   go_ret
   exact ⟨rfl, (HB2.out.go hb3).1⟩
theorem isWithin_any (d : Nd) (hf : Fine d) (nodes nest : Int) (hc : (cntT d : Int) ≤ nodes) (hd9 : (depT d : Int) ≤ nest) (hn : nodes ≤ 99999) (c0 c1 c2 c3 : Value) (w : World) (hd : NdW w d c0 c1 c2 c3) :
  Calls Tryz.prog 36 #[.agg #[c0, c1, c2, c3], .int .i64 nodes, .int .i64 nest] w fun e w' => e = .returned (.bool true) ∧ Below w.heap.size w w' := by
 have HB0 := hid (Boxed.make hd)
 have hp := cntT_pos d
 have el : IntKind.i64.wrap (nodes + 1) = nodes + 1 := IntWalk.i64_in _ (by omega)
 have HM := hid (measure_any (cntT d) d (Nat.le_refl _) (nodes + 1) (by omega) (by omega) c0 c1 c2 c3 _ HB0.out.2.2)
 have HF := hid (fun W hW => isFormed_any (cntT d) d (Nat.le_refl _) hf (by omega) c0 c1 c2 c3 W hW)
 obtain ⟨x0, x1, x2, x3⟩ := HB0.out.2.1.cells
 obtain ⟨C, hC⟩ : ∃ C, (cntT d : Int) = C := ⟨_, rfl⟩
 obtain ⟨D, hD⟩ : ∃ D, (depT d : Int) = D := ⟨_, rfl⟩
 obtain ⟨M, hM⟩ : ∃ M, nodes + 1 = M := ⟨_, rfl⟩
 rw [hC, hD, hM] at HM
 rw [hC] at hc
 rw [hD] at hd9
 rw [hM] at el
 clear hd hf hp hC hD
 go_enter Tryz.func36, Tryz.ntmps36
 go_wp2_with fail
 refine HM.out.mono ?_
 rintro e w2 ⟨rfl, hb2⟩
 have HB2 := hid (HB0.out.go hb2)
 clear hb2 x0 x1 x2 x3
 obtain ⟨x0, x1, x2, x3⟩ := HB2.out.2.1.cells
 go_wp2_with fail
 refine (HF.out _ HB2.out.2.2).mono ?_
 rintro e w3 ⟨rfl, hb3⟩
 go_wp2
 go_ret
 exact ⟨rfl, (HB2.out.go hb3).1⟩
theorem Right_any (d : Nd) (hf : Fine d) (hc : cntT d ≤ 2000) (hd9 : depT d ≤ 12) (c0 c1 c2 c3 : Value) (w : World) (hd : NdW w d c0 c1 c2 c3) :
  Calls Tryz.prog 18 #[.agg #[c0, c1, c2, c3]] w fun e w' => e = .returned (.bool true) ∧ Below w.heap.size w w' := by
 have HB0 := hid (Boxed.make hd)
 have HM := hid (isWithin_any d hf 2000 12 (by omega) (by omega) (by omega) c0 c1 c2 c3 _ HB0.out.2.2)
 obtain ⟨x0, x1, x2, x3⟩ := HB0.out.2.1.cells
 clear hd hf hd9 hc
 go_enter Tryz.func18, Tryz.ntmps18
 go_wp2_with (go_at_call 36; refine HM.out.mono ?_; rintro e w2 ⟨rfl, hb2⟩)
 go_ret
 exact ⟨rfl, (HB0.out.go hb2).1⟩
end
section
open Go.RowKit Go.Sort
open Nw N8 Q6 F9
theorem measure_cut (N : Nat) : ∀ (d : Nd), cntT d ≤ N → ∀ (most : Nat), 1 ≤ most → most ≤ 1000000 → ∀ (c0 c1 c2 c3 : Value) (w : World), NdW w d c0 c1 c2 c3 →
  Calls Tryz.prog 61 #[.agg #[c0, c1, c2, c3], .int .i64 (most : Int)] w fun e w' => ∃ (C D : Nat), e = .returned (.tuple #[.int .i64 (C : Int), .int .i64 (D : Int)]) ∧ Hid (C = min (cntT d) most) ∧ D ≤ C ∧ Below w.heap.size w w' := by
 induction N with
 | zero => intro d h; have := cntT_pos d; omega
 | succ N ih =>
  intro d hN most hmost hbig c0 c1 c2 c3 w hd
  cases d with
  | mk k t ks ds =>
   have HB0 := hid (Boxed.make hd)
   obtain ⟨rfl, rfl, _, A, cap, rfl, hcap, hm, hnil, _⟩ := hd.parts
   have HIH := hid ih
   obtain ⟨n, hn⟩ : ∃ n, ds.length = n := ⟨_, rfl⟩
   have HN := hid hn
   rw [cntT] at hN
   have hcN : cntL ds ≤ N := by omega
   rw [cntT]
   have HCN := hid hcN
   have hn63 : n ≤ 9223372036854775807 := by unfold maxLen at hm; omega
   obtain ⟨TOT, hT⟩ : ∃ TOT, cntL ds = TOT := ⟨_, rfl⟩
   have HT := hid hT
   rw [hT]
   rw [hn] at HB0 hcap ⊢
   clear ih hd hn hcN hT hN hnil hm
   obtain ⟨TT, hTT⟩ : ∃ TT, ba t = TT := ⟨_, rfl⟩
   rw [hTT] at HB0 ⊢
   clear hTT
   go_enter Tryz.func61, Tryz.ntmps61
   obtain ⟨x0, x1, x2, x3⟩ := HB0.out.2.1.cells
   go_wp2
   clear x0 x1 x2 x3
   go_loopw [4, 5, 7, 8, 9, 13] (fun sc sd s7 s8 s9 si wr => ∃ (j C D : Nat), j ≤ n ∧ C ≤ most ∧ (1 ≤ C ∧ D ≤ C) ∧ si = .int .i64 (j : Int) ∧ sc = .int .i64 (C : Int) ∧ sd = .int .i64 (D : Int) ∧ Hid (C = min (1 + cntL (ds.take j)) most) ∧ Hid (Boxed w wr (.mk k t ks ds) (.int .i64 k) (.string TT) c2 (.slice A n cap))) (fun _ _ _ _ _ si _ => n - (intOf si).toNat)
   case atStart => exact ⟨0, 1, 1, Nat.zero_le _, by omega, ⟨by omega, by omega⟩, rfl, rfl, rfl, hid (by show 1 = min (1 + 0) most; omega), HB0⟩
   case round =>
    clear HB0
    obtain ⟨j, C, D, hj, hC, ⟨hC1, hD⟩, rfl, rfl, rfl, HCJ, HB⟩ := hrel
    by_cases hlt : j < n
    ·have hjl : j < ds.length := by rw [HN.out]; exact hlt
     have hjz : (j : Int) < (n : Int) := by omega
     obtain ⟨b, o, e0, e1, e2, e3, rfl, hb, y0, y1, y2, y3, hnd⟩ := HB.out.2.2.kid j hjl
     obtain ⟨k', s', a', n', c', A', m', q', rfl, rfl, rfl, rfl⟩ := ndw_shape hnd
     have hal : Below wr.heap.size wr (wr.alloc (.cells #[.int .i64 k', .string s', .slice a' n' c', .slice A' m' q'] 26)) := (Below.refl _ _).alloc (Nat.le_refl _) _
     by_cases hcm : C = most
     ·have HE : Hid (C = min (1 + TOT) most) := hid (by
       have h1 := HCJ.out
       have h2 := cntL_take_le ds j
       have h3 := HT.out
       omega)
      have HB1 := hid (HB.out.go hal)
      have p1 : ((C : Int) == (most : Int)) = true := by rw [beq_iff_eq]; omega
      clear hcm hnd hal
      go_wp2
      refine bodyPost_ret (v := .tuple #[.int .i64 (C : Int), .int .i64 (D : Int)]) (by simp [results, Tryz.results61, go_sem]) rfl ⟨C, D, rfl, HE, hD, HB1.out.1⟩
     ·have hcj := cntL_take_succ hjl
      have hpos := cntT_pos (ds[j]'hjl)
      have hCx : C = 1 + cntL (ds.take j) := by have := HCJ.out; omega
      obtain ⟨ml, hml⟩ : ∃ ml : Nat, most - C = ml := ⟨_, rfl⟩
      have HR := hid (HIH.out (ds[j]'hjl) (by have := cntL_mem (List.getElem_mem hjl); have := HCN.out; omega) ml (by omega) (by omega) _ _ _ _ _ (hnd.below hal))
      have HSM : Hid (∀ z, z = min (cntT (ds[j]'hjl)) ml → C + z = min (1 + cntL (ds.take (j + 1))) most) := hid (by intro z hz; rw [hcj, hz, ← hml, hCx]; omega)
      have HZ : Hid (∀ z, z = min (cntT (ds[j]'hjl)) ml → 1 ≤ z ∧ z ≤ ml) := hid (by intro z hz; omega)
      have HB1 := hid (HB.out.go hal)
      have p1 : ((C : Int) == (most : Int)) = false := by rw [beq_eq_false_iff_ne]; omega
      have p2 : IntKind.i64.wrap ((most : Int) - (C : Int)) = (ml : Int) := by
       have : (most : Int) - (C : Int) = (ml : Int) := by omega
       rw [this]; exact IntWalk.i64_in _ (by omega)
      have HML : Hid (C + ml = most) := hid (by omega)
      clear hnd hcj hpos hCx hml hal hcm
      go_wp2_with fail
      refine HR.out.mono ?_
      rintro e w2 ⟨z, y, rfl, hz, hy, hb2⟩
      have HB2 := hid (HB1.out.go hb2)
      have hz1 := HZ.out z hz.out
      have HS := hid (HSM.out z hz.out)
      have hmm := HML.out
      have hCz : C + z ≤ 1000000 := by omega
      have hyb : y ≤ 1000000 := by omega
      clear hb2 hz
      go_wp2
      exact ⟨⟨j + 1, C + z, max D (y + 1), by omega, by omega, ⟨by omega, by omega⟩, by go_num, by go_num, by go_num, HS, HB2⟩, by simp [intOf]; omega⟩
    ·obtain rfl : j = n := by omega
     have HE : Hid (C = min (1 + TOT) most) := hid (by rw [HCJ.out, List.take_of_length_le (by rw [HN.out]; exact Nat.le_refl _), HT.out])
     go_wp2
     refine bodyPost_ret (v := .tuple #[.int .i64 (C : Int), .int .i64 (D : Int)]) (by simp [results, Tryz.results61, go_sem]) rfl ⟨C, D, rfl, HE, hD, HB.out.1⟩
theorem isWithin_no (d : Nd) (hf : Fine d) (hc : cntT d ≤ 2001) (hn : ¬ (cntT d ≤ 2000 ∧ depT d ≤ 12)) (c0 c1 c2 c3 : Value) (w : World) (hd : NdW w d c0 c1 c2 c3) :
  Calls Tryz.prog 36 #[.agg #[c0, c1, c2, c3], .int .i64 2000, .int .i64 12] w fun e w' => e = .returned (.bool false) ∧ Below w.heap.size w w' := by
 have HB0 := hid (Boxed.make hd)
 have HM := hid (measure_any (cntT d) d (Nat.le_refl _) 2001 (by omega) (by omega) c0 c1 c2 c3 _ HB0.out.2.2)
 obtain ⟨x0, x1, x2, x3⟩ := HB0.out.2.1.cells
 obtain ⟨C, hC⟩ : ∃ C, (cntT d : Int) = C := ⟨_, rfl⟩
 obtain ⟨D, hD⟩ : ∃ D, (depT d : Int) = D := ⟨_, rfl⟩
 rw [hC, hD] at HM
 have hn2 : ¬ C ≤ 2000 ∨ (C ≤ 2000 ∧ ¬ D ≤ 12) := by omega
 clear hd hf hc hn hC hD
 rcases hn2 with h1 | ⟨h1, h2⟩
 ·go_enter Tryz.func36, Tryz.ntmps36
  go_wp2_with fail
  refine HM.out.mono ?_
  rintro e w2 ⟨rfl, hb2⟩
  go_wp2
  go_ret
  exact ⟨rfl, (HB0.out.go hb2).1⟩
 ·go_enter Tryz.func36, Tryz.ntmps36
  go_wp2_with fail
  refine HM.out.mono ?_
  rintro e w2 ⟨rfl, hb2⟩
  go_wp2
  go_ret
  exact ⟨rfl, (HB0.out.go hb2).1⟩
theorem isWithin_great (d : Nd) (hn : 2001 < cntT d) (c0 c1 c2 c3 : Value) (w : World) (hd : NdW w d c0 c1 c2 c3) :
  Calls Tryz.prog 36 #[.agg #[c0, c1, c2, c3], .int .i64 2000, .int .i64 12] w fun e w' => e = .returned (.bool false) ∧ Below w.heap.size w w' := by
 have HB0 := hid (Boxed.make hd)
 have hm := measure_cut (cntT d) d (Nat.le_refl _) 2001 (by omega) (by omega) c0 c1 c2 c3 _ HB0.out.2.2
 have HM : Hid (Calls Tryz.prog 61 #[.agg #[c0, c1, c2, c3], .int .i64 2001] (w.alloc (.cells #[c0, c1, c2, c3] 26)) fun e w' => ∃ D : Int, e = .returned (.tuple #[.int .i64 2001, .int .i64 D]) ∧ Below (w.alloc (.cells #[c0, c1, c2, c3] 26)).heap.size (w.alloc (.cells #[c0, c1, c2, c3] 26)) w') := hid (hm.mono fun e w' ⟨C, D, h1, h2, h3, h4⟩ => ⟨D, by
  have : C = 2001 := by have := h2.out; omega
  rw [h1, this]; rfl, h4⟩)
 obtain ⟨x0, x1, x2, x3⟩ := HB0.out.2.1.cells
 clear hd hn hm
 go_enter Tryz.func36, Tryz.ntmps36
 go_wp2_with fail
 refine HM.out.mono ?_
 rintro e w2 ⟨D, rfl, hb2⟩
 go_wp2
 go_ret
 exact ⟨rfl, (HB0.out.go hb2).1⟩
theorem Right_gen (d : Nd) (hf : Fine d) (r : Bool) (hr : okT 2000 d = r) (c0 c1 c2 c3 : Value) (w : World) (hd : NdW w d c0 c1 c2 c3) :
  Calls Tryz.prog 18 #[.agg #[c0, c1, c2, c3]] w fun e w' => e = .returned (.bool r) ∧ Below w.heap.size w w' := by
 cases r with
 | true =>
  obtain ⟨-, h1, h2⟩ := (ok_iff (most := 2000)).1 hr
  exact Right_any d hf h1 h2 c0 c1 c2 c3 w hd
 | false =>
  have hn : ¬ (cntT d ≤ 2000 ∧ depT d ≤ 12) := fun h => by
   have : okT 2000 d = true := (ok_iff (most := 2000)).2 ⟨hf, h.1, h.2⟩
   rw [this] at hr; cases hr
  have HB0 := hid (Boxed.make hd)
  have HM := hid (show Calls Tryz.prog 36 #[.agg #[c0, c1, c2, c3], .int .i64 2000, .int .i64 12] (w.alloc (.cells #[c0, c1, c2, c3] 26)) fun e w' => e = .returned (.bool false) ∧ Below (w.alloc (.cells #[c0, c1, c2, c3] 26)).heap.size (w.alloc (.cells #[c0, c1, c2, c3] 26)) w' from by
   by_cases hc : cntT d ≤ 2001
   ·exact isWithin_no d hf hc hn c0 c1 c2 c3 _ HB0.out.2.2
   ·exact isWithin_great d (by omega) c0 c1 c2 c3 _ HB0.out.2.2)
  obtain ⟨x0, x1, x2, x3⟩ := HB0.out.2.1.cells
  clear hd hf hn hr
  go_enter Tryz.func18, Tryz.ntmps18
  go_wp2_with (go_at_call 36; refine HM.out.mono ?_; rintro e w2 ⟨rfl, hb2⟩)
  go_ret
  exact ⟨rfl, (HB0.out.go hb2).1⟩
end
end Go.Proofs.YtecglpocmhkkiaaGreatDoor
