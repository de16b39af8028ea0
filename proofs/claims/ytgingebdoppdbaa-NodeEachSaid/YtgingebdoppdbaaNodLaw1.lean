/- NodeTells: the walk of the law. -/
import Derived.Test.YtgingebdoppdbaaNodAwake
import Derived.Test.YtgingebdoppdbaaRefLess
namespace Go.Proofs.Ytgingebdoppdbaa
open Go.RowKit Go.Sort
open Nw N8 Go.ChangeShapes Go.WideShapes
set_option linter.unusedVariables false
/-- A box with a node in it, wherever it lies. -/
def BN (W : World) (g : Nat) (d : Nd) (c0 c1 c2 c3 : Value) : Prop := Row4 W g 25 c0 c1 c2 c3 ∧ NdW W d c0 c1 c2 c3
theorem BN.go {W W' : World} {g : Nat} {d : Nd} {c0 c1 c2 c3 : Value} (h : BN W g d c0 c1 c2 c3) (hb : Below W.heap.size W W') : BN W' g d c0 c1 c2 c3 := ⟨h.1.below hb h.1.lt, h.2.below hb⟩
theorem bn_make {w : World} {d : Nd} {c0 c1 c2 c3 : Value} (h : NdW w d c0 c1 c2 c3) : BN (w.alloc (.cells #[c0, c1, c2, c3] 25)) w.heap.size d c0 c1 c2 c3 :=
  ⟨Row4.make w _ _ _ _ _, h.below ((Below.refl _ _).alloc (Nat.le_refl _) _)⟩
theorem below_al (w : World) (o : Obj) : Below w.heap.size w (w.alloc o) := (Below.refl _ _).alloc (Nat.le_refl _) _
theorem small_fine {d : Nd} {most : Int} (h : smallT d most = true) : Fine d ∧ (cntT d : Int) ≤ most := by
  unfold smallT at h
  rw [Bool.and_eq_true] at h
  exact ⟨ok_fine h.1, ok_cnt h.1⟩
/-- What Get and At give, with all blocks. -/
theorem GotN.all {w : World} {o : Option Nd} {e : Ending} {w' : World} (h : GotN (· < w.heap.size) w o e w') : ∃ e0 e1 e2 e3, e = .returned (.tuple #[.agg #[e0, e1, e2, e3], .bool o.isSome]) ∧ Below w.heap.size w w' ∧ NdW w' (o.getD nul) e0 e1 e2 e3 := by
  obtain ⟨e0, e1, e2, e3, h1, h2, h3⟩ := h
  exact ⟨e0, e1, e2, e3, h1, h2, h3.all fun b hb => Nat.lt_of_lt_of_le hb h2.size⟩
theorem RSame_yes (d : Nd) {c0 c1 c2 c3 u0 u1 u2 u3 : Value} {w : World} (h : NdW w d c0 c1 c2 c3) (g : NdW w d u0 u1 u2 u3) :
    Calls Try.prog 12 #[.agg #[c0, c1, c2, c3], .agg #[u0, u1, u2, u3]] w fun x w' => x = .returned (.bool true) ∧ Below w.heap.size w w' :=
  RSameT_any (cntT d) d d (Nat.le_refl _) true (sameT_refl _ d (Nat.le_refl _)) c0 c1 c2 c3 u0 u1 u2 u3 w h g
theorem BN.nd {W : World} {g : Nat} {d : Nd} {c0 c1 c2 c3 : Value} (h : BN W g d c0 c1 c2 c3) : NdW W d c0 c1 c2 c3 := h.2
theorem RSame_gen {d e : Nd} {r : Bool} {c0 c1 c2 c3 u0 u1 u2 u3 : Value} {w : World} (h : NdW w d c0 c1 c2 c3) (g : NdW w e u0 u1 u2 u3) (hr : sameT d e = r) :
    Calls Try.prog 12 #[.agg #[c0, c1, c2, c3], .agg #[u0, u1, u2, u3]] w fun x w' => x = .returned (.bool r) ∧ Below w.heap.size w w' :=
  RSameT_any (cntT d) d e (Nat.le_refl _) r hr c0 c1 c2 c3 u0 u1 u2 u3 w h g
theorem Same_gen {d e : Nd} {r : Bool} {c0 c1 c2 c3 u0 u1 u2 u3 : Value} {w : World} (hc : cntT d ≤ 65536) (h : NdW w d c0 c1 c2 c3) (g : NdW w e u0 u1 u2 u3) (hr : sameT d e = r) :
    Calls Try.prog 17 #[.agg #[c0, c1, c2, c3], .agg #[u0, u1, u2, u3]] w fun x w' => x = .returned (.bool r) ∧ Below w.heap.size w w' :=
  Same_node d e hc r hr c0 c1 c2 c3 u0 u1 u2 u3 w h g
theorem same_self (d : Nd) : sameT d d = true := sameT_refl _ d (Nat.le_refl _)
theorem below3 {w w1 w2 : World} (h : Below w.heap.size w w1) (g : Below w1.heap.size w1 w2) : Below w.heap.size w w2 := h.trans (g.mono h.size)
theorem hbpick {W W' : World} {g : Nat} {d : Nd} {c0 c1 c2 c3 : Value} (_ : BN W g d c0 c1 c2 c3) (hb : Below W.heap.size W W') : Below W.heap.size W W' := hb
theorem kd_two2 {w : World} {o : Obj} {d d' : Nd} {a b c e a' b' c' e' : Value} (h : NdW w d a b c e) (h' : NdW w d' a' b' c' e') : Kd ((w.alloc o).alloc (.cells #[a, b, c, e, a', b', c', e'] 25)) (.slice (some ⟨w.heap.size + 1, 0, none⟩) 2 2) [d, d'] := by
  have := kd_two (h.below (below_al w o)) (h'.below (below_al w o))
  rwa [show (w.alloc o).heap.size = w.heap.size + 1 by simp] at this
theorem keep8 {W : World} {o : Obj} {p0 p1 p2 p3 p4 p5 p6 p7 : Addr} {v0 v1 v2 v3 v4 v5 v6 v7 : Value} (h : W.cell? p0 = some v0 ∧ W.cell? p1 = some v1 ∧ W.cell? p2 = some v2 ∧ W.cell? p3 = some v3 ∧ W.cell? p4 = some v4 ∧ W.cell? p5 = some v5 ∧ W.cell? p6 = some v6 ∧ W.cell? p7 = some v7) :
    (W.alloc o).cell? p0 = some v0 ∧ (W.alloc o).cell? p1 = some v1 ∧ (W.alloc o).cell? p2 = some v2 ∧ (W.alloc o).cell? p3 = some v3 ∧ (W.alloc o).cell? p4 = some v4 ∧ (W.alloc o).cell? p5 = some v5 ∧ (W.alloc o).cell? p6 = some v6 ∧ (W.alloc o).cell? p7 = some v7 :=
  ⟨cells_alloc h.1, cells_alloc h.2.1, cells_alloc h.2.2.1, cells_alloc h.2.2.2.1, cells_alloc h.2.2.2.2.1, cells_alloc h.2.2.2.2.2.1, cells_alloc h.2.2.2.2.2.2.1, cells_alloc h.2.2.2.2.2.2.2⟩
set_option maxRecDepth 100000 in
set_option maxHeartbeats 16000000 in
theorem NodeTells_walk (n v : Nd) (key : ByteArray) (path : List L8) (pv : Value) (c0 c1 c2 c3 u0 u1 u2 u3 : Value) (w : World) (hn : NdW w n c0 c1 c2 c3) (hv : NdW w v u0 u1 u2 u3) (hp : Rd w pv path) (hx : ∀ x ∈ path, x.length ≤ maxLen) :
    Calls Try.prog 3 #[.agg #[c0, c1, c2, c3], .agg #[u0, u1, u2, u3], .string key, pv] w fun e w' => e = .returned (.bool true) ∧ Below w.heap.size w w' := by
  have hb2 := Boxed2.make hn hv
  obtain ⟨nk, ns, na, nn, nc, nA, nm, nq, rfl, rfl, rfl, rfl⟩ := hn.shape
  obtain ⟨vk, vs, va, vn, vc, vA, vm, vq, rfl, rfl, rfl, rfl⟩ := hv.shape
  obtain ⟨pa, pc, rfl, hpc, hpm⟩ := rd_slice hp
  have HBn : Hid (BN _ w.heap.size n (.int .i64 nk) (.string ns) (.slice na nn nc) (.slice nA nm nq)) := Lib.hid ⟨hb2.2.1, hb2.2.2.2.1⟩
  have HBv : Hid (BN _ (w.heap.size + 1) v (.int .i64 vk) (.string vs) (.slice va vn vc) (.slice vA vm vq)) := Lib.hid ⟨hb2.2.2.1, hb2.2.2.2.2⟩
  have HBW := Lib.hid hb2.1
  have HP := Lib.hid hp
  have HX := Lib.hid hx
  have HSn := Lib.hid (fun W r hr hW => RSmall_any n 300 (by decide) (by decide) r hr (.int .i64 nk) (.string ns) (.slice na nn nc) (.slice nA nm nq) W hW)
  have HSv := Lib.hid (fun W r hr hW => RSmall_any v 300 (by decide) (by decide) r hr (.int .i64 vk) (.string vs) (.slice va vn vc) (.slice vA vm vq) W hW)
  unfold maxLen at hpm
  obtain ⟨L, hL⟩ : ∃ L, path.length = L := ⟨_, rfl⟩
  have HL := Lib.hid hL
  rw [hL] at HP hpc ⊢
  clear hb2 hn hv hp hx hL
  generalize hW0 : (w.alloc (.cells #[.int .i64 nk, .string ns, .slice na nn nc, .slice nA nm nq] 25)).alloc (.cells #[.int .i64 vk, .string vs, .slice va vn vc, .slice vA vm vq] 25) = W0 at *
  obtain ⟨x0, x1, x2, x3⟩ := HBn.out.1.cells
  cases hsn : smallT n 300 with
  | false =>
    go_enter Try.func3, Try.ntmps3
    go_wp2_with fail
    refine (HSn.out _ false hsn HBn.out.2).mono ?_
    rintro e w1 ⟨rfl, hb1⟩
    have HB1 := Lib.hid (below3 HBW.out hb1)
    clear hb1
    go_wp2_with fail
    refine (awake_any _).mono ?_
    rintro e w2 ⟨rfl, hb2⟩
    go_wp2
    go_ret
    exact ⟨rfl, below3 HB1.out hb2⟩
  | true =>
  have HSN := Lib.hid hsn
  cases hsv : smallT v 300 with
  | false =>
    go_enter Try.func3, Try.ntmps3
    go_wp2_with fail
    refine (HSn.out _ true HSN.out HBn.out.2).mono ?_
    rintro e w1 ⟨rfl, hb1⟩
    have HB1 := Lib.hid (below3 HBW.out hb1)
    replace HBv := Lib.hid (HBv.out.go hb1)
    clear hb1 x0 x1 x2 x3
    obtain ⟨y0, y1, y2, y3⟩ := HBv.out.1.cells
    go_wp2_with fail
    refine (HSv.out _ false hsv HBv.out.2).mono ?_
    rintro e w2 ⟨rfl, hb2⟩
    have HB2 := Lib.hid (below3 HB1.out hb2)
    clear hb2
    go_wp2_with fail
    refine (awake_any _).mono ?_
    rintro e w3 ⟨rfl, hb3⟩
    go_wp2
    go_ret
    exact ⟨rfl, below3 HB2.out hb3⟩
  | true =>
  have HSV := Lib.hid hsv
  clear hsn hsv
  by_cases hL20 : (20 : Int) < (L : Int)
  · go_enter Try.func3, Try.ntmps3
    go_wp2_with fail
    refine (HSn.out _ true HSN.out HBn.out.2).mono ?_
    rintro e w1 ⟨rfl, hb1⟩
    have HB1 := Lib.hid (below3 HBW.out hb1)
    replace HBv := Lib.hid (HBv.out.go hb1)
    clear hb1 x0 x1 x2 x3
    obtain ⟨y0, y1, y2, y3⟩ := HBv.out.1.cells
    go_wp2_with fail
    refine (HSv.out _ true HSV.out HBv.out.2).mono ?_
    rintro e w2 ⟨rfl, hb2⟩
    have HB2 := Lib.hid (below3 HB1.out hb2)
    clear hb2
    go_wp2_with fail
    refine (awake_any _).mono ?_
    rintro e w3 ⟨rfl, hb3⟩
    go_wp2
    go_ret
    exact ⟨rfl, below3 HB2.out hb3⟩
  · have HF := Lib.hid (small_fine HSN.out)
    have HFV := Lib.hid (small_fine HSV.out)
    have HG := Lib.hid (fun W hW => Get_any (· < W.heap.size) n key (fine_keys HF.out.1) _ rfl (.int .i64 nk) (.string ns) (.slice na nn nc) (.slice nA nm nq) W (fun b hb => hb) hW)
    have HRG := Lib.hid (fun W hW => RGet_any (· < W.heap.size) n key (fine_keys HF.out.1) _ rfl (.int .i64 nk) (.string ns) (.slice na nn nc) (.slice nA nm nq) W (fun b hb => hb) hW)
    have HA := Lib.hid (fun W hp hW => At_node n path HF.out.1 (by have := HF.out.2; omega) _ rfl (.slice pa L pc) (.int .i64 nk) (.string ns) (.slice na nn nc) (.slice nA nm nq) W hp HX.out hW)
    have HRA := Lib.hid (fun W hp hW => RAt_any n path HF.out.1 _ rfl (.slice pa L pc) (.int .i64 nk) (.string ns) (.slice na nn nc) (.slice nA nm nq) W hp HX.out hW)
    obtain ⟨go1, hgo1⟩ : ∃ o, getT n key.data.toList = o := ⟨_, rfl⟩
    obtain ⟨ao1, hao1⟩ : ∃ o, atT n path = o := ⟨_, rfl⟩
    rw [hgo1] at HG HRG
    rw [hao1] at HA HRA
    clear hgo1 hao1
    obtain ⟨G1, hG1⟩ : ∃ G, go1.isSome = G := ⟨_, rfl⟩
    obtain ⟨A1, hA1⟩ : ∃ G, ao1.isSome = G := ⟨_, rfl⟩
    have HG1 := Lib.hid hG1
    have HA1 := Lib.hid hA1
    clear hG1 hA1 HX
    go_enter Try.func3, Try.ntmps3
    go_wp2_with fail
    refine (HSn.out _ true HSN.out HBn.out.2).mono ?_
    rintro e w1 ⟨rfl, hb1⟩
    replace HBW := Lib.hid (below3 HBW.out hb1)
    replace HBn := Lib.hid (HBn.out.go hb1)
    replace HBv := Lib.hid (HBv.out.go hb1)
    clear hb1 x0 x1 x2 x3
    obtain ⟨y0, y1, y2, y3⟩ := HBv.out.1.cells
    go_wp2_with fail
    refine (HSv.out _ true HSV.out HBv.out.2).mono ?_
    rintro e w2 ⟨rfl, hb2⟩
    replace HBW := Lib.hid (below3 HBW.out hb2)
    replace HBn := Lib.hid (HBn.out.go hb2)
    replace HBv := Lib.hid (HBv.out.go hb2)
    clear hb2 y0 y1 y2 y3
    obtain ⟨x0, x1, x2, x3⟩ := HBn.out.1.cells
    go_wp2_with fail
    refine (HG.out _ HBn.out.2).mono ?_
    rintro e w3 hg3
    obtain ⟨z0, z1, z2, z3, rfl, hb3, hn3⟩ := hg3.all
    obtain ⟨a_k, a_s, a_a, a_n, a_c, a_A, a_m, a_q, rfl, rfl, rfl, rfl⟩ := hn3.shape
    replace HBW := Lib.hid (below3 (below3 HBW.out hb3) (below_al _ (.cells #[.int .i64 a_k, .string a_s, .slice a_a a_n a_c, .slice a_A a_m a_q] 25)))
    replace HBn := Lib.hid ((HBn.out.go hb3).go (below_al _ (.cells #[.int .i64 a_k, .string a_s, .slice a_a a_n a_c, .slice a_A a_m a_q] 25)))
    replace HBv := Lib.hid ((HBv.out.go hb3).go (below_al _ (.cells #[.int .i64 a_k, .string a_s, .slice a_a a_n a_c, .slice a_A a_m a_q] 25)))
    have HBa := Lib.hid (bn_make hn3)
    clear hg3 hb3 hn3 x0 x1 x2 x3
    rw [HG1.out]
    obtain ⟨x0, x1, x2, x3⟩ := HBn.out.1.cells
    go_wp2_with fail
    generalize w3.alloc (.cells #[.int .i64 a_k, .string a_s, .slice a_a a_n a_c, .slice a_A a_m a_q] 25) = W3 at *
    generalize w3.heap.size = ga at *
    refine (HRG.out _ HBn.out.2).mono ?_
    rintro e w4 hg4
    obtain ⟨z0, z1, z2, z3, rfl, hb4, hn4⟩ := hg4.all
    obtain ⟨b_k, b_s, b_a, b_n, b_c, b_A, b_m, b_q, rfl, rfl, rfl, rfl⟩ := hn4.shape
    replace HBW := Lib.hid (below3 (below3 HBW.out hb4) (below_al _ (.cells #[.int .i64 b_k, .string b_s, .slice b_a b_n b_c, .slice b_A b_m b_q] 25)))
    replace HBn := Lib.hid ((HBn.out.go hb4).go (below_al _ (.cells #[.int .i64 b_k, .string b_s, .slice b_a b_n b_c, .slice b_A b_m b_q] 25)))
    replace HBv := Lib.hid ((HBv.out.go hb4).go (below_al _ (.cells #[.int .i64 b_k, .string b_s, .slice b_a b_n b_c, .slice b_A b_m b_q] 25)))
    replace HBa := Lib.hid ((HBa.out.go hb4).go (below_al _ (.cells #[.int .i64 b_k, .string b_s, .slice b_a b_n b_c, .slice b_A b_m b_q] 25)))
    have HBb := Lib.hid (bn_make hn4)
    clear hg4 hb4 hn4 x0 x1 x2 x3
    rw [HG1.out]
    obtain ⟨x0, x1, x2, x3⟩ := HBn.out.1.cells
    go_wp2_with fail
    generalize w4.alloc (.cells #[.int .i64 b_k, .string b_s, .slice b_a b_n b_c, .slice b_A b_m b_q] 25) = W4 at *
    generalize w4.heap.size = gb at *
    refine (HA.out _ (HP.out.below HBW.out) HBn.out.2).mono ?_
    rintro e w5 hg5
    obtain ⟨z0, z1, z2, z3, rfl, hb5, hn5⟩ := hg5.all
    obtain ⟨c_k, c_s, c_a, c_n, c_c, c_A, c_m, c_q, rfl, rfl, rfl, rfl⟩ := hn5.shape
    replace HBW := Lib.hid (below3 (below3 HBW.out hb5) (below_al _ (.cells #[.int .i64 c_k, .string c_s, .slice c_a c_n c_c, .slice c_A c_m c_q] 25)))
    replace HBn := Lib.hid ((HBn.out.go hb5).go (below_al _ (.cells #[.int .i64 c_k, .string c_s, .slice c_a c_n c_c, .slice c_A c_m c_q] 25)))
    replace HBv := Lib.hid ((HBv.out.go hb5).go (below_al _ (.cells #[.int .i64 c_k, .string c_s, .slice c_a c_n c_c, .slice c_A c_m c_q] 25)))
    replace HBa := Lib.hid ((HBa.out.go hb5).go (below_al _ (.cells #[.int .i64 c_k, .string c_s, .slice c_a c_n c_c, .slice c_A c_m c_q] 25)))
    replace HBb := Lib.hid ((HBb.out.go hb5).go (below_al _ (.cells #[.int .i64 c_k, .string c_s, .slice c_a c_n c_c, .slice c_A c_m c_q] 25)))
    have HBc := Lib.hid (bn_make hn5)
    clear hg5 hb5 hn5 x0 x1 x2 x3
    rw [HA1.out]
    obtain ⟨x0, x1, x2, x3⟩ := HBn.out.1.cells
    go_wp2_with fail
    generalize w5.alloc (.cells #[.int .i64 c_k, .string c_s, .slice c_a c_n c_c, .slice c_A c_m c_q] 25) = W5 at *
    generalize w5.heap.size = gc at *
    refine (HRA.out _ (HP.out.below HBW.out) HBn.out.2).mono ?_
    rintro e w6 hg6
    obtain ⟨z0, z1, z2, z3, rfl, hb6, hn6⟩ := hg6.all
    obtain ⟨d_k, d_s, d_a, d_n, d_c, d_A, d_m, d_q, rfl, rfl, rfl, rfl⟩ := hn6.shape
    replace HBW := Lib.hid (below3 (below3 HBW.out hb6) (below_al _ (.cells #[.int .i64 d_k, .string d_s, .slice d_a d_n d_c, .slice d_A d_m d_q] 25)))
    replace HBn := Lib.hid ((HBn.out.go hb6).go (below_al _ (.cells #[.int .i64 d_k, .string d_s, .slice d_a d_n d_c, .slice d_A d_m d_q] 25)))
    replace HBv := Lib.hid ((HBv.out.go hb6).go (below_al _ (.cells #[.int .i64 d_k, .string d_s, .slice d_a d_n d_c, .slice d_A d_m d_q] 25)))
    replace HBa := Lib.hid ((HBa.out.go hb6).go (below_al _ (.cells #[.int .i64 d_k, .string d_s, .slice d_a d_n d_c, .slice d_A d_m d_q] 25)))
    replace HBb := Lib.hid ((HBb.out.go hb6).go (below_al _ (.cells #[.int .i64 d_k, .string d_s, .slice d_a d_n d_c, .slice d_A d_m d_q] 25)))
    replace HBc := Lib.hid ((HBc.out.go hb6).go (below_al _ (.cells #[.int .i64 d_k, .string d_s, .slice d_a d_n d_c, .slice d_A d_m d_q] 25)))
    have HBd := Lib.hid (bn_make hn6)
    clear hg6 hb6 hn6 x0 x1 x2 x3
    rw [HA1.out]
    go_upto_region 7 with fail
    generalize w6.alloc (.cells #[.int .i64 d_k, .string d_s, .slice d_a d_n d_c, .slice d_A d_m d_q] 25) = W6 at *
    generalize w6.heap.size = gd at *
    replace HBW := Lib.hid (below3 HBW.out (below_drew W6))
    replace HBn := Lib.hid (HBn.out.go (below_drew W6))
    replace HBv := Lib.hid (HBv.out.go (below_drew W6))
    replace HBa := Lib.hid (HBa.out.go (below_drew W6))
    replace HBb := Lib.hid (HBb.out.go (below_drew W6))
    replace HBc := Lib.hid (HBc.out.go (below_drew W6))
    replace HBd := Lib.hid (HBd.out.go (below_drew W6))
    have hn1 : cntT n ≤ 300 := by have := HF.out.2; omega
    have hv1 : cntT v ≤ 300 := by have := HFV.out.2; omega
    have HCt := Lib.hid (fun W hW => Count_any n (by omega) (.int .i64 nk) (.string ns) (.slice na nn nc) (.slice nA nm nq) W hW)
    have HRCt := Lib.hid (fun W hW => RCountT_any (cntT n) n (Nat.le_refl _) (by omega) (.int .i64 nk) (.string ns) (.slice na nn nc) (.slice nA nm nq) W hW)
    have HDp := Lib.hid (fun W hW => Deep_any n (by omega) (.int .i64 nk) (.string ns) (.slice na nn nc) (.slice nA nm nq) W hW)
    have HRDp := Lib.hid (fun W hW => RDeep_any (cntT n) n (Nat.le_refl _) (by omega) (.int .i64 nk) (.string ns) (.slice na nn nc) (.slice nA nm nq) W hW)
    have HN1 := Lib.hid hn1
    have HKN : Hid (n.kids.length ≤ 10000) := Lib.hid (by have := kids_cnt n; omega)
    have HWI := Lib.hid (fun W hW hW' => With_any n v key HF.out.1 HKN.out (.int .i64 nk) (.string ns) (.slice na nn nc) (.slice nA nm nq) (.int .i64 vk) (.string vs) (.slice va vn vc) (.slice vA vm vq) W hW hW')
    have HRWI := Lib.hid (fun W hW hW' => RWith_any n v key HF.out.1 HKN.out (.int .i64 nk) (.string ns) (.slice na nn nc) (.slice nA nm nq) (.int .i64 vk) (.string vs) (.slice va vn vc) (.slice vA vm vq) W hW hW')
    have HLE := Lib.hid (fun W hW => Less_any n key HF.out.1 HKN.out (.int .i64 nk) (.string ns) (.slice na nn nc) (.slice nA nm nq) W hW)
    have HRLE := Lib.hid (fun W hW => RLess_any n key HF.out.1 HKN.out (.int .i64 nk) (.string ns) (.slice na nn nc) (.slice nA nm nq) W hW)
    clear hn1 hv1 HG HRG HA HRA HSn HSv HSN HSV HP hW0
    obtain ⟨C, hC⟩ : ∃ C : Int, (cntT n : Int) = C := ⟨_, rfl⟩
    rw [hC] at HCt HRCt
    obtain ⟨D, hD⟩ : ∃ D : Int, (depT n : Int) = D := ⟨_, rfl⟩
    rw [hD] at HDp HRDp
    obtain ⟨SB, hSB⟩ : ∃ B, sameT n v = B := ⟨_, rfl⟩
    have HSB := Lib.hid hSB
    clear hC hD hSB
    have pC : (C != C) = false := by simp
    have pD : (D != D) = false := by simp
    have pS : (SB != SB) = false := by simp
    have pG : (G1 != G1) = false := by simp
    have pA : (A1 != A1) = false := by simp
    have hS : W6.drew.cell? ⟨w.heap.size, 0, none⟩ = some (.int .i64 nk) ∧ W6.drew.cell? ⟨w.heap.size, 1, none⟩ = some (.string ns) ∧ W6.drew.cell? ⟨w.heap.size, 2, none⟩ = some (.slice na nn nc) ∧ W6.drew.cell? ⟨w.heap.size, 3, none⟩ = some (.slice nA nm nq) ∧ W6.drew.cell? ⟨(w.heap.size + 1), 0, none⟩ = some (.int .i64 vk) ∧ W6.drew.cell? ⟨(w.heap.size + 1), 1, none⟩ = some (.string vs) ∧ W6.drew.cell? ⟨(w.heap.size + 1), 2, none⟩ = some (.slice va vn vc) ∧ W6.drew.cell? ⟨(w.heap.size + 1), 3, none⟩ = some (.slice vA vm vq) ∧ W6.drew.cell? ⟨ga, 0, none⟩ = some (.int .i64 a_k) ∧ W6.drew.cell? ⟨ga, 1, none⟩ = some (.string a_s) ∧ W6.drew.cell? ⟨ga, 2, none⟩ = some (.slice a_a a_n a_c) ∧ W6.drew.cell? ⟨ga, 3, none⟩ = some (.slice a_A a_m a_q) ∧ W6.drew.cell? ⟨gb, 0, none⟩ = some (.int .i64 b_k) ∧ W6.drew.cell? ⟨gb, 1, none⟩ = some (.string b_s) ∧ W6.drew.cell? ⟨gb, 2, none⟩ = some (.slice b_a b_n b_c) ∧ W6.drew.cell? ⟨gb, 3, none⟩ = some (.slice b_A b_m b_q) ∧ W6.drew.cell? ⟨gc, 0, none⟩ = some (.int .i64 c_k) ∧ W6.drew.cell? ⟨gc, 1, none⟩ = some (.string c_s) ∧ W6.drew.cell? ⟨gc, 2, none⟩ = some (.slice c_a c_n c_c) ∧ W6.drew.cell? ⟨gc, 3, none⟩ = some (.slice c_A c_m c_q) ∧ W6.drew.cell? ⟨gd, 0, none⟩ = some (.int .i64 d_k) ∧ W6.drew.cell? ⟨gd, 1, none⟩ = some (.string d_s) ∧ W6.drew.cell? ⟨gd, 2, none⟩ = some (.slice d_a d_n d_c) ∧ W6.drew.cell? ⟨gd, 3, none⟩ = some (.slice d_A d_m d_q) := ⟨HBn.out.1.cells.1, HBn.out.1.cells.2.1, HBn.out.1.cells.2.2.1, HBn.out.1.cells.2.2.2, HBv.out.1.cells.1, HBv.out.1.cells.2.1, HBv.out.1.cells.2.2.1, HBv.out.1.cells.2.2.2, HBa.out.1.cells.1, HBa.out.1.cells.2.1, HBa.out.1.cells.2.2.1, HBa.out.1.cells.2.2.2, HBb.out.1.cells.1, HBb.out.1.cells.2.1, HBb.out.1.cells.2.2.1, HBb.out.1.cells.2.2.2, HBc.out.1.cells.1, HBc.out.1.cells.2.1, HBc.out.1.cells.2.2.1, HBc.out.1.cells.2.2.2, HBd.out.1.cells.1, HBd.out.1.cells.2.1, HBd.out.1.cells.2.2.1, HBd.out.1.cells.2.2.2⟩
    go_region_held3 (fun W => W.cell? ⟨w.heap.size, 0, none⟩ = some (.int .i64 nk) ∧ W.cell? ⟨w.heap.size, 1, none⟩ = some (.string ns) ∧ W.cell? ⟨w.heap.size, 2, none⟩ = some (.slice na nn nc) ∧ W.cell? ⟨w.heap.size, 3, none⟩ = some (.slice nA nm nq) ∧ W.cell? ⟨(w.heap.size + 1), 0, none⟩ = some (.int .i64 vk) ∧ W.cell? ⟨(w.heap.size + 1), 1, none⟩ = some (.string vs) ∧ W.cell? ⟨(w.heap.size + 1), 2, none⟩ = some (.slice va vn vc) ∧ W.cell? ⟨(w.heap.size + 1), 3, none⟩ = some (.slice vA vm vq) ∧ W.cell? ⟨ga, 0, none⟩ = some (.int .i64 a_k) ∧ W.cell? ⟨ga, 1, none⟩ = some (.string a_s) ∧ W.cell? ⟨ga, 2, none⟩ = some (.slice a_a a_n a_c) ∧ W.cell? ⟨ga, 3, none⟩ = some (.slice a_A a_m a_q) ∧ W.cell? ⟨gb, 0, none⟩ = some (.int .i64 b_k) ∧ W.cell? ⟨gb, 1, none⟩ = some (.string b_s) ∧ W.cell? ⟨gb, 2, none⟩ = some (.slice b_a b_n b_c) ∧ W.cell? ⟨gb, 3, none⟩ = some (.slice b_A b_m b_q) ∧ W.cell? ⟨gc, 0, none⟩ = some (.int .i64 c_k) ∧ W.cell? ⟨gc, 1, none⟩ = some (.string c_s) ∧ W.cell? ⟨gc, 2, none⟩ = some (.slice c_a c_n c_c) ∧ W.cell? ⟨gc, 3, none⟩ = some (.slice c_A c_m c_q) ∧ W.cell? ⟨gd, 0, none⟩ = some (.int .i64 d_k) ∧ W.cell? ⟨gd, 1, none⟩ = some (.string d_s) ∧ W.cell? ⟨gd, 2, none⟩ = some (.slice d_a d_n d_c) ∧ W.cell? ⟨gd, 3, none⟩ = some (.slice d_A d_m d_q)) (first | exact hS | assumption)
      (first
        | (go_at_call 12; refine (RSame_gen (by first | with_reducible exact HBa.out.nd | with_reducible exact HBc.out.nd | with_reducible exact HBn.out.nd) (by first | with_reducible exact HBb.out.nd | with_reducible exact HBd.out.nd | with_reducible exact HBv.out.nd) (by first | exact same_self _ | exact HSB.out)).mono ?_; rintro e9 w9 ⟨rfl, hb⟩; replace HBW := Lib.hid (below3 HBW.out hb); replace HBn := Lib.hid (HBn.out.go hb); replace HBv := Lib.hid (HBv.out.go hb); replace HBa := Lib.hid (HBa.out.go hb); replace HBb := Lib.hid (HBb.out.go hb); replace HBc := Lib.hid (HBc.out.go hb); replace HBd := Lib.hid (HBd.out.go hb); (try clear hS); have hS : w9.cell? ⟨w.heap.size, 0, none⟩ = some (.int .i64 nk) ∧ w9.cell? ⟨w.heap.size, 1, none⟩ = some (.string ns) ∧ w9.cell? ⟨w.heap.size, 2, none⟩ = some (.slice na nn nc) ∧ w9.cell? ⟨w.heap.size, 3, none⟩ = some (.slice nA nm nq) ∧ w9.cell? ⟨(w.heap.size + 1), 0, none⟩ = some (.int .i64 vk) ∧ w9.cell? ⟨(w.heap.size + 1), 1, none⟩ = some (.string vs) ∧ w9.cell? ⟨(w.heap.size + 1), 2, none⟩ = some (.slice va vn vc) ∧ w9.cell? ⟨(w.heap.size + 1), 3, none⟩ = some (.slice vA vm vq) ∧ w9.cell? ⟨ga, 0, none⟩ = some (.int .i64 a_k) ∧ w9.cell? ⟨ga, 1, none⟩ = some (.string a_s) ∧ w9.cell? ⟨ga, 2, none⟩ = some (.slice a_a a_n a_c) ∧ w9.cell? ⟨ga, 3, none⟩ = some (.slice a_A a_m a_q) ∧ w9.cell? ⟨gb, 0, none⟩ = some (.int .i64 b_k) ∧ w9.cell? ⟨gb, 1, none⟩ = some (.string b_s) ∧ w9.cell? ⟨gb, 2, none⟩ = some (.slice b_a b_n b_c) ∧ w9.cell? ⟨gb, 3, none⟩ = some (.slice b_A b_m b_q) ∧ w9.cell? ⟨gc, 0, none⟩ = some (.int .i64 c_k) ∧ w9.cell? ⟨gc, 1, none⟩ = some (.string c_s) ∧ w9.cell? ⟨gc, 2, none⟩ = some (.slice c_a c_n c_c) ∧ w9.cell? ⟨gc, 3, none⟩ = some (.slice c_A c_m c_q) ∧ w9.cell? ⟨gd, 0, none⟩ = some (.int .i64 d_k) ∧ w9.cell? ⟨gd, 1, none⟩ = some (.string d_s) ∧ w9.cell? ⟨gd, 2, none⟩ = some (.slice d_a d_n d_c) ∧ w9.cell? ⟨gd, 3, none⟩ = some (.slice d_A d_m d_q) := ⟨HBn.out.1.cells.1, HBn.out.1.cells.2.1, HBn.out.1.cells.2.2.1, HBn.out.1.cells.2.2.2, HBv.out.1.cells.1, HBv.out.1.cells.2.1, HBv.out.1.cells.2.2.1, HBv.out.1.cells.2.2.2, HBa.out.1.cells.1, HBa.out.1.cells.2.1, HBa.out.1.cells.2.2.1, HBa.out.1.cells.2.2.2, HBb.out.1.cells.1, HBb.out.1.cells.2.1, HBb.out.1.cells.2.2.1, HBb.out.1.cells.2.2.2, HBc.out.1.cells.1, HBc.out.1.cells.2.1, HBc.out.1.cells.2.2.1, HBc.out.1.cells.2.2.2, HBd.out.1.cells.1, HBd.out.1.cells.2.1, HBd.out.1.cells.2.2.1, HBd.out.1.cells.2.2.2⟩)
        | (go_at_call 13; refine (HCt.out _ HBn.out.2).mono ?_; rintro e9 w9 ⟨rfl, hb⟩; replace HBW := Lib.hid (below3 HBW.out hb); replace HBn := Lib.hid (HBn.out.go hb); replace HBv := Lib.hid (HBv.out.go hb); replace HBa := Lib.hid (HBa.out.go hb); replace HBb := Lib.hid (HBb.out.go hb); replace HBc := Lib.hid (HBc.out.go hb); replace HBd := Lib.hid (HBd.out.go hb); (try clear hS); have hS : w9.cell? ⟨w.heap.size, 0, none⟩ = some (.int .i64 nk) ∧ w9.cell? ⟨w.heap.size, 1, none⟩ = some (.string ns) ∧ w9.cell? ⟨w.heap.size, 2, none⟩ = some (.slice na nn nc) ∧ w9.cell? ⟨w.heap.size, 3, none⟩ = some (.slice nA nm nq) ∧ w9.cell? ⟨(w.heap.size + 1), 0, none⟩ = some (.int .i64 vk) ∧ w9.cell? ⟨(w.heap.size + 1), 1, none⟩ = some (.string vs) ∧ w9.cell? ⟨(w.heap.size + 1), 2, none⟩ = some (.slice va vn vc) ∧ w9.cell? ⟨(w.heap.size + 1), 3, none⟩ = some (.slice vA vm vq) ∧ w9.cell? ⟨ga, 0, none⟩ = some (.int .i64 a_k) ∧ w9.cell? ⟨ga, 1, none⟩ = some (.string a_s) ∧ w9.cell? ⟨ga, 2, none⟩ = some (.slice a_a a_n a_c) ∧ w9.cell? ⟨ga, 3, none⟩ = some (.slice a_A a_m a_q) ∧ w9.cell? ⟨gb, 0, none⟩ = some (.int .i64 b_k) ∧ w9.cell? ⟨gb, 1, none⟩ = some (.string b_s) ∧ w9.cell? ⟨gb, 2, none⟩ = some (.slice b_a b_n b_c) ∧ w9.cell? ⟨gb, 3, none⟩ = some (.slice b_A b_m b_q) ∧ w9.cell? ⟨gc, 0, none⟩ = some (.int .i64 c_k) ∧ w9.cell? ⟨gc, 1, none⟩ = some (.string c_s) ∧ w9.cell? ⟨gc, 2, none⟩ = some (.slice c_a c_n c_c) ∧ w9.cell? ⟨gc, 3, none⟩ = some (.slice c_A c_m c_q) ∧ w9.cell? ⟨gd, 0, none⟩ = some (.int .i64 d_k) ∧ w9.cell? ⟨gd, 1, none⟩ = some (.string d_s) ∧ w9.cell? ⟨gd, 2, none⟩ = some (.slice d_a d_n d_c) ∧ w9.cell? ⟨gd, 3, none⟩ = some (.slice d_A d_m d_q) := ⟨HBn.out.1.cells.1, HBn.out.1.cells.2.1, HBn.out.1.cells.2.2.1, HBn.out.1.cells.2.2.2, HBv.out.1.cells.1, HBv.out.1.cells.2.1, HBv.out.1.cells.2.2.1, HBv.out.1.cells.2.2.2, HBa.out.1.cells.1, HBa.out.1.cells.2.1, HBa.out.1.cells.2.2.1, HBa.out.1.cells.2.2.2, HBb.out.1.cells.1, HBb.out.1.cells.2.1, HBb.out.1.cells.2.2.1, HBb.out.1.cells.2.2.2, HBc.out.1.cells.1, HBc.out.1.cells.2.1, HBc.out.1.cells.2.2.1, HBc.out.1.cells.2.2.2, HBd.out.1.cells.1, HBd.out.1.cells.2.1, HBd.out.1.cells.2.2.1, HBd.out.1.cells.2.2.2⟩)
        | (go_at_call 14; refine (HRCt.out _ HBn.out.2).mono ?_; rintro e9 w9 ⟨rfl, hb⟩; replace HBW := Lib.hid (below3 HBW.out hb); replace HBn := Lib.hid (HBn.out.go hb); replace HBv := Lib.hid (HBv.out.go hb); replace HBa := Lib.hid (HBa.out.go hb); replace HBb := Lib.hid (HBb.out.go hb); replace HBc := Lib.hid (HBc.out.go hb); replace HBd := Lib.hid (HBd.out.go hb); (try clear hS); have hS : w9.cell? ⟨w.heap.size, 0, none⟩ = some (.int .i64 nk) ∧ w9.cell? ⟨w.heap.size, 1, none⟩ = some (.string ns) ∧ w9.cell? ⟨w.heap.size, 2, none⟩ = some (.slice na nn nc) ∧ w9.cell? ⟨w.heap.size, 3, none⟩ = some (.slice nA nm nq) ∧ w9.cell? ⟨(w.heap.size + 1), 0, none⟩ = some (.int .i64 vk) ∧ w9.cell? ⟨(w.heap.size + 1), 1, none⟩ = some (.string vs) ∧ w9.cell? ⟨(w.heap.size + 1), 2, none⟩ = some (.slice va vn vc) ∧ w9.cell? ⟨(w.heap.size + 1), 3, none⟩ = some (.slice vA vm vq) ∧ w9.cell? ⟨ga, 0, none⟩ = some (.int .i64 a_k) ∧ w9.cell? ⟨ga, 1, none⟩ = some (.string a_s) ∧ w9.cell? ⟨ga, 2, none⟩ = some (.slice a_a a_n a_c) ∧ w9.cell? ⟨ga, 3, none⟩ = some (.slice a_A a_m a_q) ∧ w9.cell? ⟨gb, 0, none⟩ = some (.int .i64 b_k) ∧ w9.cell? ⟨gb, 1, none⟩ = some (.string b_s) ∧ w9.cell? ⟨gb, 2, none⟩ = some (.slice b_a b_n b_c) ∧ w9.cell? ⟨gb, 3, none⟩ = some (.slice b_A b_m b_q) ∧ w9.cell? ⟨gc, 0, none⟩ = some (.int .i64 c_k) ∧ w9.cell? ⟨gc, 1, none⟩ = some (.string c_s) ∧ w9.cell? ⟨gc, 2, none⟩ = some (.slice c_a c_n c_c) ∧ w9.cell? ⟨gc, 3, none⟩ = some (.slice c_A c_m c_q) ∧ w9.cell? ⟨gd, 0, none⟩ = some (.int .i64 d_k) ∧ w9.cell? ⟨gd, 1, none⟩ = some (.string d_s) ∧ w9.cell? ⟨gd, 2, none⟩ = some (.slice d_a d_n d_c) ∧ w9.cell? ⟨gd, 3, none⟩ = some (.slice d_A d_m d_q) := ⟨HBn.out.1.cells.1, HBn.out.1.cells.2.1, HBn.out.1.cells.2.2.1, HBn.out.1.cells.2.2.2, HBv.out.1.cells.1, HBv.out.1.cells.2.1, HBv.out.1.cells.2.2.1, HBv.out.1.cells.2.2.2, HBa.out.1.cells.1, HBa.out.1.cells.2.1, HBa.out.1.cells.2.2.1, HBa.out.1.cells.2.2.2, HBb.out.1.cells.1, HBb.out.1.cells.2.1, HBb.out.1.cells.2.2.1, HBb.out.1.cells.2.2.2, HBc.out.1.cells.1, HBc.out.1.cells.2.1, HBc.out.1.cells.2.2.1, HBc.out.1.cells.2.2.2, HBd.out.1.cells.1, HBd.out.1.cells.2.1, HBd.out.1.cells.2.2.1, HBd.out.1.cells.2.2.2⟩)
        | (go_at_call 15; refine (HDp.out _ HBn.out.2).mono ?_; rintro e9 w9 ⟨rfl, hb⟩; replace HBW := Lib.hid (below3 HBW.out hb); replace HBn := Lib.hid (HBn.out.go hb); replace HBv := Lib.hid (HBv.out.go hb); replace HBa := Lib.hid (HBa.out.go hb); replace HBb := Lib.hid (HBb.out.go hb); replace HBc := Lib.hid (HBc.out.go hb); replace HBd := Lib.hid (HBd.out.go hb); (try clear hS); have hS : w9.cell? ⟨w.heap.size, 0, none⟩ = some (.int .i64 nk) ∧ w9.cell? ⟨w.heap.size, 1, none⟩ = some (.string ns) ∧ w9.cell? ⟨w.heap.size, 2, none⟩ = some (.slice na nn nc) ∧ w9.cell? ⟨w.heap.size, 3, none⟩ = some (.slice nA nm nq) ∧ w9.cell? ⟨(w.heap.size + 1), 0, none⟩ = some (.int .i64 vk) ∧ w9.cell? ⟨(w.heap.size + 1), 1, none⟩ = some (.string vs) ∧ w9.cell? ⟨(w.heap.size + 1), 2, none⟩ = some (.slice va vn vc) ∧ w9.cell? ⟨(w.heap.size + 1), 3, none⟩ = some (.slice vA vm vq) ∧ w9.cell? ⟨ga, 0, none⟩ = some (.int .i64 a_k) ∧ w9.cell? ⟨ga, 1, none⟩ = some (.string a_s) ∧ w9.cell? ⟨ga, 2, none⟩ = some (.slice a_a a_n a_c) ∧ w9.cell? ⟨ga, 3, none⟩ = some (.slice a_A a_m a_q) ∧ w9.cell? ⟨gb, 0, none⟩ = some (.int .i64 b_k) ∧ w9.cell? ⟨gb, 1, none⟩ = some (.string b_s) ∧ w9.cell? ⟨gb, 2, none⟩ = some (.slice b_a b_n b_c) ∧ w9.cell? ⟨gb, 3, none⟩ = some (.slice b_A b_m b_q) ∧ w9.cell? ⟨gc, 0, none⟩ = some (.int .i64 c_k) ∧ w9.cell? ⟨gc, 1, none⟩ = some (.string c_s) ∧ w9.cell? ⟨gc, 2, none⟩ = some (.slice c_a c_n c_c) ∧ w9.cell? ⟨gc, 3, none⟩ = some (.slice c_A c_m c_q) ∧ w9.cell? ⟨gd, 0, none⟩ = some (.int .i64 d_k) ∧ w9.cell? ⟨gd, 1, none⟩ = some (.string d_s) ∧ w9.cell? ⟨gd, 2, none⟩ = some (.slice d_a d_n d_c) ∧ w9.cell? ⟨gd, 3, none⟩ = some (.slice d_A d_m d_q) := ⟨HBn.out.1.cells.1, HBn.out.1.cells.2.1, HBn.out.1.cells.2.2.1, HBn.out.1.cells.2.2.2, HBv.out.1.cells.1, HBv.out.1.cells.2.1, HBv.out.1.cells.2.2.1, HBv.out.1.cells.2.2.2, HBa.out.1.cells.1, HBa.out.1.cells.2.1, HBa.out.1.cells.2.2.1, HBa.out.1.cells.2.2.2, HBb.out.1.cells.1, HBb.out.1.cells.2.1, HBb.out.1.cells.2.2.1, HBb.out.1.cells.2.2.2, HBc.out.1.cells.1, HBc.out.1.cells.2.1, HBc.out.1.cells.2.2.1, HBc.out.1.cells.2.2.2, HBd.out.1.cells.1, HBd.out.1.cells.2.1, HBd.out.1.cells.2.2.1, HBd.out.1.cells.2.2.2⟩)
        | (go_at_call 16; refine (HRDp.out _ HBn.out.2).mono ?_; rintro e9 w9 ⟨rfl, hb⟩; replace HBW := Lib.hid (below3 HBW.out hb); replace HBn := Lib.hid (HBn.out.go hb); replace HBv := Lib.hid (HBv.out.go hb); replace HBa := Lib.hid (HBa.out.go hb); replace HBb := Lib.hid (HBb.out.go hb); replace HBc := Lib.hid (HBc.out.go hb); replace HBd := Lib.hid (HBd.out.go hb); (try clear hS); have hS : w9.cell? ⟨w.heap.size, 0, none⟩ = some (.int .i64 nk) ∧ w9.cell? ⟨w.heap.size, 1, none⟩ = some (.string ns) ∧ w9.cell? ⟨w.heap.size, 2, none⟩ = some (.slice na nn nc) ∧ w9.cell? ⟨w.heap.size, 3, none⟩ = some (.slice nA nm nq) ∧ w9.cell? ⟨(w.heap.size + 1), 0, none⟩ = some (.int .i64 vk) ∧ w9.cell? ⟨(w.heap.size + 1), 1, none⟩ = some (.string vs) ∧ w9.cell? ⟨(w.heap.size + 1), 2, none⟩ = some (.slice va vn vc) ∧ w9.cell? ⟨(w.heap.size + 1), 3, none⟩ = some (.slice vA vm vq) ∧ w9.cell? ⟨ga, 0, none⟩ = some (.int .i64 a_k) ∧ w9.cell? ⟨ga, 1, none⟩ = some (.string a_s) ∧ w9.cell? ⟨ga, 2, none⟩ = some (.slice a_a a_n a_c) ∧ w9.cell? ⟨ga, 3, none⟩ = some (.slice a_A a_m a_q) ∧ w9.cell? ⟨gb, 0, none⟩ = some (.int .i64 b_k) ∧ w9.cell? ⟨gb, 1, none⟩ = some (.string b_s) ∧ w9.cell? ⟨gb, 2, none⟩ = some (.slice b_a b_n b_c) ∧ w9.cell? ⟨gb, 3, none⟩ = some (.slice b_A b_m b_q) ∧ w9.cell? ⟨gc, 0, none⟩ = some (.int .i64 c_k) ∧ w9.cell? ⟨gc, 1, none⟩ = some (.string c_s) ∧ w9.cell? ⟨gc, 2, none⟩ = some (.slice c_a c_n c_c) ∧ w9.cell? ⟨gc, 3, none⟩ = some (.slice c_A c_m c_q) ∧ w9.cell? ⟨gd, 0, none⟩ = some (.int .i64 d_k) ∧ w9.cell? ⟨gd, 1, none⟩ = some (.string d_s) ∧ w9.cell? ⟨gd, 2, none⟩ = some (.slice d_a d_n d_c) ∧ w9.cell? ⟨gd, 3, none⟩ = some (.slice d_A d_m d_q) := ⟨HBn.out.1.cells.1, HBn.out.1.cells.2.1, HBn.out.1.cells.2.2.1, HBn.out.1.cells.2.2.2, HBv.out.1.cells.1, HBv.out.1.cells.2.1, HBv.out.1.cells.2.2.1, HBv.out.1.cells.2.2.2, HBa.out.1.cells.1, HBa.out.1.cells.2.1, HBa.out.1.cells.2.2.1, HBa.out.1.cells.2.2.2, HBb.out.1.cells.1, HBb.out.1.cells.2.1, HBb.out.1.cells.2.2.1, HBb.out.1.cells.2.2.2, HBc.out.1.cells.1, HBc.out.1.cells.2.1, HBc.out.1.cells.2.2.1, HBc.out.1.cells.2.2.2, HBd.out.1.cells.1, HBd.out.1.cells.2.1, HBd.out.1.cells.2.2.1, HBd.out.1.cells.2.2.2⟩)
        | (go_at_call 17; refine (Same_gen (by have := HN1.out; omega) HBn.out.nd (by first | with_reducible exact HBv.out.nd | with_reducible exact HBn.out.nd) (by first | exact same_self _ | exact HSB.out)).mono ?_; rintro e9 w9 ⟨rfl, hb⟩; replace HBW := Lib.hid (below3 HBW.out hb); replace HBn := Lib.hid (HBn.out.go hb); replace HBv := Lib.hid (HBv.out.go hb); replace HBa := Lib.hid (HBa.out.go hb); replace HBb := Lib.hid (HBb.out.go hb); replace HBc := Lib.hid (HBc.out.go hb); replace HBd := Lib.hid (HBd.out.go hb); (try clear hS); have hS : w9.cell? ⟨w.heap.size, 0, none⟩ = some (.int .i64 nk) ∧ w9.cell? ⟨w.heap.size, 1, none⟩ = some (.string ns) ∧ w9.cell? ⟨w.heap.size, 2, none⟩ = some (.slice na nn nc) ∧ w9.cell? ⟨w.heap.size, 3, none⟩ = some (.slice nA nm nq) ∧ w9.cell? ⟨(w.heap.size + 1), 0, none⟩ = some (.int .i64 vk) ∧ w9.cell? ⟨(w.heap.size + 1), 1, none⟩ = some (.string vs) ∧ w9.cell? ⟨(w.heap.size + 1), 2, none⟩ = some (.slice va vn vc) ∧ w9.cell? ⟨(w.heap.size + 1), 3, none⟩ = some (.slice vA vm vq) ∧ w9.cell? ⟨ga, 0, none⟩ = some (.int .i64 a_k) ∧ w9.cell? ⟨ga, 1, none⟩ = some (.string a_s) ∧ w9.cell? ⟨ga, 2, none⟩ = some (.slice a_a a_n a_c) ∧ w9.cell? ⟨ga, 3, none⟩ = some (.slice a_A a_m a_q) ∧ w9.cell? ⟨gb, 0, none⟩ = some (.int .i64 b_k) ∧ w9.cell? ⟨gb, 1, none⟩ = some (.string b_s) ∧ w9.cell? ⟨gb, 2, none⟩ = some (.slice b_a b_n b_c) ∧ w9.cell? ⟨gb, 3, none⟩ = some (.slice b_A b_m b_q) ∧ w9.cell? ⟨gc, 0, none⟩ = some (.int .i64 c_k) ∧ w9.cell? ⟨gc, 1, none⟩ = some (.string c_s) ∧ w9.cell? ⟨gc, 2, none⟩ = some (.slice c_a c_n c_c) ∧ w9.cell? ⟨gc, 3, none⟩ = some (.slice c_A c_m c_q) ∧ w9.cell? ⟨gd, 0, none⟩ = some (.int .i64 d_k) ∧ w9.cell? ⟨gd, 1, none⟩ = some (.string d_s) ∧ w9.cell? ⟨gd, 2, none⟩ = some (.slice d_a d_n d_c) ∧ w9.cell? ⟨gd, 3, none⟩ = some (.slice d_A d_m d_q) := ⟨HBn.out.1.cells.1, HBn.out.1.cells.2.1, HBn.out.1.cells.2.2.1, HBn.out.1.cells.2.2.2, HBv.out.1.cells.1, HBv.out.1.cells.2.1, HBv.out.1.cells.2.2.1, HBv.out.1.cells.2.2.2, HBa.out.1.cells.1, HBa.out.1.cells.2.1, HBa.out.1.cells.2.2.1, HBa.out.1.cells.2.2.2, HBb.out.1.cells.1, HBb.out.1.cells.2.1, HBb.out.1.cells.2.2.1, HBb.out.1.cells.2.2.2, HBc.out.1.cells.1, HBc.out.1.cells.2.1, HBc.out.1.cells.2.2.1, HBc.out.1.cells.2.2.2, HBd.out.1.cells.1, HBd.out.1.cells.2.1, HBd.out.1.cells.2.2.1, HBd.out.1.cells.2.2.2⟩))
    all_goals
      clear HCt HRCt HDp HRDp hS HBa HBb HBc HBd pC pD pS pG pA
      go_upto_region 9 with fail
      replace HBW := Lib.hid (below3 HBW.out (below_drew _))
      replace HBn := Lib.hid (HBn.out.go (below_drew _))
      replace HBv := Lib.hid (HBv.out.go (below_drew _))
      go_region_held3 (fun W => W.cell? ⟨w.heap.size, 0, none⟩ = some (.int .i64 nk) ∧ W.cell? ⟨w.heap.size, 1, none⟩ = some (.string ns) ∧ W.cell? ⟨w.heap.size, 2, none⟩ = some (.slice na nn nc) ∧ W.cell? ⟨w.heap.size, 3, none⟩ = some (.slice nA nm nq) ∧ W.cell? ⟨(w.heap.size + 1), 0, none⟩ = some (.int .i64 vk) ∧ W.cell? ⟨(w.heap.size + 1), 1, none⟩ = some (.string vs) ∧ W.cell? ⟨(w.heap.size + 1), 2, none⟩ = some (.slice va vn vc) ∧ W.cell? ⟨(w.heap.size + 1), 3, none⟩ = some (.slice vA vm vq)) (first | exact ⟨HBn.out.1.cells.1, HBn.out.1.cells.2.1, HBn.out.1.cells.2.2.1, HBn.out.1.cells.2.2.2, HBv.out.1.cells.1, HBv.out.1.cells.2.1, HBv.out.1.cells.2.2.1, HBv.out.1.cells.2.2.2⟩ | assumption | exact keep8 (by assumption))
        (first
          | (go_at_call 18; refine (HWI.out _ HBn.out.2 HBv.out.2).mono ?_; rintro e9 w9 ⟨t0, t1, t2, t3, rfl, hHW1, hb0⟩; obtain ⟨p_k, p_s, p_a, p_n, p_c, p_A, p_m, p_q, rfl, rfl, rfl, rfl⟩ := hHW1.shape; (have hb := hbpick HBn.out (by first | with_reducible exact hb0 | with_reducible exact below3 (below_al _ _) hb0 | with_reducible exact below3 (below3 (below_al _ _) (below_al _ _)) hb0)); (try replace HW1 := Lib.hid (HW1.out.below hb)); (try replace HW2 := Lib.hid (HW2.out.below hb)); (try replace HL1 := Lib.hid (HL1.out.below hb)); (try replace HL2 := Lib.hid (HL2.out.below hb)); (try replace HQ1 := Lib.hid (HQ1.out.below hb)); have HW1 := Lib.hid hHW1; replace HBW := Lib.hid (below3 HBW.out hb); replace HBn := Lib.hid (HBn.out.go hb); replace HBv := Lib.hid (HBv.out.go hb); (try clear hS); have hS : w9.cell? ⟨w.heap.size, 0, none⟩ = some (.int .i64 nk) ∧ w9.cell? ⟨w.heap.size, 1, none⟩ = some (.string ns) ∧ w9.cell? ⟨w.heap.size, 2, none⟩ = some (.slice na nn nc) ∧ w9.cell? ⟨w.heap.size, 3, none⟩ = some (.slice nA nm nq) ∧ w9.cell? ⟨(w.heap.size + 1), 0, none⟩ = some (.int .i64 vk) ∧ w9.cell? ⟨(w.heap.size + 1), 1, none⟩ = some (.string vs) ∧ w9.cell? ⟨(w.heap.size + 1), 2, none⟩ = some (.slice va vn vc) ∧ w9.cell? ⟨(w.heap.size + 1), 3, none⟩ = some (.slice vA vm vq) := ⟨HBn.out.1.cells.1, HBn.out.1.cells.2.1, HBn.out.1.cells.2.2.1, HBn.out.1.cells.2.2.2, HBv.out.1.cells.1, HBv.out.1.cells.2.1, HBv.out.1.cells.2.2.1, HBv.out.1.cells.2.2.2⟩)
          | (go_at_call 19; refine (HRWI.out _ HBn.out.2 HBv.out.2).mono ?_; rintro e9 w9 ⟨t0, t1, t2, t3, rfl, hHW2, hb0⟩; obtain ⟨q_k, q_s, q_a, q_n, q_c, q_A, q_m, q_q, rfl, rfl, rfl, rfl⟩ := hHW2.shape; (have hb := hbpick HBn.out (by first | with_reducible exact hb0 | with_reducible exact below3 (below_al _ _) hb0 | with_reducible exact below3 (below3 (below_al _ _) (below_al _ _)) hb0)); (try replace HW1 := Lib.hid (HW1.out.below hb)); (try replace HW2 := Lib.hid (HW2.out.below hb)); (try replace HL1 := Lib.hid (HL1.out.below hb)); (try replace HL2 := Lib.hid (HL2.out.below hb)); (try replace HQ1 := Lib.hid (HQ1.out.below hb)); have HW2 := Lib.hid hHW2; replace HBW := Lib.hid (below3 HBW.out hb); replace HBn := Lib.hid (HBn.out.go hb); replace HBv := Lib.hid (HBv.out.go hb); (try clear hS); have hS : w9.cell? ⟨w.heap.size, 0, none⟩ = some (.int .i64 nk) ∧ w9.cell? ⟨w.heap.size, 1, none⟩ = some (.string ns) ∧ w9.cell? ⟨w.heap.size, 2, none⟩ = some (.slice na nn nc) ∧ w9.cell? ⟨w.heap.size, 3, none⟩ = some (.slice nA nm nq) ∧ w9.cell? ⟨(w.heap.size + 1), 0, none⟩ = some (.int .i64 vk) ∧ w9.cell? ⟨(w.heap.size + 1), 1, none⟩ = some (.string vs) ∧ w9.cell? ⟨(w.heap.size + 1), 2, none⟩ = some (.slice va vn vc) ∧ w9.cell? ⟨(w.heap.size + 1), 3, none⟩ = some (.slice vA vm vq) := ⟨HBn.out.1.cells.1, HBn.out.1.cells.2.1, HBn.out.1.cells.2.2.1, HBn.out.1.cells.2.2.2, HBv.out.1.cells.1, HBv.out.1.cells.2.1, HBv.out.1.cells.2.2.1, HBv.out.1.cells.2.2.2⟩)
          | (go_at_call 20; refine (HLE.out _ HBn.out.2).mono ?_; rintro e9 w9 ⟨t0, t1, t2, t3, rfl, hHL1, hb0⟩; obtain ⟨r_k, r_s, r_a, r_n, r_c, r_A, r_m, r_q, rfl, rfl, rfl, rfl⟩ := hHL1.shape; (have hb := hbpick HBn.out (by first | with_reducible exact hb0 | with_reducible exact below3 (below_al _ _) hb0 | with_reducible exact below3 (below3 (below_al _ _) (below_al _ _)) hb0)); (try replace HW1 := Lib.hid (HW1.out.below hb)); (try replace HW2 := Lib.hid (HW2.out.below hb)); (try replace HL1 := Lib.hid (HL1.out.below hb)); (try replace HL2 := Lib.hid (HL2.out.below hb)); (try replace HQ1 := Lib.hid (HQ1.out.below hb)); have HL1 := Lib.hid hHL1; replace HBW := Lib.hid (below3 HBW.out hb); replace HBn := Lib.hid (HBn.out.go hb); replace HBv := Lib.hid (HBv.out.go hb); (try clear hS); have hS : w9.cell? ⟨w.heap.size, 0, none⟩ = some (.int .i64 nk) ∧ w9.cell? ⟨w.heap.size, 1, none⟩ = some (.string ns) ∧ w9.cell? ⟨w.heap.size, 2, none⟩ = some (.slice na nn nc) ∧ w9.cell? ⟨w.heap.size, 3, none⟩ = some (.slice nA nm nq) ∧ w9.cell? ⟨(w.heap.size + 1), 0, none⟩ = some (.int .i64 vk) ∧ w9.cell? ⟨(w.heap.size + 1), 1, none⟩ = some (.string vs) ∧ w9.cell? ⟨(w.heap.size + 1), 2, none⟩ = some (.slice va vn vc) ∧ w9.cell? ⟨(w.heap.size + 1), 3, none⟩ = some (.slice vA vm vq) := ⟨HBn.out.1.cells.1, HBn.out.1.cells.2.1, HBn.out.1.cells.2.2.1, HBn.out.1.cells.2.2.2, HBv.out.1.cells.1, HBv.out.1.cells.2.1, HBv.out.1.cells.2.2.1, HBv.out.1.cells.2.2.2⟩)
          | (go_at_call 21; refine (HRLE.out _ HBn.out.2).mono ?_; rintro e9 w9 ⟨t0, t1, t2, t3, rfl, hHL2, hb0⟩; obtain ⟨s_k, s_s, s_a, s_n, s_c, s_A, s_m, s_q, rfl, rfl, rfl, rfl⟩ := hHL2.shape; (have hb := hbpick HBn.out (by first | with_reducible exact hb0 | with_reducible exact below3 (below_al _ _) hb0 | with_reducible exact below3 (below3 (below_al _ _) (below_al _ _)) hb0)); (try replace HW1 := Lib.hid (HW1.out.below hb)); (try replace HW2 := Lib.hid (HW2.out.below hb)); (try replace HL1 := Lib.hid (HL1.out.below hb)); (try replace HL2 := Lib.hid (HL2.out.below hb)); (try replace HQ1 := Lib.hid (HQ1.out.below hb)); have HL2 := Lib.hid hHL2; replace HBW := Lib.hid (below3 HBW.out hb); replace HBn := Lib.hid (HBn.out.go hb); replace HBv := Lib.hid (HBv.out.go hb); (try clear hS); have hS : w9.cell? ⟨w.heap.size, 0, none⟩ = some (.int .i64 nk) ∧ w9.cell? ⟨w.heap.size, 1, none⟩ = some (.string ns) ∧ w9.cell? ⟨w.heap.size, 2, none⟩ = some (.slice na nn nc) ∧ w9.cell? ⟨w.heap.size, 3, none⟩ = some (.slice nA nm nq) ∧ w9.cell? ⟨(w.heap.size + 1), 0, none⟩ = some (.int .i64 vk) ∧ w9.cell? ⟨(w.heap.size + 1), 1, none⟩ = some (.string vs) ∧ w9.cell? ⟨(w.heap.size + 1), 2, none⟩ = some (.slice va vn vc) ∧ w9.cell? ⟨(w.heap.size + 1), 3, none⟩ = some (.slice vA vm vq) := ⟨HBn.out.1.cells.1, HBn.out.1.cells.2.1, HBn.out.1.cells.2.2.1, HBn.out.1.cells.2.2.2, HBv.out.1.cells.1, HBv.out.1.cells.2.1, HBv.out.1.cells.2.2.1, HBv.out.1.cells.2.2.2⟩)
          | (go_at_call 12; refine (RSame_gen (by first | with_reducible exact HW1.out | with_reducible exact HL1.out | with_reducible exact HQ1.out | with_reducible exact (HQ1.out.below (below_al _ _))) (by first | with_reducible exact HW2.out | with_reducible exact HL2.out | with_reducible exact (ndw_map (rd_none _) (kd_two HBn.out.nd HBv.out.nd)) | with_reducible exact (ndw_map (rd_none _) K2.out) | with_reducible exact (ndw_map (rd_none _) K3.out)) (same_self _)).mono ?_; rintro e9 w9 ⟨rfl, hb0⟩; (have hb := hbpick HBn.out (by first | with_reducible exact hb0 | with_reducible exact below3 (below_al _ _) hb0 | with_reducible exact below3 (below3 (below_al _ _) (below_al _ _)) hb0)); (try replace HW1 := Lib.hid (HW1.out.below hb)); (try replace HW2 := Lib.hid (HW2.out.below hb)); (try replace HL1 := Lib.hid (HL1.out.below hb)); (try replace HL2 := Lib.hid (HL2.out.below hb)); (try replace HQ1 := Lib.hid (HQ1.out.below hb)); replace HBW := Lib.hid (below3 HBW.out hb); replace HBn := Lib.hid (HBn.out.go hb); replace HBv := Lib.hid (HBv.out.go hb); (try replace K2 := Lib.hid (K2.out.below hb)); (try replace K3 := Lib.hid (K3.out.below hb)); (try clear hS); have hS : w9.cell? ⟨w.heap.size, 0, none⟩ = some (.int .i64 nk) ∧ w9.cell? ⟨w.heap.size, 1, none⟩ = some (.string ns) ∧ w9.cell? ⟨w.heap.size, 2, none⟩ = some (.slice na nn nc) ∧ w9.cell? ⟨w.heap.size, 3, none⟩ = some (.slice nA nm nq) ∧ w9.cell? ⟨(w.heap.size + 1), 0, none⟩ = some (.int .i64 vk) ∧ w9.cell? ⟨(w.heap.size + 1), 1, none⟩ = some (.string vs) ∧ w9.cell? ⟨(w.heap.size + 1), 2, none⟩ = some (.slice va vn vc) ∧ w9.cell? ⟨(w.heap.size + 1), 3, none⟩ = some (.slice vA vm vq) := ⟨HBn.out.1.cells.1, HBn.out.1.cells.2.1, HBn.out.1.cells.2.2.1, HBn.out.1.cells.2.2.2, HBv.out.1.cells.1, HBv.out.1.cells.2.1, HBv.out.1.cells.2.2.1, HBv.out.1.cells.2.2.2⟩)
          | (go_at_call 7; refine (awake_any _).mono ?_; rintro e9 w9 ⟨rfl, hb0⟩; (have hb := hbpick HBn.out (by first | with_reducible exact hb0 | with_reducible exact below3 (below_al _ _) hb0 | with_reducible exact below3 (below3 (below_al _ _) (below_al _ _)) hb0)); replace HBW := Lib.hid (below3 HBW.out hb); replace HBn := Lib.hid (HBn.out.go hb); replace HBv := Lib.hid (HBv.out.go hb); (try clear hS); have hS : w9.cell? ⟨w.heap.size, 0, none⟩ = some (.int .i64 nk) ∧ w9.cell? ⟨w.heap.size, 1, none⟩ = some (.string ns) ∧ w9.cell? ⟨w.heap.size, 2, none⟩ = some (.slice na nn nc) ∧ w9.cell? ⟨w.heap.size, 3, none⟩ = some (.slice nA nm nq) ∧ w9.cell? ⟨(w.heap.size + 1), 0, none⟩ = some (.int .i64 vk) ∧ w9.cell? ⟨(w.heap.size + 1), 1, none⟩ = some (.string vs) ∧ w9.cell? ⟨(w.heap.size + 1), 2, none⟩ = some (.slice va vn vc) ∧ w9.cell? ⟨(w.heap.size + 1), 3, none⟩ = some (.slice vA vm vq) := ⟨HBn.out.1.cells.1, HBn.out.1.cells.2.1, HBn.out.1.cells.2.2.1, HBn.out.1.cells.2.2.2, HBv.out.1.cells.1, HBv.out.1.cells.2.1, HBv.out.1.cells.2.2.1, HBv.out.1.cells.2.2.2⟩)
          | (go_at_call 22; refine (Seq_any _ [n, v] _ (by first | with_reducible exact kd_two HBn.out.nd HBv.out.nd | with_reducible exact (kd_two HBn.out.nd HBv.out.nd).below (below_al _ _) | with_reducible exact kd_two2 HBn.out.nd HBv.out.nd) (show (2 : Nat) ≤ 100000 by omega)).mono ?_; rintro e9 w9 ⟨t0, t1, t2, t3, rfl, hHQ1, hb0⟩; obtain ⟨t_k, t_s, t_a, t_n, t_c, t_A, t_m, t_q, rfl, rfl, rfl, rfl⟩ := hHQ1.shape; (try (with_reducible have K2 := Lib.hid (Kd.below (kd_two2 HBn.out.nd HBv.out.nd) hb0))); (try (with_reducible have K3 := Lib.hid (Kd.below (Kd.below (kd_two HBn.out.nd HBv.out.nd) (below_al _ _)) hb0))); (have hb := hbpick HBn.out (by first | with_reducible exact hb0 | with_reducible exact below3 (below_al _ _) hb0 | with_reducible exact below3 (below3 (below_al _ _) (below_al _ _)) hb0)); (try replace HW1 := Lib.hid (HW1.out.below hb)); (try replace HW2 := Lib.hid (HW2.out.below hb)); (try replace HL1 := Lib.hid (HL1.out.below hb)); (try replace HL2 := Lib.hid (HL2.out.below hb)); (try replace HQ1 := Lib.hid (HQ1.out.below hb)); have HQ1 := Lib.hid hHQ1; replace HBW := Lib.hid (below3 HBW.out hb); replace HBn := Lib.hid (HBn.out.go hb); replace HBv := Lib.hid (HBv.out.go hb); (try clear hS); have hS : w9.cell? ⟨w.heap.size, 0, none⟩ = some (.int .i64 nk) ∧ w9.cell? ⟨w.heap.size, 1, none⟩ = some (.string ns) ∧ w9.cell? ⟨w.heap.size, 2, none⟩ = some (.slice na nn nc) ∧ w9.cell? ⟨w.heap.size, 3, none⟩ = some (.slice nA nm nq) ∧ w9.cell? ⟨(w.heap.size + 1), 0, none⟩ = some (.int .i64 vk) ∧ w9.cell? ⟨(w.heap.size + 1), 1, none⟩ = some (.string vs) ∧ w9.cell? ⟨(w.heap.size + 1), 2, none⟩ = some (.slice va vn vc) ∧ w9.cell? ⟨(w.heap.size + 1), 3, none⟩ = some (.slice vA vm vq) := ⟨HBn.out.1.cells.1, HBn.out.1.cells.2.1, HBn.out.1.cells.2.2.1, HBn.out.1.cells.2.2.2, HBv.out.1.cells.1, HBv.out.1.cells.2.1, HBv.out.1.cells.2.2.1, HBv.out.1.cells.2.2.2⟩))
      all_goals
        go_wp2
        go_ret
        exact ⟨rfl, HBW.out⟩
end Go.Proofs.Ytgingebdoppdbaa
