/- The contract of the document's own mul. -/
import Derived.Test.YtefjdbgmakddjaaRefTimes
namespace Go.Proofs.Ytefjdbgmakddjaa
open Go.RowKit
open Sh Ro
set_option linter.unusedVariables false
theorem mstep (l c h : Nat) (hl : l < 16777216) (hc : c ≤ 2) (hh : h < 16777216) : ∃ s t o k : Nat, IntKind.u64.wrap (l : Int) = (l : Int) ∧ IntKind.u64.wrap ((l : Int) + (c : Int)) = (s : Int) ∧ IntKind.u64.wrap ((s : Int) + (h : Int)) = (t : Int) ∧
    (t : Int) % 16777216 = (o : Int) ∧ (t : Int) / 16777216 = (k : Int) ∧ (t : Int).tmod 16777216 = (o : Int) ∧ (t : Int).tdiv 16777216 = (k : Int) ∧ IntKind.u64.wrap (k : Int) = (k : Int) ∧ l + c + h = t ∧ l + c + h = o + k * 16777216 ∧ o < 16777216 ∧ k ≤ 2 := by
  refine ⟨l + c, l + c + h, (l + c + h) % 16777216, (l + c + h) / 16777216, wrap64u (by omega) (by omega), ?_, ?_, by omega, by omega, ?_, ?_, wrap64u (by omega) (by omega), rfl, by omega, by omega, by omega⟩
  · rw [wrap64u (by omega) (by omega)]; omega
  · rw [wrap64u (by omega) (by omega)]; omega
  · rw [Int.tmod_eq_emod_of_nonneg (by omega)]; omega
  · rw [Int.tdiv_eq_ediv_of_nonneg (by omega)]; omega
theorem mul_sum {l0 l1 l2 l3 l4 h0 h1 h2 h3 h4 o0 o1 o2 o3 o4 k1 k2 k3 k4 k5 T : Nat}
    (q0 : l0 + 0 + 0 = o0 + k1 * 16777216) (q1 : l1 + k1 + h0 = o1 + k2 * 16777216) (q2 : l2 + k2 + h1 = o2 + k3 * 16777216) (q3 : l3 + k3 + h2 = o3 + k4 * 16777216) (q4 : l4 + k4 + h3 = o4 + k5 * 16777216)
    (hT : (N5.mk l0 l1 l2 l3 l4).num + (N5.mk h0 h1 h2 h3 h4).num * 16777216 = T) (hb : T < 1329227995784915872903807060280344576) : (N5.mk o0 o1 o2 o3 o4).num = T := by
  subst hT
  unfold N5.num at hb ⊢
  dsimp only at hb ⊢
  omega
theorem mul_parts (n x : Nat) : n * (x % 16777216) + n * (x / 16777216) * 16777216 = n * x := by
  rw [Nat.mul_assoc, ← Nat.mul_add, Nat.mod_add_div']
theorem times_q (x : N5) (m : Nat) (w : World) (hx : x.Ok) (hm : m < 16777216) (hb : x.num * m < 1329227995784915872903807060280344576) (mm : Int) (hmm : mm = (m : Int)) :
    Calls Try.prog 35 #[.agg x.cells, .int .u64 mm] w fun e w' => (∃ y : N5, e = .returned (.agg y.cells) ∧ y.Ok ∧ y.num = x.num * m) ∧ Below w.heap.size w w' := by
  subst hmm; exact times_any x m w hx hm hb
set_option maxHeartbeats 4000000 in
theorem mul_any (x : N5) (m : Nat) (w : World) (hx : x.Ok) (hm : m < 281474976710656) (hb : x.num * m < 1329227995784915872903807060280344576) :
    Calls Try.prog 24 #[.agg x.cells, .int .u64 (m : Int)] w fun e w' => (∃ y : N5, e = .returned (.agg y.cells) ∧ y.Ok ∧ y.num = x.num * m) ∧ Below w.heap.size w w' := by
  obtain ⟨n, hn⟩ : ∃ n, x.num = n := ⟨_, rfl⟩
  rw [hn] at hb ⊢
  obtain ⟨ml, hml⟩ : ∃ ml, m % 16777216 = ml := ⟨_, rfl⟩
  obtain ⟨mh, hmh⟩ : ∃ mh, m / 16777216 = mh := ⟨_, rfl⟩
  have hp := mul_parts n m
  rw [hml, hmh] at hp
  have c1 : (m : Int) % 16777216 = (ml : Int) := by omega
  have c2 : (m : Int) / 16777216 = (mh : Int) := by omega
  have c3 : (m : Int).tmod 16777216 = (ml : Int) := by rw [Int.tmod_eq_emod_of_nonneg (by omega)]; omega
  have c4 : (m : Int).tdiv 16777216 = (mh : Int) := by rw [Int.tdiv_eq_ediv_of_nonneg (by omega)]; omega
  have c5 : IntKind.u64.wrap (mh : Int) = (mh : Int) := wrap64u (by omega) (by omega)
  have hml1 : ml < 16777216 := by omega
  have hmh1 : mh < 16777216 := by omega
  have HX := Lib.hid hx
  have H1 := Lib.hid (fun w0 => times_q x ml w0 hx hml1 (by rw [hn]; omega) (ml : Int) rfl)
  have H2 := Lib.hid (fun w0 => times_q x mh w0 hx hmh1 (by rw [hn]; omega) (mh : Int) rfl)
  rw [hn] at H1 H2
  obtain ⟨T, hT⟩ : ∃ T, n * m = T := ⟨_, rfl⟩
  rw [hT] at hp hb ⊢
  have HP : Hid (n * ml + n * mh * 16777216 = T ∧ T < 1329227995784915872903807060280344576) := Lib.hid ⟨hp, hb⟩
  clear hn hml hmh hp hT hb hx hml1 hmh1
  have HC : Hid (∀ x : N5, (Try.prog.info? 40).map (·.size) = some x.cells.size) := Lib.hid fun x => info5
  go_enter Try.func24, Try.ntmps24
  go_wp2_with (refine wpList_load_row rfl 40 _ rfl w.heap.size rfl 40 x.cells (0, 0) _ (row_alloc (row_new w _) _) Try.underlying40 rfl (HC.out x) ?_)
  refine (H1.out _).mono ?_
  rintro e w1 ⟨⟨y, rfl, hyo, hyn⟩, hb1⟩
  obtain ⟨l0, l1, l2, l3, l4⟩ := y
  have r0 := Lib.hid (row_below (row_alloc (row_new w (.cells x.cells 40)) _) hb1 (by simp; omega))
  have r1 : Hid (w1.heap[w.heap.size + 1]? = some (.cells (N5.mk 0 0 0 0 0).cells 40 (0, 0))) := Lib.hid (row_below (row_new1 w _ _) hb1 (by simp))
  have hG : w.heap.size + 2 ≤ w1.heap.size := by have := hb1.size; simpa using this
  have r5 := Lib.hid (Below.trans (((Below.refl _ w).alloc (Nat.le_refl _) (.cells x.cells 40)).alloc (by simp) (.cells (N5.mk 0 0 0 0 0).cells 40)) (hb1.mono (by simp; omega)))
  have HLo := Lib.hid (And.intro hyo hyn)
  clear hb1 hyo hyn
  have hA : ∀ o : Obj, (w1.alloc o).heap[w.heap.size]? = some (.cells x.cells 40 (0, 0)) := fun o => row_alloc r0.out o
  have HA := Lib.hid hA
  clear hA
  rw [N5.mk_cells l0 l1 l2 l3 l4]
  go_wp2_with (refine wpList_load_row rfl 40 _ rfl w.heap.size rfl 40 x.cells (0, 0) _ (HA.out _) Try.underlying40 rfl (HC.out x) ?_)
  refine (H2.out _).mono ?_
  rintro e w2 ⟨⟨y, rfl, hyo, hyn⟩, hb2⟩
  obtain ⟨h0, h1, h2, h3, h4⟩ := y
  have q1 : Hid (w2.heap[w.heap.size + 1]? = some (.cells (N5.mk 0 0 0 0 0).cells 40 (0, 0))) := Lib.hid (row_below (row_alloc r1.out _) hb2 (by simp; omega))
  have q2 : Hid (w2.heap[w1.heap.size]? = some (.cells (N5.mk l0 l1 l2 l3 l4).cells 40 (0, 0))) := Lib.hid (row_below (row_new w1 _) hb2 (by simp))
  have q5 := Lib.hid (Below.trans (r5.out.alloc r5.out.size (.cells (N5.mk l0 l1 l2 l3 l4).cells 40)) (hb2.mono (by simp; omega)))
  have HHi := Lib.hid (And.intro hyo hyn)
  have hG2 : w1.heap.size + 1 ≤ w2.heap.size := by have := hb2.size; simpa using this
  clear hb2 hyo hyn HA r0 r1 r5
  obtain ⟨G, hGe⟩ : ∃ G, w1.heap.size = G := ⟨_, rfl⟩
  rw [hGe] at q2 hG hG2 ⊢
  clear hGe
  have y0 : w2.cell? ⟨G, 0, none⟩ = some (.int .u64 (l0 : Int)) := by rw [cell_of_row w2 G _ _ _ (0, 0) q2.out]; rfl
  have y1 : w2.cell? ⟨G, 1, none⟩ = some (.int .u64 (l1 : Int)) := by rw [cell_of_row w2 G _ _ _ (0, 0) q2.out]; rfl
  have y2 : w2.cell? ⟨G, 2, none⟩ = some (.int .u64 (l2 : Int)) := by rw [cell_of_row w2 G _ _ _ (0, 0) q2.out]; rfl
  have y3 : w2.cell? ⟨G, 3, none⟩ = some (.int .u64 (l3 : Int)) := by rw [cell_of_row w2 G _ _ _ (0, 0) q2.out]; rfl
  have y4 : w2.cell? ⟨G, 4, none⟩ = some (.int .u64 (l4 : Int)) := by rw [cell_of_row w2 G _ _ _ (0, 0) q2.out]; rfl
  have ne0 : G < w2.heap.size := by omega
  have ne1 : ¬ G = w2.heap.size := by omega
  have ne2 : ¬ G = w2.heap.size + 1 := by omega
  have y0' : ∀ o1 o2, ((w2.alloc o1).alloc o2).cell? ⟨G, 0, none⟩ = some (.int .u64 (l0 : Int)) := fun o1 o2 => by rw [cell_of_row _ G _ _ _ (0, 0) (row_alloc (row_alloc q2.out o1) o2)]; rfl
  have y1' : ∀ o1 o2, ((w2.alloc o1).alloc o2).cell? ⟨G, 1, none⟩ = some (.int .u64 (l1 : Int)) := fun o1 o2 => by rw [cell_of_row _ G _ _ _ (0, 0) (row_alloc (row_alloc q2.out o1) o2)]; rfl
  have y2' : ∀ o1 o2, ((w2.alloc o1).alloc o2).cell? ⟨G, 2, none⟩ = some (.int .u64 (l2 : Int)) := fun o1 o2 => by rw [cell_of_row _ G _ _ _ (0, 0) (row_alloc (row_alloc q2.out o1) o2)]; rfl
  have y3' : ∀ o1 o2, ((w2.alloc o1).alloc o2).cell? ⟨G, 3, none⟩ = some (.int .u64 (l3 : Int)) := fun o1 o2 => by rw [cell_of_row _ G _ _ _ (0, 0) (row_alloc (row_alloc q2.out o1) o2)]; rfl
  have y4' : ∀ o1 o2, ((w2.alloc o1).alloc o2).cell? ⟨G, 4, none⟩ = some (.int .u64 (l4 : Int)) := fun o1 o2 => by rw [cell_of_row _ G _ _ _ (0, 0) (row_alloc (row_alloc q2.out o1) o2)]; rfl
  rw [N5.mk_cells h0 h1 h2 h3 h4]
  obtain ⟨s0, t0, o0, k1, vl0, ws0, wt0, a0, b0, aa0, bb0, vk1, ht0, p0, ob0, kb1⟩ := mstep l0 0 0 HLo.out.1.a (Nat.zero_le _) (by decide)
  obtain ⟨s1, t1, o1, k2, vl1, ws1, wt1, a1, b1, aa1, bb1, vk2, ht1, p1, ob1, kb2⟩ := mstep l1 k1 h0 HLo.out.1.b kb1 HHi.out.1.a
  obtain ⟨s2, t2, o2, k3, vl2, ws2, wt2, a2, b2, aa2, bb2, vk3, ht2, p2, ob2, kb3⟩ := mstep l2 k2 h1 HLo.out.1.c kb2 HHi.out.1.b
  obtain ⟨s3, t3, o3, k4, vl3, ws3, wt3, a3, b3, aa3, bb3, vk4, ht3, p3, ob3, kb4⟩ := mstep l3 k3 h2 HLo.out.1.d kb3 HHi.out.1.c
  obtain ⟨s4, t4, o4, k5, vl4, ws4, wt4, a4, b4, aa4, bb4, vk5, ht4, p4, ob4, kb5⟩ := mstep l4 k4 h3 HLo.out.1.e kb4 HHi.out.1.d
  obtain rfl : l0 = t0 := ht0
  have HR : Hid ((N5.mk o0 o1 o2 o3 o4).Ok ∧ (N5.mk o0 o1 o2 o3 o4).num = T) := Lib.hid ⟨⟨ob0, ob1, ob2, ob3, ob4⟩, mul_sum p0 p1 p2 p3 p4 (by rw [HLo.out.2, HHi.out.2]; exact HP.out.1) HP.out.2⟩
  clear ht1 ht2 ht3 ht4 p0 p1 p2 p3 p4 ob0 ob1 ob2 ob3 ob4 kb1 kb2 kb3 kb4 kb5 ws0 wt0
  go_wp2
  refine wp_loop_rounds 6 ?_
  rw [rounds_succ]
  go_wp2
  rw [rounds_succ]
  go_wp2
  rw [rounds_succ]
  go_wp2
  rw [rounds_succ]
  go_wp2
  rw [rounds_succ]
  go_wp2
  have Q1 := Lib.hid (row_alloc (row_alloc q1.out (.cells (N5.mk h0 h1 h2 h3 h4).cells 40)) (.cells (N5.mk o0 o1 o2 o3 o4).cells 40))
  have B1 := Lib.hid ((q5.out.alloc q5.out.size (.cells (N5.mk h0 h1 h2 h3 h4).cells 40)).alloc (by have := q5.out.size; simp; omega) (.cells (N5.mk o0 o1 o2 o3 o4).cells 40))
  rw [rounds_succ]
  go_wp2_with (refine wpList_store_row rfl 40 _ _ rfl (w.heap.size + 1) (N5.mk o0 o1 o2 o3 o4).cells rfl rfl 40 _ Q1.out info5 rfl (N5.one _) ?_)
  refine bodyPost_ret (results_cell_row rfl _ _ (w.heap.size + 1) 40 (N5.mk o0 o1 o2 o3 o4).cells (0, 0) (.array 5 37) rfl (setRow_heap _ _ _ _ _ _ Q1.out) Try.underlying40 rfl info5) rfl ?_
  exact ⟨⟨⟨o0, o1, o2, o3, o4⟩, rfl, HR.out.1, HR.out.2⟩, B1.out.setRow (by omega) _⟩
end Go.Proofs.Ytefjdbgmakddjaa
