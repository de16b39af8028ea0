/- The contract of the document's own times. -/
import Derived.Test.YtefjdbgmakddjaaShaRoot
import Derived.Test.YtefjdbgmakddjaaShaArr
namespace Go.Proofs.Ytefjdbgmakddjaa
open Go.RowKit
open Sh Ro
set_option linter.unusedVariables false
/-- A number of five parts of 24 bits, the lowest first. -/
structure N5 where
  a : Nat
  b : Nat
  c : Nat
  d : Nat
  e : Nat
def N5.cells (x : N5) : Array Value := #[.int .u64 (x.a : Int), .int .u64 (x.b : Int), .int .u64 (x.c : Int), .int .u64 (x.d : Int), .int .u64 (x.e : Int)]
theorem N5.mk_cells (a b c d e : Nat) : (N5.mk a b c d e).cells = #[.int .u64 (a : Int), .int .u64 (b : Int), .int .u64 (c : Int), .int .u64 (d : Int), .int .u64 (e : Int)] := rfl
theorem N5.one (x : N5) : x.cells.all (·.oneCell') = true := by
  rw [Array.all_eq_true]
  intro i hi
  have h : i < 5 := hi
  match i, h with
  | 0, _ => rfl
  | 1, _ => rfl
  | 2, _ => rfl
  | 3, _ => rfl
  | 4, _ => rfl
def N5.num (x : N5) : Nat := x.a + x.b * 16777216 + x.c * 281474976710656 + x.d * 4722366482869645213696 + x.e * 79228162514264337593543950336
structure N5.Ok (x : N5) : Prop where
  a : x.a < 16777216
  b : x.b < 16777216
  c : x.c < 16777216
  d : x.d < 16777216
  e : x.e < 16777216
theorem info5 : (Try.prog.info? 40).map (·.size) = some 5 := by kernel_rfl
theorem mul_nat {a m p : Nat} (h : a * m = p) : (a : Int) * (m : Int) = (p : Int) := by rw [← h, Int.natCast_mul]
theorem row5 {w : World} {g : Nat} {t : TypeId} {c0 c1 c2 c3 c4 : Value} (hg : w.heap[g]? = some (.cells #[c0, c1, c2, c3, c4] t (0, 0))) (v0 v1 v2 v3 v4 : Value) :
    (((((w.setCell ⟨g, 0, none⟩ v0).setCell ⟨g, 1, none⟩ v1).setCell ⟨g, 2, none⟩ v2).setCell ⟨g, 3, none⟩ v3).setCell ⟨g, 4, none⟩ v4).heap[g]? = some (.cells #[v0, v1, v2, v3, v4] t (0, 0)) := by
  have h := heap_setCell_same _ g 4 _ t v4 (heap_setCell_same _ g 3 _ t v3 (heap_setCell_same _ g 2 _ t v2 (heap_setCell_same _ g 1 _ t v1 (heap_setCell_same w g 0 _ t v0 hg))))
  rw [h]; simp
theorem times_num {a b c d e m p0 p1 p2 p3 p4 o0 o1 o2 o3 o4 k1 k2 k3 k4 k5 : Nat} (h0 : a * m = p0) (h1 : b * m = p1) (h2 : c * m = p2) (h3 : d * m = p3) (h4 : e * m = p4)
    (q0 : p0 = o0 + k1 * 16777216) (q1 : p1 + k1 = o1 + k2 * 16777216) (q2 : p2 + k2 = o2 + k3 * 16777216) (q3 : p3 + k3 = o3 + k4 * 16777216) (q4 : p4 + k4 = o4 + k5 * 16777216)
    (hb : (N5.mk a b c d e).num * m < 1329227995784915872903807060280344576) : (N5.mk o0 o1 o2 o3 o4).num = (N5.mk a b c d e).num * m := by
  have hs : (N5.mk a b c d e).num * m = p0 + p1 * 16777216 + p2 * 281474976710656 + p3 * 4722366482869645213696 + p4 * 79228162514264337593543950336 := by
    unfold N5.num
    dsimp only
    rw [Nat.add_mul, Nat.add_mul, Nat.add_mul, Nat.add_mul, Nat.mul_right_comm b, Nat.mul_right_comm c, Nat.mul_right_comm d, Nat.mul_right_comm e, h0, h1, h2, h3, h4]
  rw [hs] at hb ⊢
  unfold N5.num
  dsimp only
  omega
/-- One step: a product of two parts with what is carried. -/
theorem tstep (a m k : Nat) (ha : a < 16777216) (hm : m < 16777216) (hk : k ≤ 16777216) : ∃ p t o k' : Nat, (a : Int) * (m : Int) = (p : Int) ∧ IntKind.u64.wrap (p : Int) = (p : Int) ∧ IntKind.u64.wrap ((p : Int) + (k : Int)) = (t : Int) ∧
    (t : Int) % 16777216 = (o : Int) ∧ (t : Int) / 16777216 = (k' : Int) ∧ (t : Int).tmod 16777216 = (o : Int) ∧ (t : Int).tdiv 16777216 = (k' : Int) ∧ IntKind.u64.wrap (k' : Int) = (k' : Int) ∧ a * m = p ∧ p + k = t ∧ p + k = o + k' * 16777216 ∧ o < 16777216 ∧ k' ≤ 16777216 := by
  obtain ⟨p, hp⟩ : ∃ p, a * m = p := ⟨_, rfl⟩
  have hb : p ≤ 16777215 * 16777215 := by rw [← hp]; exact Nat.mul_le_mul (by omega) (by omega)
  have h1 := mul_nat hp
  clear hp
  refine ⟨p, p + k, (p + k) % 16777216, (p + k) / 16777216, h1, wrap64u (by omega) (by omega), ?_, by omega, by omega, ?_, ?_, wrap64u (by omega) (by omega), ?_, rfl, by omega, by omega, by omega⟩
  · rw [wrap64u (by omega) (by omega)]; omega
  · rw [Int.tmod_eq_emod_of_nonneg (by omega)]; omega
  · rw [Int.tdiv_eq_ediv_of_nonneg (by omega)]; omega
  · have := h1; rw [← Int.natCast_mul] at this; exact Int.ofNat.inj this
set_option maxHeartbeats 4000000 in
theorem times_any (x : N5) (m : Nat) (w : World) (hx : x.Ok) (hm : m < 16777216) (hb : x.num * m < 1329227995784915872903807060280344576) :
    Calls Try.prog 35 #[.agg x.cells, .int .u64 (m : Int)] w fun e w' => (∃ y : N5, e = .returned (.agg y.cells) ∧ y.Ok ∧ y.num = x.num * m) ∧ Below w.heap.size w w' := by
  obtain ⟨a0, a1, a2, a3, a4⟩ := x
  obtain ⟨x0, x1, x2, x3, x4⟩ := hx
  dsimp only at x0 x1 x2 x3 x4
  unfold N5.cells
  dsimp only
  obtain ⟨p0, t0, o0, k1, e0, w0, u0, r0, s0, rr0, ss0, v0, hp0, ht0, q0, ob0, kb1⟩ := tstep a0 m 0 x0 hm (Nat.zero_le _)
  obtain ⟨p1, t1, o1, k2, e1, w1, u1, r1, s1, rr1, ss1, v1, hp1, ht1, q1, ob1, kb2⟩ := tstep a1 m k1 x1 hm kb1
  obtain ⟨p2, t2, o2, k3, e2, w2, u2, r2, s2, rr2, ss2, v2, hp2, ht2, q2, ob2, kb3⟩ := tstep a2 m k2 x2 hm kb2
  obtain ⟨p3, t3, o3, k4, e3, w3, u3, r3, s3, rr3, ss3, v3, hp3, ht3, q3, ob3, kb4⟩ := tstep a3 m k3 x3 hm kb3
  obtain ⟨p4, t4, o4, k5, e4, w4, u4, r4, s4, rr4, ss4, v4, hp4, ht4, q4, ob4, kb5⟩ := tstep a4 m k4 x4 hm kb4
  obtain rfl : p0 = t0 := ht0
  have HR : Hid ((N5.mk o0 o1 o2 o3 o4).Ok ∧ (N5.mk o0 o1 o2 o3 o4).num = (N5.mk a0 a1 a2 a3 a4).num * m) := Lib.hid ⟨⟨ob0, ob1, ob2, ob3, ob4⟩, times_num hp0 hp1 hp2 hp3 hp4 q0 q1 q2 q3 q4 hb⟩
  clear hp0 hp1 hp2 hp3 hp4 ht1 ht2 ht3 ht4 q0 q1 q2 q3 q4 ob0 ob1 ob2 ob3 ob4 kb1 kb2 kb3 kb4 kb5 x0 x1 x2 x3 x4 u0 hb hm
  go_enter Try.func35, Try.ntmps35
  go_wp2
  refine wp_loop_rounds 6 ?_
  rw [rounds_succ]
  go_wp2
  rw [rounds_succ]
  go_wp2
  rw [rounds_succ]
  go_wp2
  rw [rounds_succ]
  go_wp2
  rw [rounds_succ]
  go_wp2
  rw [rounds_succ]
  go_wp2
  refine bodyPost_ret (results_cell_row rfl _ _ (w.heap.size + 1) 40 (N5.mk o0 o1 o2 o3 o4).cells (0, 0) (.array 5 37) rfl (row_alloc (row_new1 w _ _) _) Try.underlying40 rfl info5) rfl ?_
  exact ⟨⟨⟨o0, o1, o2, o3, o4⟩, rfl, HR.out.1, HR.out.2⟩, (((Below.refl _ w).alloc (Nat.le_refl _) _).alloc (by simp) _).alloc (by simp; omega) _⟩
end Go.Proofs.Ytefjdbgmakddjaa
