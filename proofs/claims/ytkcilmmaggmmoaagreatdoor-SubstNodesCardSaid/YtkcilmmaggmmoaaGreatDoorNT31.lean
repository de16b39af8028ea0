/- RefTmp6 -/
import Derived.Laws.BytesArg
import Derived.Test.YtkcilmmaggmmoaaGreatDoorNT12
import Derived.Test.YtkcilmmaggmmoaaGreatDoorNT22
import Derived.Test.YtkcilmmaggmmoaaGreatDoorNT30
set_option linter.unusedVariables false
set_option linter.unusedSimpArgs false
set_option maxRecDepth 100000
set_option maxHeartbeats 16000000
open Go.Lib (hid)
namespace Go.Proofs.YtkcilmmaggmmoaaGreatDoor
namespace Nw
end Nw
namespace T13
end T13
end Go.Proofs.YtkcilmmaggmmoaaGreatDoor
namespace Go.Proofs.YtkcilmmaggmmoaaGreatDoor
section
open Go.RowKit Go.Sort
open Nw T13
theorem conv_one13 (wr : World) (c : UInt8) :
  (convert 98 9 (.slice (some ⟨wr.heap.size, 0, none⟩) 1 1)).run Tryz.prog (wr.alloc (.cells #[.int .u8 c.toNat] 5)) = .ok (.string ⟨#[c]⟩) (wr.alloc (.cells #[.int .u8 c.toNat] 5)) := by
 have h := run_convert_bytes_arg (P := Tryz.prog) (wr.alloc (.cells #[.int .u8 c.toNat] 5)) 98 5 Tryz.underlying98 Tryz.underlying5 wr.heap.size 0 1 1 [(c.toNat : Int)] rfl (fun i hi => by
  obtain rfl : i = 0 := by omega
  rw [World.cell?_alloc_at _ _ _ _ rfl]; rfl) 9 Tryz.underlying9
 rw [h]
 have e : strOfNums [(c.toNat : Int)] = ⟨#[c]⟩ := by
  unfold strOfNums
  simp
 rw [e]
theorem conv_one13d (wr : World) (c : UInt8) :
  (convert 98 9 (.slice (some ⟨wr.heap.size, 0, none⟩) 1 1)).run Tryz.prog (wr.alloc (.cells #[.int .u8 c.toNat] 5)).drew = .ok (.string ⟨#[c]⟩) (wr.alloc (.cells #[.int .u8 c.toNat] 5)).drew := by
 have h := run_convert_bytes_arg (P := Tryz.prog) (wr.alloc (.cells #[.int .u8 c.toNat] 5)).drew 98 5 Tryz.underlying98 Tryz.underlying5 wr.heap.size 0 1 1 [(c.toNat : Int)] rfl (fun i hi => by
  obtain rfl : i = 0 := by omega
  rw [show (wr.alloc (.cells #[.int .u8 c.toNat] 5)).drew.cell? ⟨wr.heap.size, 0 + 0, none⟩ = (wr.alloc (.cells #[.int .u8 c.toNat] 5)).cell? ⟨wr.heap.size, 0 + 0, none⟩ from rfl, World.cell?_alloc_at _ _ _ _ rfl]; rfl) 9 Tryz.underlying9
 rw [h]
 have e : strOfNums [(c.toNat : Int)] = ⟨#[c]⟩ := by
  unfold strOfNums
  simp
 rw [e]
def Nolit (done : List Pt) : Prop := ∀ (j : Nat) (h : j < done.length), j + 1 = done.length → (done[j]'h).op ≠ 0
theorem PtN.app {w W W' : World} {v v' : Value} {ps : List Pt} {p : Pt} {qs : List Qp} {q : Qp} {ob : Obj} (HQS : PtO 84 (Mine w W v) w.heap.size W v qs ps) (hb : Below W.heap.size W W') (hwW : w.heap.size ≤ W.heap.size) (hp : PtQ (Mine w (W'.alloc ob) v) (W'.alloc ob) p q)
  {w3 : World} (ho3 : w3.ownsRow w.heap.size 84 4 v' (ps.length + 1) (flatQ qs ++ [q.a, q.b, q.c, q.d])) (hg3 : (W'.alloc ob).grownBy w3 v.ownBlock) (hl3 : v'.ownBlock = v.ownBlock ∨ v'.ownBlock = some (W'.alloc ob).heap.size) :
  PtN 84 w w3 v' (ps ++ [p]) ∧ ∀ (B : Nat), B = w.heap.size → Below B w W → Below B w w3 := by
 have hbw : Below W.heap.size W (W'.alloc ob) := hb.alloc hb.size _
 refine ⟨PtN.grow (HQS.go hbw) hp ho3 hg3 hl3, ?_⟩
 rintro B rfl hB
 exact (hB.trans (hbw.mono hB.size)).grown hg3 (Nat.le_trans hB.size hbw.size) fun q hq => (HQS.1.lt q hq).1
theorem Rwords_new (w W : World) (hB : Below w.heap.size w W) (done : List Pt) (c : UInt8) (v : Value) (h : PtN 84 w W v done) (hn : Nolit done) (hl : done.length ≤ 100000) :
  Calls Tryz.prog 57 #[v, .int .u8 c.toNat] W fun e w' => ∃ v', e = .returned v' ∧ PtN 84 w w' v' (done ++ [litP [c]]) ∧ Below w.heap.size w w' := by
 obtain ⟨i0, hi, hz0, hz1, hz2⟩ := infoP13
 obtain ⟨qs, hqs⟩ := h
 have HQS := hid hqs
 obtain ⟨n, hnn⟩ : ∃ n, n = done.length := ⟨_, rfl⟩
 have hown : W.ownsRow w.heap.size 84 4 v n (flatQ qs) := by rw [hnn]; exact hqs.1
 have HOW := hid hown
 have HN := hid hnn
 have HB := hid hB
 have hql := hqs.2.1
 have hcv := conv_one13 W c
 have hn1 : n ≤ 100000 := by omega
 have hbs := hB.size
 have HP1 : Hid (PtQ (Mine w ((W.alloc (.cells #[.int .u8 c.toNat] 5)).alloc (.cells #[.string ⟨#[]⟩, .string ⟨#[c]⟩, .int .i64 0, .slice none 0 0] 84)) v) ((W.alloc (.cells #[.int .u8 c.toNat] 5)).alloc (.cells #[.string ⟨#[]⟩, .string ⟨#[c]⟩, .int .i64 0, .slice none 0 0] 84)) (litP [c]) ⟨.string ⟨#[]⟩, .string ⟨#[c]⟩, .int .i64 0, .slice none 0 0⟩) := hid (PtC.mk_ (ptL_nil _ _))
 have HB1 : Hid (Below W.heap.size W (W.alloc (.cells #[.int .u8 c.toNat] 5))) := hid ((Below.refl _ _).alloc (Nat.le_refl _) _)
 by_cases h0 : n = 0
 ·subst h0
  obtain ⟨A, cap, hv, -⟩ : ∃ A cap, v = .slice A 0 cap ∧ True := by
   rcases hown.2 with ⟨e, -⟩ | ⟨g, cap, cur, e, -⟩
   ·exact ⟨none, 0, e, trivial⟩
   ·exact ⟨_, _, e, trivial⟩
  subst hv
  clear hqs hown hnn hB hn hl hql
  go_enter Tryz.func57, Tryz.ntmps57
  go_wp2_with (refine wpList_append_own_at _ rfl _ _ 54 rfl w.heap.size 84 i0 _ 4 64 Tryz.underlying54 hi hz0 hz1 hz2 rfl (by decide) (.slice A 0 cap) _ (flatQ qs) rfl ((HOW.out.alloc _).alloc _) ⟨(W.alloc (.cells #[.int .u8 c.toNat] 5)).heap.size, 0, none⟩ 1 1 [.string ⟨#[]⟩, .string ⟨#[c]⟩, .int .i64 0, .slice none 0 0] (by simp [go_sem]) rfl (news13 _ _ _) (four13 _ _ _ _ _ _) (by unfold maxLen; omega) (by omega) (by simp; omega) ?_; intro v3 w3 ho3 hg3 _ hl3; obtain ⟨hR, hBB⟩ := PtN.app HQS.out HB1.out hbs HP1.out (by rw [← HN.out]; exact ho3) hg3 (by rcases hl3 with e | e; exact .inl e; exact .inr e); have HR := hid hR; have HBF := hid (hBB _ rfl HB.out); clear hR hBB ho3 hg3 hl3)
  go_ret
  exact ⟨v3, rfl, HR.out, HBF.out⟩
 ·obtain ⟨g, cap, hv, hg1, hg2⟩ := hown.form (by omega)
  subst hv
  obtain ⟨m, hm⟩ : ∃ m, n = m + 1 := ⟨n - 1, by omega⟩
  have hmd : m < done.length := by omega
  have hmq : m < qs.length := by omega
  have hop := hn m hmd (by omega)
  have hc2 := (hown.cellAt (m * 4 + 2) (by omega)).trans (flatQ_get qs m hmq).2.2.1
  obtain ⟨p, hp⟩ : ∃ p, done[m]'hmd = p := ⟨_, rfl⟩
  have hpc := hqs.2.2 m hmq hmd
  rw [hp] at hop hpc
  obtain ⟨nm, tx, op, sb⟩ := p
  obtain ⟨-, -, e2, -⟩ := PtC.sub hpc
  rw [e2] at hc2
  have hop2 : (op == 0) = false := beq_eq_false_iff_ne.2 hop
  subst hm
  have i1 : (0 : Int) ≤ ((m + 1 : Nat) : Int) - 1 := by omega
  have i2 : (((m + 1 : Nat) : Int) - 1).toNat = m := by omega
  have i3 : ((m + 1 : Nat) : Int) - 1 < ((m + 1 : Nat) : Int) := by omega
  have i4 : IntKind.i64.wrap (((m + 1 : Nat) : Int) - 1) = ((m + 1 : Nat) : Int) - 1 := IntWalk.i64_in _ (by omega)
  clear hqs hown hnn hB hn hl hql hop hp hpc e2
  go_enter Tryz.func57, Tryz.ntmps57
  go_wp2_with (refine wpList_append_own_at _ rfl _ _ 54 rfl w.heap.size 84 i0 _ 4 64 Tryz.underlying54 hi hz0 hz1 hz2 rfl (by decide) (.slice (some ⟨g, 0, none⟩) (m + 1) cap) _ (flatQ qs) rfl ((HOW.out.alloc _).alloc _) ⟨(W.alloc (.cells #[.int .u8 c.toNat] 5)).heap.size, 0, none⟩ 1 1 [.string ⟨#[]⟩, .string ⟨#[c]⟩, .int .i64 0, .slice none 0 0] (by simp [go_sem]) rfl (news13 _ _ _) (four13 _ _ _ _ _ _) (by unfold maxLen; omega) (by omega) (by simp; omega) ?_; intro v3 w3 ho3 hg3 _ hl3; obtain ⟨hR, hBB⟩ := PtN.app HQS.out HB1.out hbs HP1.out (by rw [← HN.out]; exact ho3) hg3 (by rcases hl3 with e | e; exact .inl e; exact .inr e); have HR := hid hR; have HBF := hid (hBB _ rfl HB.out); clear hR hBB ho3 hg3 hl3)
  go_ret
  exact ⟨v3, rfl, HR.out, HBF.out⟩
theorem flat_one13 {S : Nat → Prop} {w : World} : ∀ (qs : List Qp) (ps : List Pt), qs.length = ps.length → (∀ (j : Nat) (h : j < qs.length) (g : j < ps.length), PtQ S w (ps[j]'g) (qs[j]'h)) → ∀ u ∈ flatQ qs, u.oneCell' = true
 | [], _, _, _, u, hu => by cases hu
 | q :: qs, [], h, _, _, _ => by cases h
 | q :: qs, p :: ps, hl, h, u, hu => by
  have h0 := h 0 (Nat.succ_pos _) (Nat.succ_pos _)
  obtain ⟨nm, tx, op, sb⟩ := p
  obtain ⟨e0, e1, e2, A, cap, e3, -⟩ := PtC.sub (show PtC S w (.mk nm tx op sb) q.a q.b q.c q.d from h0)
  rw [flatQ] at hu
  simp only [List.mem_cons] at hu
  rcases hu with rfl | rfl | rfl | rfl | hu
  ·rw [e0]; rfl
  ·rw [e1]; rfl
  ·rw [e2]; rfl
  ·rw [e3]; rfl
  ·exact flat_one13 qs ps (by simpa using hl) (fun j h1 h2 => h (j + 1) (Nat.succ_lt_succ h1) (Nat.succ_lt_succ h2)) u hu
theorem flat_take13 : ∀ (qs : List Qp) (m : Nat), flatQ (qs.take m) = (flatQ qs).take (m * 4)
 | [], m => by rw [List.take_nil, flatQ, List.take_nil]
 | q :: qs, 0 => by rw [List.take_zero, Nat.zero_mul, List.take_zero, flatQ]
 | q :: qs, m + 1 => by
  rw [List.take_succ_cons, flatQ, flat_take13 qs m, flatQ, show (m + 1) * 4 = m * 4 + 4 by omega]
  rfl
@[reducible] def CellT (b o : Nat) (x : Value) (w : World) : Prop := b < w.heap.size ∧ w.cell? ⟨b, o, none⟩ = some x
theorem keepT_alloc {b o : Nat} {x : Value} {w : World} {ob : Obj} (h : CellT b o x w) : CellT b o x (w.alloc ob) :=
 ⟨Nat.lt_of_lt_of_le h.1 ((Below.refl w.heap.size w).alloc (Nat.le_refl _) ob).size, (((Below.refl w.heap.size w).alloc (Nat.le_refl _) ob).cell (p := ⟨b, o, none⟩) h.1).trans h.2⟩
theorem PtO.copy {w W w3 : World} {v v4 : Value} {qs : List Qp} {done : List Pt} {p : Pt} {W2 : World} (HQS : PtO 84 (Mine w W v) w.heap.size W v qs (done ++ [p])) (hb : Below W.heap.size W W2)
  (ho : w3.ownsRow w.heap.size 84 4 v4 (0 + done.length) ([] ++ flatQ (qs.take done.length))) (hg : (W2.alloc (.cells #[] 84)).grownBy w3 (some W2.heap.size))
  (hl : v4.ownBlock = some W2.heap.size ∨ v4.ownBlock = some (W2.alloc (.cells #[] 84)).heap.size) : PtO 84 (Mine w w3 v4) w.heap.size w3 v4 (qs.take done.length) done := by
 have hsz := HQS.2.1
 rw [List.length_append, List.length_singleton] at hsz
 have hb2 : Below W.heap.size W (W2.alloc (.cells #[] 84)) := hb.alloc hb.size _
 have hs3 : (W2.alloc (.cells #[] 84)).heap.size = W2.heap.size + 1 := by simp
 refine ⟨?_, by rw [List.length_take, Nat.min_eq_left (by omega)], fun j hj g => ?_⟩
 ·rw [Nat.zero_add, List.nil_append] at ho; exact ho
 ·have hj2 : j < qs.length := by rw [List.length_take] at hj; omega
  have hj3 : j < (done ++ [p]).length := by rw [List.length_append]; omega
  have := HQS.2.2 j hj2 hj3
  rw [List.getElem_append_left g] at this
  rw [List.getElem_take]
  refine PtC.keep (fun b hs => ⟨⟨hs.1, Nat.lt_of_lt_of_le hs.2.1 (Nat.le_trans hb2.size hg.size), ?_⟩, (hg.block b (Nat.lt_of_lt_of_le hs.2.1 hb2.size) fun e => ?_).trans (hb2.block b hs.2.1)⟩) _ this
  ·have := hs.2.1
   have := hb.size
   injection e with e; omega
  ·have := hs.2.1
   have := hb.size
   rcases hl with e | e
   ·rw [e]; intro e'; injection e' with e'; omega
   ·rw [e]; intro e'; injection e' with e'; omega
theorem Rwords_more (w W : World) (hB : Below w.heap.size w W) (done : List Pt) (lit : L8) (c : UInt8) (v : Value) (h : PtN 84 w W v (done ++ [litP lit])) (hl : done.length ≤ 100000) (hll : lit.length ≤ 1000000) :
  Calls Tryz.prog 57 #[v, .int .u8 c.toNat] W fun e w' => ∃ v', e = .returned v' ∧ PtN 84 w w' v' (done ++ [litP (lit ++ [c])]) ∧ Below w.heap.size w w' := by
 obtain ⟨i0, hi, hz0, hz1, hz2⟩ := infoP13
 obtain ⟨qs, hqs⟩ := h
 have HQS := hid hqs
 obtain ⟨m, hnn⟩ : ∃ m, m = done.length := ⟨_, rfl⟩
 obtain ⟨n, hnm⟩ : ∃ n, n = m + 1 := ⟨_, rfl⟩
 have hown : W.ownsRow w.heap.size 84 4 v n (flatQ qs) := by have := hqs.1; rw [List.length_append, List.length_singleton] at this; rw [hnm, hnn]; exact this
 have HOW := hid hown
 have HN := hid hnn
 have HB := hid hB
 have hql := hqs.2.1
 rw [List.length_append, List.length_singleton] at hql
 have hcv := conv_one13d W c
 have hcv2 := conv_one13 W.drew c
 have hn1 : m ≤ 100000 := by omega
 have hbs := hB.size
 obtain ⟨g, cap, hv, hg1, hg2⟩ := hown.form (by omega)
 subst hv
 have hncap : n ≤ cap := by
  rcases hown.2 with ⟨e, -⟩ | ⟨g', cap', cur, e, -, -, e2, -⟩
  ·cases e
  ·injection e with e3 e4 e5; omega
 have hmd : m < (done ++ [litP lit]).length := by rw [List.length_append, List.length_singleton]; omega
 have hmq : m < qs.length := by omega
 have hc1 := (hown.cellAt (m * 4 + 1) (by omega)).trans (flatQ_get qs m hmq).2.1
 have hc2 := (hown.cellAt (m * 4 + 2) (by omega)).trans (flatQ_get qs m hmq).2.2.1
 have hpc := hqs.2.2 m hmq hmd
 have hp : (done ++ [litP lit])[m]'hmd = .mk [] lit 0 [] := by
  subst hnn
  rw [List.getElem_append_right (Nat.le_refl _)]
  simp [litP]
 rw [hp] at hpc
 obtain ⟨-, e1, e2, -⟩ := PtC.sub hpc
 rw [e1] at hc1
 rw [e2] at hc2
 obtain ⟨L, hL⟩ : ∃ L, ba lit = L := ⟨_, rfl⟩
 rw [hL] at hc1
 have hLs : L.size ≤ 1000000 := by rw [← hL]; simp [ba, ByteArray.size]; omega
 have HL := hid hL
 have hap : ba (lit ++ [c]) = L ++ ⟨#[c]⟩ := by
  apply bytes_ext13
  rw [ba_data, data_app13, ← hL, ba_data]
 have HAP := hid hap
 have i0' : (0 : Int) < (n : Int) := by omega
 have i6 : (1 : Int) ≤ (n : Int) := by omega
 have i1 : (0 : Int) ≤ (n : Int) - 1 := by omega
 have i2 : ((n : Int) - 1).toNat = m := by omega
 have i3 : (n : Int) - 1 < (n : Int) := by omega
 have i5 : (n : Int) - 1 ≤ (cap : Int) := by omega
 have i4 : IntKind.i64.wrap ((n : Int) - 1) = (n : Int) - 1 := IntWalk.i64_in _ (by omega)
 have HNM := hid hnm
 have f1 : (9223372036854775807 < L.size + 1) = False := eq_false (by omega)
 clear hqs hown hnn hnm hB hl hql hp hpc e1 e2 hL hap
 go_enter Tryz.func57, Tryz.ntmps57
 go_wp2
 have hS1 : CellT g (m * 4 + 1) (.string L) W.drew := ⟨hg2, hc1⟩
 go_region_held (fun W => g < W.heap.size ∧ W.cell? ⟨g, m * 4 + 1, none⟩ = some (.string L)) (first | exact hS1 | assumption | exact keepT_alloc (by assumption)) (fail)
 all_goals
  obtain ⟨W2, hW2⟩ : ∃ W2, W2 = (W.alloc (.cells #[.int .u8 c.toNat] 5)).drew := ⟨_, rfl⟩
  rw [← hW2]
  have HB2 : Hid (Below W.heap.size W W2) := hid (by rw [hW2]; exact ((Below.refl _ _).alloc (Nat.le_refl _) _).trans ((below_drewN _ 1).mono (by simp)))
  have hs2 := HB2.out.size
  have HLQ : Hid ((flatQ (qs.take m)).length = m * 4) := hid (by rw [flatQ_len, List.length_take, Nat.min_eq_left (by omega)])
  have HO0 : Hid ((W2.alloc (.cells #[] 84)).ownsRow w.heap.size 84 4 (.slice (some ⟨W2.heap.size, 0, none⟩) 0 0) 0 []) := hid ⟨rfl, .inr ⟨W2.heap.size, 0, #[], rfl, by omega, Array.getElem?_push_size (xs := W2.heap), Nat.le_refl _, Nat.zero_le _, rfl, rfl⟩⟩
  have HNEWS : Hid (∀ j u, (flatQ (qs.take m))[j]? = some u → (W2.alloc (.cells #[] 84)).cell? ((⟨g, 0, none⟩ : Addr).add j) = some u) := hid (fun j u hj => by
   have hjl : j < m * 4 := by rw [← HLQ.out]; exact (List.getElem?_eq_some_iff.1 hj).1
   rw [flat_take13, List.getElem?_take_of_lt hjl] at hj
   rw [Go.WideShapes.add_plain, Nat.zero_add]
   exact ((HB2.out.alloc HB2.out.size _).cell (p := ⟨g, j, none⟩) hg2).trans ((HOW.out.cellAt j (by have := HNM.out; omega)).trans hj))
  have HONE : Hid (∀ u ∈ flatQ (qs.take m), u.oneCell' = true) := hid (fun u hu => flat_one13 qs _ HQS.out.2.1 HQS.out.2.2 u (by rw [flat_take13] at hu; exact List.mem_of_mem_take hu))
  clear hW2 hcv hcv2 hS1
  go_wp2_with first
   | (refine wpList_append_own_at _ rfl _ _ 54 rfl w.heap.size 84 i0 _ 4 64 Tryz.underlying54 hi hz0 hz1 hz2 rfl (by decide) (.slice (some ⟨W2.heap.size, 0, none⟩) 0 0) 0 [] (by simp [go_sem]) HO0.out ⟨g, 0, none⟩ m cap (flatQ (qs.take m)) (by simp [go_sem]) HLQ.out HNEWS.out HONE.out (by unfold maxLen; omega) (by omega) (by simp; omega) ?_; intro v4 w4 ho4 hg4 _ hl4; have hcp : PtO 84 (Mine w w4 v4) w.heap.size w4 v4 (qs.take done.length) done := PtO.copy HQS.out HB2.out (by rw [← HN.out]; exact ho4) hg4 hl4; have hbl : Below W.heap.size W (W2.alloc (.cells #[] 84)) := HB2.out.alloc HB2.out.size _; have HB4 : Hid (Below w.heap.size w w4) := hid ((HB.out.trans (hbl.mono hbs)).grown hg4 (by simp; omega) fun q hq => (by have hq2 : some W2.heap.size = some q := hq; injection hq2 with hq3; omega)); have HQ4 := hid hcp; have HOW4 := hid hcp.1; have hbs4 := HB4.out.size; clear hcp hbl ho4 hg4 hl4)
   | (refine wpList_append_own_at _ rfl _ _ 54 rfl w.heap.size 84 i0 _ 4 64 Tryz.underlying54 hi hz0 hz1 hz2 rfl (by decide) v4 _ (flatQ (qs.take done.length)) (by simp [go_sem]) (HOW4.out.alloc _) ⟨w4.heap.size, 0, none⟩ 1 1 [.string ⟨#[]⟩, .string (L ++ ⟨#[c]⟩), .int .i64 0, .slice none 0 0] (by simp [go_sem]) rfl (news13 _ _ _) (four13 _ _ _ _ _ _) (by unfold maxLen; have := HN.out; omega) (by have := HN.out; omega) (by simp; omega) ?_; intro v5 w5 ho5 hg5 _ hl5; have hp5 : PtQ (Mine w (w4.alloc (.cells #[.string ⟨#[]⟩, .string (L ++ ⟨#[c]⟩), .int .i64 0, .slice none 0 0] 84)) v4) (w4.alloc (.cells #[.string ⟨#[]⟩, .string (L ++ ⟨#[c]⟩), .int .i64 0, .slice none 0 0] 84)) (litP (lit ++ [c])) ⟨.string ⟨#[]⟩, .string (L ++ ⟨#[c]⟩), .int .i64 0, .slice none 0 0⟩ := (by rw [← HAP.out]; exact PtC.mk_ (ptL_nil _ _)); obtain ⟨hR, hBB⟩ := PtN.app HQ4.out (Below.refl _ _) hbs4 hp5 ho5 hg5 hl5; have HR := hid hR; have HBF := hid (hBB _ rfl HB4.out); clear hR hBB hp5 ho5 hg5 hl5)
  go_ret
  exact ⟨v5, rfl, HR.out, HBF.out⟩
end
end Go.Proofs.YtkcilmmaggmmoaaGreatDoor
