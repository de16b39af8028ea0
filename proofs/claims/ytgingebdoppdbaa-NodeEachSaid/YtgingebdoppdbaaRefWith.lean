/- The contract of the document's own With. -/
import Derived.Test.YtgingebdoppdbaaRefWith0
import Derived.Deep.RegionLaw
import Derived.Deep.CutRange
namespace Go.Proofs.Ytgingebdoppdbaa
open Go.RowKit Go.Sort
open Nw N8 Go.ChangeShapes Go.WideShapes
set_option linter.unusedVariables false
theorem kk_grown2 {w w' : World} {row : Option Nat} {p q : Addr} {u v : Value} (hg : w.grownBy w' row) (hp : row ≠ some p.block) (hq : row ≠ some q.block) (h : w.cell? p = some u ∧ w.cell? q = some v) : w'.cell? p = some u ∧ w'.cell? q = some v :=
  kk_grown h hg hp hq
theorem frozen_alloc {w : World} {o : Obj} {p : Addr} (h : w.frozen? p = false) (hlt : p.block < w.heap.size) : (w.alloc o).frozen? p = false :=
  (World.frozen?_of_block (Below.heap_alloc w o p.block hlt)).trans h
/-- Five cells: the kids' slice and a kid. -/
@[reducible] def K5 (p : Addr) (u : Value) (b o : Nat) (a0 a1 a2 a3 : Value) (w : World) : Prop :=
  w.cell? p = some u ∧ w.cell? ⟨b, o, none⟩ = some a0 ∧ w.cell? ⟨b, o + 1, none⟩ = some a1 ∧ w.cell? ⟨b, o + 2, none⟩ = some a2 ∧ w.cell? ⟨b, o + 3, none⟩ = some a3
theorem k5_alloc {p : Addr} {u : Value} {b o : Nat} {a0 a1 a2 a3 : Value} {w : World} {ob : Obj} (h : K5 p u b o a0 a1 a2 a3 w) : K5 p u b o a0 a1 a2 a3 (w.alloc ob) :=
  ⟨cells_alloc h.1, cells_alloc h.2.1, cells_alloc h.2.2.1, cells_alloc h.2.2.2.1, cells_alloc h.2.2.2.2⟩
theorem k5_grown {p : Addr} {u : Value} {b o : Nat} {a0 a1 a2 a3 : Value} {w w' : World} {row : Option Nat} (hg : w.grownBy w' row) (hp : row ≠ some p.block) (hb : row ≠ some b) (h : K5 p u b o a0 a1 a2 a3 w) : K5 p u b o a0 a1 a2 a3 w' :=
  ⟨cell_grown h.1 hg hp, cell_grown h.2.1 hg hb, cell_grown h.2.2.1 hg hb, cell_grown h.2.2.2.1 hg hb, cell_grown h.2.2.2.2 hg hb⟩
theorem k5_set {p r : Addr} {u x : Value} {b o : Nat} {a0 a1 a2 a3 : Value} {w : World} (hp : p.block ≠ r.block) (hb : b ≠ r.block) (h : K5 p u b o a0 a1 a2 a3 w) : K5 p u b o a0 a1 a2 a3 (w.setCell r x) :=
  ⟨cell_set h.1 hp, cell_set h.2.1 hb, cell_set h.2.2.1 hb, cell_set h.2.2.2.1 hb, cell_set h.2.2.2.2 hb⟩
set_option maxRecDepth 100000 in
set_option maxHeartbeats 4000000 in
theorem RWith_else (d dv : Nd) (x : ByteArray) (h0 : d.kind ≠ 0) (h3 : d.kind ≠ 3) (c0 c1 c2 c3 u0 u1 u2 u3 : Value) (w : World) (hd : NdW w d c0 c1 c2 c3) (hv : NdW w dv u0 u1 u2 u3) :
    Calls Try.prog 19 #[.agg #[c0, c1, c2, c3], .string x, .agg #[u0, u1, u2, u3]] w (GivesN d w) := by
  have HB := Lib.hid (Bx3.make hd hv)
  obtain ⟨k, s, a, n, c, A, m, q, rfl, rfl, rfl, rfl⟩ := hd.shape
  obtain ⟨k1, s1, a1, n1, c9, A1, m1, q1, rfl, rfl, rfl, rfl⟩ := hv.shape
  obtain ⟨hk, -⟩ := NdC.len hd
  have p1 : (k != 3) = true := bne_iff_ne.2 (by rw [← hk]; exact h3)
  have p2 : (k != 0) = true := bne_iff_ne.2 (by rw [← hk]; exact h0)
  obtain ⟨x0, x1, x2, x3⟩ := HB.out.2.1.cells
  obtain ⟨z0, z1, z2, z3⟩ := HB.out.2.2.2.1.cells
  obtain ⟨f0, f1, f2, f3⟩ := HB.out.2.2.2.1.frozen
  have HX8 := Lib.hid (below_put4 HB.out.1 (g := w.heap.size + 2) (by omega) (.int .i64 k) (.string s) (.slice a n c) (.slice A m q))
  have HND := Lib.hid ((HB.out.2.2.2.2.1.put (g := w.heap.size + 2) (fun b hs => by have : b < w.heap.size := hs; omega) (.int .i64 k) (.string s) (.slice a n c) (.slice A m q)).all fun b hb => Nat.lt_of_lt_of_le hb HX8.out.size)
  clear hd hv hk h0 h3
  generalize hW0 : ((w.alloc (.cells #[.int .i64 k, .string s, .slice a n c, .slice A m q] 25)).alloc (.cells #[.int .i64 k1, .string s1, .slice a1 n1 c9, .slice A1 m1 q1] 25)).alloc (.cells #[.int .i64 0, .string ⟨#[]⟩, .slice none 0 0, .slice none 0 0] 25) = W0 at *
  go_enter Try.func19, Try.ntmps19
  go_wp2
  refine bodyPost_ret (v := .agg #[.int .i64 k, .string s, .slice a n c, .slice A m q]) (by simp [results, Try.results19, go_sem, z0, z1, z2, z3]) rfl ⟨_, _, _, _, rfl, HND.out, HX8.out⟩
set_option maxRecDepth 100000 in
set_option maxHeartbeats 8000000 in
theorem RWith_map (k : Int) (ks : List L8) (ds : List Nd) (dv : Nd) (x : ByteArray) (hk : (k = 0 ∧ ks = []) ∨ k = 3) (hlen : ks.length = ds.length) (hcnt : ds.length ≤ 10000) (c0 c1 c2 c3 u0 u1 u2 u3 : Value) (w : World) (hd : NdW w (.mk k [] ks ds) c0 c1 c2 c3) (hv : NdW w dv u0 u1 u2 u3) :
    Calls Try.prog 19 #[.agg #[c0, c1, c2, c3], .string x, .agg #[u0, u1, u2, u3]] w (GivesN (withT (.mk k [] ks ds) x.data.toList dv) w) := by
  have hb := Bx3.make hd hv
  obtain ⟨k', s, a, n, c, A, m, q, rfl, rfl, rfl, rfl⟩ := hd.shape
  obtain ⟨k1, s1, a1, n1, c9, A1, m1, q1, rfl, rfl, rfl, rfl⟩ := hv.shape
  obtain ⟨hk', hn', hm', -⟩ := NdC.len hd
  obtain rfl : k = k' := hk'
  have HW : Hid (withT (.mk k [] ks ds) x.data.toList dv = .mk 3 [] (ks ++ if x.data.toList ∈ ks then [] else [x.data.toList]) (putK ks ds x.data.toList dv ++ if x.data.toList ∈ ks then [] else [dv])) := Lib.hid (if_neg (by show ¬ (k ≠ 0 ∧ k ≠ 3); rcases hk with ⟨h, _⟩ | h <;> omega))
  have hks : Rd w (.slice a n c) ks := hd.parts.2.2.1
  have HKS := Lib.hid hks
  have HKD := Lib.hid hd.kd
  have HV := Lib.hid hv
  have HN : Hid (ks.length = n) := Lib.hid hn'
  have HM : Hid (ds.length = n) := Lib.hid (by rw [← hlen]; exact hn')
  have hmn : m = n := by have h1 : ds.length = m := hm'; have h2 : ks.length = n := hn'; omega
  subst hmn
  have hm10 : m ≤ 10000 := by rw [← HM.out]; exact hcnt
  have hm0 : k = 0 → m = 0 := by
    intro h0
    rcases hk with ⟨_, h⟩ | h
    · rw [← HN.out, h]; rfl
    · omega
  have HM0 := Lib.hid hm0
  clear hm0
  generalize hW0 : ((w.alloc (.cells #[.int .i64 k, .string s, .slice a m c, .slice A m q] 25)).alloc (.cells #[.int .i64 k1, .string s1, .slice a1 n1 c9, .slice A1 m1 q1] 25)).alloc (.cells #[.int .i64 0, .string ⟨#[]⟩, .slice none 0 0, .slice none 0 0] 25) = W0 at *
  have hG : ∀ W W' : World, Bx3 w W (.mk k [] ks ds) dv (.int .i64 k) (.string s) (.slice a m c) (.slice A m q) (.int .i64 k1) (.string s1) (.slice a1 n1 c9) (.slice A1 m1 q1) → Below W0.heap.size W W' → Bx3 w W' (.mk k [] ks ds) dv (.int .i64 k) (.string s) (.slice a m c) (.slice A m q) (.int .i64 k1) (.string s1) (.slice a1 n1 c9) (.slice A1 m1 q1) := fun W W' h hb => h.far (by rw [← hW0] at hb; simpa using hb)
  have HG := Lib.hid hG
  have hsz : W0.heap.size = w.heap.size + 3 := by rw [← hW0]; simp
  have hRW : RW W0.heap.size (fun W => Bx3 w W (.mk k [] ks ds) dv (.int .i64 k) (.string s) (.slice a m c) (.slice A m q) (.int .i64 k1) (.string s1) (.slice a1 n1 c9) (.slice A1 m1 q1)) (W0.alloc (.cells #[.int .i64 3, .string ⟨#[]⟩, .slice none 0 0, .slice none 0 0] 25)) (.slice none 0 0) 0 [] (.slice none 0 0) 0 [] := by
    refine ⟨hb.go ((Below.refl _ _).alloc (Nat.le_refl _) _), ?_, World.ownsRow_nil _ _ _ _, World.ownsRow_nil _ _ _ _⟩
    exact Row4.make W0 _ _ _ _ _
  have HR0 := Lib.hid hRW
  obtain ⟨x0, x1, x2, x3⟩ := hb.2.1.cells
  have HL := Lib.hid hsz
  clear hd hv hks hlen hcnt hn' hm' hG hRW hb hsz
  obtain ⟨i0, hi, hz0, hz1, hz2⟩ := infoS
  obtain ⟨j0, hj, hy0, hy1, hy2⟩ := infoN
  go_enter Try.func19, Try.ntmps19
  rcases hk with ⟨rfl, hk0⟩ | rfl
  all_goals
    go_wp2
    generalize W0.alloc (.cells #[.int .i64 3, .string ⟨#[]⟩, .slice none 0 0, .slice none 0 0] 25) = W1 at *
    generalize W0.heap.size = OUT at *
    clear x0 x1 x2 x3 hW0
    go_loopw [8, 9] (fun sb si wr => ∃ (j : Nat) (u7 u8 : Value) (qs : List Q4) (B : Bool), j ≤ m ∧ si = .int .i64 (j : Int) ∧ sb = .bool B ∧ Hid (B = decide (x.data.toList ∈ ks.take j)) ∧ Hid (RW OUT (fun W => Bx3 w W (.mk _ [] ks ds) dv (.int .i64 _) (.string s) (.slice a m c) (.slice A m q) (.int .i64 k1) (.string s1) (.slice a1 n1 c9) (.slice A1 m1 q1)) wr u7 j ((ks.take j).map encStr) u8 j (flat4 qs)) ∧ Hid (QF w (putK (ks.take j) (ds.take j) x.data.toList dv) qs)) (fun _ si _ => m - (intOf si).toNat)
    case atStart => exact ⟨0, _, _, [], false, Nat.zero_le _, rfl, rfl, Lib.hid (by simp), HR0, Lib.hid (by rw [show putK (ks.take 0) (ds.take 0) x.data.toList dv = [] by rw [List.take_zero, List.take_zero, putK]; intros; contradiction]; exact QF.nil w)⟩
    case round =>
      clear HR0
      obtain ⟨j, u7, u8, qs, B, hj9, rfl, rfl, HBB, HR, HQ⟩ := hrel
      obtain ⟨hB3, hO4, hS7, hN8⟩ := HR.out
      obtain ⟨x0, x1, x2, x3⟩ := hB3.2.1.cells
      by_cases hlt : j < m
      · first
          | exact absurd hlt (by have := HM0.out rfl; omega)
          | (have hjk : j < ks.length := by rw [HN.out]; exact hlt
             have hjd : j < ds.length := by rw [HM.out]; exact hlt
             have hjz : (j : Int) < (m : Int) := by omega
             obtain ⟨kb, ko, rfl, hkb, y0⟩ := rd_at HKS.out j hjk
             obtain ⟨b, o, e0, e1, e2, e3, rfl, hb, g0, g1, g2, g3, hnd⟩ := HKD.out.kid j hjd
             obtain ⟨k2, s2, a2, n2, c2, A2, m2, q2, rfl, rfl, rfl, rfl⟩ := ndw_shape hnd
             have y1 := (Below.cell hB3.1 (p := ⟨kb, ko + j, none⟩) hkb).trans y0
             have HX7 : Hid ((ks.take (j + 1)).map encStr = (ks.take j).map encStr ++ [.string (ba (ks[j]'hjk))]) := Lib.hid (take_map_snoc hjk)
             have HP := Lib.hid (putK_snoc (x := x.data.toList) (v := dv) hjk hjd)
             obtain ⟨K, hK⟩ : ∃ K, ba (ks[j]'hjk) = K := ⟨_, rfl⟩
             have HKE : Hid (K.data.toList = ks[j]'hjk) := Lib.hid (by rw [← hK, ba_data])
             rw [hK] at y0 y1 HX7
             have HY := Lib.hid y0
             have HND := Lib.hid hnd
             have hKK : Hid ((ks.take (j + 1)) = ks.take j ++ [ks[j]'hjk]) := Lib.hid (List.take_succ_eq_append_getElem hjk)
             generalize (ks.take j).map encStr = X7 at *
             obtain ⟨z0, z1, z2, z3⟩ := hO4.cells
             obtain ⟨f0, f1, f2, f3⟩ := hO4.frozen
             have hOlt := hO4.lt
             have hu7 : ∀ g, u7.ownBlock = some g → OUT + 1 ≤ g ∧ g < wr.heap.size := fun g h => hS7.lt g h
             have hu8 : ∀ g, u8.ownBlock = some g → OUT + 1 ≤ g ∧ g < wr.heap.size := fun g h => hN8.lt g h
             have n7O : u7.ownBlock ≠ some OUT := fun e => by have := hu7 _ e; omega
             have n7B : u7.ownBlock ≠ some w.heap.size := fun e => by have := hu7 _ e; have := HL.out; omega
             have n7K : u7.ownBlock ≠ some kb := fun e => by have := hu7 _ e; have := HL.out; omega
             have nBO : w.heap.size ≠ OUT := by have := HL.out; omega
             have nKO : kb ≠ OUT := by have := HL.out; omega
             have hK1 : wr.drew.cell? ⟨w.heap.size, 2, none⟩ = some (.slice (some ⟨kb, ko, none⟩) m c) ∧ wr.drew.cell? ⟨kb, ko + j, none⟩ = some (.string K) := ⟨x2, y1⟩
             have z2a : ∀ o, (wr.alloc o).drew.cell? ⟨OUT, 2, none⟩ = some u7 := fun o => cells_alloc z2
             have z2b : ∀ o, (wr.alloc o).cell? ⟨OUT, 2, none⟩ = some u7 := fun o => cells_alloc z2
             have hOwn := Lib.hid hS7
             clear hK y0 hnd hN8 hB3 hS7
             go_upto_region 8 with fail
             go_cut [] from 20 to 59 (fun wx => ∃ a7 q7, RW OUT (fun W => Bx3 w W (.mk _ [] ks ds) dv (.int .i64 _) (.string s) (.slice (some ⟨kb, ko, none⟩) m c) (.slice (some ⟨b, o, none⟩) m q) (.int .i64 k1) (.string s1) (.slice a1 n1 c9) (.slice A1 m1 q1)) wx (.slice a7 (j + 1) q7) (j + 1) (X7 ++ [.string K]) u8 j (flat4 qs))
             case first =>
               go_region_law
                 (first
                   | (refine step_append_own rfl _ _ 22 rfl (OUT + 1) 9 i0 _ 1 16 Try.underlying22 hi hz0 hz1 hz2 rfl (by decide) u7 j X7 rfl (by first | exact hOwn.out | exact hOwn.out.alloc _) _ 1 1 [.string K] rfl rfl (by first | exact news_blk #[.string K] (alloc_at _ _) | exact news_blk #[.string K] (alloc_at1 _ _ _)) (one_str K) (by unfold maxLen; omega) (by omega) (by first | (simp; omega) | omega) ?_; intro v' w3 hownS hgS hnilS; obtain ⟨a7, q7, rfl⟩ := own_shape hownS; have hz3 : w3.cell? ⟨OUT, 2, none⟩ = some u7 := cell_grown (by first | exact z2a _ | exact z2b _) hgS n7O; have hf3 : w3.frozen? ⟨OUT, 2, none⟩ = false := frozen_grown (by first | exact frozen_alloc f2 hOlt | exact f2) hgS (by simp; omega) n7O))
               all_goals
                 go_wp2_with fail
                 go_meet
                 exact ⟨a7, q7, RW.keys HG.out HR.out ((Below.refl wr.heap.size wr).alloc (Nat.le_refl _) (.cells #[.string K] 9)) hownS (show World.grownBy _ w3 u7.ownBlock from ⟨hgS.os, hgS.tape, hgS.output, hgS.size, hgS.block⟩)⟩
             case rest =>
             obtain ⟨a7, q7, hR2⟩ := hcut
             have HR2 := Lib.hid hR2
             clear hR2 hOwn z2a z2b hK1 n7O n7B n7K hu7 hu8 z0 z1 z2 z3 f0 f1 f2 f3 x0 x1 x2 x3 y1 hO4 hOlt HR
             generalize wc = W4 at *
             obtain ⟨hB3, hO4, hS7, hN8⟩ := HR2.out
             obtain ⟨x0, x1, x2, x3⟩ := hB3.2.1.cells
             obtain ⟨v0, v1, v2, v3⟩ := hB3.2.2.1.cells
             obtain ⟨z0, z1, z2, z3⟩ := hO4.cells
             obtain ⟨f0, f1, f2, f3⟩ := hO4.frozen
             have hOlt := hO4.lt
             have y1 := (Below.cell hB3.1 (p := ⟨kb, ko + j, none⟩) hkb).trans (by first | exact HY.out | skip)
             have gg0 := (Below.cell hB3.1 (p := ⟨b, o + j * 4, none⟩) hb).trans g0
             have gg1 := (Below.cell hB3.1 (p := ⟨b, o + j * 4 + 1, none⟩) hb).trans g1
             have gg2 := (Below.cell hB3.1 (p := ⟨b, o + j * 4 + 2, none⟩) hb).trans g2
             have gg3 := (Below.cell hB3.1 (p := ⟨b, o + j * 4 + 3, none⟩) hb).trans g3
             have hu8 : ∀ g, u8.ownBlock = some g → OUT + 1 ≤ g ∧ g < W4.heap.size := fun g h => hN8.lt g h
             have n8O : u8.ownBlock ≠ some OUT := fun e => by have := hu8 _ e; omega
             have n8B : u8.ownBlock ≠ some w.heap.size := fun e => by have := hu8 _ e; have := HL.out; omega
             have n8K : u8.ownBlock ≠ some b := fun e => by have := hu8 _ e; have := HL.out; omega
             have nBO : b ≠ OUT := by have := HL.out; omega
             have HX8 : Hid (∀ q : Q4, flat4 (qs ++ [q]) = flat4 qs ++ [q.a, q.b, q.c, q.d]) := Lib.hid (fun q => by rw [flat4_app]; rfl)
             generalize flat4 qs = X8 at *
             have hOwn := Lib.hid hN8
             have z3a : ∀ o, (W4.alloc o).drew.cell? ⟨OUT, 3, none⟩ = some u8 := fun o => cells_alloc z3
             have z3b : ∀ o, (W4.alloc o).cell? ⟨OUT, 3, none⟩ = some u8 := fun o => cells_alloc z3
             clear hN8 hB3 hS7 hO4
             by_cases hkx : ks[j]'hjk = x.data.toList
             · have p9 : (K.toList == x.toList) = true := by rw [← HKE.out] at hkx; rw [ByteArray.toList_eq, ByteArray.toList_eq, hkx]; exact beq_self_eq_true _
               have HKX := Lib.hid hkx
               clear hkx
               go_wp2_with (at_builtin; refine wpList_append_own _ rfl _ _ 23 rfl (OUT + 1) 25 j0 _ 4 72 Try.underlying23 hj hy0 hy1 hy2 rfl (by decide) u8 j X8 rfl (hOwn.out.alloc _) _ 1 1 [.int .i64 k1, .string s1, .slice a1 n1 c9, .slice A1 m1 q1] rfl rfl (news_blk #[.int .i64 k1, .string s1, .slice a1 n1 c9, .slice A1 m1 q1] (alloc_at _ _)) (four_one _ _ _ _ _ _ _ _) (by unfold maxLen; omega) (by omega) (by simp; omega) ?_; intro v'' w4 hownN hgN hnilN; obtain ⟨a8, q8, rfl⟩ := own_shape hownN; have hz4 : w4.cell? ⟨OUT, 3, none⟩ = some u8 := cell_grown (z3b _) hgN n8O; have hf4 : w4.frozen? ⟨OUT, 3, none⟩ = false := frozen_grown (frozen_alloc f3 hOlt) hgN (by simp; omega) n8O)
               have HR3 := Lib.hid (RW.kids HG.out HR2.out ((Below.refl W4.heap.size W4).alloc (Nat.le_refl _) (.cells #[.int .i64 k1, .string s1, .slice a1 n1 c9, .slice A1 m1 q1] 25)) hownN (show World.grownBy _ w4 u8.ownBlock from ⟨hgN.os, hgN.tape, hgN.output, hgN.size, hgN.block⟩))
               clear hz4 hf4 hownN hgN hnilN
               go_roundw
               case measure => simp [intOf]; omega
               case rel =>
                 refine ⟨j + 1, .slice a7 (j + 1) q7, .slice a8 (j + 1) q8, qs ++ [⟨.int .i64 k1, .string s1, .slice a1 n1 c9, .slice A1 m1 q1⟩], true, by omega, by go_num, rfl, Lib.hid ?_, Lib.hid ?_, Lib.hid ?_⟩
                 · rw [hKK.out, HKX.out]; simp
                 · rw [HX8.out, HX7.out]; exact HR3.out
                 · rw [HP.out, if_pos HKX.out]; exact HQ.out.snoc HV.out
             · have p9 : (K.toList == x.toList) = false := by rw [← HKE.out] at hkx; rw [ByteArray.toList_eq, ByteArray.toList_eq]; exact beq_eq_false_iff_ne.2 hkx
               have HKX := Lib.hid hkx
               clear hkx
               go_wp2_with fail
               go_region_law
                 (first
                   | (refine step_append_own rfl _ _ 23 rfl (OUT + 1) 25 j0 _ 4 72 Try.underlying23 hj hy0 hy1 hy2 rfl (by decide) u8 j X8 rfl (by first | exact hOwn.out | exact hOwn.out.alloc _) _ 1 1 [.int .i64 k2, .string s2, .slice a2 n2 c2, .slice A2 m2 q2] rfl rfl (by first | exact news_blk #[.int .i64 k2, .string s2, .slice a2 n2 c2, .slice A2 m2 q2] (alloc_at _ _) | exact news_blk #[.int .i64 k2, .string s2, .slice a2 n2 c2, .slice A2 m2 q2] (alloc_at1 _ _ _)) (four_one _ _ _ _ _ _ _ _) (by unfold maxLen; omega) (by omega) (by first | (simp; omega) | omega) ?_; intro v'' w4 hownN hgN hnilN; obtain ⟨a8, q8, rfl⟩ := own_shape hownN; have hz4 : w4.cell? ⟨OUT, 3, none⟩ = some u8 := cell_grown (by first | exact z3a _ | exact z3b _) hgN n8O; have hf4 : w4.frozen? ⟨OUT, 3, none⟩ = false := frozen_grown (by first | exact frozen_alloc f3 hOlt | exact f3) hgN (by simp; omega) n8O))
               all_goals
                 have HR3 := Lib.hid (RW.kids HG.out HR2.out ((Below.refl W4.heap.size W4).alloc (Nat.le_refl _) (.cells #[.int .i64 k2, .string s2, .slice a2 n2 c2, .slice A2 m2 q2] 25)) hownN (show World.grownBy _ w4 u8.ownBlock from ⟨hgN.os, hgN.tape, hgN.output, hgN.size, hgN.block⟩))
                 clear hz4 hf4 hownN hgN hnilN
                 go_wp2
                 go_roundw
                 case measure => simp [intOf]; omega
                 case rel =>
                   refine ⟨j + 1, .slice a7 (j + 1) q7, .slice a8 (j + 1) q8, qs ++ [⟨.int .i64 k2, .string s2, .slice a2 n2 c2, .slice A2 m2 q2⟩], B, by omega, by go_num, rfl, Lib.hid ?_, Lib.hid ?_, Lib.hid ?_⟩
                   · rw [HBB.out, hKK.out]
                     refine decide_eq_decide.2 ⟨fun h => List.mem_append_left _ h, fun h => ?_⟩
                     rcases List.mem_append.1 h with h | h
                     · exact h
                     · exact absurd (List.mem_singleton.1 h).symm HKX.out
                   · rw [HX8.out, HX7.out]; exact HR3.out
                   · rw [HP.out, if_neg HKX.out]; exact HQ.out.snoc HND.out)
      · obtain rfl : j = m := by omega
        have HT7 : Hid (ks.take j = ks) := Lib.hid (List.take_of_length_le (by rw [HN.out]; exact Nat.le_refl _))
        have HT8 : Hid (ds.take j = ds) := Lib.hid (List.take_of_length_le (by rw [HM.out]; exact Nat.le_refl _))
        have HPL : Hid ((putK ks ds x.data.toList dv).length = j) := Lib.hid (by rw [putK_len (by rw [HN.out, HM.out]), HM.out])
        rw [HT7.out] at HR HBB
        rw [HT7.out, HT8.out] at HQ
        cases B with
        | true =>
          have hxin : x.data.toList ∈ ks := of_decide_eq_true HBB.out.symm
          obtain ⟨ha, hcp, rfl⟩ := own_shape hS7
          obtain ⟨hA, hcq, rfl⟩ := own_shape hN8
          have HD := Lib.hid (HR.out.doneB hB3.1 (R := w.heap.size + 2) (by omega) (by have := HL.out; omega) HQ.out HPL.out.symm)
          have HWW : Hid (withT (.mk _ [] ks ds) x.data.toList dv = .mk 3 [] ks (putK ks ds x.data.toList dv)) := Lib.hid (by rw [HW.out, if_pos hxin, if_pos hxin, List.append_nil, List.append_nil])
          obtain ⟨z0, z1, z2, z3⟩ := hO4.cells
          obtain ⟨r0, r1, r2, r3⟩ := hB3.2.2.2.1.cells
          obtain ⟨fr0, fr1, fr2, fr3⟩ := hB3.2.2.2.1.frozen
          clear hN8 hS7 hO4 hB3 hxin
          go_wp2
          refine bodyPost_ret (v := .agg #[.int .i64 3, .string ⟨#[]⟩, .slice ha j hcp, .slice hA j hcq]) (by simp [results, Try.results19, go_sem, r0, r1, r2, r3]) rfl ⟨_, _, _, _, rfl, by rw [HWW.out]; exact HD.out.1, HD.out.2⟩
        | false =>
          have hxout : x.data.toList ∉ ks := of_decide_eq_false HBB.out.symm
          have HWW : Hid (withT (.mk _ [] ks ds) x.data.toList dv = .mk 3 [] (ks ++ [x.data.toList]) (putK ks ds x.data.toList dv ++ [dv])) := Lib.hid (by rw [HW.out, if_neg hxout, if_neg hxout])
          obtain ⟨z0, z1, z2, z3⟩ := hO4.cells
          obtain ⟨f0, f1, f2, f3⟩ := hO4.frozen
          have hOlt := hO4.lt
          have n7O : u7.ownBlock ≠ some OUT := fun e => by have := hS7.lt _ e; omega
          have HX7 : Hid ((ks ++ [x.data.toList]).map encStr = ks.map encStr ++ [.string x]) := Lib.hid (by rw [List.map_append]; show _ ++ [encStr x.data.toList] = _; rw [encStr_ba, ba_of])
          have HX8 : Hid (∀ q : Q4, flat4 (qs ++ [q]) = flat4 qs ++ [q.a, q.b, q.c, q.d]) := Lib.hid (fun q => by rw [flat4_app]; rfl)
          have hOwn : Hid (wr.ownsRow (OUT + 1) 9 1 u7 j (ks.map encStr)) := Lib.hid (by rw [← HT7.out]; exact hS7)
          generalize ks.map encStr = X7 at *
          clear hN8 hS7 hO4 hB3 hxout
          go_upto_region 15 with (at_builtin; refine wpList_append_own _ rfl _ _ 22 rfl (OUT + 1) 9 i0 _ 1 16 Try.underlying22 hi hz0 hz1 hz2 rfl (by decide) u7 j X7 rfl (hOwn.out.alloc _) _ 1 1 [.string x] rfl rfl (news_blk #[.string x] (alloc_at _ _)) (one_str x) (by unfold maxLen; omega) (by omega) (by simp; omega) ?_; intro v' w3 hownS hgS hnilS; obtain ⟨a7, q7, rfl⟩ := own_shape hownS; have hz3 : w3.cell? ⟨OUT, 2, none⟩ = some u7 := cell_grown (cells_alloc z2) hgS n7O; have hf3 : w3.frozen? ⟨OUT, 2, none⟩ = false := frozen_grown (frozen_alloc f2 hOlt) hgS (by simp; omega) n7O)
          have HR2 := Lib.hid (RW.keys HG.out HR.out ((Below.refl wr.heap.size wr).alloc (Nat.le_refl _) (.cells #[.string x] 9)) hownS (show World.grownBy _ w3 u7.ownBlock from ⟨hgS.os, hgS.tape, hgS.output, hgS.size, hgS.block⟩))
          clear hz3 hf3 hownS hgS hnilS hOwn n7O z0 z1 z2 z3 f0 f1 f2 f3 x0 x1 x2 x3 hOlt HR
          generalize w3.setCell ⟨OUT, 2, none⟩ (.slice a7 (j + 1) q7) = W4 at *
          obtain ⟨hB3, hO4, hS7, hN8⟩ := HR2.out
          obtain ⟨v0, v1, v2, v3⟩ := hB3.2.2.1.cells
          obtain ⟨z0, z1, z2, z3⟩ := hO4.cells
          obtain ⟨f0, f1, f2, f3⟩ := hO4.frozen
          have hOlt := hO4.lt
          have n8O : u8.ownBlock ≠ some OUT := fun e => by have := hN8.lt _ e; omega
          generalize flat4 qs = X8 at *
          have hOwn := Lib.hid hN8
          have z3b : ∀ o, (W4.alloc o).cell? ⟨OUT, 3, none⟩ = some u8 := fun o => cells_alloc z3
          clear hN8 hB3 hS7 hO4
          go_upto_region 16 with (at_builtin; refine wpList_append_own _ rfl _ _ 23 rfl (OUT + 1) 25 j0 _ 4 72 Try.underlying23 hj hy0 hy1 hy2 rfl (by decide) u8 j X8 rfl (hOwn.out.alloc _) _ 1 1 [.int .i64 k1, .string s1, .slice a1 n1 c9, .slice A1 m1 q1] rfl rfl (news_blk #[.int .i64 k1, .string s1, .slice a1 n1 c9, .slice A1 m1 q1] (alloc_at _ _)) (four_one _ _ _ _ _ _ _ _) (by unfold maxLen; omega) (by omega) (by simp; omega) ?_; intro v'' w4 hownN hgN hnilN; obtain ⟨a8, q8, rfl⟩ := own_shape hownN; have hz4 : w4.cell? ⟨OUT, 3, none⟩ = some u8 := cell_grown (z3b _) hgN n8O; have hf4 : w4.frozen? ⟨OUT, 3, none⟩ = false := frozen_grown (frozen_alloc f3 hOlt) hgN (by simp; omega) n8O)
          have HR3 := Lib.hid (RW.kids HG.out HR2.out ((Below.refl W4.heap.size W4).alloc (Nat.le_refl _) (.cells #[.int .i64 k1, .string s1, .slice a1 n1 c9, .slice A1 m1 q1] 25)) hownN (show World.grownBy _ w4 u8.ownBlock from ⟨hgN.os, hgN.tape, hgN.output, hgN.size, hgN.block⟩))
          clear hz4 hf4 hownN hgN hnilN z0 z1 z2 z3 f0 f1 f2 f3 v0 v1 v2 v3 n8O z3b HR2 hOwn
          generalize w4.setCell ⟨OUT, 3, none⟩ (.slice a8 (j + 1) q8) = W5 at *
          obtain ⟨hB3, hO4, -, -⟩ := HR3.out
          have HQ2 := Lib.hid (HQ.out.snoc (q := ⟨.int .i64 k1, .string s1, .slice a1 n1 c9, .slice A1 m1 q1⟩) HV.out)
          have hR4 : RW OUT (fun _ => True) W5 (.slice a7 (j + 1) q7) (j + 1) ((ks ++ [x.data.toList]).map encStr) (.slice a8 (j + 1) q8) (j + 1) (flat4 (qs ++ [⟨.int .i64 k1, .string s1, .slice a1 n1 c9, .slice A1 m1 q1⟩])) := by rw [HX8.out, HX7.out]; exact ⟨trivial, HR3.out.2⟩
          have HD := Lib.hid (hR4.doneB hB3.1 (R := w.heap.size + 2) (by omega) (by have := HL.out; omega) HQ2.out (by rw [List.length_append, HPL.out]; first | done | rfl))
          obtain ⟨z0, z1, z2, z3⟩ := hO4.cells
          obtain ⟨r0, r1, r2, r3⟩ := hB3.2.2.2.1.cells
          obtain ⟨fr0, fr1, fr2, fr3⟩ := hB3.2.2.2.1.frozen
          clear hR4 hO4 hB3 hOlt
          go_wp2
          refine bodyPost_ret (v := .agg #[.int .i64 3, .string ⟨#[]⟩, .slice a7 (j + 1) q7, .slice a8 (j + 1) q8]) (by simp [results, Try.results19, go_sem, r0, r1, r2, r3]) rfl ⟨_, _, _, _, rfl, by rw [HWW.out]; exact HD.out.1, HD.out.2⟩
end Go.Proofs.Ytgingebdoppdbaa
