/- The contract of the document's own Less. -/
import Derived.Test.YtgingebdoppdbaaRefWith
namespace Go.Proofs.Ytgingebdoppdbaa
open Go.RowKit Go.Sort
open Nw N8 Go.ChangeShapes Go.WideShapes
set_option linter.unusedVariables false
namespace N8
def notK (x : L8) (k : L8) : Bool := decide (k ≠ x)
theorem filter_snoc {x : L8} {ks : List L8} {j : Nat} (hj : j < ks.length) : (ks.take (j + 1)).filter (notK x) = (ks.take j).filter (notK x) ++ (if ks[j]'hj = x then [] else [ks[j]'hj]) := by
  rw [List.take_succ_eq_append_getElem hj, List.filter_append]
  congr 1
  by_cases h : ks[j]'hj = x
  · rw [if_pos h, List.filter_cons_of_neg (by simp [notK, h])]; rfl
  · rw [if_neg h, List.filter_cons_of_pos (by simp [notK, h])]; rfl
theorem drop_len {x : L8} : ∀ {ks : List L8} {ds : List Nd}, ks.length = ds.length → (dropK ks ds x).length = (ks.filter (notK x)).length
  | [], [], _ => by rw [show dropK [] [] x = [] by rw [dropK]; intros; contradiction]; rfl
  | k :: ks, d :: ds, h => by
    rw [dropK]
    by_cases hk : k = x
    · rw [if_pos hk, List.filter_cons_of_neg (by simp [notK, hk]), drop_len (Nat.succ.inj h)]
    · rw [if_neg hk, List.filter_cons_of_pos (by simp [notK, hk]), List.length_cons, List.length_cons, drop_len (Nat.succ.inj h)]
  | [], _ :: _, h => by cases h
  | _ :: _, [], h => by cases h
end N8
set_option maxRecDepth 100000 in
set_option maxHeartbeats 8000000 in
theorem RLess_else (d : Nd) (x : ByteArray) (h3 : d.kind ≠ 3) (c0 c1 c2 c3 : Value) (w : World) (hd : NdW w d c0 c1 c2 c3) :
    Calls Try.prog 21 #[.agg #[c0, c1, c2, c3], .string x] w (GivesN d w) := by
  have HB := Lib.hid (BxS.make (S := (· < w.heap.size)) hd fun b hb => hb)
  obtain ⟨k, s, a, n, c, A, m, q, rfl, rfl, rfl, rfl⟩ := hd.shape
  obtain ⟨hk, -⟩ := NdC.len hd
  have p1 : (k != 3) = true := bne_iff_ne.2 (by rw [← hk]; exact h3)
  obtain ⟨x0, x1, x2, x3⟩ := HB.out.2.1.cells
  obtain ⟨z0, z1, z2, z3⟩ := HB.out.2.2.1.cells
  obtain ⟨f0, f1, f2, f3⟩ := HB.out.2.2.1.frozen
  have HX8 := Lib.hid (below_put4 HB.out.1 (g := w.heap.size + 1) (by omega) (.int .i64 k) (.string s) (.slice a n c) (.slice A m q))
  have HND := Lib.hid ((HB.out.2.2.2.put (g := w.heap.size + 1) (fun b hs => by have : b < w.heap.size := hs; omega) (.int .i64 k) (.string s) (.slice a n c) (.slice A m q)).all fun b hb => Nat.lt_of_lt_of_le hb HX8.out.size)
  clear hd hk h3
  generalize hW0 : (w.alloc (.cells #[.int .i64 k, .string s, .slice a n c, .slice A m q] 25)).alloc (.cells #[.int .i64 0, .string ⟨#[]⟩, .slice none 0 0, .slice none 0 0] 25) = W0 at *
  go_enter Try.func21, Try.ntmps21
  go_wp2
  refine bodyPost_ret (v := .agg #[.int .i64 k, .string s, .slice a n c, .slice A m q]) (by simp [results, Try.results21, go_sem, z0, z1, z2, z3]) rfl ⟨_, _, _, _, rfl, HND.out, HX8.out⟩
set_option maxRecDepth 100000 in
set_option maxHeartbeats 8000000 in
theorem RLess_map (t : L8) (ks : List L8) (ds : List Nd) (x : ByteArray) (hlen : ks.length = ds.length) (hcnt : ds.length ≤ 10000) (c0 c1 c2 c3 : Value) (w : World) (hd : NdW w (.mk 3 t ks ds) c0 c1 c2 c3) :
    Calls Try.prog 21 #[.agg #[c0, c1, c2, c3], .string x] w (GivesN (lessT (.mk 3 t ks ds) x.data.toList) w) := by
  have hb := BxS.make (S := (· < w.heap.size)) hd fun b hb => hb
  obtain ⟨k', s, a, n, c, A, m, q, rfl, rfl, rfl, rfl⟩ := hd.shape
  obtain ⟨hk', hn', hm', -⟩ := NdC.len hd
  obtain rfl : (3 : Int) = k' := hk'
  have HW : Hid (lessT (.mk 3 t ks ds) x.data.toList = .mk 3 [] (ks.filter (notK x.data.toList)) (dropK ks ds x.data.toList)) := Lib.hid (if_neg fun h => h rfl)
  have HKS := Lib.hid hd.parts.2.2.1
  have HKD := Lib.hid hd.kd
  have HN : Hid (ks.length = n) := Lib.hid hn'
  have HM : Hid (ds.length = n) := Lib.hid (by rw [← hlen]; exact hn')
  have hmn : m = n := by have h1 : ds.length = m := hm'; have h2 : ks.length = n := hn'; omega
  subst hmn
  have hm10 : m ≤ 10000 := by rw [← HM.out]; exact hcnt
  generalize hW0 : (w.alloc (.cells #[.int .i64 3, .string s, .slice a m c, .slice A m q] 25)).alloc (.cells #[.int .i64 0, .string ⟨#[]⟩, .slice none 0 0, .slice none 0 0] 25) = W0 at *
  have hsz : W0.heap.size = w.heap.size + 2 := by rw [← hW0]; simp
  have HG : Hid (∀ W W' : World, BxS (· < w.heap.size) w W (.mk 3 t ks ds) (.int .i64 3) (.string s) (.slice a m c) (.slice A m q) → Below W0.heap.size W W' → BxS (· < w.heap.size) w W' (.mk 3 t ks ds) (.int .i64 3) (.string s) (.slice a m c) (.slice A m q)) := Lib.hid fun W W' h hb => h.far (by rw [hsz] at hb; exact hb)
  have HR0 : Hid (RW W0.heap.size (fun W => BxS (· < w.heap.size) w W (.mk 3 t ks ds) (.int .i64 3) (.string s) (.slice a m c) (.slice A m q)) (W0.alloc (.cells #[.int .i64 3, .string ⟨#[]⟩, .slice none 0 0, .slice none 0 0] 25)) (.slice none 0 0) 0 [] (.slice none 0 0) 0 []) := Lib.hid
    ⟨hb.go (fun b hb => hb) ((Below.refl _ _).alloc (Nat.le_refl _) _), Row4.make W0 _ _ _ _ _, World.ownsRow_nil _ _ _ _, World.ownsRow_nil _ _ _ _⟩
  obtain ⟨x0, x1, x2, x3⟩ := hb.2.1.cells
  have HL := Lib.hid hsz
  clear hd hlen hcnt hn' hm' hb hsz
  obtain ⟨i0, hi, hz0, hz1, hz2⟩ := infoS
  obtain ⟨j0, hj, hy0, hy1, hy2⟩ := infoN
  go_enter Try.func21, Try.ntmps21
  go_wp2
  generalize W0.alloc (.cells #[.int .i64 3, .string ⟨#[]⟩, .slice none 0 0, .slice none 0 0] 25) = W1 at *
  generalize W0.heap.size = OUT at *
  clear x0 x1 x2 x3 hW0
  go_loopw [6] (fun si wr => ∃ (j nf : Nat) (u7 u8 : Value) (qs : List Q4), j ≤ m ∧ nf ≤ j ∧ si = .int .i64 (j : Int) ∧ Hid (((ks.take j).filter (notK x.data.toList)).length = nf) ∧ Hid (RW OUT (fun W => BxS (· < w.heap.size) w W (.mk 3 t ks ds) (.int .i64 3) (.string s) (.slice a m c) (.slice A m q)) wr u7 nf (((ks.take j).filter (notK x.data.toList)).map encStr) u8 nf (flat4 qs)) ∧ Hid (QF w (dropK (ks.take j) (ds.take j) x.data.toList) qs)) (fun si _ => m - (intOf si).toNat)
  case atStart => exact ⟨0, 0, _, _, [], Nat.zero_le _, Nat.zero_le _, rfl, Lib.hid rfl, HR0, Lib.hid (by rw [show dropK (ks.take 0) (ds.take 0) x.data.toList = [] by rw [List.take_zero, List.take_zero, dropK]; intros; contradiction]; exact QF.nil w)⟩
  case round =>
    clear HR0
    obtain ⟨j, nf, u7, u8, qs, hj9, hnf, rfl, HNF, HR, HQ⟩ := hrel
    obtain ⟨hB3, hO4, hS7, hN8⟩ := HR.out
    obtain ⟨x0, x1, x2, x3⟩ := hB3.2.1.cells
    by_cases hlt : j < m
    · have hjk : j < ks.length := by rw [HN.out]; exact hlt
      have hjd : j < ds.length := by rw [HM.out]; exact hlt
      have hjz : (j : Int) < (m : Int) := by omega
      obtain ⟨kb, ko, rfl, hkb, y0⟩ := rd_at HKS.out j hjk
      obtain ⟨b, o, e0, e1, e2, e3, rfl, hb, g0, g1, g2, g3, hnd⟩ := HKD.out.kid j hjd
      obtain ⟨k2, s2, a2, n2, c2, A2, m2, q2, rfl, rfl, rfl, rfl⟩ := ndw_shape hnd
      have HX7 := Lib.hid (filter_snoc (x := x.data.toList) hjk)
      have HP := Lib.hid (dropK_snoc (x := x.data.toList) hjk hjd)
      obtain ⟨K, hK⟩ : ∃ K, ba (ks[j]'hjk) = K := ⟨_, rfl⟩
      have HKE : Hid (K.data.toList = ks[j]'hjk) := Lib.hid (by rw [← hK, ba_data])
      have HKB := Lib.hid hK
      rw [hK] at y0
      have HY := Lib.hid y0
      have y1 := (Below.cell hB3.1 (p := ⟨kb, ko + j, none⟩) hkb).trans y0
      have HND := Lib.hid hnd
      obtain ⟨z0, z1, z2, z3⟩ := hO4.cells
      obtain ⟨f0, f1, f2, f3⟩ := hO4.frozen
      have hOlt := hO4.lt
      have hu7 : ∀ g, u7.ownBlock = some g → OUT + 1 ≤ g ∧ g < wr.heap.size := fun g h => hS7.lt g h
      have n7O : u7.ownBlock ≠ some OUT := fun e => by have := hu7 _ e; omega
      have z2a : ∀ o, (wr.alloc o).drew.cell? ⟨OUT, 2, none⟩ = some u7 := fun o => cells_alloc z2
      have z2b : ∀ o, (wr.alloc o).cell? ⟨OUT, 2, none⟩ = some u7 := fun o => cells_alloc z2
      have hOwn := Lib.hid hS7
      clear hK y0 hnd hN8 hB3 hS7
      by_cases hkx : ks[j]'hjk = x.data.toList
      · have p9 : (K.toList == x.toList) = true := by rw [← HKE.out] at hkx; rw [ByteArray.toList_eq, ByteArray.toList_eq, hkx]; exact beq_self_eq_true _
        have p8 : (K.toList != x.toList) = false := by rw [bne, p9]; rfl
        have HKX := Lib.hid hkx
        clear hkx
        go_wp2
        go_roundw
        case measure => simp [intOf]; omega
        case rel =>
          refine ⟨j + 1, nf, u7, u8, qs, by omega, by omega, by go_num, Lib.hid ?_, Lib.hid ?_, Lib.hid ?_⟩
          · rw [HX7.out, if_pos HKX.out, List.append_nil]; exact HNF.out
          · rw [HX7.out, if_pos HKX.out, List.append_nil]; exact HR.out
          · rw [HP.out, if_pos HKX.out, List.append_nil]; exact HQ.out
      · have p9 : (K.toList == x.toList) = false := by rw [← HKE.out] at hkx; rw [ByteArray.toList_eq, ByteArray.toList_eq]; exact beq_eq_false_iff_ne.2 hkx
        have p8 : (K.toList != x.toList) = true := by rw [bne, p9]; rfl
        have HKX := Lib.hid hkx
        clear hkx
        obtain ⟨X7, hX7⟩ : ∃ X7, ((ks.take j).filter (notK x.data.toList)).map encStr = X7 := ⟨_, rfl⟩
        have HXM := Lib.hid hX7
        rw [hX7] at HR hOwn
        clear hX7
        go_upto_region 8 with fail
        go_cut [] from 12 to 45 (fun wx => ∃ a7 q7, RW OUT (fun W => BxS (· < w.heap.size) w W (.mk 3 t ks ds) (.int .i64 3) (.string s) (.slice (some ⟨kb, ko, none⟩) m c) (.slice (some ⟨b, o, none⟩) m q)) wx (.slice a7 (nf + 1) q7) (nf + 1) (X7 ++ [.string K]) u8 nf (flat4 qs))
        case first =>
          go_region_law
            (first
              | (refine step_append_own rfl _ _ 22 rfl (OUT + 1) 9 i0 _ 1 16 Try.underlying22 hi hz0 hz1 hz2 rfl (by decide) u7 nf X7 rfl (by first | exact hOwn.out | exact hOwn.out.alloc _) _ 1 1 [.string K] rfl rfl (by first | exact news_blk #[.string K] (alloc_at _ _) | exact news_blk #[.string K] (alloc_at1 _ _ _)) (one_str K) (by unfold maxLen; omega) (by omega) (by first | (simp; omega) | omega) ?_; intro v' w3 hownS hgS hnilS; obtain ⟨a7, q7, rfl⟩ := own_shape hownS; have hz3 : w3.cell? ⟨OUT, 2, none⟩ = some u7 := cell_grown (by first | exact z2a _ | exact z2b _) hgS n7O; have hf3 : w3.frozen? ⟨OUT, 2, none⟩ = false := frozen_grown (by first | exact frozen_alloc f2 hOlt | exact f2) hgS (by simp; omega) n7O))
          all_goals
            go_wp2_with fail
            go_meet
            exact ⟨a7, q7, RW.keys HG.out HR.out ((Below.refl wr.heap.size wr).alloc (Nat.le_refl _) (.cells #[.string K] 9)) hownS (show World.grownBy _ w3 u7.ownBlock from ⟨hgS.os, hgS.tape, hgS.output, hgS.size, hgS.block⟩)⟩
        case rest =>
        obtain ⟨a7, q7, hR2⟩ := hcut
        have HR2 := Lib.hid hR2
        clear hR2 hOwn z2a z2b n7O hu7 z0 z1 z2 z3 f0 f1 f2 f3 x0 x1 x2 x3 y1 hO4 hOlt HR
        generalize wc = W4 at *
        obtain ⟨hB3, hO4, hS7, hN8⟩ := HR2.out
        obtain ⟨x0, x1, x2, x3⟩ := hB3.2.1.cells
        obtain ⟨z0, z1, z2, z3⟩ := hO4.cells
        obtain ⟨f0, f1, f2, f3⟩ := hO4.frozen
        have hOlt := hO4.lt
        have gg0 := (Below.cell hB3.1 (p := ⟨b, o + j * 4, none⟩) hb).trans g0
        have gg1 := (Below.cell hB3.1 (p := ⟨b, o + j * 4 + 1, none⟩) hb).trans g1
        have gg2 := (Below.cell hB3.1 (p := ⟨b, o + j * 4 + 2, none⟩) hb).trans g2
        have gg3 := (Below.cell hB3.1 (p := ⟨b, o + j * 4 + 3, none⟩) hb).trans g3
        have hu8 : ∀ g, u8.ownBlock = some g → OUT + 1 ≤ g ∧ g < W4.heap.size := fun g h => hN8.lt g h
        have n8O : u8.ownBlock ≠ some OUT := fun e => by have := hu8 _ e; omega
        have HX8 : Hid (∀ q : Q4, flat4 (qs ++ [q]) = flat4 qs ++ [q.a, q.b, q.c, q.d]) := Lib.hid (fun q => by rw [flat4_app]; rfl)
        generalize flat4 qs = X8 at *
        have hOwn := Lib.hid hN8
        have z3a : ∀ o, (W4.alloc o).drew.cell? ⟨OUT, 3, none⟩ = some u8 := fun o => cells_alloc z3
        have z3b : ∀ o, (W4.alloc o).cell? ⟨OUT, 3, none⟩ = some u8 := fun o => cells_alloc z3
        clear hN8 hB3 hS7 hO4
        go_wp2_with fail
        go_region_law
          (first
            | (refine step_append_own rfl _ _ 23 rfl (OUT + 1) 25 j0 _ 4 72 Try.underlying23 hj hy0 hy1 hy2 rfl (by decide) u8 nf X8 rfl (by first | exact hOwn.out | exact hOwn.out.alloc _) _ 1 1 [.int .i64 k2, .string s2, .slice a2 n2 c2, .slice A2 m2 q2] rfl rfl (by first | exact news_blk #[.int .i64 k2, .string s2, .slice a2 n2 c2, .slice A2 m2 q2] (alloc_at _ _) | exact news_blk #[.int .i64 k2, .string s2, .slice a2 n2 c2, .slice A2 m2 q2] (alloc_at1 _ _ _)) (four_one _ _ _ _ _ _ _ _) (by unfold maxLen; omega) (by omega) (by first | (simp; omega) | omega) ?_; intro v'' w4 hownN hgN hnilN; obtain ⟨a8, q8, rfl⟩ := own_shape hownN; have hz4 : w4.cell? ⟨OUT, 3, none⟩ = some u8 := cell_grown (by first | exact z3a _ | exact z3b _) hgN n8O; have hf4 : w4.frozen? ⟨OUT, 3, none⟩ = false := frozen_grown (by first | exact frozen_alloc f3 hOlt | exact f3) hgN (by simp; omega) n8O))
        all_goals
          have HR3 := Lib.hid (RW.kids HG.out HR2.out ((Below.refl W4.heap.size W4).alloc (Nat.le_refl _) (.cells #[.int .i64 k2, .string s2, .slice a2 n2 c2, .slice A2 m2 q2] 25)) hownN (show World.grownBy _ w4 u8.ownBlock from ⟨hgN.os, hgN.tape, hgN.output, hgN.size, hgN.block⟩))
          clear hz4 hf4 hownN hgN hnilN
          go_wp2
          have HREL : Hid (∃ (j1 nf1 : Nat) (u7 u8 : Value) (qs : List Q4), j1 ≤ m ∧ nf1 ≤ j1 ∧ (Value.int .i64 ((j : Int) + 1)) = .int .i64 (j1 : Int) ∧ Hid (((ks.take j1).filter (notK x.data.toList)).length = nf1) ∧ Hid (RW OUT (fun W => BxS (· < w.heap.size) w W (.mk 3 t ks ds) (.int .i64 3) (.string s) (.slice (some ⟨kb, ko, none⟩) m c) (.slice (some ⟨b, o, none⟩) m q)) (w4.setCell ⟨OUT, 3, none⟩ (.slice a8 (nf + 1) q8)) u7 nf1 (((ks.take j1).filter (notK x.data.toList)).map encStr) u8 nf1 (flat4 qs)) ∧ Hid (QF w (dropK (ks.take j1) (ds.take j1) x.data.toList) qs)) := Lib.hid (by
            refine ⟨j + 1, nf + 1, .slice a7 (nf + 1) q7, .slice a8 (nf + 1) q8, qs ++ [⟨.int .i64 k2, .string s2, .slice a2 n2 c2, .slice A2 m2 q2⟩], by omega, by omega, by go_num, Lib.hid ?_, Lib.hid ?_, Lib.hid ?_⟩
            · rw [HX7.out, if_neg HKX.out, List.length_append, HNF.out]; rfl
            · rw [HX7.out, if_neg HKX.out, HX8.out, List.map_append, HXM.out]
              have e9 : [ks[j]'hjk].map encStr = [.string K] := by show [encStr (ks[j]'hjk)] = _; rw [encStr_ba, HKB.out]
              rw [e9]; exact HR3.out
            · rw [HP.out, if_neg HKX.out]; exact HQ.out.snoc HND.out)
          go_roundw
          case measure => simp [intOf]; omega
          case rel => exact HREL.out
    · obtain rfl : j = m := by omega
      have HT7 : Hid (ks.take j = ks) := Lib.hid (List.take_of_length_le (by rw [HN.out]; exact Nat.le_refl _))
      have HT8 : Hid (ds.take j = ds) := Lib.hid (List.take_of_length_le (by rw [HM.out]; exact Nat.le_refl _))
      rw [HT7.out] at HR HNF
      rw [HT7.out, HT8.out] at HQ
      obtain ⟨ha, hcp, rfl⟩ := own_shape hS7
      obtain ⟨hA, hcq, rfl⟩ := own_shape hN8
      have HD := Lib.hid (HR.out.doneB hB3.1 (R := w.heap.size + 1) (by omega) (by have := HL.out; omega) HQ.out (by rw [drop_len (by rw [HN.out, HM.out]), HNF.out]))
      obtain ⟨z0, z1, z2, z3⟩ := hO4.cells
      obtain ⟨r0, r1, r2, r3⟩ := hB3.2.2.1.cells
      obtain ⟨fr0, fr1, fr2, fr3⟩ := hB3.2.2.1.frozen
      clear hN8 hS7 hO4 hB3
      go_wp2
      refine bodyPost_ret (v := .agg #[.int .i64 3, .string ⟨#[]⟩, .slice ha nf hcp, .slice hA nf hcq]) (by simp [results, Try.results21, go_sem, r0, r1, r2, r3]) rfl ⟨_, _, _, _, rfl, by rw [HW.out]; exact HD.out.1, HD.out.2⟩
theorem RLess_any (d : Nd) (x : ByteArray) (hf : Fine d) (hcnt : d.kids.length ≤ 10000) (c0 c1 c2 c3 : Value) (w : World) (hd : NdW w d c0 c1 c2 c3) :
    Calls Try.prog 21 #[.agg #[c0, c1, c2, c3], .string x] w (GivesN (lessT d x.data.toList) w) := by
  by_cases h3 : d.kind = 3
  · cases d with
    | mk k t ks ds =>
      have hk : k = 3 := h3
      subst hk
      exact RLess_map t ks ds x (fine_keys hf rfl) hcnt c0 c1 c2 c3 w hd
  · rw [show lessT d x.data.toList = d from if_pos h3]
    exact RLess_else d x h3 c0 c1 c2 c3 w hd
theorem RWith_any (d dv : Nd) (x : ByteArray) (hf : Fine d) (hcnt : d.kids.length ≤ 10000) (c0 c1 c2 c3 u0 u1 u2 u3 : Value) (w : World) (hd : NdW w d c0 c1 c2 c3) (hv : NdW w dv u0 u1 u2 u3) :
    Calls Try.prog 19 #[.agg #[c0, c1, c2, c3], .string x, .agg #[u0, u1, u2, u3]] w (GivesN (withT d x.data.toList dv) w) := by
  by_cases h0 : d.kind = 0 ∨ d.kind = 3
  · have ht : d.text = [] := fine_text hf (by omega)
    cases d with
    | mk k t ks ds =>
      have ht' : t = [] := ht
      subst ht'
      rcases h0 with h0 | h0
      · have h1 := fine_null hf h0
        have hk : ks = [] := h1.1
        have hd2 : ds = [] := h1.2.1
        exact RWith_map k ks ds dv x (.inl ⟨h0, hk⟩) (by rw [hk, hd2]; rfl) hcnt c0 c1 c2 c3 u0 u1 u2 u3 w hd hv
      · exact RWith_map k ks ds dv x (.inr h0) (fine_keys hf h0) hcnt c0 c1 c2 c3 u0 u1 u2 u3 w hd hv
  · rw [with_else (fun h => h0 (.inl h)) (fun h => h0 (.inr h))]
    exact RWith_else d dv x (fun h => h0 (.inl h)) (fun h => h0 (.inr h)) c0 c1 c2 c3 u0 u1 u2 u3 w hd hv
end Go.Proofs.Ytgingebdoppdbaa
