/- The document's own Sorted at a map. -/
import Derived.Test.YtgingebdoppdbaaRefSort1
import Derived.Deep.RegionHeld3
import Derived.Deep.CutRange
namespace Go.Proofs.Ytgingebdoppdbaa
open Go.RowKit Go.Sort
open Nw N8 Go.ChangeShapes Go.WideShapes
set_option linter.unusedVariables false
set_option maxRecDepth 100000 in
set_option maxHeartbeats 16000000 in
theorem RSort_map (S : Nat → Prop) (N : Nat) (ih : RSortOf S N) (t : L8) (ks : List L8) (ds : List Nd) (hN : cntL ds ≤ N) (hf : Fine (.mk 3 t ks ds)) (hbig : cntL ds ≤ 99999) (c0 c1 c2 c3 : Value) (w : World) (hS : ∀ b, S b → b < w.heap.size) (hd : NdC S w (.mk 3 t ks ds) c0 c1 c2 c3) :
    Calls Try.prog 28 #[.agg #[c0, c1, c2, c3]] w (SortA S (.mk 3 t ks ds) w) := by
  have hb := BxS.make hd hS
  have hlen := cntL_len ds
  obtain ⟨hkd, hsk⟩ := fine_lens hf
  have ho : Once ks := fine_once hf rfl
  have hdA := hd.all hS
  obtain ⟨rfl, rfl, -, A, cap, rfl, hcap, hcm, -, -⟩ := hdA.parts
  obtain ⟨k9, s9, a, m, c9, A9, m9, q9, -, -, rfl, h99⟩ := hdA.shape
  obtain ⟨T, hT⟩ : ∃ T, ba t = T := ⟨_, rfl⟩
  have HT : Hid (T.data.toList = t) := Lib.hid (by rw [← hT, ba_data])
  rw [hT] at hb hd ⊢
  obtain ⟨n, hn⟩ : ∃ n, ds.length = n := ⟨_, rfl⟩
  have HN := Lib.hid hn
  rw [hn] at hb hcap hd ⊢
  have hn63 : n ≤ 100000 := by omega
  unfold maxLen at hcm
  generalize hW0 : (w.alloc (.cells #[.int .i64 3, .string T, .slice a m c9, .slice A n cap] 25)).alloc (.cells #[.int .i64 0, .string ⟨#[]⟩, .slice none 0 0, .slice none 0 0] 25) = W0 at *
  have hsz : W0.heap.size = w.heap.size + 2 := by rw [← hW0]; simp
  have HG : Hid (∀ W W' : World, BxS S w W (.mk 3 t ks ds) (.int .i64 3) (.string T) (.slice a m c9) (.slice A n cap) → Below W0.heap.size W W' → BxS S w W' (.mk 3 t ks ds) (.int .i64 3) (.string T) (.slice a m c9) (.slice A n cap)) := Lib.hid fun W W' h hb => bxs_far hS h (by rw [hsz] at hb; exact hb)
  have HR0 : Hid (RZ S W0.heap.size (fun W => BxS S w W (.mk 3 t ks ds) (.int .i64 3) (.string T) (.slice a m c9) (.slice A n cap)) (W0.alloc (.cells #[.int .i64 3, .string T, .slice none 0 0, .slice none 0 0] 25)) 3 T (.slice none 0 0) [] (.slice none 0 0) []) := Lib.hid
    ⟨fun b hb' => by have := hS b hb'; omega, hb.go hS ((Below.refl _ _).alloc (Nat.le_refl _) _), Row4.make W0 _ _ _ _ _, World.ownsRow_nil _ _ _ _, [], World.ownsRow_nil _ _ _ _, rfl, fun j hj => absurd hj (Nat.not_lt_zero _)⟩
  obtain ⟨x0, x1, x2, x3⟩ := hb.2.1.cells
  obtain ⟨xa0, xa1, xa2, xa3⟩ := HR0.out.2.1.2.1.cells
  have hso := RSorted_own (.slice a m c9) ks _ (HR0.out.2.1.2.2.2.rd fun b hb' => by have := hS b hb'; have := HR0.out.lt; omega) (by omega)
  have HL := Lib.hid hsz
  have HS := Lib.hid hS
  have HF := Lib.hid hf
  have HO := Lib.hid ho
  have HKD := Lib.hid hkd
  have HIH := Lib.hid ih
  have HCN := Lib.hid (And.intro hN hbig)
  have HSK : Hid ((sortL ks).length = n) := Lib.hid (by rw [hsk, hkd, hn])
  have HKN : Hid ((kidsS ks ds).length = n) := Lib.hid (by rw [kidsS_len, hsk, hkd, hn])
  clear hd hdA hlen hn hb hsz hS hf ih hN hbig h99 hT hkd hsk ho
  obtain ⟨i0, hi, hz0, hz1, hz2⟩ := infoS
  obtain ⟨j0, hj0, hy0, hy1, hy2⟩ := infoN
  go_enter Try.func28, Try.ntmps28
  go_wp2_with fail
  generalize W0.alloc (.cells #[.int .i64 3, .string T, .slice none 0 0, .slice none 0 0] 25) = W1 at *
  generalize W0.heap.size = OUT at *
  refine hso.mono ?_
  rintro e w1 ⟨lv, rfl, hok, hb1⟩
  have HR1 := Lib.hid (HR0.out.go HG.out hb1)
  have HK1 : Hid (KL OUT w1 lv (sortL ks) (.slice none 0 0) (.slice none 0 0)) := Lib.hid ⟨rd_of_owns hok, fun g hg => by
    have h1 := hok.lt g hg
    have h2 := HR0.out.lt
    exact ⟨by omega, h1.2, fun e => (by cases e), fun e => (by cases e)⟩⟩
  obtain ⟨la, lc, rfl⟩ := own_shape hok
  rw [HSK.out] at HK1 ⊢
  clear hso hok hb1 HR0 x0 x1 x2 x3 xa0 xa1 xa2 xa3 hW0
  go_wp2
  go_loopw [5, 6, 7] (fun si s6 s7 wr => ∃ (j : Nat) (sk7 sk8 : Value), j ≤ n ∧ si = .int .i64 (j : Int) ∧ Hid (RZ S OUT (fun W => BxS S w W (.mk 3 t ks ds) (.int .i64 3) (.string T) (.slice a m c9) (.slice A n cap)) wr 3 T sk7 ((sortL ks).take j) sk8 ((kidsS ks ds).take j)) ∧ Hid (KL OUT wr (.slice la n lc) (sortL ks) sk7 sk8)) (fun si _ _ _ => n - (intOf si).toNat)
  case atStart => exact ⟨0, _, _, Nat.zero_le _, rfl, HR1, HK1⟩
  case round =>
    clear HR1 HK1
    obtain ⟨j, sk7, sk8, hj, rfl, HR, HK⟩ := hrel
    obtain ⟨x0, x1, x2, x3⟩ := HR.out.2.1.2.1.cells
    by_cases hlt : j < n
    · have hjl : j < (sortL ks).length := by rw [HSK.out]; exact hlt
      have hjk : j < (kidsS ks ds).length := by rw [HKN.out]; exact hlt
      have hjz : (j : Int) < (n : Int) := by omega
      obtain ⟨lb, lo, rfl, hlb, y0⟩ := rd_at HK.out.1 j hjl
      obtain ⟨X, hX⟩ : ∃ X, ba ((sortL ks)[j]'hjl) = X := ⟨_, rfl⟩
      have HX : Hid (X.data.toList = (sortL ks)[j]'hjl) := Lib.hid (by rw [← hX, ba_data])
      have HXB := Lib.hid hX
      rw [hX] at y0
      obtain ⟨i, hi9, hd9, e1, e2⟩ := kidsS_at HO.out HKD.out j hjl hjk
      have hget : getT (.mk 3 t ks ds) X.data.toList = some (ds[i]'hd9) := by
        show (if (3 : Int) = 3 then getK ks ds X.data.toList else none) = _
        rw [if_pos rfl, HX.out, ← e1]
        exact getK_at hi9 hd9 HO.out
      have HE2 := Lib.hid e2
      have hSr : ∀ b, S b → b < wr.heap.size := fun b hb => by have := HS.out b hb; have := HR.out.2.1.1.size; omega
      have HGET := Lib.hid (fun W (hW : Below wr.heap.size wr W) => RGet_any S (.mk 3 t ks ds) X (fun _ => HKD.out) _ hget (.int .i64 3) (.string T) (.slice a m c9) (.slice A n cap) W (fun b hb => Nat.lt_of_lt_of_le (hSr b hb) hW.size) (HR.out.2.1.2.2.2.old hSr hW))
      have hck : cntT (ds[i]'hd9) ≤ cntL ds := cntL_mem (List.getElem_mem hd9)
      have hOlt := HR.out.lt
      have hu8 : ∀ g, sk8.ownBlock = some g → OUT + 1 ≤ g ∧ g < wr.heap.size := fun g h => HR.out.2.2.2.2.choose_spec.1.lt g h
      have hu7 : ∀ g, sk7.ownBlock = some g → OUT + 1 ≤ g ∧ g < wr.heap.size := fun g h => HR.out.2.2.2.1.lt g h
      have HU7 := Lib.hid hu7
      have HU8 := Lib.hid hu8
      have HSR := Lib.hid hSr
      have HCK := Lib.hid (And.intro (Nat.le_trans hck HCN.out.1) (fine_kids HF.out _ (List.getElem_mem hd9)))
      have HCB : Hid (cntT (ds[i]'hd9) ≤ 100000) := Lib.hid (by have := HCN.out.2; omega)
      obtain ⟨kd, hkd⟩ : ∃ kd, ds[i]'hd9 = kd := ⟨_, rfl⟩
      rw [hkd] at HGET HE2 HCK HCB
      have HSQ : Hid (∀ W, Below wr.heap.size wr W → W.cell? ⟨w.heap.size, 0, none⟩ = some (.int .i64 3) ∧ W.cell? ⟨w.heap.size, 1, none⟩ = some (.string T) ∧ W.cell? ⟨w.heap.size, 2, none⟩ = some (.slice a m c9) ∧ W.cell? ⟨w.heap.size, 3, none⟩ = some (.slice A n cap) ∧ W.cell? ⟨lb, lo + j, none⟩ = some (.string X) ∧ SQ wr W) := Lib.hid (fun W hW => ⟨cell_far x0 hW, cell_far x1 hW, cell_far x2 hW, cell_far x3 hW, cell_far y0 hW, hW⟩)
      have HY := Lib.hid y0
      clear hX hget e1 e2 hSr hck hkd hu7 hu8 hi9
      go_upto_region 7 with fail
      go_cut [6, 7] from 20 to 50 (fun s6 s7 wx => ∃ (gb : Nat) (k2 : Int) (s2 : ByteArray) (a2 : Option Addr) (n2 q2 : Nat) (A2 : Option Addr) (m2 r2 : Nat), s6 = .pointer (some ⟨gb, 0, none⟩) ∧ Hid (Below wr.heap.size wr wx) ∧ Hid (wr.heap.size ≤ gb) ∧ Hid (Row4 wx gb 25 (.int .i64 k2) (.string s2) (.slice a2 n2 q2) (.slice A2 m2 r2)) ∧ Hid (NdC S wx kd (.int .i64 k2) (.string s2) (.slice a2 n2 q2) (.slice A2 m2 r2)))
      case first =>
        have hS1 := HSQ.out _ (below_drew wr)
        have hb1a : Below wr.heap.size wr (wr.alloc (.cells #[.int .i64 0, .string ⟨#[]⟩, .slice none 0 0, .slice none 0 0] 25)).drew := ((Below.refl _ _).alloc (Nat.le_refl _) _).drew
        have hS1a := HSQ.out _ hb1a
        clear hb1a x0 x1 x2 x3 y0
        go_region_held3 (fun W => W.cell? ⟨w.heap.size, 0, none⟩ = some (.int .i64 3) ∧ W.cell? ⟨w.heap.size, 1, none⟩ = some (.string T) ∧ W.cell? ⟨w.heap.size, 2, none⟩ = some (.slice a m c9) ∧ W.cell? ⟨w.heap.size, 3, none⟩ = some (.slice A n cap) ∧ W.cell? ⟨lb, lo + j, none⟩ = some (.string X) ∧ SQ wr W) (first | exact hS1 | exact hS1a | exact hS2 | exact HSQ.out _ (hbw.alloc (Nat.le_refl _) _) | exact HSQ.out _ (hbw.alloc hbw.size _) | exact HSQ.out _ (below_put4 hbw (Nat.le_refl _) _ _ _ _))
          (first | (go_at_call 9; refine (HGET.out _ (by first | exact hS1.2.2.2.2.2 | exact hS1a.2.2.2.2.2)).mono ?_; rintro x2 w2 ⟨r0, r1', r2, r3, rfl, hb2, hn2⟩; obtain ⟨k2, s2, a2, n2, q2, A2, m2, r2', rfl, rfl, rfl, rfl⟩ := NdC.cellsOk hn2; have hbw : Below wr.heap.size wr w2 := below3 (by first | exact hS1.2.2.2.2.2 | exact hS1a.2.2.2.2.2) hb2; have hS2 := HSQ.out _ hbw; (try (have hr4 := (show Row4 ((wr.alloc (.cells #[.int .i64 0, .string ⟨#[]⟩, .slice none 0 0, .slice none 0 0] 25)).drew) wr.heap.size 25 (.int .i64 0) (.string ⟨#[]⟩) (.slice none 0 0) (.slice none 0 0) from Row4.make wr _ _ _ _ _).below hb2 (by simp); obtain ⟨t0, t1, t2, t3⟩ := hr4.cells; obtain ⟨f0, f1, f2, f3⟩ := hr4.frozen))))
        · have HA := Lib.hid (And.intro hbw hn2)
          clear hS2 hbw hn2 hb2 hS1 hS1a
          go_wp2_with fail
          go_meet
          exact ⟨_, _, _, _, _, _, _, _, _, rfl, Lib.hid (HA.out.1.alloc HA.out.1.size _), Lib.hid HA.out.1.size, Lib.hid (Row4.make w2 _ _ _ _ _), Lib.hid (NdC.old HA.out.2 (fun b hb => Nat.lt_of_lt_of_le (HSR.out b hb) HA.out.1.size) ((Below.refl _ _).alloc (Nat.le_refl _) _))⟩
        · have HA := Lib.hid (And.intro hbw (And.intro hn2 hr4))
          clear hS2 hbw hn2 hb2 hS1 hS1a t0 t1 t2 t3 f0 f1 f2 f3 hr4
          go_wp2_with fail
          go_meet
          exact ⟨_, _, _, _, _, _, _, _, _, rfl, Lib.hid (below_put4 HA.out.1 (Nat.le_refl _) _ _ _ _), Lib.hid (Nat.le_refl _), Lib.hid (HA.out.2.2.put _ _ _ _), Lib.hid (HA.out.2.1.put (fun b hb => by have := HSR.out b hb; omega) _ _ _ _)⟩
      case rest =>
      obtain ⟨gb, k2, s2, a2, n2, q2, A2, m2, r2, rfl, HB7, HGB, HV7, HND7⟩ := hcut
      have HR7 := Lib.hid (HR.out.go HG.out HB7.out)
      have HK7 := Lib.hid (HK.out.go HB7.out)
      have HVB : Hid (VB S OUT gb wc kd (.int .i64 k2) (.string s2) (.slice a2 n2 q2) (.slice A2 m2 r2) sk7 sk8) := Lib.hid ⟨by have := HGB.out; omega, HV7.out, HND7.out, fun e => by have := HU7.out _ e; have := HGB.out; omega, fun e => by have := HU8.out _ e; have := HGB.out; omega⟩
      have y7 := cell_far HY.out HB7.out
      clear HB7 HGB HV7 HND7 HGET HSQ HY HR HK x0 x1 x2 x3 y0 hOlt
      generalize wc = W7 at *
      obtain ⟨z0, z1, z2, z3⟩ := HR7.out.2.2.1.cells
      obtain ⟨f0, f1, f2, f3⟩ := HR7.out.2.2.1.frozen
      have hOlt7 := HR7.out.lt
      have n7O : sk7.ownBlock ≠ some OUT := fun e => by have := HU7.out _ e; omega
      have z2a : ∀ o, (W7.alloc o).drew.cell? ⟨OUT, 2, none⟩ = some sk7 := fun o => cells_alloc z2
      have z2b : ∀ o, (W7.alloc o).cell? ⟨OUT, 2, none⟩ = some sk7 := fun o => cells_alloc z2
      have HLJ : Hid (((sortL ks).take j).length = j) := Lib.hid (by rw [List.length_take]; omega)
      have HLJ1 : Hid (((sortL ks).take (j + 1)).length = j + 1) := Lib.hid (by rw [List.length_take]; omega)
      have hown := HR7.out.2.2.2.1
      rw [HLJ.out] at hown
      obtain ⟨X7, hX7⟩ : ∃ X7, ((sortL ks).take j).map encStr = X7 := ⟨_, rfl⟩
      have HX7 : Hid (((sortL ks).take (j + 1)).map encStr = X7 ++ [.string X]) := Lib.hid (by rw [take_map_snoc hjl, hX7, HXB.out])
      rw [hX7] at hown
      have hOwn := Lib.hid hown
      clear hown hX7
      go_upto_region 8 with fail
      go_cut [] from 20 to 50 (fun wx => ∃ a7 q7, Hid (RZ S OUT (fun W => BxS S w W (.mk 3 t ks ds) (.int .i64 3) (.string T) (.slice a m c9) (.slice A n cap)) wx 3 T (.slice a7 (j + 1) q7) ((sortL ks).take (j + 1)) sk8 ((kidsS ks ds).take j)) ∧ Hid (KL OUT wx (.slice (some ⟨lb, lo, none⟩) n lc) (sortL ks) (.slice a7 (j + 1) q7) sk8) ∧ Hid (VB S OUT gb wx kd (.int .i64 k2) (.string s2) (.slice a2 n2 q2) (.slice A2 m2 r2) (.slice a7 (j + 1) q7) sk8))
      case first =>
        go_region_law
          (first
            | (refine step_append_own_at rfl _ _ 22 rfl (OUT + 1) 9 i0 _ 1 16 Try.underlying22 hi hz0 hz1 hz2 rfl (by decide) sk7 j X7 rfl (by first | exact hOwn.out | exact hOwn.out.alloc _) _ 1 1 [.string X] rfl rfl (by first | exact news_blk #[.string X] (alloc_at _ _) | exact news_blk #[.string X] (alloc_at1 _ _ _)) (one_str X) (by unfold maxLen; omega) (by omega) (by first | (simp; omega) | omega) ?_; intro v' w3 hownS hgS hkS; obtain ⟨a7, q7, rfl⟩ := own_shape hownS; have hz3 : w3.cell? ⟨OUT, 2, none⟩ = some sk7 := cell_grown (by first | exact z2a _ | exact z2b _) hgS n7O; have hf3 : w3.frozen? ⟨OUT, 2, none⟩ = false := frozen_grown (by first | exact frozen_alloc f2 hOlt7 | exact f2) hgS (by simp; omega) n7O))
        all_goals
          have hal : Below W7.heap.size W7 (W7.alloc (.cells #[.string X] 9)) := (Below.refl _ _).alloc (Nat.le_refl _) _
          have hg9 : World.grownBy (W7.alloc (.cells #[.string X] 9)) w3 sk7.ownBlock := ⟨hgS.os, hgS.tape, hgS.output, hgS.size, hgS.block⟩
          have HA := Lib.hid (RZ.keys HG.out HR7.out hal (l' := (sortL ks).take (j + 1)) (by rw [HLJ1.out, HX7.out]; exact hownS) hg9 hkS)
          have HB := Lib.hid (HK7.out.turn hal hg9 (.inl rfl) 2 (.slice a7 (j + 1) q7) hkS (.inl rfl))
          have HC := Lib.hid (VB.keys HR7.out.1 HVB.out hal hg9 (fun g hg => (HU7.out g hg).1) (.slice a7 (j + 1) q7) hkS)
          clear hal hg9 hkS hgS hownS
          go_wp2_with fail
          go_meet
          exact ⟨a7, q7, HA, HB, HC⟩
      case rest =>
      obtain ⟨a7, q7, HR8, HK8, HV8⟩ := hcut
      clear HR7 HK7 HVB y7 z0 z1 z2 z3 f0 f1 f2 f3 hOlt7 n7O z2a z2b hOwn HU7 HU8 HSR HLJ HLJ1 HX7 HXB HX
      generalize wc = W8 at *
      obtain ⟨z0, z1, z2, z3⟩ := HR8.out.2.2.1.cells
      obtain ⟨f0, f1, f2, f3⟩ := HR8.out.2.2.1.frozen
      obtain ⟨b0, b1, b2, b3⟩ := HV8.out.2.1.cells
      have hOlt := HR8.out.lt
      have hS8 : ∀ b, S b → b < W8.heap.size := fun b hb => by have := HR8.out.1 b hb; omega
      have HREC := Lib.hid (fun W (hW : Below W8.heap.size W8 W) => HIH.out kd HCK.out.1 HCK.out.2 HCB.out _ _ _ _ W (fun b hb => Nat.lt_of_lt_of_le (hS8 b hb) hW.size) (HV8.out.2.2.1.old hS8 hW))
      have HW7 := Lib.hid (fun g (h : (Value.slice a7 (j + 1) q7).ownBlock = some g) => HR8.out.2.2.2.1.lt g h)
      have HSN : Hid ((kidsS ks ds).take (j + 1) = (kidsS ks ds).take j ++ [sortT kd]) := Lib.hid (by rw [List.take_succ_eq_append_getElem hjk, HE2.out])
      have HML : Hid (((kidsS ks ds).take j).length = j) := Lib.hid (by rw [List.length_take]; omega)
      obtain ⟨qs, hko⟩ := HR8.out.2.2.2.2
      have hu8 : ∀ g, sk8.ownBlock = some g → OUT + 1 ≤ g ∧ g < W8.heap.size := fun g h => hko.1.lt g h
      have n8O : sk8.ownBlock ≠ some OUT := fun e => by have := hu8 _ e; omega
      have HU8 := Lib.hid hu8
      have HQ := Lib.hid hko
      have hown := hko.1
      rw [HML.out] at hown
      have HOWN := Lib.hid hown
      obtain ⟨X8, hX8⟩ : ∃ X8, flat4 qs = X8 := ⟨_, rfl⟩
      have HX8 := Lib.hid hX8
      rw [hX8] at HOWN
      clear hko hown hX8 hu8 hS8 HE2 hjl hjk
      go_wp2_with fail
      go_region_law
        (first
          | (go_simp; go_at_call 28; refine (HREC.out _ (below_drew _)).mono ?_; rintro e w2 ⟨r0, r1', r2, r3, rfl, hb2, hrn⟩; obtain ⟨k5, s5, a5, n5, q5, A5, m5, r5, rfl, rfl, rfl, rfl⟩ := NdC.cellsOk hrn; have hbw : Below W8.heap.size W8 w2 := (below_drew W8).trans hb2; have hz3 : w2.cell? ⟨OUT, 3, none⟩ = some sk8 := (hbw.cell (p := ⟨OUT, 3, none⟩) hOlt).trans z3; have hf3 : w2.frozen? ⟨OUT, 3, none⟩ = false := (World.frozen?_of_block (hbw.block OUT hOlt)).trans f3; have hown2 := owns_below HOWN.out hbw; have hl2 : OUT < w2.heap.size := Nat.lt_of_lt_of_le hOlt hbw.size)
          | (refine step_append_own_at rfl _ _ 23 rfl (OUT + 1) 25 j0 _ 4 72 Try.underlying23 hj0 hy0 hy1 hy2 rfl (by decide) sk8 j X8 rfl (hown2.alloc _) _ 1 1 [.int .i64 k5, .string s5, .slice a5 n5 q5, .slice A5 m5 r5] rfl rfl (news_blk #[.int .i64 k5, .string s5, .slice a5 n5 q5, .slice A5 m5 r5] (alloc_at _ _)) (four_one _ _ _ _ _ _ _ _) (by unfold maxLen; omega) (by omega) (by simp; omega) ?_; intro v'' w4 hownN hgN hkN; obtain ⟨a8, q8, rfl⟩ := own_shape hownN; have hz4 : w4.cell? ⟨OUT, 3, none⟩ = some sk8 := cell_grown (cells_alloc hz3) hgN n8O; have hf4 : w4.frozen? ⟨OUT, 3, none⟩ = false := frozen_grown (frozen_alloc hf3 hl2) hgN (by simp; omega) n8O))
      all_goals
        have hal : Below w2.heap.size w2 (w2.alloc (.cells #[.int .i64 k5, .string s5, .slice a5 n5 q5, .slice A5 m5 r5] 25)) := (Below.refl _ _).alloc (Nat.le_refl _) _
        have hg9 : World.grownBy (w2.alloc (.cells #[.int .i64 k5, .string s5, .slice a5 n5 q5, .slice A5 m5 r5] 25)) w4 sk8.ownBlock := ⟨hgN.os, hgN.tape, hgN.output, hgN.size, hgN.block⟩
        have HR3 := Lib.hid (RZ.kids (wr := W8) (q := ⟨.int .i64 k5, .string s5, .slice a5 n5 q5, .slice A5 m5 r5⟩) (e := sortT kd) HG.out (HR8.out.go HG.out hbw) hal (by rw [HML.out]) qs (HR8.out.goK HQ.out hbw) (by rw [HX8.out]) hownN hg9 hkN (fun b hb => by
          rcases hb with hb | hb
          · exact (HW7.out b hb).2
          · exact (HU8.out b hb).2) hOlt (NdC.keep (fun b hb => ⟨hb, rfl⟩) _ hrn))
        rw [← HSN.out] at HR3
        have HK3 := Lib.hid ((HK8.out.go hbw).turn hal hg9 (.inr rfl) 3 (.slice a8 (j + 1) q8) (.inl rfl) hkN)
        clear hz4 hf4 hownN hgN hg9 hkN hal hrn hb2 hbw hz3 hf3 hown2 hl2
        go_wp2
        go_roundw
        case measure => simp [intOf]; omega
        case rel => exact ⟨j + 1, .slice a7 (j + 1) q7, _, by omega, by go_num, HR3, HK3⟩
    · obtain rfl : j = n := by omega
      have HT7 : Hid ((sortL ks).take j = sortL ks) := Lib.hid (List.take_of_length_le (by rw [HSK.out]; exact Nat.le_refl _))
      have HT8 : Hid ((kidsS ks ds).take j = kidsS ks ds) := Lib.hid (List.take_of_length_le (by rw [HKN.out]; exact Nat.le_refl _))
      rw [HT7.out, HT8.out] at HR
      have HD := Lib.hid (HR.out.done (wr := w) (fun W hW => ⟨hW.1, HL.out.symm⟩) HS.out)
      have HW : Hid (sortT (.mk 3 t ks ds) = .mk 3 T.data.toList (sortL ks) (kidsS ks ds)) := Lib.hid (by rw [HT.out, sortT_map])
      obtain ⟨z0, z1, z2, z3⟩ := HR.out.2.2.1.cells
      obtain ⟨r0, r1, r2, r3⟩ := HR.out.2.1.2.2.1.cells
      obtain ⟨fr0, fr1, fr2, fr3⟩ := HR.out.2.1.2.2.1.frozen
      obtain ⟨ha, hcp, rfl⟩ := own_shape HR.out.2.2.2.1
      obtain ⟨hA, hcq, rfl⟩ := own_shape HR.out.2.2.2.2.choose_spec.1
      rw [HKN.out, HSK.out] at HD HR
      rw [HSK.out] at z2
      rw [HKN.out] at z3
      go_wp2
      refine bodyPost_ret (v := .agg #[.int .i64 3, .string T, .slice ha j hcp, .slice hA j hcq]) (by simp [results, Try.results28, go_sem, r0, r1, r2, r3]) rfl ⟨_, _, _, _, rfl, HD.out.1, by rw [HW.out]; exact HD.out.2⟩
/-- The document's own Sorted at any node. -/
theorem RSort_any (S : Nat → Prop) (N : Nat) : RSortOf S N := by
  induction N with
  | zero => intro d h; have := cntT_pos d; omega
  | succ N ih =>
    intro d hN hf hbig c0 c1 c2 c3 w hS hd
    cases d with
    | mk k t ks ds =>
      rw [cntT] at hN hbig
      by_cases hk : k = 3
      · subst hk
        exact RSort_map S N ih t ks ds (by omega) hf (by omega) c0 c1 c2 c3 w hS hd
      · exact RSort_seq S N ih k hk t ks ds (by omega) hf (by omega) c0 c1 c2 c3 w hS hd
theorem RSortT_any (d : Nd) (hf : Fine d) (hc : cntT d ≤ 100000) (c0 c1 c2 c3 : Value) (w : World) (hd : NdW w d c0 c1 c2 c3) :
    Calls Try.prog 28 #[.agg #[c0, c1, c2, c3]] w (GivesN (sortT d) w) := by
  refine (RSort_any (· < w.heap.size) (cntT d) d (Nat.le_refl _) hf hc c0 c1 c2 c3 w (fun b hb => hb) hd).mono ?_
  rintro e w' ⟨r0, r1, r2, r3, rfl, hb, hn⟩
  refine ⟨r0, r1, r2, r3, rfl, NdC.keep (fun b hx => ⟨?_, rfl⟩) _ hn, hb⟩
  rcases hx with hx | hx
  · exact Nat.lt_of_lt_of_le hx hb.size
  · exact hx.2
end Go.Proofs.Ytgingebdoppdbaa
