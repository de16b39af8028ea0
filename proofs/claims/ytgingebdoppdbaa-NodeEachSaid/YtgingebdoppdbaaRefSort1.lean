/- The document's own Sorted at what is no map. -/
import Derived.Test.YtgingebdoppdbaaRefSort0
import Derived.Test.YtgingebdoppdbaaNodSrt2
namespace Go.Proofs.Ytgingebdoppdbaa
open Go.RowKit Go.Sort
open Nw N8 Go.ChangeShapes Go.WideShapes
set_option linter.unusedVariables false
def RSortOf (S : Nat → Prop) (N : Nat) : Prop := ∀ (d : Nd), cntT d ≤ N → Fine d → cntT d ≤ 100000 → ∀ (c0 c1 c2 c3 : Value) (w : World), (∀ b, S b → b < w.heap.size) → NdC S w d c0 c1 c2 c3 →
    Calls Try.prog 28 #[.agg #[c0, c1, c2, c3]] w (SortA S d w)
namespace N8
theorem sortDs_snoc : ∀ {ds : List Nd} {j : Nat} (h : j < ds.length), sortDs (ds.take (j + 1)) = sortDs (ds.take j) ++ [sortT (ds[j]'h)]
  | d :: ds, 0, _ => rfl
  | d :: ds, j + 1, h => by rw [List.take_succ_cons, List.take_succ_cons, sortDs, sortDs, sortDs_snoc (Nat.lt_of_succ_lt_succ h)]; rfl
end N8
set_option maxRecDepth 100000 in
set_option maxHeartbeats 8000000 in
theorem RSort_seq (S : Nat → Prop) (N : Nat) (ih : RSortOf S N) (k : Int) (hk : k ≠ 3) (t : L8) (ks : List L8) (ds : List Nd) (hN : cntL ds ≤ N) (hf : Fine (.mk k t ks ds)) (hbig : cntL ds ≤ 99999) (c0 c1 c2 c3 : Value) (w : World) (hS : ∀ b, S b → b < w.heap.size) (hd : NdC S w (.mk k t ks ds) c0 c1 c2 c3) :
    Calls Try.prog 28 #[.agg #[c0, c1, c2, c3]] w (SortA S (.mk k t ks ds) w) := by
  have hks := fine_nokeys hf hk
  subst hks
  have hb := BxS.make hd hS
  have hlen := cntL_len ds
  have hdA := hd.all hS
  obtain ⟨rfl, rfl, -, A, cap, rfl, hcap, hcm, -, -⟩ := hdA.parts
  obtain ⟨k9, s9, a, m, c9, A9, m9, q9, -, -, rfl, h99⟩ := hdA.shape
  obtain ⟨T, hT⟩ : ∃ T, ba t = T := ⟨_, rfl⟩
  have HT : Hid (T.data.toList = t) := Lib.hid (by rw [← hT, ba_data])
  rw [hT] at hb hd ⊢
  obtain ⟨n, hn⟩ : ∃ n, ds.length = n := ⟨_, rfl⟩
  have HN := Lib.hid hn
  rw [hn] at hb hcap hd ⊢
  have p1 : (k == 3) = false := by simpa using hk
  have hn63 : n ≤ 100000 := by omega
  unfold maxLen at hcm
  generalize hW0 : (w.alloc (.cells #[.int .i64 k, .string T, .slice a m c9, .slice A n cap] 25)).alloc (.cells #[.int .i64 0, .string ⟨#[]⟩, .slice none 0 0, .slice none 0 0] 25) = W0 at *
  have hsz : W0.heap.size = w.heap.size + 2 := by rw [← hW0]; simp
  have HG : Hid (∀ W W' : World, BxS S w W (.mk k t [] ds) (.int .i64 k) (.string T) (.slice a m c9) (.slice A n cap) → Below W0.heap.size W W' → BxS S w W' (.mk k t [] ds) (.int .i64 k) (.string T) (.slice a m c9) (.slice A n cap)) := Lib.hid fun W W' h hb => bxs_far hS h (by rw [hsz] at hb; exact hb)
  have HR0 : Hid (RZ S W0.heap.size (fun W => BxS S w W (.mk k t [] ds) (.int .i64 k) (.string T) (.slice a m c9) (.slice A n cap)) (W0.alloc (.cells #[.int .i64 k, .string T, .slice none 0 0, .slice none 0 0] 25)) k T (.slice none 0 0) [] (.slice none 0 0) []) := Lib.hid
    ⟨fun b hb' => by have := hS b hb'; omega, hb.go hS ((Below.refl _ _).alloc (Nat.le_refl _) _), Row4.make W0 _ _ _ _ _, World.ownsRow_nil _ _ _ _, [], World.ownsRow_nil _ _ _ _, rfl, fun j hj => absurd hj (Nat.not_lt_zero _)⟩
  obtain ⟨x0, x1, x2, x3⟩ := hb.2.1.cells
  obtain ⟨xa0, xa1, xa2, xa3⟩ := HR0.out.2.1.2.1.cells
  have HL := Lib.hid hsz
  have HS := Lib.hid hS
  have HF := Lib.hid hf
  have HK := Lib.hid hk
  have HIH := Lib.hid ih
  have HCN := Lib.hid (And.intro hN hbig)
  clear hd hdA hlen hn hb hsz hS hf hk ih hN hbig h99 hT
  obtain ⟨j0, hj0, hy0, hy1, hy2⟩ := infoN
  go_enter Try.func28, Try.ntmps28
  go_wp2
  generalize W0.alloc (.cells #[.int .i64 k, .string T, .slice none 0 0, .slice none 0 0] 25) = W1 at *
  generalize W0.heap.size = OUT at *
  clear x0 x1 x2 x3 xa0 xa1 xa2 xa3 hW0
  go_loopw [8] (fun si wr => ∃ (j : Nat) (u8 : Value), j ≤ n ∧ si = .int .i64 (j : Int) ∧ Hid (RZ S OUT (fun W => BxS S w W (.mk k t [] ds) (.int .i64 k) (.string T) (.slice a m c9) (.slice A n cap)) wr k T (.slice none 0 0) [] u8 (sortDs (ds.take j)))) (fun si _ => n - (intOf si).toNat)
  case atStart => exact ⟨0, _, Nat.zero_le _, rfl, HR0⟩
  case round =>
    clear HR0
    obtain ⟨j, u8, hj, rfl, HR⟩ := hrel
    obtain ⟨x0, x1, x2, x3⟩ := HR.out.2.1.2.1.cells
    obtain ⟨z0, z1, z2, z3⟩ := HR.out.2.2.1.cells
    obtain ⟨f0, f1, f2, f3⟩ := HR.out.2.2.1.frozen
    by_cases hlt : j < n
    · have hjl : j < ds.length := by rw [HN.out]; exact hlt
      have hjz : (j : Int) < (n : Int) := by omega
      obtain ⟨b, o, e0, e1, e2, e3, rfl, hb, y0, y1, y2, y3, hnd⟩ := HR.out.2.1.2.2.2.kdS.kid j hjl
      obtain ⟨k1, s1, a1, n1, q1, A1, m1, r1, rfl, rfl, rfl, rfl⟩ := NdC.cellsOk hnd
      have hck : cntT (ds[j]'hjl) ≤ cntL ds := cntL_mem (List.getElem_mem hjl)
      have hSr : ∀ b, S b → b < wr.heap.size := fun b hb => by have := HS.out b hb; have := HR.out.2.1.1.size; omega
      have HREC := Lib.hid (fun W (hW : Below wr.heap.size wr W) => HIH.out (ds[j]'hjl) (Nat.le_trans hck HCN.out.1) (fine_kids HF.out _ (List.getElem_mem hjl)) (by have := HCN.out.2; omega) _ _ _ _ W (fun b hb => Nat.lt_of_lt_of_le (hSr b hb) hW.size) (hnd.old hSr hW))
      have hOlt := HR.out.lt
      have HW1 := Lib.hid (HR.out.2.2.2.2.choose_spec.1)
      have hu8 : ∀ g, u8.ownBlock = some g → OUT + 1 ≤ g ∧ g < wr.heap.size := fun g h => HW1.out.lt g h
      have n8O : u8.ownBlock ≠ some OUT := fun e => by have := hu8 _ e; omega
      have HSN := Lib.hid (sortDs_snoc hjl)
      have HML : Hid ((sortDs (ds.take j)).length = j) := Lib.hid (by rw [sortDs_len, List.length_take]; omega)
      obtain ⟨qs, hko⟩ := HR.out.2.2.2.2
      have HQ := Lib.hid hko
      have hown := hko.1
      rw [HML.out] at hown
      have HOWN := Lib.hid hown
      obtain ⟨X8, hX8⟩ : ∃ X8, flat4 qs = X8 := ⟨_, rfl⟩
      have HX8 := Lib.hid hX8
      rw [hX8] at HOWN
      clear hnd hck hSr hko hown hX8 HW1
      go_wp2_with fail
      go_region_law
        (first
          | (go_simp; go_at_call 28; refine (HREC.out _ (below_drew _)).mono ?_; rintro e w2 ⟨r0, r1', r2, r3, rfl, hb2, hrn⟩; obtain ⟨k2, s2, a2, n2, q2, A2, m2, r2', rfl, rfl, rfl, rfl⟩ := NdC.cellsOk hrn; have hbw : Below wr.heap.size wr w2 := (below_drew wr).trans hb2; have hz3 : w2.cell? ⟨OUT, 3, none⟩ = some u8 := (hbw.cell (p := ⟨OUT, 3, none⟩) hOlt).trans z3; have hf3 : w2.frozen? ⟨OUT, 3, none⟩ = false := (World.frozen?_of_block (hbw.block OUT hOlt)).trans f3; have hown2 := owns_below HOWN.out hbw; have hl2 : OUT < w2.heap.size := Nat.lt_of_lt_of_le hOlt hbw.size)
          | (refine step_append_own_at rfl _ _ 23 rfl (OUT + 1) 25 j0 _ 4 72 Try.underlying23 hj0 hy0 hy1 hy2 rfl (by decide) u8 j X8 rfl (hown2.alloc _) _ 1 1 [.int .i64 k2, .string s2, .slice a2 n2 q2, .slice A2 m2 r2'] rfl rfl (news_blk #[.int .i64 k2, .string s2, .slice a2 n2 q2, .slice A2 m2 r2'] (alloc_at _ _)) (four_one _ _ _ _ _ _ _ _) (by unfold maxLen; omega) (by omega) (by simp; omega) ?_; intro v'' w4 hownN hgN hkN; obtain ⟨a8, q8, rfl⟩ := own_shape hownN; have hz4 : w4.cell? ⟨OUT, 3, none⟩ = some u8 := cell_grown (cells_alloc hz3) hgN n8O; have hf4 : w4.frozen? ⟨OUT, 3, none⟩ = false := frozen_grown (frozen_alloc hf3 hl2) hgN (by simp; omega) n8O))
      all_goals
        have hal : Below w2.heap.size w2 (w2.alloc (.cells #[.int .i64 k2, .string s2, .slice a2 n2 q2, .slice A2 m2 r2'] 25)) := (Below.refl _ _).alloc (Nat.le_refl _) _
        have HR3 := Lib.hid (RZ.kids (wr := wr) (q := ⟨.int .i64 k2, .string s2, .slice a2 n2 q2, .slice A2 m2 r2'⟩) (e := sortT (ds[j]'hjl)) HG.out (HR.out.go HG.out hbw) hal (by rw [HML.out]) qs (HR.out.goK HQ.out hbw) (by rw [HX8.out]) hownN (show World.grownBy _ w4 u8.ownBlock from ⟨hgN.os, hgN.tape, hgN.output, hgN.size, hgN.block⟩) hkN (fun b hb => by
          rcases hb with hb | hb
          · cases hb
          · exact (hu8 b hb).2) hOlt (NdC.keep (fun b hb => ⟨hb, rfl⟩) _ hrn))
        rw [← HSN.out] at HR3
        clear hz4 hf4 hownN hgN hkN hal hrn hb2 hbw hz3 hf3 hown2 hl2
        go_wp2
        go_roundw
        case measure => simp [intOf]; omega
        case rel => exact ⟨j + 1, _, by omega, by go_num, HR3⟩
    · obtain rfl : j = n := by omega
      have HT8 : Hid (ds.take j = ds) := Lib.hid (List.take_of_length_le (by rw [HN.out]; exact Nat.le_refl _))
      rw [HT8.out] at HR
      have HD := Lib.hid (HR.out.done (wr := w) (fun W hW => ⟨hW.1, HL.out.symm⟩) HS.out)
      have HW : Hid (sortT (.mk k t [] ds) = .mk k T.data.toList [] (sortDs ds)) := Lib.hid (by rw [HT.out, sortT, if_neg HK.out])
      obtain ⟨r0, r1, r2, r3⟩ := HR.out.2.1.2.2.1.cells
      obtain ⟨fr0, fr1, fr2, fr3⟩ := HR.out.2.1.2.2.1.frozen
      obtain ⟨hA, hcq, rfl⟩ := own_shape HR.out.2.2.2.2.choose_spec.1
      have HML : Hid ((sortDs ds).length = j) := Lib.hid (by rw [sortDs_len]; exact HN.out)
      rw [HML.out] at HD HR z3
      go_wp2
      refine bodyPost_ret (v := .agg #[.int .i64 k, .string T, .slice none 0 0, .slice hA j hcq]) (by simp [results, Try.results28, go_sem, r0, r1, r2, r3]) rfl ⟨_, _, _, _, rfl, HD.out.1, by rw [HW.out]; exact HD.out.2⟩
end Go.Proofs.Ytgingebdoppdbaa
