/- RefTmp2 -/
import Derived.Deep.Cut
import Derived.Laws.AppendOwnNone
import Derived.Maps.AppendAt
import Derived.OwnWalk
import Derived.Test.YtkcilmmaggmmoaaGreatDoorNT12
set_option linter.unusedVariables false
set_option linter.unusedSimpArgs false
set_option maxRecDepth 100000
set_option maxHeartbeats 16000000
open Go.Lib (hid)
namespace Go.Proofs.YtkcilmmaggmmoaaGreatDoor
namespace Nw
end Nw
namespace T13
end T13
end Go.Proofs.YtkcilmmaggmmoaaGreatDoor
namespace Go.Proofs.YtkcilmmaggmmoaaGreatDoor
section
open Go.RowKit Go.Sort
open Nw T13
theorem mark_any (o : Int) (w : World) :
  Calls Tryz.prog 81 #[.int .i64 o] w fun e w' => e = .returned (.string (ba (markL o))) ∧ Below w.heap.size w w' := by
 by_cases h0 : o < 0
 ·have HE : Hid (ba (markL o) = ⟨#[]⟩) := hid (by
   unfold markL
   rw [if_neg (by omega), if_neg (by omega), if_neg (by omega), if_neg (by omega), if_neg (by omega), if_neg (by omega)]; rfl)
  go_enter Tryz.func81, Tryz.ntmps81
  go_wp2
  go_ret
  exact ⟨by rw [HE.out]; rfl, (Below.refl _ _).alloc (Nat.le_refl _) _⟩
 by_cases h7 : 7 < o
 ·have HE : Hid (ba (markL o) = ⟨#[]⟩) := hid (by
   unfold markL
   rw [if_neg (by omega), if_neg (by omega), if_neg (by omega), if_neg (by omega), if_neg (by omega), if_neg (by omega)]; rfl)
  go_enter Tryz.func81, Tryz.ntmps81
  go_wp2
  go_ret
  exact ⟨by rw [HE.out]; rfl, (Below.refl _ _).alloc (Nat.le_refl _) _⟩
 have ho : o = 0 ∨ o = 1 ∨ o = 2 ∨ o = 3 ∨ o = 4 ∨ o = 5 ∨ o = 6 ∨ o = 7 := by omega
 rcases ho with rfl | rfl | rfl | rfl | rfl | rfl | rfl | rfl
 all_goals
  go_enter Tryz.func81, Tryz.ntmps81
  go_wp2
  go_ret
  exact ⟨rfl, (Below.refl _ _).alloc (Nat.le_refl _) _⟩
theorem infoS13a : (Tryz.prog.info? 9).map (fun i => (i.zero, i.size, i.bytes)) = some (some (.string ByteArray.empty), 1, 16) := by kernel_rfl
theorem infoS13 : ∃ i, Tryz.prog.info? 9 = some i ∧ i.zero = some (.string ByteArray.empty) ∧ i.size = 1 ∧ i.bytes = 16 := by
 have h := infoS13a
 cases hi : Tryz.prog.info? 9 with
 | none => rw [hi] at h; cases h
 | some i =>
  rw [hi] at h
  simp only [Option.map_some, Option.some.injEq, Prod.mk.injEq] at h
  exact ⟨i, rfl, h.1, h.2.1, h.2.2⟩
theorem namL_snoc : ∀ (a : List Pt) (p : Pt), namL (a ++ [p]) = namL a ++ namP p
 | [], p => by rw [List.nil_append, namL, namL, namL, List.append_nil]; rfl
 | q :: a, p => by rw [List.cons_append, namL, namL, namL_snoc a p, List.append_assoc]
theorem namL_take {ps : List Pt} {j : Nat} (h : j < ps.length) : namL (ps.take (j + 1)) = namL (ps.take j) ++ namP (ps[j]'h) := by rw [List.take_succ_eq_append_getElem h, namL_snoc]
mutual
theorem namP_cnt : ∀ (p : Pt), (namP p).length ≤ cntP p
 | .mk n t o s => by
  rw [namP, cntP, List.length_append]
  have := namL_cnt s
  have : (if o ≠ 0 then [n] else []).length ≤ 1 := by split <;> simp
  omega
theorem namL_cnt : ∀ (ps : List Pt), (namL ps).length ≤ cntL ps
 | [] => by rw [namL, cntL]; exact Nat.le_refl _
 | p :: ps => by
  rw [namL, cntL, List.length_append]
  have := namP_cnt p
  have := namL_cnt ps
  omega
end
theorem ownS_lit (w : World) (e : TypeId) : (w.alloc (.cells #[] e)).ownsRow w.heap.size e 1 (.slice (some ⟨w.heap.size, 0, none⟩) 0 0) 0 (([] : List L8).map encStr) :=
 ⟨rfl, .inr ⟨w.heap.size, 0, #[], rfl, Nat.le_refl _, Array.getElem?_push_size (xs := w.heap), Nat.le_refl _, Nat.zero_le _, rfl, rfl⟩⟩
theorem map_snoc13 (l : List L8) (x : L8) : (l ++ [x]).map encStr = l.map encStr ++ [.string (ba x)] := by rw [List.map_append]; rfl
theorem read13 {w : World} {base n : Nat} {e : TypeId} {v : Value} {l : List L8} (h : w.ownsRow base e 1 v n (l.map encStr)) : ∃ a cap, v = .slice a n cap ∧ l.length = n ∧ n ≤ cap ∧ cap ≤ maxLen ∧
  (n = 0 ∨ ∃ g, a = some ⟨g, 0, none⟩ ∧ base ≤ g ∧ g < w.heap.size ∧ ∀ k (hk : k < l.length), w.cell? ⟨g, k, none⟩ = some (.string (ba (l[k]'hk)))) := by
 have hn : l.length = n := by have := h.1; rw [List.length_map] at this; omega
 have hlt := h.lt
 have hcells := @World.ownsRow.cells _ _ _ _ _ _ _ h
 rcases h.2 with ⟨hv, h0⟩ | ⟨g, cap, cur, hv, h1, h2, h3, h4, h5⟩
 ·exact ⟨none, 0, by rw [hv, h0], hn, by omega, Nat.zero_le _, .inl h0⟩
 ·refine ⟨some ⟨g, 0, none⟩, cap, hv, hn, h3, h4, .inr ⟨g, rfl, h1, (hlt g (by rw [hv]; rfl)).2, fun k hk => ?_⟩⟩
  have := hcells (g := g) (by rw [hv]; rfl) k (.string (ba (l[k]'hk))) (by rw [List.getElem?_map, List.getElem?_eq_getElem hk]; rfl)
  rw [Go.WideShapes.add_plain] at this
  rw [Nat.zero_add] at this
  exact this
def Mid (W0 W2 W : World) (v : Value) : Prop := W2.heap.size ≤ W.heap.size ∧ (∀ b, W0.heap.size ≤ b → b < W2.heap.size → W.heap[b]? = W2.heap[b]?) ∧ ∀ g, v.ownBlock = some g → g < W0.heap.size ∨ W2.heap.size ≤ g
theorem Mid.grow {W0 W2 W W' : World} {v v' : Value} {o : Obj} (h : Mid W0 W2 W v) (hg : (W.alloc o).grownBy W' v.ownBlock) (hl : v'.ownBlock = v.ownBlock ∨ v'.ownBlock = some (W.heap.size + 1)) : Mid W0 W2 W' v' := by
 obtain ⟨h1, h2, h3⟩ := h
 have hs := hg.size
 rw [World.size_alloc] at hs
 refine ⟨by omega, fun b hb hb2 => ?_, fun g hgg => ?_⟩
 ·refine (hg.block b (by rw [World.size_alloc]; omega) fun e => ?_).trans ((Below.heap_alloc W o b (by omega)).trans (h2 b hb hb2))
  have := h3 b e.symm; omega
 ·rcases hl with e | e
  ·exact h3 g (by rw [← e]; exact hgg)
  ·rw [e] at hgg; injection hgg with hgg; omega
theorem Rnames13_any (N : Nat) : ∀ (ps : List Pt), cntL ps < N → N ≤ 1000000 → ∀ (v : Value) (w : World), PtW w v ps →
  Calls Tryz.prog 43 #[v] w fun e w' => ∃ v', e = .returned v' ∧ w'.ownsRow w.heap.size 9 1 v' (namL ps).length ((namL ps).map encStr) ∧ Below w.heap.size w w' := by
 obtain ⟨i0, hi, hz0, hz1, hz2⟩ := infoS13
 induction N with
 | zero => intro ps hc; omega
 | succ N ih =>
  intro ps hc hN v w h
  have HIH := hid ih
  have HP := hid h
  have hln := cntL_len13 ps
  obtain ⟨A, cap, rfl, hcap, hcm, -⟩ := h
  unfold maxLen at hcm
  have HC := hid hc
  obtain ⟨n, hn⟩ : ∃ n, n = ps.length := ⟨_, rfl⟩
  rw [← hn] at hcap hln HP ⊢
  have HN := hid hn
  have hn1 : n ≤ 1000000 := by omega
  have HN1 := hid hN
  have HO0 := hid (ownS_lit w 9)
  have HZ : Hid (namL (ps.take 0) = []) := hid (by rw [List.take_zero, namL])
  clear ih hc hn hln hN
  go_enter Tryz.func43, Tryz.ntmps43
  go_wp2
  go_loopw [3, 4, 5, 6] (fun out i s5 s6 wr => ∃ j : Nat, j ≤ n ∧ i = .int .i64 (j : Int) ∧ Hid (wr.ownsRow w.heap.size 9 1 out (namL (ps.take j)).length ((namL (ps.take j)).map encStr)) ∧ Hid (Below w.heap.size w wr)) (fun _ i _ _ _ => n - (intOf i).toNat)
  case atStart => exact ⟨0, Nat.zero_le _, rfl, by rw [HZ.out]; exact HO0, hid ((Below.refl _ _).alloc (Nat.le_refl _) _)⟩
  case round =>
   clear HO0 HZ
   obtain ⟨j, hj, rfl, HO, HB⟩ := hrel
   by_cases hlt : j < n
   ·have hjl : Hid (j < ps.length) := hid (by have := HN.out; omega)
    obtain ⟨b, o, e0, e1, e2, e3, rfl, hbl, x0, x1, x2, x3, hsub⟩ := PtL.at_ HP.out j hjl.out
    have y0 := (HB.out.cell (p := ⟨b, o + j * 4, none⟩) hbl).trans x0
    have y2 := (HB.out.cell (p := ⟨b, o + j * 4 + 2, none⟩) hbl).trans x2
    have y3 := (HB.out.cell (p := ⟨b, o + j * 4 + 3, none⟩) hbl).trans x3
    have X3 := hid x3
    have HBL := hid hbl
    clear x0 x1 x2 x3
    have hstep := namL_take hjl.out
    have hcs := @cnt_sub ps j hjl.out
    obtain ⟨p, hp⟩ : ∃ p, ps[j]'hjl.out = p := ⟨_, rfl⟩
    rw [hp] at hsub hstep
    obtain ⟨nm, tx, op, sb⟩ := p
    have hcs2 := hcs hp
    obtain ⟨rfl, rfl, rfl, hsb⟩ := hsub.sub
    have hjz : (j : Int) < (n : Int) := by omega
    have hjc : (j : Int) < (cap : Int) := by omega
    have hall := namL_cnt ps
    have hpre : (namL (ps.take (j + 1))).length ≤ (namL ps).length := by
     conv => rhs; rw [← List.take_append_drop (j + 1) ps]
     generalize ps.take (j + 1) = a
     generalize ps.drop (j + 1) = c
     induction a with
     | nil => rw [namL]; exact Nat.zero_le _
     | cons x a ih => rw [List.cons_append, namL, namL, List.length_append, List.length_append]; omega
    have hbig : (namL (ps.take (j + 1))).length ≤ 1000000 := by have := HC.out; have := HN1.out; omega
    rw [namP] at hstep
    have HSB : Hid (∀ W, Below w.heap.size w W → PtW W e3 sb) := hid (fun W hW => PtW.below hsb hW)
    have HD := hid (fun W hW => HIH.out sb (by have := HC.out; omega) (by have := HN1.out; omega) e3 W (HSB.out W hW))
    obtain ⟨L, hL⟩ : ∃ L, namL sb = L := ⟨_, rfl⟩
    obtain ⟨M, hM⟩ : ∃ M, namL (ps.take j) = M := ⟨_, rfl⟩
    rw [hL] at HD hstep
    rw [hM] at hstep HO
    clear hsub hp hcs hcs2 hsb hL hM hall hpre
    obtain ⟨w0, hw0⟩ : ∃ w0, w0 = wr := ⟨_, rfl⟩
    subst hw0
    by_cases ho : op = 0
    ·rw [if_neg (fun e => e ho), List.nil_append] at hstep
     have hlen : M.length + L.length ≤ 1000000 := by rw [hstep, List.length_append] at hbig; exact hbig
     have HST := hid hstep
     have hne : (op != 0) = false := by rw [ho]; rfl
     clear hstep ho hbig
     go_wp2_with (go_at_call 43; refine (HD.out _ HB.out).mono ?_; rintro e W2 ⟨v2, rfl, ho2, hb2⟩; have HR2 := hid ho2; have HB2 := hid hb2; clear ho2 hb2)
     obtain ⟨m, hm⟩ : ∃ m, m = L.length := ⟨_, rfl⟩
     rw [← hm] at HR2 hlen
     obtain ⟨a2, c2, rfl, hL2, k1, k2, hk3⟩ := read13 HR2.out
     have HM := hid hm
     unfold maxLen at k2
     have HK3 := hid hk3
     have HW2 : Hid (Below w.heap.size w W2) := hid (HB.out.trans (HB2.out.mono HB.out.size))
     have HO2 := hid (owns_keep13 HO.out fun g hg => HB2.out.block g (HO.out.lt g hg).2)
     have HMID := hid (show Mid w0 W2 W2 _ from ⟨Nat.le_refl _, fun _ _ _ => rfl, fun g hg => .inl (HO.out.lt g hg).2⟩)
     obtain ⟨W0, hW0⟩ : ∃ W0, W0 = w0 := ⟨_, rfl⟩
     rw [← hW0] at HMID HK3
     clear hm hk3 HR2 HB2 hW0 hL2
     go_wp2
     go_loopw [3, 6] (fun out i wz => ∃ k : Nat, k ≤ m ∧ i = .int .i64 (k : Int) ∧ Hid (wz.ownsRow w.heap.size 9 1 out (M ++ L.take k).length ((M ++ L.take k).map encStr)) ∧ Hid (Mid W0 W2 wz out) ∧ Hid (Below w.heap.size w wz)) (fun _ i _ => m - (intOf i).toNat)
     case atStart => exact ⟨0, Nat.zero_le _, rfl, by rw [List.take_zero, List.append_nil]; exact HO2, HMID, HW2⟩
     case round =>
      clear HO2 HMID HW2
      obtain ⟨k, hk, rfl, HOz, HMz, HBz⟩ := hrel
      by_cases hkm : k < m
      ·have hkl : Hid (k < L.length) := hid (by have := HM.out; omega)
       rcases HK3.out with e | ⟨g, rfl, hg0, hg1, hgc⟩
       ·omega
       have hc := (World.cell?_of_block (HMz.out.2.1 g hg0 hg1)).trans (hgc k hkl.out)
       clear hgc
       have hkz : (k : Int) < (m : Int) := by omega
       have hkc : (k : Int) < (c2 : Int) := by omega
       have hlk : (M ++ L.take k).length ≤ 1000000 := by rw [List.length_append, List.length_take]; omega
       have HT := hid (show M ++ L.take (k + 1) = (M ++ L.take k) ++ [L[k]'hkl.out] by rw [List.take_succ_eq_append_getElem hkl.out, List.append_assoc])
       obtain ⟨y, hy⟩ : ∃ y, L[k]'hkl.out = y := ⟨_, rfl⟩
       rw [hy] at hc HT
       obtain ⟨X, hX⟩ : ∃ X, ba y = X := ⟨_, rfl⟩
       rw [hX] at hc
       have HX := hid hX
       obtain ⟨Z, hZ⟩ : ∃ Z, M ++ L.take k = Z := ⟨_, rfl⟩
       rw [hZ] at HT HOz hlk
       have hown := HOz.out
       clear hy hX hZ
       obtain ⟨zl, hzl⟩ : ∃ zl, Z.length = zl := ⟨_, rfl⟩
       obtain ⟨ZS, hZS⟩ : ∃ ZS, Z.map encStr = ZS := ⟨_, rfl⟩
       rw [hzl, hZS] at hown
       rw [hzl] at hlk
       have HZ2 := hid (And.intro hzl hZS)
       clear hzl hZS
       go_wp2_with (at_builtin; refine wpList_append_own_at _ rfl _ _ 22 rfl w.heap.size 9 i0 _ 1 16 Tryz.underlying22 hi hz0 hz1 hz2 rfl (by decide) _ _ _ rfl (hown.alloc _) ⟨wr.heap.size, 0, none⟩ 1 1 [.string X] rfl rfl ?c1 ?c2 ?c3 ?c4 ?c5 ?_)
       case c1 =>
        intro i u hi
        match i, hi with
        | 0, hi => simp at hi; subst hi; simp [Addr.add]
       case c2 => intro u hu; simp at hu; subst hu; rfl
       case c3 => unfold maxLen; omega
       case c4 => omega
       case c5 => have := HBz.out.size; simp; omega
       ·intro v' w3 hown' hgrow _ hloc
        have HW3 := hid hown'
        have HG3 := hid hgrow
        have HL3 := hid hloc
        clear hown' hgrow hown hloc
        go_wp2
        go_roundw
        case rel =>
         refine ⟨k + 1, by omega, by go_num, ?_, hid (HMz.out.grow HG3.out HL3.out), hid ((HBz.out.alloc HBz.out.size _).grown HG3.out (by have := HBz.out.size; simp; omega) fun q hq => (HOz.out.lt q hq).1)⟩
         rw [HT.out, List.length_append, map_snoc13, HX.out, HZ2.out.1, HZ2.out.2]
         exact HW3
        case measure => simp [intOf]; omega
      ·obtain rfl : k = m := by omega
       have HT := hid (show M ++ L.take k = M ++ L by rw [show k = L.length from HM.out, List.take_length])
       go_wp2
       go_roundw
       case rel => exact ⟨j + 1, by omega, by go_num, by rw [HST.out, ← HT.out]; exact HOz, HBz⟩
       case measure => simp [intOf]; omega
    ·rw [if_pos ho] at hstep
     have hlen0 : (M ++ [nm]).length + L.length ≤ 1000000 := by rw [hstep] at hbig; simp only [List.length_append] at hbig ⊢; omega
     have HST : Hid (namL (ps.take (j + 1)) = M ++ [nm] ++ L) := hid (by rw [hstep, List.append_assoc])
     have hne : (op != 0) = true := bne_iff_ne.2 ho
     clear hstep ho hbig
     have hM1 : M.length ≤ 1000000 := by rw [List.length_append] at hlen0; omega
     obtain ⟨X, hX⟩ : ∃ X, ba nm = X := ⟨_, rfl⟩
     rw [hX] at y0
     have HX := hid hX
     have HL0 := hid hlen0
     have hown := HO.out
     clear hX hlen0
     obtain ⟨ml, hml⟩ : ∃ ml, M.length = ml := ⟨_, rfl⟩
     obtain ⟨MS, hMS⟩ : ∃ MS, M.map encStr = MS := ⟨_, rfl⟩
     rw [hml, hMS] at hown
     rw [hml] at hM1
     have HM2 := hid (And.intro hml hMS)
     clear hml hMS
     go_upto_region 7 with (at_builtin; refine wpList_append_own_at _ rfl _ _ 22 rfl w.heap.size 9 i0 _ 1 16 Tryz.underlying22 hi hz0 hz1 hz2 rfl (by decide) _ _ _ rfl (hown.alloc _) ⟨w0.heap.size, 0, none⟩ 1 1 [.string X] rfl rfl ?c1 ?c2 ?c3 ?c4 ?c5 ?_)
     case c1 =>
      intro i u hi
      match i, hi with
      | 0, hi => simp at hi; subst hi; simp [Addr.add]
     case c2 => intro u hu; simp at hu; subst hu; rfl
     case c3 => unfold maxLen; omega
     case c4 => omega
     case c5 => have := HB.out.size; simp; omega
     ·intro v1 w1 hown1 hgrow1 _ hloc1
      have HO1 : Hid (w1.ownsRow w.heap.size 9 1 v1 (M ++ [nm]).length ((M ++ [nm]).map encStr)) := hid (by
       rw [List.length_append, map_snoc13, HX.out, HM2.out.1, HM2.out.2]; exact hown1)
      have HB1 : Hid (Below w.heap.size w w1) := hid ((HB.out.alloc HB.out.size _).grown hgrow1 (by have := HB.out.size; simp; omega) fun q hq => (HO.out.lt q hq).1)
      have z3 := (HB1.out.cell (p := ⟨b, o + j * 4 + 3, none⟩) HBL.out).trans X3.out
      have hlen := HL0.out
      clear hown1 hgrow1 hloc1 hown y0 y2 y3
      obtain ⟨M1, hM1e⟩ : ∃ M1, M ++ [nm] = M1 := ⟨_, rfl⟩
      rw [hM1e] at HO1 HST hlen
      clear hM1e HM2
      go_wp2_with (go_at_call 43; refine (HD.out _ HB1.out).mono ?_; rintro e W2 ⟨v2, rfl, ho2, hb2⟩; have HR2 := hid ho2; have HB2 := hid hb2; clear ho2 hb2)
      obtain ⟨m, hm⟩ : ∃ m, m = L.length := ⟨_, rfl⟩
      rw [← hm] at HR2 hlen
      obtain ⟨a2, c2, rfl, hL2, k1, k2, hk3⟩ := read13 HR2.out
      have HM := hid hm
      unfold maxLen at k2
      have HK3 := hid hk3
      have HW2 : Hid (Below w.heap.size w W2) := hid (HB1.out.trans (HB2.out.mono HB1.out.size))
      have HO2 := hid (owns_keep13 HO1.out fun g hg => HB2.out.block g (HO1.out.lt g hg).2)
      have HMID := hid (show Mid w1 W2 W2 _ from ⟨Nat.le_refl _, fun _ _ _ => rfl, fun g hg => .inl (HO1.out.lt g hg).2⟩)
      obtain ⟨W0, hW0⟩ : ∃ W0, W0 = w1 := ⟨_, rfl⟩
      rw [← hW0] at HMID HK3
      clear hm hk3 HR2 HB2 hW0 hL2
      go_wp2
      go_loopw [3, 6] (fun out i wz => ∃ k : Nat, k ≤ m ∧ i = .int .i64 (k : Int) ∧ Hid (wz.ownsRow w.heap.size 9 1 out (M1 ++ L.take k).length ((M1 ++ L.take k).map encStr)) ∧ Hid (Mid W0 W2 wz out) ∧ Hid (Below w.heap.size w wz)) (fun _ i _ => m - (intOf i).toNat)
      case atStart => exact ⟨0, Nat.zero_le _, rfl, by rw [List.take_zero, List.append_nil]; exact HO2, HMID, HW2⟩
      case round =>
       clear HO2 HMID HW2
       obtain ⟨k, hk, rfl, HOz, HMz, HBz⟩ := hrel
       by_cases hkm : k < m
       ·have hkl : Hid (k < L.length) := hid (by have := HM.out; omega)
        rcases HK3.out with e | ⟨g, rfl, hg0, hg1, hgc⟩
        ·omega
        have hc := (World.cell?_of_block (HMz.out.2.1 g hg0 hg1)).trans (hgc k hkl.out)
        clear hgc
        have hkz : (k : Int) < (m : Int) := by omega
        have hkc : (k : Int) < (c2 : Int) := by omega
        have hlk : (M1 ++ L.take k).length ≤ 1000000 := by rw [List.length_append, List.length_take]; omega
        have HT := hid (show M1 ++ L.take (k + 1) = (M1 ++ L.take k) ++ [L[k]'hkl.out] by rw [List.take_succ_eq_append_getElem hkl.out, List.append_assoc])
        obtain ⟨y, hy⟩ : ∃ y, L[k]'hkl.out = y := ⟨_, rfl⟩
        rw [hy] at hc HT
        obtain ⟨X, hX⟩ : ∃ X, ba y = X := ⟨_, rfl⟩
        rw [hX] at hc
        have HX := hid hX
        obtain ⟨Z, hZ⟩ : ∃ Z, M1 ++ L.take k = Z := ⟨_, rfl⟩
        rw [hZ] at HT HOz hlk
        have hown := HOz.out
        clear hy hX hZ
        obtain ⟨zl, hzl⟩ : ∃ zl, Z.length = zl := ⟨_, rfl⟩
        obtain ⟨ZS, hZS⟩ : ∃ ZS, Z.map encStr = ZS := ⟨_, rfl⟩
        rw [hzl, hZS] at hown
        rw [hzl] at hlk
        have HZ2 := hid (And.intro hzl hZS)
        clear hzl hZS
        go_wp2_with (at_builtin; refine wpList_append_own_at _ rfl _ _ 22 rfl w.heap.size 9 i0 _ 1 16 Tryz.underlying22 hi hz0 hz1 hz2 rfl (by decide) _ _ _ rfl (hown.alloc _) ⟨wr.heap.size, 0, none⟩ 1 1 [.string X] rfl rfl ?c1 ?c2 ?c3 ?c4 ?c5 ?_)
        case c1 =>
         intro i u hi
         match i, hi with
         | 0, hi => simp at hi; subst hi; simp [Addr.add]
        case c2 => intro u hu; simp at hu; subst hu; rfl
        case c3 => unfold maxLen; omega
        case c4 => omega
        case c5 => have := HBz.out.size; simp; omega
        ·intro v' w3 hown' hgrow _ hloc
         have HW3 := hid hown'
         have HG3 := hid hgrow
         have HL3 := hid hloc
         clear hown' hgrow hown hloc
         go_wp2
         go_roundw
         case rel =>
          refine ⟨k + 1, by omega, by go_num, ?_, hid (HMz.out.grow HG3.out HL3.out), hid ((HBz.out.alloc HBz.out.size _).grown HG3.out (by have := HBz.out.size; simp; omega) fun q hq => (HOz.out.lt q hq).1)⟩
          rw [HT.out, List.length_append, map_snoc13, HX.out, HZ2.out.1, HZ2.out.2]
          exact HW3
         case measure => simp [intOf]; omega
       ·obtain rfl : k = m := by omega
        have HT := hid (show M1 ++ L.take k = M1 ++ L by rw [show k = L.length from HM.out, List.take_length])
        go_wp2
        go_roundw
        case rel => exact ⟨j + 1, by omega, by go_num, by rw [HST.out, ← HT.out]; exact HOz, HBz⟩
        case measure => simp [intOf]; omega
   ·obtain rfl : j = n := by omega
    have HT : Hid (namL (ps.take j) = namL ps) := hid (by rw [show j = ps.length from HN.out, List.take_length])
    go_wp2
    go_ret
    rw [HT.out] at HO
    exact ⟨_, rfl, HO.out, HB.out⟩
end
end Go.Proofs.YtkcilmmaggmmoaaGreatDoor
