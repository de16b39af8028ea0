/- TmpNam, TmpTel -/
import Derived.Deep.RegionHeld3
import Derived.Shelf.Lay
import Derived.Shelf.Strings.Replace
import Derived.Test.YtkcilmmaggmmoaaGreatDoorNT12
import Derived.Test.YtkcilmmaggmmoaaGreatDoorNT16
import Derived.Test.YtkcilmmaggmmoaaGreatDoorNT21
import Derived.Test.YtkcilmmaggmmoaaGreatDoorNT22
import Derived.Test.YtkcilmmaggmmoaaGreatDoorNT34
import Derived.Test.YtkcilmmaggmmoaaGreatDoorNT36
import Derived.Test.YtkcilmmaggmmoaaGreatDoorNT38
import Derived.Test.YtkcilmmaggmmoaaGreatDoorProg
set_option linter.unusedVariables false
set_option linter.unusedSimpArgs false
set_option maxRecDepth 100000
set_option maxHeartbeats 16000000
open Go.Lib (hid)
namespace Go.Proofs.YtkcilmmaggmmoaaGreatDoor
namespace Nw
end Nw
namespace T13
end T13
end Go.Proofs.YtkcilmmaggmmoaaGreatDoor
namespace Go.Proofs.YtkcilmmaggmmoaaGreatDoor
section
open Go.RowKit Go.Sort
open Nw T13 Go.ChangeShapes Go.WideShapes
def Grw (t : TypeId) (w w' : World) (base : Nat) (v v' : Value) (n : Nat) (xs : List Value) : Prop :=
 w'.ownsRow base t 1 v' n xs ∧ w.grownBy w' v.ownBlock ∧ (v'.ownBlock = v.ownBlock ∨ ∀ g, v'.ownBlock = some g → w.heap.size ≤ g)
section
variable {t : TypeId} {w w1 w2 : World} {base n m : Nat} {v v1 v2 : Value} {xs ys : List Value}
theorem Grw.refl (h : w.ownsRow base t 1 v n xs) : Grw t w w base v v n xs := ⟨h, World.grownBy.refl _ _, .inl rfl⟩
theorem Grw.below (h : Grw t w w1 base v v1 n xs) (hb : Below w1.heap.size w1 w2) : Grw t w w2 base v v1 n xs := ⟨owns_below h.1 hb, gro_below h.2.1 hb, h.2.2⟩
theorem Grw.alloc (h : Grw t w w1 base v v1 n xs) (o : Obj) : Grw t w (w1.alloc o) base v v1 n xs := h.below ((Below.refl _ _).alloc (Nat.le_refl _) o)
theorem Grw.trans (h : Grw t w w1 base v v1 n xs) (k : Grw t w1 w2 base v1 v2 m ys) : Grw t w w2 base v v2 m ys := by
 refine ⟨k.1, gro_trans h.2.1 k.2.1 (fun g hg => ?_), ?_⟩
 ·rcases h.2.2 with e | e
  ·left; rw [← e]; exact hg
  ·right; exact e g hg
 ·rcases k.2.2 with e | e
  ·rcases h.2.2 with e2 | e2
   ·left; exact e.trans e2
   ·right; intro g hg; exact e2 g (by rw [← e]; exact hg)
  ·right; intro g hg; exact Nat.le_trans h.2.1.size (e g hg)
theorem Grw.lies {g cap : Nat} (ho : w2.ownsRow base t 1 (.slice (some ⟨g, 0, none⟩) m cap) m ys) (hg : w1.grownBy w2 v1.ownBlock) (hat : v1.ownBlock = some g ∨ w1.heap.size ≤ g) : Grw t w1 w2 base v1 (.slice (some ⟨g, 0, none⟩) m cap) m ys := by
 refine ⟨ho, hg, ?_⟩
 rcases hat with e | e
 ·left; exact e.symm
 ·right
  intro k hk
  injection hk with hk
  have hk : g = k := hk
  omega
theorem Grw.size (h : Grw t w w1 base v v1 n xs) : w.heap.size ≤ w1.heap.size := h.2.1.size
theorem Grw.cell (h : Grw t w w1 base v v1 n xs) (hv : ∀ g, v.ownBlock = some g → base ≤ g) {p : Addr} {x : Value} (hc : w.cell? p = some x) (hp : p.block < base) : w1.cell? p = some x :=
 cell_grown hc h.2.1 fun e => by have := hv _ e; omega
theorem Grw.pts (h : Grw t w w1 base v v1 n xs) (hv : ∀ g, v.ownBlock = some g → base ≤ g) (hs : base ≤ w.heap.size) {u : Value} {ps : List Pt} (hp : PtL (· < base) w u ps) : PtL (· < base) w1 u ps :=
 hp.keep fun b hb => ⟨hb, h.2.1.block b (by have : b < base := hb; omega) fun e => by have := hv b e.symm; have : b < base := hb; omega⟩
theorem own_ne {H : Nat} (h : w.ownsRow base t 1 v n xs) (hH : w.heap.size ≤ H) : v.ownBlock ≠ some H := fun e => by have := (h.lt H e).2; omega
end
def PWt (t : TypeId) (W1 : World) (base : Nat) (v : Value) (n : Nat) (xs : List Value) (W : World) : Prop := Below W1.heap.size W1 W ∧ base ≤ W.heap.size ∧ W.ownsRow base t 1 v n xs
section
variable {t : TypeId} {W1 W W' : World} {base n g cap : Nat} {v : Value} {xs ys : List Value}
theorem PWt.alloc (h : PWt t W1 base v n xs W) (o : Obj) : PWt t W1 base v n xs (W.alloc o) := ⟨h.1.alloc h.1.size o, by simp; have := h.2.1; omega, h.2.2.alloc o⟩
theorem PWt.grw {m : Nat} (h : PWt t W1 base v n xs W) (ho : W'.ownsRow base t 1 (.slice (some ⟨g, 0, none⟩) m cap) m ys) (hg : W.grownBy W' v.ownBlock) (hat : v.ownBlock = some g ∨ W.heap.size ≤ g) :
  Grw t W1 W' base v (.slice (some ⟨g, 0, none⟩) m cap) m ys :=
 Grw.lies ho (gro_trans (r1 := v.ownBlock) ⟨h.1.os, h.1.tape, h.1.output, h.1.size, fun k hk _ => h.1.block k hk⟩ hg (fun k hk => .inl hk)) (hat.imp id fun e => Nat.le_trans h.1.size e)
end
theorem below_drew13 (w : World) : Below w.heap.size w w.drew := ⟨rfl, rfl, rfl, Nat.le_refl _, fun _ _ => rfl⟩
theorem wf_lit_sub {D : Nat} {n t : L8} {s : List Pt} (h : WfP D (.mk n t 0 s)) : s = [] := by
 rw [WfP] at h
 rcases h with h | h | h
 ·exact h.2.2.2.1
 ·exact absurd h.1 (by decide)
 ·exact absurd h.1 (by decide)
theorem wf_sub {D : Nat} {n t : L8} {o : Int} {s : List Pt} (h : WfP D (.mk n t o s)) : ∃ E, WfL E s := by
 rw [WfP] at h
 rcases h with h | h | h
 ·exact ⟨0, by rw [h.2.2.2.1, WfL]; trivial⟩
 ·exact ⟨0, by rw [h.2.2.2.1, WfL]; trivial⟩
 ·exact ⟨D + 1, h.2.2.2.2.2.1⟩
theorem wfL_at {D : Nat} : ∀ {ps : List Pt}, WfL D ps → ∀ (j : Nat) (h : j < ps.length), WfP D (ps[j]'h)
 | p :: ps, hw, 0, _ => by rw [WfL] at hw; exact hw.1
 | p :: ps, hw, j + 1, h => by rw [WfL] at hw; exact wfL_at hw.2 j (Nat.lt_of_succ_lt_succ h)
theorem namL_le_take (ps : List Pt) (j : Nat) : (namL (ps.take j)).length ≤ (namL ps).length := by
 conv => rhs; rw [← List.take_append_drop j ps]
 generalize ps.take j = a
 generalize ps.drop j = c
 induction a with
 | nil => rw [namL]; exact Nat.zero_le _
 | cons x a ih => rw [List.cons_append, namL, namL, List.length_append, List.length_append]; omega
theorem appendNames_any (N : Nat) : ∀ (ps : List Pt), cntL ps < N → ∀ (D : Nat), WfL D ps → ∀ (ks : List L8) (m base : Nat) (v u : Value) (w : World), w.ownsRow base 9 1 v m (ks.map encStr) → base ≤ w.heap.size → PtL (· < base) w u ps → m + (namL ps).length ≤ 1000000 →
  Calls Tryz.prog 39 #[v, u] w fun e w' => ∃ v', e = .returned v' ∧ Grw 9 w w' base v v' (m + (namL ps).length) ((ks ++ namL ps).map encStr) := by
 obtain ⟨i0, hi, hz0, hz1, hz2⟩ := infoS13
 induction N with
 | zero => intro ps hc; omega
 | succ N ih =>
  intro ps hc D hw ks m base v u w hown hbase hpt hbig
  have HIH := hid ih
  have HP := hid hpt
  have HW := hid hw
  have HOW := hid hown
  have HV : Hid (∀ g, v.ownBlock = some g → base ≤ g) := hid fun g hg => (hown.lt g hg).1
  have HBS := hid hbase
  have HBIG := hid hbig
  have hln := cntL_len13 ps
  obtain ⟨A, cap, rfl, hcap, hcm, -⟩ := hpt
  unfold maxLen at hcm
  have HC := hid hc
  obtain ⟨n, hn⟩ : ∃ n, n = ps.length := ⟨_, rfl⟩
  rw [← hn] at hcap HP ⊢
  have HN := hid hn
  have HZ : Hid (ks = ks ++ namL (ps.take 0)) := hid (by rw [List.take_zero, namL, List.append_nil])
  have HG0 : Hid (Grw 9 w w base v v m (ks.map encStr)) := hid (Grw.refl hown)
  have HKL : Hid (ks.length = m) := hid (by have := hown.1; rw [List.length_map] at this; omega)
  obtain ⟨RL, hRL⟩ : ∃ RL, m + (namL ps).length = RL := ⟨_, rfl⟩
  obtain ⟨RN, hRN⟩ : ∃ RN, ks ++ namL ps = RN := ⟨_, rfl⟩
  rw [hRL, hRN]
  have HRL := hid hRL
  have HRN := hid hRN
  have hm0 : m ≤ 1000000 := by omega
  clear ih hc hn hln hw hown hbase hbig hRL hRN
  go_enter Tryz.func39, Tryz.ntmps39
  go_wp2
  go_loopw [0, 9] (fun s0 i wr => ∃ (j M : Nat) (L : List L8), j ≤ n ∧ i = .int .i64 (j : Int) ∧ M ≤ 1000000 ∧ Hid (L = ks ++ namL (ps.take j)) ∧ Hid (Grw 9 w wr base v s0 M (L.map encStr))) (fun _ i _ => n - (intOf i).toNat)
  case atStart => exact ⟨0, m, ks, Nat.zero_le _, rfl, hm0, HZ, HG0⟩
  case round =>
   clear HZ HG0
   obtain ⟨j, M, L, hj, rfl, hM, HL, HG⟩ := hrel
   by_cases hlt : j < n
   ·have hjl : Hid (j < ps.length) := hid (by have := HN.out; omega)
    obtain ⟨b, o, e0, e1, e2, e3, rfl, hbl, x0, x1, x2, x3, hsub⟩ := PtL.at_ HP.out j hjl.out
    have y0 := HG.out.cell HV.out (p := ⟨b, o + j * 4, none⟩) x0 hbl
    have y1 := HG.out.cell HV.out (p := ⟨b, o + j * 4 + 1, none⟩) x1 hbl
    have y2 := HG.out.cell HV.out (p := ⟨b, o + j * 4 + 2, none⟩) x2 hbl
    have y3 := HG.out.cell HV.out (p := ⟨b, o + j * 4 + 3, none⟩) x3 hbl
    clear x0 x1 x2 x3
    have hstep : namL (ps.take (j + 1)) = namL (ps.take j) ++ namP (ps[j]'hjl.out) := namL_take hjl.out
    have hcs := @cnt_sub ps j hjl.out
    have hwp := wfL_at HW.out j hjl.out
    have hle := namL_le_take ps (j + 1)
    obtain ⟨p, hp⟩ : ∃ p, ps[j]'hjl.out = p := ⟨_, rfl⟩
    rw [hp] at hsub hstep hwp
    obtain ⟨nm, tx, op, sb⟩ := p
    have hcs2 := hcs hp
    obtain ⟨rfl, rfl, rfl, hsb⟩ := hsub.sub
    obtain ⟨B, n2, c2, rfl⟩ := hsb.slice
    have hjz : (j : Int) < (n : Int) := by omega
    have hjc : (j : Int) < (cap : Int) := by omega
    rw [namP] at hstep
    have HNM := hid (encStr_ba nm)
    obtain ⟨Nm, hNm⟩ : ∃ Nm, ba nm = Nm := ⟨_, rfl⟩
    rw [hNm] at HNM y0
    generalize ba tx = Tx at y1
    have hML : L.length = M := by have := HG.out.1.1; rw [List.length_map] at this; omega
    by_cases ho : op = 0
    ·subst ho
     obtain rfl := wf_lit_sub hwp
     rw [if_neg (by simp), namL] at hstep
     have hL2 : Hid (L = ks ++ namL (ps.take (j + 1))) := hid (by rw [hstep, List.append_nil, List.append_nil]; exact HL.out)
     have hne : ((0 : Int) != 0) = false := rfl
     have HG2 := hid (HG.out.alloc (.cells #[.string Nm, .string Tx, .int .i64 0, .slice B n2 c2] 73))
     obtain ⟨z0, z1, z2, z3⟩ := (RowT.make wr 73 (.string Nm) (.string Tx) (.int .i64 0) (.slice B n2 c2)).cells
     clear hsub hp hcs hcs2 hsb hstep hwp hNm hle hML
     go_wp2
     go_roundw
     case rel => exact ⟨j + 1, M, L, by omega, by go_num, hM, hL2, HG2⟩
     case measure => simp [intOf]; omega
    ·have hne : (op != 0) = true := bne_iff_ne.2 ho
     obtain ⟨E, hE⟩ := wf_sub hwp
     rw [if_pos (show op ≠ 0 from ho)] at hstep
     have hlen : L.length = m + (namL (ps.take j)).length := by rw [HL.out, List.length_append, HKL.out]
     have hlen2 : M + 1 + (namL sb).length ≤ 1000000 := by
      have := HBIG.out
      rw [hstep, List.length_append, List.length_append, List.length_singleton] at hle
      omega
     have hL2 : Hid ((L ++ [nm]) ++ namL sb = ks ++ namL (ps.take (j + 1))) := hid (by rw [hstep, HL.out]; simp)
     obtain ⟨W1, hW1⟩ : ∃ W1, wr.alloc (.cells #[.string Nm, .string Tx, .int .i64 op, .slice B n2 c2] 73) = W1 := ⟨_, rfl⟩
     have hX : RowT W1 wr.heap.size 73 (.string Nm) (.string Tx) (.int .i64 op) (.slice B n2 c2) := by rw [← hW1]; exact RowT.make wr _ _ _ _ _
     obtain ⟨XS, hXS⟩ : ∃ XS, L.map encStr = XS := ⟨_, rfl⟩
     rw [hXS] at HG
     have HXS := hid hXS
     have HG1 : Hid (Grw 9 w W1 base v u0 M XS) := hid (by rw [← hW1]; exact HG.out.alloc _)
     have hP : PWt 9 W1 base u0 M XS W1.drew := ⟨below_drew13 W1, Nat.le_trans HBS.out (by have := HG1.out.size; exact this), HG1.out.1⟩
     have hnv : u0.ownBlock ≠ some wr.heap.size := own_ne HG.out.1 (Nat.le_refl _)
     have hb1 : base ≤ W1.heap.size := Nat.le_trans HBS.out HG1.out.size
     have HREC : Hid (∀ (W : World) (gA cA : Nat), Grw 9 W1 W base u0 (.slice (some ⟨gA, 0, none⟩) (M + 1) cA) (M + 1) (XS ++ [.string Nm]) → Calls Tryz.prog 39 #[.slice (some ⟨gA, 0, none⟩) (M + 1) cA, .slice B n2 c2] W fun e w' => ∃ v', e = .returned v' ∧ Grw 9 W w' base (.slice (some ⟨gA, 0, none⟩) (M + 1) cA) v' (M + 1 + (namL sb).length) (((L ++ [nm]) ++ namL sb).map encStr)) := hid (fun W gA cA hW =>
      HIH.out sb (by have := HC.out; omega) E hE (L ++ [nm]) (M + 1) base _ _ W (by
       have := hW.1
       rw [← hXS, ← hNm] at this
       rw [map_snoc13]; exact this) (Nat.le_trans hb1 hW.size) ((HG1.out.trans hW).pts HV.out HBS.out hsb) (by omega))
     have hHlt : wr.heap.size < W1.heap.size := hX.lt
     have HNA : Hid (∀ gA, u0.ownBlock = some gA ∨ W1.heap.size ≤ gA → (some gA : Option Nat) ≠ some wr.heap.size) := hid (fun gA h e => by injection e with e; rcases h with h | h; exact hnv (by rw [h, e]); omega)
     have hC4 : Cells4 wr.heap.size (.string Nm) (.string Tx) (.int .i64 op) (.slice B n2 c2) W1.drew := ⟨hX.lt, hX.cells⟩
     obtain ⟨z0, z1, z2, z3⟩ := hX.cells
     obtain ⟨RM, hRM⟩ : ∃ RM, M + 1 + (namL sb).length = RM := ⟨_, rfl⟩
     obtain ⟨RK, hRK⟩ : ∃ RK, (L ++ [nm]) ++ namL sb = RK := ⟨_, rfl⟩
     rw [hRM] at HREC hlen2
     rw [hRK] at HREC hL2
     have HLEN2 := hid hlen2
     clear hsub hp hcs hcs2 hsb hstep hwp hNm hle hML hE hlen hX hXS ho hlen2 hRM hRK HG
     go_upto_region 5 with fail
     clear hW1
     go_region_held3 (fun W => wr.heap.size < W.heap.size ∧ W.cell? ⟨wr.heap.size, 0, none⟩ = some (.string Nm) ∧ W.cell? ⟨wr.heap.size, 1, none⟩ = some (.string Tx) ∧ W.cell? ⟨wr.heap.size, 2, none⟩ = some (.int .i64 op) ∧ W.cell? ⟨wr.heap.size, 3, none⟩ = some (.slice B n2 c2)) (first | exact hC4 | assumption | exact keep4_alloc (by assumption) | exact keep4_grown hgA hnv (by assumption) | exact keep4_grown hgB hnA (by assumption)) (first | (refine step_append_lies _ rfl (.tmp 16) (.tmp 19) 22 rfl base 9 i0 _ 1 16 Tryz.underlying22 hi hz0 hz1 hz2 rfl (by decide) u0 M XS rfl (hP.alloc _).2.2 _ 1 1 [.string Nm] rfl rfl (news_blk #[.string Nm] (alloc_at _ _)) (one_str Nm) (by omega) (by unfold maxLen; omega) (by omega) (hP.alloc _).2.1 _ rfl ?_; intro gA cA wA hoA hgA hatA hltA; have hKA := (hP.alloc _).grw hoA hgA (hatA.imp id fun e => Nat.le_of_eq e.symm); have hnA := HNA.out gA (hatA.imp id fun e => Nat.le_trans (hP.alloc _).1.size (Nat.le_of_eq e.symm))) | (go_at_call 39; refine (HREC.out _ _ _ hKA).mono ?_; rintro e wB ⟨vB, rfl, hKB⟩; have hgB := hKB.2.1; have HKB := hid (HG1.out.trans (hKA.trans hKB))))
     all_goals
      have HF := hid HKB.out
      go_wp2
      go_roundw
      case rel => exact ⟨j + 1, RM, RK, by omega, by go_num, HLEN2.out, hL2, HF⟩
      case measure => simp [intOf]; omega
   ·obtain rfl : j = n := by omega
    have HF : Hid (Grw 9 w wr base v u0 RL (RN.map encStr)) := hid (by
     have h1 : L = RN := by rw [HL.out, ← HRN.out, show j = ps.length from HN.out, List.take_length]
     have h2 : M = RL := by
      have h3 := HG.out.1.1
      rw [List.length_map, h1, ← HRN.out, List.length_append, HKL.out] at h3
      have h4 := HRL.out
      omega
     rw [← h1, ← h2]
     exact HG.out)
    go_wp2
    go_ret
    exact ⟨_, rfl, HF.out⟩
end
section
open Go.RowKit Go.Sort
open Nw T13 Go.ChangeShapes Go.WideShapes
theorem Grw.nil_below {t : TypeId} {w w1 : World} {base n : Nat} {v1 : Value} {xs : List Value} (h : Grw t w w1 base (.slice none 0 0) v1 n xs) : Below w.heap.size w w1 :=
 ⟨h.2.1.os, h.2.1.tape, h.2.1.output, h.2.1.size, fun k hk => h.2.1.block k hk fun e => by cases e⟩
theorem PtW.base {w w1 : World} {v : Value} {ps : List Pt} (h : PtW w v ps) (hb : Below w.heap.size w w1) : PtL (· < w.heap.size) w1 v ps := PtL.keep h fun b hlt => ⟨hlt, hb.block b hlt⟩
theorem Names13_any (v : Value) (ps : List Pt) (w : World) (h : PtW w v ps) (hwf : WfL 1 ps) (hc : cntL ps ≤ 100000) :
  Calls Tryz.prog 23 #[v] w fun e w' => ∃ v', e = .returned v' ∧ Rd w' v' (sortL (namL ps)) ∧ Below w.heap.size w w' := by
 have hdp := depL_le ps 1 hwf
 have hnl := namL_len ps
 have HE := hid (hasEnd_any 1000000 ps (by omega) (Nat.le_refl _) 65536 (by omega) (Nat.le_refl _) v w h)
 have HA : Hid (∀ W, Below w.heap.size w W → Calls Tryz.prog 39 #[.slice none 0 0, v] W fun e w' => ∃ v', e = .returned v' ∧ Rd w' v' (namL ps) ∧ Below W.heap.size W w') := hid (fun W hW => by
  have := appendNames_any 1000000 ps (by omega) 1 hwf [] 0 w.heap.size (.slice none 0 0) v W (owns_nil _ _ _) hW.size (h.base hW) (by omega)
  rw [Nat.zero_add, List.nil_append] at this
  refine this.mono ?_
  rintro e w' ⟨v', rfl, hG⟩
  exact ⟨v', rfl, rd_of_owns hG.1, hG.nil_below⟩)
 have HS := hid (fun (W : World) (v' : Value) (hr : Rd W v' (namL ps)) => Sorted_own v' (namL ps) W hr (by omega))
 obtain ⟨L, hL⟩ : ∃ L, sortL (namL ps) = L := ⟨_, rfl⟩
 rw [hL] at HS ⊢
 clear h hwf hc hdp hnl hL
 go_enter Tryz.func23, Tryz.ntmps23
 go_wp2_with first
  | (go_at_call 38; refine HE.out.mono ?_; rintro e W1 ⟨rfl, hb1⟩; have HB1 := hid hb1; clear hb1)
  | (go_at_call 39; refine (HA.out _ HB1.out).mono ?_; rintro e W2 ⟨v2, rfl, hr2, hb2⟩; have HR2 := hid hr2; have HB2 := hid (HB1.out.trans (hb2.mono HB1.out.size)); clear hr2 hb2)
  | (go_at_call 24; refine (HS.out _ _ HR2.out).mono ?_; rintro e W3 ⟨v3, rfl, ho3, hb3⟩; have HR3 := hid (rd_of_owns ho3); have HB3 := hid (HB2.out.trans (hb3.mono HB2.out.size)); clear ho3 hb3)
 go_ret
 exact ⟨_, rfl, HR3.out, HB3.out⟩
end
end Go.Proofs.YtkcilmmaggmmoaaGreatDoor
