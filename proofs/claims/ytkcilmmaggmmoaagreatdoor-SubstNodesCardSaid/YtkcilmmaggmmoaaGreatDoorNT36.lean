/- TmpEnd, SubAll -/
import Derived.Test.YtkcilmmaggmmoaaGreatDoorNT12
import Derived.Test.YtkcilmmaggmmoaaGreatDoorNT23
import Derived.Test.YtkcilmmaggmmoaaGreatDoorNT24
import Derived.Test.YtkcilmmaggmmoaaGreatDoorNT26
import Derived.Test.YtkcilmmaggmmoaaGreatDoorNT33
import Derived.Test.YtkcilmmaggmmoaaGreatDoorNT35
set_option linter.unusedVariables false
set_option linter.unusedSimpArgs false
set_option maxRecDepth 100000
set_option maxHeartbeats 16000000
open Go.Lib (hid)
namespace Go.Proofs.YtkcilmmaggmmoaaGreatDoor
namespace Nw
end Nw
namespace S14
end S14
namespace T13
end T13
namespace V12
end V12
end Go.Proofs.YtkcilmmaggmmoaaGreatDoor
namespace Go.Proofs.YtkcilmmaggmmoaaGreatDoor
section
open Go.RowKit Go.Sort
open Nw T13 Go.ChangeShapes Go.WideShapes
theorem depL_le_take (ps : List Pt) (j : Nat) : depL (ps.take j) ≤ depL ps := by
 conv => rhs; rw [← List.take_append_drop j ps]
 generalize ps.take j = a
 generalize ps.drop j = c
 induction a with
 | nil => rw [depL]; exact Nat.zero_le _
 | cons x a ih => rw [List.cons_append, depL, depL]; omega
theorem depL_mem {ps : List Pt} {j : Nat} (h : j < ps.length) : depP (ps[j]'h) ≤ depL ps := by
 have h1 := depL_le_take ps (j + 1)
 rw [depL_take h] at h1
 omega
theorem PtL.slice {S : Nat → Prop} {w : World} {v : Value} {ps : List Pt} (h : PtL S w v ps) : ∃ (A : Option Addr) (n cap : Nat), v = .slice A n cap := by
 obtain ⟨A, cap, h1, -⟩ := h
 exact ⟨A, _, cap, h1⟩
theorem hasEnd_any (N : Nat) : ∀ (ps : List Pt), cntL ps < N → N ≤ 1000000 → ∀ (k : Nat), depL ps ≤ k → k ≤ 65536 → ∀ (v : Value) (w : World), PtW w v ps →
  Calls Tryz.prog 38 #[v, .int .i64 (k : Int)] w fun e w' => e = .returned (.bool true) ∧ Below w.heap.size w w' := by
 induction N with
 | zero => intro ps hc; omega
 | succ N ih =>
  intro ps hc hN k hk hk2 v w h
  have HIH := hid ih
  have HP := hid h
  have hln := cntL_len13 ps
  obtain ⟨A, cap, rfl, hcap, hcm, -⟩ := h
  unfold maxLen at hcm
  have HC := hid hc
  have HK := hid hk
  obtain ⟨n, hn⟩ : ∃ n, n = ps.length := ⟨_, rfl⟩
  rw [← hn] at hcap hln HP ⊢
  have HN := hid hn
  have hn1 : n ≤ 1000000 := by omega
  have HN1 := hid hN
  clear ih hc hn hln hN hk
  go_enter Tryz.func38, Tryz.ntmps38
  go_wp2
  go_loopw [9] (fun i wr => ∃ j : Nat, j ≤ n ∧ i = .int .i64 (j : Int) ∧ Hid (Below w.heap.size w wr)) (fun i _ => n - (intOf i).toNat)
  case atStart => exact ⟨0, Nat.zero_le _, rfl, hid (Below.refl _ _)⟩
  case round =>
   obtain ⟨j, hj, rfl, HB⟩ := hrel
   by_cases hlt : j < n
   ·have hjl : Hid (j < ps.length) := hid (by have := HN.out; omega)
    obtain ⟨b, o, e0, e1, e2, e3, rfl, hbl, x0, x1, x2, x3, hsub⟩ := PtL.at_ HP.out j hjl.out
    have y0 := (HB.out.cell (p := ⟨b, o + j * 4, none⟩) hbl).trans x0
    have y1 := (HB.out.cell (p := ⟨b, o + j * 4 + 1, none⟩) hbl).trans x1
    have y2 := (HB.out.cell (p := ⟨b, o + j * 4 + 2, none⟩) hbl).trans x2
    have y3 := (HB.out.cell (p := ⟨b, o + j * 4 + 3, none⟩) hbl).trans x3
    clear x0 x1 x2 x3
    have hdm := depL_mem hjl.out
    have hcs := @cnt_sub ps j hjl.out
    obtain ⟨p, hp⟩ : ∃ p, ps[j]'hjl.out = p := ⟨_, rfl⟩
    rw [hp] at hsub hdm
    obtain ⟨nm, tx, op, sb⟩ := p
    have hcs2 := hcs hp
    obtain ⟨rfl, rfl, rfl, hsb⟩ := hsub.sub
    obtain ⟨B, n2, c2, rfl⟩ := hsb.slice
    have hjz : (j : Int) < (n : Int) := by omega
    have hjc : (j : Int) < (cap : Int) := by omega
    rw [depP] at hdm
    generalize ba nm = Nm at y0
    generalize ba tx = Tx at y1
    obtain ⟨z0, z1, z2, z3⟩ := (RowT.make wr 73 (.string Nm) (.string Tx) (.int .i64 op) (.slice B n2 c2)).cells
    have HB2 : Hid (Below w.heap.size w (wr.alloc (.cells #[.string Nm, .string Tx, .int .i64 op, .slice B n2 c2] 73))) := hid (HB.out.alloc HB.out.size _)
    by_cases ho : op = 0
    ·have hne : (op != 0) = false := by rw [ho]; rfl
     clear hsub hp hcs hcs2 hsb ho hdm
     go_wp2
     go_roundw
     case rel => exact ⟨j + 1, by omega, by go_num, HB2⟩
     case measure => simp [intOf]; omega
    ·rw [if_neg ho] at hdm
     obtain ⟨k1, rfl⟩ : ∃ k1, k = k1 + 1 := ⟨k - 1, by have := HK.out; omega⟩
     have HD : Hid (∀ W, Below w.heap.size w W → Calls Tryz.prog 38 #[.slice B n2 c2, .int .i64 (k1 : Int)] W fun e w' => e = .returned (.bool true) ∧ Below W.heap.size W w') := hid (fun W hW => HIH.out sb (by have := HC.out; omega) (by have := HN1.out; omega) k1 (by have := HK.out; omega) (by omega) _ W (PtW.below hsb hW))
     have hne : (op != 0) = true := bne_iff_ne.2 ho
     have hk0 : (((k1 + 1 : Nat) : Int) == 0) = false := beq_eq_false_iff_ne.2 (by omega)
     have hk3 : ((k1 + 1 : Nat) : Int) - 1 = (k1 : Int) := by omega
     have hk4 : IntKind.i64.wrap (((k1 + 1 : Nat) : Int) - 1) = (k1 : Int) := by rw [hk3]; exact IntWalk.i64_in _ (by omega)
     obtain ⟨K, hK⟩ : ∃ K : Int, ((k1 + 1 : Nat) : Int) = K := ⟨_, rfl⟩
     rw [hK] at hk0 hk3 hk4 ⊢
     have HKE := hid hK
     clear hsub hp hcs hcs2 hsb ho hdm hK
     go_wp2_with (go_at_call 38; refine (HD.out _ HB2.out).mono ?_; rintro e W2 ⟨rfl, hb2⟩; have HB3 := hid (HB2.out.trans (hb2.mono HB2.out.size)); clear hb2)
     go_roundw
     case rel => exact ⟨j + 1, by omega, by go_num, HB3⟩
     case measure => simp [intOf]; omega
   ·obtain rfl : j = n := by omega
    go_wp2
    go_ret
    exact ⟨rfl, HB.out⟩
end
section
open Go.RowKit
open Nw V12 T13 S14
theorem wf_subA {d : Nat} {n t : L8} {o : Int} {s : List Pt} (h : WfP d (.mk n t o s)) : WfL (d + 1) s ∧ (s = [] ∨ 1 < o) ∧ (o ≠ 0 → d ≤ 8) ∧ 0 ≤ o ∧ o ≤ 7 := by
 rw [WfP] at h
 rcases h with h | h | h
 ·refine ⟨by rw [h.2.2.2.1, WfL]; trivial, .inl h.2.2.2.1, fun e => absurd h.1 e, ?_⟩
  have := h.1; omega
 ·refine ⟨by rw [h.2.2.2.1, WfL]; trivial, .inl h.2.2.2.1, fun _ => h.2.2.2.2, ?_⟩
  have := h.1; omega
 ·refine ⟨h.2.2.2.2.2.1, .inr (by omega), fun _ => h.2.2.2.2.1, ?_⟩
  have := h.1; have := h.2.1; omega
theorem wf_atA : ∀ {ps : List Pt} {d : Nat} {j : Nat} (h : j < ps.length), WfL d ps → WfP d (ps[j]'h)
 | p :: ps, d, 0, _, h => by rw [WfL] at h; exact h.1
 | p :: ps, d, j + 1, hj, h => by rw [WfL] at h; exact wf_atA (Nat.lt_of_succ_lt_succ hj) h.2
mutual
theorem wfP_low : ∀ (p : Pt) {d d' : Nat}, d' ≤ d → WfP d p → WfP d' p
 | .mk n t o s, d, d', hd, h => by
  rw [WfP] at h ⊢
  rcases h with h | h | h
  ·exact .inl ⟨h.1, h.2.1, h.2.2.1, h.2.2.2.1, fun e => h.2.2.2.2 (by omega)⟩
  ·exact .inr (.inl ⟨h.1, h.2.1, h.2.2.1, h.2.2.2.1, by have := h.2.2.2.2; omega⟩)
  ·exact .inr (.inr ⟨h.1, h.2.1, h.2.2.1, h.2.2.2.1, by have := h.2.2.2.2.1; omega, wfL_low s (by omega) h.2.2.2.2.2.1, h.2.2.2.2.2.2⟩)
theorem wfL_low : ∀ (s : List Pt) {d d' : Nat}, d' ≤ d → WfL d s → WfL d' s
 | [], d, d', _, _ => by rw [WfL]; trivial
 | p :: ps, d, d', hd, h => by
  rw [WfL] at h ⊢
  exact ⟨wfP_low p hd h.1, wfL_low ps hd h.2⟩
end
theorem pv_0 (M B0 : Nat) (X Y : ByteArray) (B : Option Addr) (m c : Nat) (v : Value) (D : Int) (w : World) : Calls Tryz.prog 60 #[.agg #[.string X, .string Y, .int .i64 0, .slice B m c], v, .int .i64 D] w (VOut M B0 (.ok Y.data.toList) w) := by
 have hb0 : Below w.heap.size w (w.alloc (.cells #[.string X, .string Y, .int .i64 0, .slice B m c] 73)) := (Below.refl _ _).alloc (Nat.le_refl _) _
 have hx0 : PBx (w.alloc (.cells #[.string X, .string Y, .int .i64 0, .slice B m c] 73)) w.heap.size (.string X) (.string Y) (.int .i64 0) (.slice B m c) := heap_alloc_new w _
 have HB0 := hid hb0
 obtain ⟨x0, x1, x2, x3⟩ := hx0.cells
 clear hb0 hx0
 go_enter Tryz.func60, Tryz.ntmps60
 go_wp2
 go_ret
 refine ⟨HB0.out, ?_⟩
 show Ending.returned _ = Ending.returned (.string (ba Y.data.toList))
 rw [ba_of]
 rfl
theorem part_of (M B0 : Nat) (E : Env) (nm tx : L8) (op : Int) (sb : List Pt) (B : Option Addr) (m c : Nat) (v : Value) (D : Int) (w : World) (hop : 0 ≤ op ∧ op ≤ 7) (hD : op ≠ 0 → 0 ≤ D ∧ D < 8) (hB0 : B0 ≤ w.heap.size) (hs : PtL (· < B0) w (.slice B m c) sb) (hwf : WfL 1 sb) (hln : (txtL sb).length ≤ M)
  (HGet : ∀ W, Below w.heap.size w W → Calls Tryz.prog 75 #[v, .string (ba nm)] W fun e w' => e = .returned (.tuple #[.string (ba ((E nm).getD [])), .bool (E nm).isSome]) ∧ Below W.heap.size W w')
  (HSub : op ≠ 0 → ∀ W, Below w.heap.size w W → Calls Tryz.prog 45 #[.slice B m c, v, .int .i64 (D + 1)] W (VOut M B0 (sayL E [] sb) W)) :
  Calls Tryz.prog 60 #[.agg #[.string (ba nm), .string (ba tx), .int .i64 op, .slice B m c], v, .int .i64 D] w (VOut M B0 (sayP E (.mk nm tx op sb)) w) := by
 have h8 : op = 0 ∨ op = 1 ∨ op = 2 ∨ op = 3 ∨ op = 4 ∨ op = 5 ∨ op = 6 ∨ op = 7 := by omega
 have hd : ∀ l : L8, (ba l).data.toList = l := fun l => ba_data l
 by_cases h0 : op = 0
 ·subst h0
  rw [sayP_0]; have := pv_0 M B0 (ba nm) (ba tx) B m c v D w; rw [hd] at this; exact this
 replace hD := hD h0
 replace HSub := HSub h0
 replace h8 := h8.resolve_left h0
 clear h0
 cases hE : E nm with
 | none =>
  rw [hE] at HGet
  rcases h8 with rfl | rfl | rfl | rfl | rfl | rfl | rfl
  ·rw [sayP_1n hE]; have := pv_1_n M B0 (ba nm) (ba tx) B m c v D hD w HGet; exact this
  ·rw [sayP_2n hE]; have := pv_2_n M B0 (ba nm) (ba tx) B m c v D hD w _ HSub HGet; exact this
  ·rw [sayP_3n hE]; have := pv_3_n M B0 (ba nm) (ba tx) B m c v D hD w _ HSub HGet; exact this
  ·rw [sayP_4n hE]; have := pv_4_n M B0 (ba nm) (ba tx) B m c v D hD w sb hB0 hs hwf hln HGet; rw [hd] at this; exact this
  ·rw [sayP_5n hE]; have := pv_5_n M B0 (ba nm) (ba tx) B m c v D hD w sb hB0 hs hwf hln HGet; rw [hd] at this; exact this
  ·rw [sayP_6n hE]; have := pv_6_n M B0 (ba nm) (ba tx) B m c v D hD w HGet; exact this
  ·rw [sayP_7n hE]; have := pv_7_n M B0 (ba nm) (ba tx) B m c v D hD w HGet; exact this
 | some z =>
  rw [hE] at HGet
  by_cases hz : z = []
  ·subst hz
   rcases h8 with rfl | rfl | rfl | rfl | rfl | rfl | rfl
   ·rw [sayP_1b hE]; have := pv_1_b M B0 (ba nm) (ba tx) B m c v D hD w HGet; exact this
   ·rw [sayP_2b hE]; have := pv_2_b M B0 (ba nm) (ba tx) B m c v D hD w _ HSub HGet; exact this
   ·rw [sayP_3b hE]; have := pv_3_b M B0 (ba nm) (ba tx) B m c v D hD w HGet; exact this
   ·rw [sayP_4b hE]; have := pv_4_b M B0 (ba nm) (ba tx) B m c v D hD w sb hB0 hs hwf hln HGet; rw [hd] at this; exact this
   ·rw [sayP_5b hE]; have := pv_5_b M B0 (ba nm) (ba tx) B m c v D hD w HGet; exact this
   ·rw [sayP_6b hE]; have := pv_6_b M B0 (ba nm) (ba tx) B m c v D hD w HGet; exact this
   ·rw [sayP_7b hE]; have := pv_7_b M B0 (ba nm) (ba tx) B m c v D hD w _ HSub HGet; exact this
  ·have hzb : (ba z).toList.isEmpty = false := by rw [ByteArray.toList_eq, hd, List.isEmpty_eq_false_iff]; exact hz
   rcases h8 with rfl | rfl | rfl | rfl | rfl | rfl | rfl
   ·rw [sayP_1f hE hz]; have := pv_1_f M B0 (ba nm) (ba tx) B m c v D hD w (ba z) hzb HGet; rw [hd] at this; exact this
   ·rw [sayP_2f hE hz]; have := pv_2_f M B0 (ba nm) (ba tx) B m c v D hD w (ba z) hzb HGet; rw [hd] at this; exact this
   ·rw [sayP_3f hE hz]; have := pv_3_f M B0 (ba nm) (ba tx) B m c v D hD w (ba z) hzb HGet; rw [hd] at this; exact this
   ·rw [sayP_4f hE hz]; have := pv_4_f M B0 (ba nm) (ba tx) B m c v D hD w (ba z) hzb HGet; rw [hd] at this; exact this
   ·rw [sayP_5f hE hz]; have := pv_5_f M B0 (ba nm) (ba tx) B m c v D hD w (ba z) hzb HGet; rw [hd] at this; exact this
   ·rw [sayP_6f hE hz]; have := pv_6_f M B0 (ba nm) (ba tx) B m c v D hD w (ba z) hzb _ HSub HGet; exact this
   ·rw [sayP_7f hE hz]; have := pv_7_f M B0 (ba nm) (ba tx) B m c v D hD w (ba z) hzb _ HSub HGet; exact this
section
variable (Pw : World → Prop) (hPw : ∀ w w', Pw w → Below w.heap.size w w' → Pw w') (E : Env) (v : Value) (hE : ∀ n x, E n = some x → x.length ≤ 1000000)
variable (HGet : ∀ (nm : L8) (W : World), Pw W → Calls Tryz.prog 75 #[v, .string (ba nm)] W fun e w' => e = .returned (.tuple #[.string (ba ((E nm).getD [])), .bool (E nm).isSome]) ∧ Below W.heap.size W w')
include hPw hE HGet
theorem valueOf_any (M B0 N : Nat) (hM : M ≤ 1000000) : ∀ (ps : List Pt) (d : Nat), cntL ps < N → N ≤ 1000001 → (txtL ps).length ≤ M → WfL (d + 1) ps → ∀ (c3 : Value) (w : World), Pw w → B0 ≤ w.heap.size → PtL (· < B0) w c3 ps →
  Calls Tryz.prog 45 #[c3, v, .int .i64 (d : Int)] w (VOut M B0 (sayL E [] ps) w) := by
 induction N with
 | zero => intro ps d h; omega
 | succ N ih =>
  intro ps d hc hN hT hwf c3 w hw hB0 hp
  have hln := cntL_len13 ps
  refine valueOf_of M B0 E ps (by omega) c3 v (d : Int) w hB0 hp (fun j hj c0 c1 c2 c3 W hb hpt => ?_) fun j hj t ht => ?_
  ·have hwp := wf_atA hj hwf
   have hcs := @cnt_sub ps j hj
   have htp := txtP_le hj
   obtain ⟨p, hpe⟩ : ∃ p, ps[j]'hj = p := ⟨_, rfl⟩
   rw [hpe] at hpt hwp htp ⊢
   obtain ⟨nm, tx, op, sb⟩ := p
   have hcs2 := hcs hpe
   obtain ⟨rfl, rfl, rfl, hsb⟩ := hpt.sub
   obtain ⟨B3, q3, rfl, -⟩ := id hsb
   obtain ⟨hws, ho1, hd8, hop⟩ := wf_subA hwp
   have hts : (txtL sb).length ≤ M := by
    rcases ho1 with e | e
    ·rw [e, txtL]; exact Nat.zero_le _
    ·have := txtS_le nm tx op sb e; omega
   have hwW := hPw _ _ hw hb
   refine part_of M B0 E nm tx op sb B3 _ q3 v (d : Int) W hop (fun h0 => by have := hd8 h0; omega) (Nat.le_trans hB0 hb.size) hsb (wfL_low sb (by omega) hws) hts (fun W2 h2 => HGet nm W2 (hPw _ _ hwW h2)) fun h0 W2 h2 => ?_
   have := ih sb (d + 1) (by omega) (by omega) hts hws _ W2 (hPw _ _ hwW h2) (Nat.le_trans hB0 (Nat.le_trans hb.size h2.size)) (hsb.keep fun b hb2 => ⟨hb2, h2.block b (Nat.lt_of_lt_of_le hb2 (Nat.le_trans hB0 hb.size))⟩)
   rw [show ((d + 1 : Nat) : Int) = (d : Int) + 1 by omega] at this
   exact this
  ·have := sayP_len hE (ps[j]'hj) (by have := txtP_le hj; omega) ht
   omega
theorem Expand_any (ps : List Pt) (c3 : Value) (w : World) (hw : Pw w) (hp : PtW w c3 ps) (hwf : WfL 1 ps) (hT : (txtL ps).length ≤ 1000000) :
  Calls Tryz.prog 30 #[c3, v] w fun e w' => e = .returned (SayO (sayL E [] ps)) ∧ Below w.heap.size w w' := by
 have hc := cntL_le ps 1 hwf
 have HV : ∀ W, Below w.heap.size w W → Calls Tryz.prog 45 #[c3, v, .int .i64 0] W (VOut 1000000 w.heap.size (sayL E [] ps) W) := fun W hW =>
  valueOf_any Pw hPw E v hE HGet 1000000 w.heap.size 1000001 (Nat.le_refl _) ps 0 (by omega) (Nat.le_refl _) hT hwf c3 W (hPw _ _ hw hW) hW.size (PtL.keep hp fun b hb => ⟨hb, hW.block b hb⟩)
 cases hR : sayL E [] ps with
 | ok x =>
  rw [hR] at HV
  refine (Expand_ok c3 v w (ba x) fun W hW => (HV W hW).mono ?_).mono ?_
  ·rintro e w' ⟨hb, rfl⟩
   exact ⟨rfl, hb⟩
  ·rintro e w' ⟨rfl, hb⟩
   exact ⟨rfl, hb⟩
 | err er ky y =>
  rw [hR] at HV
  refine (Expand_fail c3 v w er fun W hW => (HV W hW).mono ?_).mono ?_
  ·rintro e w' ⟨hb, k, t, op, A, n, c, s, rfl, -⟩
   exact ⟨⟨k, t, op, A, n, c, rfl⟩, hb⟩
  ·rintro e w' ⟨rfl, hb⟩
   exact ⟨rfl, hb⟩
end
theorem prs_facts {s : ByteArray} {ps : List Pt} {r : L8} (hs : s.size ≤ 100000) (hR : prsT s.data.toList = .ok ps r) : WfL 1 ps ∧ (txtL ps).length ≤ 1000000 := by
 have hsz := prsT_size hR
 rw [show s.data.toList.length = s.size from rfl] at hsz
 exact ⟨(prsT_wf hR).1, by omega⟩
theorem Text14_any (Pw : World → Prop) (hPw : ∀ w w', Pw w → Below w.heap.size w w' → Pw w')
  (HGet : ∀ (v : Value) (x : List KV) (nm : L8) (W : World), Pw W → VR W v x → x.length ≤ 1000000 → Calls Tryz.prog 75 #[v, .string (ba nm)] W fun e w' => e = .returned (.tuple #[.string (ba ((lastV x nm).getD [])), .bool (lastV x nm).isSome]) ∧ Below W.heap.size W w')
  (HParse : ∀ (s : ByteArray) (W : World), Pw W → s.size ≤ 100000 → Calls Tryz.prog 22 #[.string s] W (GivesP (T13.prsT s.data.toList) W))
  (s : ByteArray) (v : Value) (x : List KV) (w : World) (hw : Pw w) (hs : s.size ≤ 100000) (hv : VR w v x) (hx : EnvS x) :
  Calls Tryz.prog 16 #[.string s, v] w fun e w' => e = .returned (SayO (sayX (lastV x) s.data.toList)) ∧ Below w.heap.size w w' := by
 have hp := HParse s w hw hs
 have hE : ∀ n z, lastV x n = some z → z.length ≤ 1000000 := fun n z h => Nat.le_trans (hx.val h) (by decide)
 have HX : Hid (∀ (ps : List Pt) (c : Value) (W : World), Below w.heap.size w W → PtW W c ps → WfL 1 ps → (txtL ps).length ≤ 1000000 → Calls Tryz.prog 30 #[c, v] W fun e w' => e = .returned (SayO (sayL (lastV x) [] ps)) ∧ Below W.heap.size W w') := hid (fun ps c W hW hc hwf hT =>
  Expand_any (fun V => Pw V ∧ VR V v x) (fun V V' h hb => ⟨hPw V V' h.1 hb, h.2.below hb⟩) (lastV x) v hE (fun nm V h => HGet v x nm V h.1 h.2 (by have := hx.2.1; omega)) ps c W ⟨hPw _ _ hw hW, hv.below hW⟩ hc hwf hT)
 have HF := hid (fun ps r => prs_facts (s := s) (ps := ps) (r := r) hs)
 unfold sayX
 clear HGet HParse hPw hw hs hE
 cases hR : prsT s.data.toList with
 | err er =>
  rw [hR] at hp
  have hne : (er != 0) = true := bne_iff_ne.2 (prsT_err hR)
  obtain ⟨a, cap, rfl, -⟩ := hv
  generalize x.length = L at *
  clear hR HX
  go_enter Tryz.func16, Tryz.ntmps16
  go_wp2_with (go_at_call 22; refine hp.mono ?_; rintro e w1 ⟨v1, rfl, -, b1⟩)
  go_ret2
  exact ⟨rfl, b1⟩
 | ok ps r =>
  rw [hR] at hp
  obtain ⟨hwf, hT⟩ := HF.out ps r hR
  have HW := hid (And.intro hwf hT)
  show Calls _ _ _ _ fun e w' => e = .returned (SayO (sayL (lastV x) [] ps)) ∧ Below w.heap.size w w'
  obtain ⟨R, hRR⟩ : ∃ R, SayO (sayL (lastV x) [] ps) = R := ⟨_, rfl⟩
  have HXX : Hid (∀ (c : Value) (W : World), Below w.heap.size w W → PtW W c ps → ∃ q n, R = .tuple #[.string q, .int .i64 n] ∧ Calls Tryz.prog 30 #[c, v] W fun e w' => e = .returned (.tuple #[.string q, .int .i64 n]) ∧ Below W.heap.size W w') := hid (fun c W hW hc => by
   have h9 := HX.out ps c W hW hc HW.out.1 HW.out.2
   rw [hRR] at h9
   have : ∃ q n, R = .tuple #[.string q, .int .i64 n] := by
    rw [← hRR]
    cases sayL (lastV x) [] ps with
    | ok z => exact ⟨_, _, rfl⟩
    | err a b c => exact ⟨_, _, rfl⟩
   obtain ⟨q, n, rfl⟩ := this
   exact ⟨q, n, rfl, h9⟩)
  rw [hRR]
  obtain ⟨a, cap, rfl, -⟩ := hv
  generalize x.length = L at *
  clear hR HX hwf hT hRR
  go_enter Tryz.func16, Tryz.ntmps16
  go_wp2_with first
   | (go_at_call 22; refine hp.mono ?_; rintro e w1 ⟨v1, rfl, h1, b1⟩; obtain ⟨q, n, rfl, hc⟩ := HXX.out _ _ b1 h1; obtain ⟨B, m, k, rfl⟩ := PtL.slice h1; have HB1 := hid b1; clear b1 h1)
   | (go_at_call 30; refine hc.mono ?_; rintro e w2 ⟨rfl, hb2⟩)
  go_ret2
  exact ⟨rfl, HB1.out.trans (hb2.mono HB1.out.size)⟩
end
end Go.Proofs.YtkcilmmaggmmoaaGreatDoor
