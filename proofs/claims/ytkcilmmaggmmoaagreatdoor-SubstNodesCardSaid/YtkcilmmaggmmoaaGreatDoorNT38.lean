/- TmpPts -/
import Derived.Test.YtkcilmmaggmmoaaGreatDoorNT12
import Derived.Test.YtkcilmmaggmmoaaGreatDoorNT37
set_option linter.unusedVariables false
set_option linter.unusedSimpArgs false
set_option maxRecDepth 100000
set_option maxHeartbeats 16000000
open Go.Lib (hid)
namespace Go.Proofs.YtkcilmmaggmmoaaGreatDoor
namespace Nw
end Nw
namespace T13
end T13
end Go.Proofs.YtkcilmmaggmmoaaGreatDoor
namespace Go.Proofs.YtkcilmmaggmmoaaGreatDoor
section
open Go.RowKit Go.Sort
open Nw T13 Go.ChangeShapes Go.WideShapes
theorem infoQ13a : (Tryz.prog.info? 73).map (fun i => (i.zero, i.size, i.bytes)) = some (some (.agg #[.string ⟨#[]⟩, .string ⟨#[]⟩, .int .i64 0, .slice none 0 0]), 4, 64) := by kernel_rfl
theorem infoQ13 : ∃ i, Tryz.prog.info? 73 = some i ∧ i.zero = some (.agg #[.string ⟨#[]⟩, .string ⟨#[]⟩, .int .i64 0, .slice none 0 0]) ∧ i.size = 4 ∧ i.bytes = 64 := by
 have h := infoQ13a
 cases hi : Tryz.prog.info? 73 with
 | none => rw [hi] at h; cases h
 | some i =>
  rw [hi] at h
  simp only [Option.map_some, Option.some.injEq, Prod.mk.injEq] at h
  exact ⟨i, rfl, h.1, h.2.1, h.2.2⟩
theorem wp_scope_from {P : Program} {a : Act} {w : World} {Q : Exit → Act → World → Prop} {r1 T : Code} (l : Nat) (J : Act → World → Prop) (μ : Act → World → Nat)
  (h1 : findLabel r1 l = none)
  (first : r1.wp P (fun e a'' w'' => e = .normal ∧ J a'' w'') a w)
  (pass : ∀ a w, J a w → ∀ K : Act → World → Prop, (∀ a' w', J a' w' → μ a' w' < μ a w → K a' w') → T.wp P (Exit.jump l K Q) a w) :
  (Code.scope (.seq r1 (.seq (.label l) T))).wp P Q a w := by
 refine wp_scope_jumps (rest := .seq .skip T) l J μ ?_ ?_ ?_
 ·simp [findLabel, h1]
 ·refine wp_seq (wp_mono first ?_)
  rintro e a'' w'' ⟨rfl, hJ⟩
  exact wp_seq (wp_label (pass a'' w'' hJ J fun a' w' h _ => h))
 ·intro a w hJ
  exact wp_seq (wp_skip (pass a w hJ _ fun a' w' h1 h2 => ⟨h1, h2⟩))
theorem PtN.grown {e : TypeId} {w W W' : World} {v : Value} {ps : List Pt} {g : Nat} (h : PtN e w W v ps) (hg : g < w.heap.size) (hb : W.grownBy W' (some g)) : PtN e w W' v ps := by
 obtain ⟨qs, h⟩ := h
 have hk : ∀ b, w.heap.size ≤ b → b < W.heap.size → W'.heap[b]? = W.heap[b]? := fun b h1 h2 => hb.block b h2 fun e => by injection e with e; omega
 exact ⟨qs, h.keep (fun b hs => ⟨⟨hs.1, Nat.lt_of_lt_of_le hs.2.1 hb.size, hs.2.2⟩, hk b hs.1 hs.2.1⟩) fun k hk2 => hk k (h.1.lt k hk2).1 (h.1.lt k hk2).2⟩
theorem PtN.app2 {e : TypeId} {w W w3 : World} {v v' : Value} {ps : List Pt} {p : Pt} {qs : List Qp} {q : Qp} {ob : Obj} (HQS : PtO e (Mine w W v) w.heap.size W v qs ps) (hp : PtQ (Mine w (W.alloc ob) v) (W.alloc ob) p q)
  (ho3 : w3.ownsRow w.heap.size e 4 v' (ps.length + 1) (flatQ qs ++ [q.a, q.b, q.c, q.d])) (hg3 : (W.alloc ob).grownBy w3 v.ownBlock) (hl3 : v'.ownBlock = v.ownBlock ∨ v'.ownBlock = some (W.alloc ob).heap.size) :
  PtN e w w3 v' (ps ++ [p]) := PtN.grow (HQS.go ((Below.refl _ _).alloc (Nat.le_refl _) ob)) hp ho3 hg3 hl3
theorem app_else {w W w3 : World} {base n size g : Nat} {e : TypeId} {v : Value} {xs : List Value} {ob : Obj} {q : ByteArray} (ho : W.ownsRow w.heap.size e size v n xs) (hg : g < w.heap.size) (hr : RdB W g q) (hw : w.grownBy W (some g)) (hg3 : (W.alloc ob).grownBy w3 v.ownBlock) :
  RdB w3 g q ∧ w.grownBy w3 (some g) :=
 ⟨(hr.below ((Below.refl _ _).alloc (Nat.le_refl _) ob)).other hg3 fun e => by have := (ho.lt g e).1; omega,
  (hw.trans (World.grownBy_alloc _ _ _)).andThen hg3 fun k hk => .inl (ho.lt k hk).1⟩
def PJ (g d N : Nat) (R : PR) (w0 : World) (a : Act) (w : World) : Prop :=
 ∃ (v : Value) (done : List Pt) (q : ByteArray) (u4 u5 u7 u8 u9 u10 u11 u12 u13 u14 u15 u16 u17 u18 u19 u20 u21 u22 u23 u24 u25 u26 u27 u28 u29 u30 u31 u32 u33 u34 u35 u36 : Value), a = { tmps := #[.pointer (some ⟨g, 0, none⟩), .int .i64 (d : Int), undef, undef, u4, u5, v, u7, u8, u9, u10, u11, u12, u13, u14, u15, u16, u17, u18, u19, u20, u21, u22, u23, u24, u25, u26, u27, u28, u29, u30, u31, u32, u33, u34, u35, u36], defers := [] } ∧ PtN 73 w0 w v done ∧ RdB w g q ∧ w0.grownBy w (some g) ∧ prsA (d + 1) done [] q.data.toList = R ∧ done.length + q.size ≤ N
theorem readParts_step (n : Nat) (H : PartsOf n) (s : ByteArray) (d g : Nat) (w : World) (hn : s.size ≤ n) (hs : s.size ≤ 100000) (hd : d ≤ 8) (hR : RdB w g s) (hO : Ops8 w) :
  Calls Tryz.prog 37 #[.pointer (some ⟨g, 0, none⟩), .int .i64 (d : Int)] w (GivesRq w g (prsA (d + 1) [] [] s.data.toList)) := by
 obtain ⟨i0, hi, hz0, hz1, hz2⟩ := infoQ13
 obtain ⟨R, hRe⟩ : ∃ R, prsA (d + 1) [] [] s.data.toList = R := ⟨_, rfl⟩
 rw [hRe]
 obtain ⟨N, hN⟩ : ∃ N, s.size = N := ⟨_, rfl⟩
 rw [hN] at hs hn
 have HG : Hid (g < w.heap.size) := hid hR.lt
 have HOPS := hid (fun (W : World) (hb : w.grownBy W (some g)) => hO.grown hR hb)
 have HREF := hid (fun (W : World) (q : ByteArray) (t : L8) (hq : q.data.toList = 36 :: t) (hl : q.size ≤ N) (hr : RdB W g q) (hb : w.grownBy W (some g)) => readRef_of n H d g W q t hq (by omega) (by omega) hd hr (hO.grown hR hb))
 have HJ0 : Hid (RdB w g s ∧ prsA (d + 1) [] [] s.data.toList = R ∧ ([] : List Pt).length + s.size ≤ N) := hid ⟨hR, hRe, by rw [hN]; simp⟩
 clear hR hO hRe hN H hn hd
 go_enter Tryz.func37, Tryz.ntmps37
 go_wp2
 refine wp_scope_from 0 (PJ g d N R w) (fun _ W => RdM g W) rfl ?first ?pass
 case first =>
  go_wp2
  exact ⟨_, [], s, _, _, _, _, _, _, _, _, _, _, _, _, _, _, _, _, _, _, _, _, _, _, _, _, _, _, _, _, _, _, _, _, rfl, ⟨[], ptO_nil _ _ _ _⟩, HJ0.out.1, World.grownBy.refl _ _, HJ0.out.2.1, HJ0.out.2.2⟩
 case pass =>
  clear HJ0
  intro a wr hJ K hK
  obtain ⟨v, done, q, u4, u5, u7, u8, u9, u10, u11, u12, u13, u14, u15, u16, u17, u18, u19, u20, u21, u22, u23, u24, u25, u26, u27, u28, u29, u30, u31, u32, u33, u34, u35, u36, rfl, hpt, hrd, hgr, hpa, hln⟩ := hJ
  have HK := hid hK
  have hq1 : q.size ≤ 100000 := by omega
  have HTL := hid (takeLit_any d hrd hq1)
  have HM := hid (rdM_of hrd)
  have HPT := hid hpt
  have HGR := hid hgr
  have HPA := hid hpa
  have HLN := hid hln
  clear hK hpt hrd hgr hpa hln hq1
  go_wp2_with fail
  refine HTL.out.mono ?_
  rintro e W1 ⟨t, q1, rfl, r1, g1, hL, hH⟩
  have hpt1 := HPT.out.grown HG.out g1
  have hgr1 := HGR.out.trans g1
  have hpa1 : prsA (d + 1) done t.data.toList q1.data.toList = R := by rw [← HPA.out, hL.1 done []]; rfl
  have hll : t.size + q1.size ≤ q.size := by have := hL.2; simpa only [len13] using this
  have HH := hid hH
  have HLL := hid hll
  have HPA1 := hid hpa1
  clear hL hH g1 hpa1 hll HPA HTL HPT HGR
  by_cases ht : t.data.toList = []
  ·obtain rfl := bytes_of (l := #[]) ht
   have HPA2 : Hid (prsA (d + 1) done [] q1.data.toList = R) := hid (by have := HPA1.out; rw [ht] at this; exact this)
   have HD : Hid (fl done [] = done) := hid rfl
   obtain ⟨dn, hdn⟩ : ∃ dn, done = dn := ⟨_, rfl⟩
   have HEND : Hid (endB (d + 1) q1.data.toList = true → R = .ok dn q1.data.toList) := hid (fun he => by rw [← HPA2.out, A_end he, HD.out, hdn])
   have HREFE : Hid (∀ tl, q1.data.toList = 36 :: tl → tl.getD 0 0 ≠ 36 → R = match rfA (d + 1) tl with | .bad e => .err e | .good p r => prsA (d + 1) (dn ++ [p]) [] r) := hid (fun tl h1 h2 => by rw [← HPA2.out, h1, A_ref h2, HD.out, hdn]; cases rfA (d + 1) tl <;> rfl)
   have HDL : Hid (dn.length + q1.size ≤ N) := hid (by have h1 := HLN.out; have h2 := HLL.out; rw [hdn] at h1; omega)
   have HQL : Hid (q1.size ≤ q.size) := hid (by have := HLL.out; omega)
   rw [hdn] at hpt1
   have HP1 := hid hpt1
   have HR1 := hid r1
   have HG1 := hid hgr1
   clear ht hdn hpt1 r1 hgr1 HPA1 HPA2 HD HLN HLL
   cases hb : endB (d + 1) q1.data.toList with
   | true =>
    have HE : Hid (Calls Tryz.prog 52 #[.pointer (some ⟨g, 0, none⟩), .int .i64 (d : Int)] W1 fun e w' => e = .returned (.bool true) ∧ W1 = w') := hid (by have := isEnd_any d HR1.out; rw [hb] at this; exact this)
    have HRE := hid (HEND.out hb)
    clear hb HREFE HEND
    go_wp2_with (go_at_call 52; refine HE.out.mono ?_; rintro e w9 ⟨rfl, rfl⟩)
    try simp only [Exit.jump]
    go_ret2
    rw [HRE.out]
    exact ⟨q1, HR1.out, HG1.out, _, rfl, HP1.out.done, rfl⟩
   | false =>
    have HE : Hid (Calls Tryz.prog 52 #[.pointer (some ⟨g, 0, none⟩), .int .i64 (d : Int)] W1 fun e w' => e = .returned (.bool false) ∧ W1 = w') := hid (by have := isEnd_any d HR1.out; rw [hb] at this; exact this)
    obtain ⟨tl, hq1, htl⟩ : ∃ tl, q1.data.toList = 36 :: tl ∧ tl.getD 0 0 ≠ 36 := by
     rcases HH.out with h | h
     ·rw [hb] at h; cases h
     ·exact h
    have HRE := hid (HREFE.out tl hq1 htl)
    have HRF := hid (HREF.out W1 q1 tl hq1 (by have := HDL.out; omega) HR1.out HG1.out)
    have HQ1 : Hid (q1.size = tl.length + 1) := hid (by rw [← len13, hq1, List.length_cons])
    clear hb hq1 htl HREFE HEND
    cases hrf : rfA (d + 1) tl with
    | bad er =>
     have hne : (er != 0) = true := bne_iff_ne.2 (by rcases rfA_bad hrf with e | e <;> rw [e] <;> decide)
     rw [hrf] at HRE HRF
     clear hrf
     go_wp2_with first | (go_at_call 52; refine HE.out.mono ?_; rintro e w9 ⟨rfl, rfl⟩) | (go_at_call 53; refine HRF.out.mono ?_; rintro e W3 ⟨q3, r3, g3, rfl⟩; have HR3 := hid r3; have HG3 := hid (HG1.out.trans g3); clear r3 g3)
     try simp only [Exit.jump]
     go_ret2
     rw [HRE.out]
     exact ⟨q3, HR3.out.below ((Below.refl _ _).alloc (Nat.le_refl _) _), HG3.out.trans (World.grownBy_alloc _ _ _), rfl⟩
    | good p r =>
     have HRL := hid (rfA_good hrf)
     rw [hrf] at HRE HRF
     clear hrf
     have hdl : dn.length ≤ 100000 := by have := HDL.out; omega
     have HBS : Hid (w.heap.size ≤ W1.heap.size) := hid HG1.out.size
     obtain ⟨qs2, hqs2⟩ := HP1.out
     have HQS2 := hid hqs2
     obtain ⟨k, hk⟩ : ∃ k, k = dn.length := ⟨_, rfl⟩
     have HKK := hid hk
     rw [← hk] at hdl
     clear hqs2 hk
     go_wp2_with first
      | (go_at_call 52; refine HE.out.mono ?_; rintro e w9 ⟨rfl, rfl⟩)
      | (go_at_call 53; refine HRF.out.mono ?_; rintro e W3 ⟨q3, r3, g3, c0, c1, c2, c3, rfl, hpc, hq3⟩; obtain ⟨N9, T9, o9, A9, n9, k9, rfl, rfl, rfl, rfl⟩ := hpc.shape; have HQ3 := hid hq3; have HPC := hid hpc; have hP3 := (PtN.grown ⟨qs2, HQS2.out⟩ HG.out g3 : PtN 73 w W3 v dn); have hP4 := hP3.below ((Below.refl _ _).alloc (Nat.le_refl _) (.cells #[.string N9, .string T9, .int .i64 o9, .slice A9 n9 k9] 73)); have hR4 := r3.below ((Below.refl _ _).alloc (Nat.le_refl _) (.cells #[.string N9, .string T9, .int .i64 o9, .slice A9 n9 k9] 73)); have hG4 := (HG1.out.trans g3).trans (World.grownBy_alloc W3 (.cells #[.string N9, .string T9, .int .i64 o9, .slice A9 n9 k9] 73) (some g)); have HR4 := hid hR4; have HG4 := hid hG4; have HS3 : Hid (W1.heap.size ≤ W3.heap.size) := hid g3.size; have hbs4 := hG4.size; obtain ⟨qs4, hqs4⟩ := hP4; have HQS4 := hid hqs4; have HOW4 : Hid ((W3.alloc (.cells #[.string N9, .string T9, .int .i64 o9, .slice A9 n9 k9] 73)).ownsRow w.heap.size 73 4 v k (flatQ qs4)) := hid (by rw [HKK.out]; exact hqs4.1); obtain ⟨y0, y1, y2, y3⟩ := (RowT.make W3 73 (.string N9) (.string T9) (.int .i64 o9) (.slice A9 n9 k9)).cells; have hbs5 : w.heap.size ≤ W3.heap.size := Nat.le_trans HBS.out g3.size; clear r3 g3 hpc hq3 hP3 hR4 hG4 hqs4)
      | (refine wpList_append_own_at _ rfl _ _ 49 rfl w.heap.size 73 i0 _ 4 64 Tryz.underlying49 hi hz0 hz1 hz2 rfl (by decide) v _ (flatQ qs4) rfl (HOW4.out.alloc _) ⟨(W3.alloc (.cells #[.string N9, .string T9, .int .i64 o9, .slice A9 n9 k9] 73)).heap.size, 0, none⟩ 1 1 [.string N9, .string T9, .int .i64 o9, .slice A9 n9 k9] (by simp [go_sem]) rfl (news13 _ _ _) (four13 _ _ _ _ _ _) (by unfold maxLen; omega) (by omega) (by simp; omega) ?_; intro v5 W5 ho5 hg5 _ hl5)
     have hpq : PtQ (Mine w ((W3.alloc (.cells #[.string N9, .string T9, .int .i64 o9, .slice A9 n9 k9] 73)).alloc (.cells #[.string N9, .string T9, .int .i64 o9, .slice A9 n9 k9] 73)) v) ((W3.alloc (.cells #[.string N9, .string T9, .int .i64 o9, .slice A9 n9 k9] 73)).alloc (.cells #[.string N9, .string T9, .int .i64 o9, .slice A9 n9 k9] 73)) p ⟨.string N9, .string T9, .int .i64 o9, .slice A9 n9 k9⟩ := PtC.keep (fun b hb => ⟨⟨by have h1 := hb.1; have h2 := HBS.out; omega, by have h1 := hb.2; simp; omega, fun e => by have h1 := (HQS2.out.1.lt b e).2; have h2 := hb.1; omega⟩, (Below.heap_alloc _ _ b (by have h1 := hb.2; simp; omega)).trans (Below.heap_alloc _ _ b hb.2)⟩) _ HPC.out
     have hR5 := PtN.app2 HQS4.out hpq (by rw [← HKK.out]; exact ho5) hg5 hl5
     have hE := app_else (base := 0) HOW4.out HG.out HR4.out HG4.out hg5
     have HR5 := hid hR5
     have HE5 := hid hE
     clear hpq hR5 hE ho5 hg5 hl5 hbs4 hbs5 hdl y0 y1 y2 y3
     go_wp2
     go_step3
     refine ⟨rfl, HK.out _ _ ⟨v5, dn ++ [p], q3, _, _, _, _, _, _, _, _, _, _, _, _, _, _, _, _, _, _, _, _, _, _, _, _, _, _, _, _, _, _, _, _, rfl, HR5.out, HE5.out.1, HE5.out.2, by rw [HQ3.out]; exact HRE.out.symm, ?_⟩ ?_⟩
     ·rw [List.length_append]; have h1 := HDL.out; have h2 := HRL.out; have h3 := HQ1.out; have h4 : q3.size = r.length := by rw [← len13, HQ3.out]
      have h5 : [p].length = 1 := rfl
      omega
     ·show RdM g _ < RdM g _
      rw [rdM_of HE5.out.1, HM.out]
      have h1 := HQL.out; have h2 := HRL.out; have h3 := HQ1.out; have h4 : q3.size = r.length := by rw [← len13, HQ3.out]
      omega
  ·have b0 : t.toList.isEmpty = false := by rw [ByteArray.toList_eq, List.isEmpty_eq_false_iff]; exact ht
   have b0' : ¬ t.toList = [] := by rw [ByteArray.toList_eq]; exact ht
   have b1 : (t.toList == []) = false := beq_eq_false_iff_ne.2 b0'
   have b2 : (t.toList != []) = true := bne_iff_ne.2 b0'
   have HD : Hid (fl done t.data.toList = done ++ [litP t.data.toList]) := hid (by unfold fl; rw [if_neg ht])
   obtain ⟨dn, hdn⟩ : ∃ dn, done ++ [litP t.data.toList] = dn := ⟨_, rfl⟩
   have HEND : Hid (endB (d + 1) q1.data.toList = true → R = .ok dn q1.data.toList) := hid (fun he => by rw [← HPA1.out, A_end he, HD.out, hdn])
   have HREFE : Hid (∀ tl, q1.data.toList = 36 :: tl → tl.getD 0 0 ≠ 36 → R = match rfA (d + 1) tl with | .bad e => .err e | .good p r => prsA (d + 1) (dn ++ [p]) [] r) := hid (fun tl h1 h2 => by rw [← HPA1.out, h1, A_ref h2, HD.out, hdn]; cases rfA (d + 1) tl <;> rfl)
   have htl : 1 ≤ t.size := List.length_pos_iff.2 ht
   have HDL : Hid (dn.length + q1.size ≤ N) := hid (by have h1 := HLN.out; have h2 := HLL.out; rw [← hdn, List.length_append]; have h3 : [litP t.data.toList].length = 1 := rfl; omega)
   have HQL : Hid (q1.size ≤ q.size) := hid (by have := HLL.out; omega)
   obtain ⟨qs, hqs⟩ := hpt1
   have HQS := hid hqs
   obtain ⟨m, hm⟩ : ∃ m, m = done.length := ⟨_, rfl⟩
   have hown : W1.ownsRow w.heap.size 73 4 v m (flatQ qs) := by rw [hm]; exact hqs.1
   have HOW := hid hown
   have HMM := hid hm
   have hm1 : m ≤ 100000 := by have h1 := HLN.out; omega
   have hbs := hgr1.size
   have HLIT : Hid (PtQ (Mine w (W1.alloc (.cells #[.string ⟨#[]⟩, .string t, .int .i64 0, .slice none 0 0] 73)) v) (W1.alloc (.cells #[.string ⟨#[]⟩, .string t, .int .i64 0, .slice none 0 0] 73)) (litP t.data.toList) ⟨.string ⟨#[]⟩, .string t, .int .i64 0, .slice none 0 0⟩) := hid (by
    show PtC _ _ _ _ _ _ _
    unfold litP
    rw [PtC]
    exact ⟨rfl, by rw [ba_of], rfl, none, 0, rfl, Nat.le_refl _, Nat.zero_le _, fun _ => rfl, by rw [PtK]; trivial⟩)
   have HR1' := hid r1
   have HG1' := hid hgr1
   have HDN := hid hdn
   clear ht htl hdn hqs hown hm r1 hgr1 HPA1 HD HLN HLL
   go_upto_region 5 with (refine wpList_append_own_at _ rfl _ _ 49 rfl w.heap.size 73 i0 _ 4 64 Tryz.underlying49 hi hz0 hz1 hz2 rfl (by decide) v _ (flatQ qs) rfl (HOW.out.alloc _) ⟨W1.heap.size, 0, none⟩ 1 1 [.string ⟨#[]⟩, .string t, .int .i64 0, .slice none 0 0] (by simp [go_sem]) rfl (news13 _ _ _) (four13 _ _ _ _ _ _) (by unfold maxLen; omega) (by omega) (by simp; omega) ?_; intro v3 W2 ho3 hg3 _ hl3; have hR := PtN.app2 HQS.out HLIT.out (by rw [← HMM.out]; exact ho3) hg3 hl3; rw [HDN.out] at hR; have HP1 := hid hR; have hE := app_else (base := 0) HOW.out HG.out HR1'.out HG1'.out hg3; have HR1 := hid hE.1; have HG1 := hid hE.2; clear hR hE ho3 hg3 hl3)
   clear HQS HOW HMM hm1 hbs HLIT HR1' HG1' HDN b0 b0' b1 b2
   cases hb : endB (d + 1) q1.data.toList with
   | true =>
    have HE : Hid (Calls Tryz.prog 52 #[.pointer (some ⟨g, 0, none⟩), .int .i64 (d : Int)] W2 fun e w' => e = .returned (.bool true) ∧ W2 = w') := hid (by have := isEnd_any d HR1.out; rw [hb] at this; exact this)
    have HRE := hid (HEND.out hb)
    clear hb HREFE HEND
    go_wp2_with (go_at_call 52; refine HE.out.mono ?_; rintro e w9 ⟨rfl, rfl⟩)
    try simp only [Exit.jump]
    go_ret2
    rw [HRE.out]
    exact ⟨q1, HR1.out, HG1.out, _, rfl, HP1.out.done, rfl⟩
   | false =>
    have HE : Hid (Calls Tryz.prog 52 #[.pointer (some ⟨g, 0, none⟩), .int .i64 (d : Int)] W2 fun e w' => e = .returned (.bool false) ∧ W2 = w') := hid (by have := isEnd_any d HR1.out; rw [hb] at this; exact this)
    obtain ⟨tl, hq1, htl⟩ : ∃ tl, q1.data.toList = 36 :: tl ∧ tl.getD 0 0 ≠ 36 := by
     rcases HH.out with h | h
     ·rw [hb] at h; cases h
     ·exact h
    have HRE := hid (HREFE.out tl hq1 htl)
    have HRF := hid (HREF.out W2 q1 tl hq1 (by have := HDL.out; omega) HR1.out HG1.out)
    have HQ1 : Hid (q1.size = tl.length + 1) := hid (by rw [← len13, hq1, List.length_cons])
    clear hb hq1 htl HREFE HEND
    cases hrf : rfA (d + 1) tl with
    | bad er =>
     have hne : (er != 0) = true := bne_iff_ne.2 (by rcases rfA_bad hrf with e | e <;> rw [e] <;> decide)
     rw [hrf] at HRE HRF
     clear hrf
     go_wp2_with first | (go_at_call 52; refine HE.out.mono ?_; rintro e w9 ⟨rfl, rfl⟩) | (go_at_call 53; refine HRF.out.mono ?_; rintro e W3 ⟨q3, r3, g3, rfl⟩; have HR3 := hid r3; have HG3 := hid (HG1.out.trans g3); clear r3 g3)
     try simp only [Exit.jump]
     go_ret2
     rw [HRE.out]
     exact ⟨q3, HR3.out.below ((Below.refl _ _).alloc (Nat.le_refl _) _), HG3.out.trans (World.grownBy_alloc _ _ _), rfl⟩
    | good p r =>
     have HRL := hid (rfA_good hrf)
     rw [hrf] at HRE HRF
     clear hrf
     have hdl : dn.length ≤ 100000 := by have := HDL.out; omega
     have HBS : Hid (w.heap.size ≤ W2.heap.size) := hid HG1.out.size
     obtain ⟨qs2, hqs2⟩ := HP1.out
     have HQS2 := hid hqs2
     obtain ⟨k, hk⟩ : ∃ k, k = dn.length := ⟨_, rfl⟩
     have HKK := hid hk
     rw [← hk] at hdl
     clear hqs2 hk
     go_wp2_with first
      | (go_at_call 52; refine HE.out.mono ?_; rintro e w9 ⟨rfl, rfl⟩)
      | (go_at_call 53; refine HRF.out.mono ?_; rintro e W3 ⟨q3, r3, g3, c0, c1, c2, c3, rfl, hpc, hq3⟩; obtain ⟨N9, T9, o9, A9, n9, k9, rfl, rfl, rfl, rfl⟩ := hpc.shape; have HQ3 := hid hq3; have HPC := hid hpc; have hP3 := (PtN.grown ⟨qs2, HQS2.out⟩ HG.out g3 : PtN 73 w W3 v3 dn); have hP4 := hP3.below ((Below.refl _ _).alloc (Nat.le_refl _) (.cells #[.string N9, .string T9, .int .i64 o9, .slice A9 n9 k9] 73)); have hR4 := r3.below ((Below.refl _ _).alloc (Nat.le_refl _) (.cells #[.string N9, .string T9, .int .i64 o9, .slice A9 n9 k9] 73)); have hG4 := (HG1.out.trans g3).trans (World.grownBy_alloc W3 (.cells #[.string N9, .string T9, .int .i64 o9, .slice A9 n9 k9] 73) (some g)); have HR4 := hid hR4; have HG4 := hid hG4; have HS3 : Hid (W2.heap.size ≤ W3.heap.size) := hid g3.size; have hbs4 := hG4.size; obtain ⟨qs4, hqs4⟩ := hP4; have HQS4 := hid hqs4; have HOW4 : Hid ((W3.alloc (.cells #[.string N9, .string T9, .int .i64 o9, .slice A9 n9 k9] 73)).ownsRow w.heap.size 73 4 v3 k (flatQ qs4)) := hid (by rw [HKK.out]; exact hqs4.1); obtain ⟨y0, y1, y2, y3⟩ := (RowT.make W3 73 (.string N9) (.string T9) (.int .i64 o9) (.slice A9 n9 k9)).cells; have hbs5 : w.heap.size ≤ W3.heap.size := Nat.le_trans HBS.out g3.size; clear r3 g3 hpc hq3 hP3 hR4 hG4 hqs4)
      | (refine wpList_append_own_at _ rfl _ _ 49 rfl w.heap.size 73 i0 _ 4 64 Tryz.underlying49 hi hz0 hz1 hz2 rfl (by decide) v3 _ (flatQ qs4) rfl (HOW4.out.alloc _) ⟨(W3.alloc (.cells #[.string N9, .string T9, .int .i64 o9, .slice A9 n9 k9] 73)).heap.size, 0, none⟩ 1 1 [.string N9, .string T9, .int .i64 o9, .slice A9 n9 k9] (by simp [go_sem]) rfl (news13 _ _ _) (four13 _ _ _ _ _ _) (by unfold maxLen; omega) (by omega) (by simp; omega) ?_; intro v5 W5 ho5 hg5 _ hl5)
     have hpq : PtQ (Mine w ((W3.alloc (.cells #[.string N9, .string T9, .int .i64 o9, .slice A9 n9 k9] 73)).alloc (.cells #[.string N9, .string T9, .int .i64 o9, .slice A9 n9 k9] 73)) v3) ((W3.alloc (.cells #[.string N9, .string T9, .int .i64 o9, .slice A9 n9 k9] 73)).alloc (.cells #[.string N9, .string T9, .int .i64 o9, .slice A9 n9 k9] 73)) p ⟨.string N9, .string T9, .int .i64 o9, .slice A9 n9 k9⟩ := PtC.keep (fun b hb => ⟨⟨by have h1 := hb.1; have h2 := HBS.out; omega, by have h1 := hb.2; simp; omega, fun e => by have h1 := (HQS2.out.1.lt b e).2; have h2 := hb.1; omega⟩, (Below.heap_alloc _ _ b (by have h1 := hb.2; simp; omega)).trans (Below.heap_alloc _ _ b hb.2)⟩) _ HPC.out
     have hR5 := PtN.app2 HQS4.out hpq (by rw [← HKK.out]; exact ho5) hg5 hl5
     have hE := app_else (base := 0) HOW4.out HG.out HR4.out HG4.out hg5
     have HR5 := hid hR5
     have HE5 := hid hE
     clear hpq hR5 hE ho5 hg5 hl5 hbs4 hbs5 hdl y0 y1 y2 y3
     go_wp2
     go_step3
     refine ⟨rfl, HK.out _ _ ⟨v5, dn ++ [p], q3, _, _, _, _, _, _, _, _, _, _, _, _, _, _, _, _, _, _, _, _, _, _, _, _, _, _, _, _, _, _, _, _, rfl, HR5.out, HE5.out.1, HE5.out.2, by rw [HQ3.out]; exact HRE.out.symm, ?_⟩ ?_⟩
     ·rw [List.length_append]; have h1 := HDL.out; have h2 := HRL.out; have h3 := HQ1.out; have h4 : q3.size = r.length := by rw [← len13, HQ3.out]
      have h5 : [p].length = 1 := rfl
      omega
     ·show RdM g _ < RdM g _
      rw [rdM_of HE5.out.1, HM.out]
      have h1 := HQL.out; have h2 := HRL.out; have h3 := HQ1.out; have h4 : q3.size = r.length := by rw [← len13, HQ3.out]
      omega
theorem parts_of : ∀ n, PartsOf n
 | 0 => fun s d g W h => absurd h (Nat.not_lt_zero _)
 | n + 1 => fun s d g W h hs hd hR hO => readParts_step n (parts_of n) s d g W (by omega) hs hd hR hO
theorem Parse13_any (s : ByteArray) (w : World) (hO : Ops8 w) (hs : s.size ≤ 100000) : Calls Tryz.prog 22 #[.string s] w (GivesP (prsT s.data.toList) w) := by
 have hb : Below w.heap.size w (w.alloc (.cells #[.string s] 65)) := (Below.refl _ _).alloc (Nat.le_refl _) _
 have hR : RdB (w.alloc (.cells #[.string s] 65)) w.heap.size s := by
  show (w.heap.push _)[w.heap.size]? = _
  simp
 have hP := parts_of (s.size + 1) s 0 w.heap.size _ (Nat.lt_succ_self _) hs (by decide) hR (hO.keep hb)
 have HBG : Hid (∀ W', (w.alloc (.cells #[.string s] 65)).grownBy W' (some w.heap.size) → Below w.heap.size w W') := hid (fun W' hg => hb.grown hg hb.size fun k hk => by injection hk with hk; omega)
 have HS1 : Hid (w.heap.size ≤ (w.alloc (.cells #[.string s] 65)).heap.size) := hid hb.size
 have hE : prsT s.data.toList = prsA (0 + 1) [] [] s.data.toList := rfl
 rw [hE]
 cases hpr : prsA (0 + 1) [] [] s.data.toList with
 | err er =>
  rw [hpr] at hP
  have HP := hid hP
  clear hP hR hb hO hs hE hpr
  go_enter Tryz.func22, Tryz.ntmps22
  go_wp2_with (go_at_call 37; refine HP.out.mono ?_; rintro e W1 ⟨q, r1, g1, rfl⟩; have HB := hid (HBG.out _ g1); clear r1 g1)
  go_ret2
  exact ⟨_, rfl, ptL_nil _ _, HB.out⟩
 | ok ps rest =>
  rw [hpr] at hP
  have HP := hid hP
  clear hP hR hb hO hs hE hpr
  go_enter Tryz.func22, Tryz.ntmps22
  go_wp2_with (go_at_call 37; refine HP.out.mono ?_; rintro e W1 ⟨q, r1, g1, v, rfl, hv, -⟩; have HB := hid (HBG.out _ g1); have HV := hid hv; clear r1 g1 hv)
  go_ret2
  exact ⟨_, rfl, HV.out.more fun b hb => hb.2, HB.out⟩
end
end Go.Proofs.YtkcilmmaggmmoaaGreatDoor
