/- LawSub3 -/
import Derived.Below
import Derived.BigQuiet
import Derived.ChangeAlike
import Derived.Deep.CutRange
import Derived.Deep.LoopGhost
import Derived.Deep.QuietTactic
import Derived.Deep.RegionHeld3
import Derived.Deep.RegionLaw
import Derived.IntWalk
import Derived.Laws.AppendOwnNone
import Derived.Lib.BufferMore
import Derived.Lib.OwnBridge
import Derived.Lib.SliceRun
import Derived.Maps.AppendAt
import Derived.ProofKit
import Derived.RegionTactic
import Derived.StillTailTactics
import Derived.Test.YtkcilmmaggmmoaaDoorGT11
import Derived.Test.YtkcilmmaggmmoaaDoorGT2
import Derived.Test.YtkcilmmaggmmoaaDoorGT20
import Derived.Test.YtkcilmmaggmmoaaDoorGT23
import Derived.Test.YtkcilmmaggmmoaaDoorGT30
import Derived.Test.YtkcilmmaggmmoaaDoorGT32
import Derived.Test.YtkcilmmaggmmoaaDoorGT4
import Derived.Test.YtkcilmmaggmmoaaDoorGT5
import Derived.WalkKit
set_option linter.unusedVariables false
set_option linter.unusedSimpArgs false
set_option maxRecDepth 100000
set_option maxHeartbeats 16000000
open Go.Lib (hid)
namespace Go.Proofs.YtkcilmmaggmmoaaDoor
namespace Nw
end Nw
namespace S14
end S14
namespace V12
end V12
end Go.Proofs.YtkcilmmaggmmoaaDoor
namespace Go.Proofs.YtkcilmmaggmmoaaDoor
section
open Go.RowKit Go.Sort
open Nw V12 S14
theorem out_steps (ns : List L8) (more : List KV) (i : Nat) (h : i < more.length) : (more.take (i + 1)).filter (fun p => !decide (p.1 ∈ ns)) = (more.take i).filter (fun p => !decide (p.1 ∈ ns)) ++ (if (more[i]'h).1 ∈ ns then [] else [more[i]'h]) := by
 rw [List.take_succ_eq_append_getElem h, List.filter_append]
 by_cases hk : (more[i]'h).1 ∈ ns
 ·rw [if_pos hk, List.filter_cons_of_neg (by rw [decide_eq_true hk]; decide), List.filter_nil]
 ·rw [if_neg hk, List.filter_cons_of_pos (by rw [decide_eq_false hk]; rfl), List.filter_nil]
theorem in_steps (ns : List L8) (x : List KV) (i : Nat) (h : i < x.length) : (x.take (i + 1)).filter (fun p => decide (p.1 ∈ ns)) = (x.take i).filter (fun p => decide (p.1 ∈ ns)) ++ (if (x[i]'h).1 ∈ ns then [x[i]'h] else []) := by
 rw [List.take_succ_eq_append_getElem h, List.filter_append]
 by_cases hk : (x[i]'h).1 ∈ ns
 ·rw [if_pos hk, List.filter_cons_of_pos (p := fun p : KV => decide (p.1 ∈ ns)) (by exact decide_eq_true hk), List.filter_nil]
 ·rw [if_neg hk, List.filter_cons_of_neg (by rw [decide_eq_false hk]; decide), List.filter_nil]
def oneV (ns : List L8) (more : List KV) (i : Nat) : List KV := (more.take i).filter fun p => !decide (p.1 ∈ ns)
def twoV14 (ns : List L8) (more x : List KV) (i : Nat) : List KV := oneV ns more more.length ++ (x.take i).filter fun p => decide (p.1 ∈ ns)
theorem one_len (ns : List L8) (more : List KV) (i : Nat) : (oneV ns more i).length ≤ more.length := by
 unfold oneV
 refine Nat.le_trans (List.length_filter_le _ _) ?_
 rw [List.length_take]; omega
theorem two_len (ns : List L8) (more x : List KV) (i : Nat) : (twoV14 ns more x i).length ≤ more.length + x.length := by
 unfold twoV14
 rw [List.length_append]
 have h1 := one_len ns more more.length
 have h2 := List.length_filter_le (fun p : KV => decide (p.1 ∈ ns)) (x.take i)
 rw [List.length_take] at h2
 omega
theorem two_all (ns : List L8) (more x : List KV) : twoV14 ns more x x.length = otherV ns more x := by
 unfold twoV14 oneV otherV
 rw [List.take_length, List.take_length]
theorem vr_at {w : World} {v : Value} {l : List KV} {A : Option Addr} {n c : Nat} (h : VR w (.slice A n c) l) (i : Nat) (hi : i < l.length) : ∃ b o, A = some ⟨b, o, none⟩ ∧ w.cell? ⟨b, o + i * 2, none⟩ = some (.string (ba (l[i]'hi).1)) ∧ w.cell? ⟨b, o + i * 2 + 1, none⟩ = some (.string (ba (l[i]'hi).2)) := by
 obtain ⟨a, cap, h0, h1, h2, h3⟩ := h
 injection h0 with h0 _ _
 subst h0
 rcases h3 with ⟨rfl, _⟩ | ⟨b, o, rfl, h4, h5⟩
 ·exact absurd hi (Nat.not_lt_zero _)
 ·exact ⟨b, o, rfl, (h5 i hi).1, (h5 i hi).2⟩
theorem two_oneS (a b : ByteArray) : ∀ u ∈ [Value.string a, .string b], u.oneCell' = true := by
 intro u hu
 simp only [List.mem_cons, List.not_mem_nil, or_false] at hu
 rcases hu with rfl | rfl <;> rfl
theorem sayL_short {E : Env} {ps : List T13.Pt} {t : L8} (h : sayL E [] ps = .ok t) : t.length ≤ 8192 := sayL_ok_len ps [] t (Nat.zero_le _) h
section
variable (Pw : World → Prop) (hPw : ∀ w w', Pw w → Below w.heap.size w w' → Pw w')
variable (HText : ∀ (s : ByteArray) (v : Value) (x : List KV) (W : World), Pw W → s.size ≤ 100000 → VR W v x → EnvS x → Calls Tryd.prog 8 #[.string s, v] W fun e w' => e = .returned (SayO (sayX (lastV x) s.data.toList)) ∧ Below W.heap.size W w')
variable (HParse : ∀ (s : ByteArray) (W : World), Pw W → s.size ≤ 100000 → Calls Tryd.prog 10 #[.string s] W (GivesP (T13.prsT s.data.toList) W))
variable (HTText : ∀ (v : Value) (ps : List T13.Pt) (q : ByteArray) (W : World), Pw W → PtW W v ps → T13.WfL 1 ps → T13.cntL ps ≤ 100000 → q.size ≤ 100000 → q.data.toList = T13.txtL ps → Calls Tryd.prog 15 #[v] W fun e w' => e = .returned (.string q) ∧ Below W.heap.size W w')
variable (HTNames : ∀ (v : Value) (ps : List T13.Pt) (W : World), Pw W → PtW W v ps → T13.WfL 1 ps → T13.cntL ps ≤ 100000 → Calls Tryd.prog 13 #[v] W fun e w' => ∃ v', e = .returned v' ∧ Rd w' v' (sortL (T13.namL ps)) ∧ Below W.heap.size W w')
variable (HExpand : ∀ (p v : Value) (ps : List T13.Pt) (x : List KV) (W : World), Pw W → PtW W p ps → T13.WfL 1 ps → (T13.txtL ps).length ≤ 100000 → VR W v x → EnvS x → Calls Tryd.prog 11 #[p, v] W fun e w' => e = .returned (SayO (sayL (lastV x) [] ps)) ∧ Below W.heap.size W w')
include hPw HText HParse HTText HTNames HExpand
theorem SubstAgree_walk (s t : ByteArray) (l m : List KV) (v u : Value) (w : World) (hw : Pw w) (hs : s.size ≤ maxLen) (ht : t.size ≤ maxLen) (hl : VR w v l) (okl : KVok l) (hm : VR w u m) (okm : KVok m) : Calls Tryd.prog 4 #[.string s, .string t, v, u] w fun e w' => e = .returned (.bool true) ∧ Below w.heap.size w w' := by
 obtain ⟨i0, hi, hz0, hz1, hz2⟩ := infoV
 have HAW := hid (fun W hW => Awake14 Pw hPw HText W hW)
 have HW := hid hw
 have HP := hid hPw
 have F1 := Few12_any v l 20 w hl okl
 have F2 := Few12_any u m 20 w hm okm
 unfold maxLen at hs ht
 by_cases h1 : (400 : Int) < (s.size : Int)
 ·clear HText HParse HTText HTNames HExpand hw hPw F1 F2
  go_enter Tryd.func4, Tryd.ntmps4
  go_wp2_with (go_at_call 6; refine (HAW.out _ HW.out).mono ?_; rintro e w1 ⟨rfl, b1⟩)
  go_ret
  exact ⟨rfl, b1⟩
 by_cases h2 : (400 : Int) < (t.size : Int)
 ·clear HText HParse HTText HTNames HExpand hw hPw F1 F2
  go_enter Tryd.func4, Tryd.ntmps4
  go_wp2_with (go_at_call 6; refine (HAW.out _ HW.out).mono ?_; rintro e w1 ⟨rfl, b1⟩)
  go_ret
  exact ⟨rfl, b1⟩
 by_cases hf1 : ¬ fewV l 20
 ·rw [decide_eq_false hf1] at F1
  have F1 := hid F1
  clear HText HParse HTText HTNames HExpand hw hPw F2
  go_enter Tryd.func4, Tryd.ntmps4
  go_wp2_with first
   | (go_at_call 5; refine F1.out.mono ?_; rintro e w1 ⟨rfl, rfl⟩)
   | (go_at_call 6; refine (HAW.out _ HW.out).mono ?_; rintro e w1 ⟨rfl, b1⟩)
  go_ret
  exact ⟨rfl, b1⟩
 replace hf1 : fewV l 20 := Classical.not_not.1 hf1
 rw [decide_eq_true hf1] at F1
 replace F1 := hid F1
 by_cases hf2 : ¬ fewV m 20
 ·rw [decide_eq_false hf2] at F2
  have F2 := hid F2
  clear HText HParse HTText HTNames HExpand hw hPw hl hm
  go_enter Tryd.func4, Tryd.ntmps4
  go_wp2_with first
   | (go_at_call 5; (with_reducible refine F1.out.mono ?_); rintro e w1 ⟨rfl, rfl⟩)
   | (go_at_call 5; (with_reducible refine F2.out.mono ?_); rintro e w1 ⟨rfl, rfl⟩)
   | (go_at_call 6; refine (HAW.out _ HW.out).mono ?_; rintro e w1 ⟨rfl, b1⟩)
  go_ret
  exact ⟨rfl, b1⟩
 replace hf2 : fewV m 20 := Classical.not_not.1 hf2
 rw [decide_eq_true hf2] at F2
 replace F2 := hid F2
 have hs1 : s.size ≤ 400 := by omega
 have ht1 : t.size ≤ 400 := by omega
 have CPs := hid (fun (W : World) (h : Pw W) => HParse s W h (by omega))
 have CPt := hid (fun (W : World) (h : Pw W) => HParse t W h (by omega))
 cases hR1 : T13.prsT s.data.toList with
 | err er =>
  have hne : (er != 0) = true := bne_iff_ne.2 (T13.prsT_err hR1)
  rw [hR1] at CPs
  replace CPs : Hid (∀ (W : World), Pw W → Calls Tryd.prog 10 #[.string s] W fun e w' => ∃ p, e = .returned (.tuple #[p, .int .i64 er]) ∧ Below W.heap.size W w') := hid (fun W h => (CPs.out W h).mono fun e w' h => ⟨_, h.choose_spec.1, h.choose_spec.2.2⟩)
  have HQT : Hid (∃ b : Int, ∀ (W : World), Pw W → Calls Tryd.prog 10 #[.string t] W fun e w' => ∃ p, e = .returned (.tuple #[p, .int .i64 b]) ∧ Below W.heap.size W w') := hid (by
   cases hR2 : T13.prsT t.data.toList with
   | err e2 => rw [hR2] at CPt; exact ⟨e2, fun W h => (CPt.out W h).mono fun e w' h => ⟨_, h.choose_spec.1, h.choose_spec.2.2⟩⟩
   | ok ps r => rw [hR2] at CPt; exact ⟨0, fun W h => (CPt.out W h).mono fun e w' h => ⟨_, h.choose_spec.1, h.choose_spec.2.2⟩⟩)
  obtain ⟨b, hb⟩ := HQT.out
  have CPb := hid hb
  clear HText HParse HTText HTNames HExpand hw hPw hl hm hR1 CPt HQT hb
  go_enter Tryd.func4, Tryd.ntmps4
  go_wp2_with first
   | (go_at_call 5; (with_reducible refine F1.out.mono ?_); rintro e w1 ⟨rfl, rfl⟩)
   | (go_at_call 5; (with_reducible refine F2.out.mono ?_); rintro e w1 ⟨rfl, rfl⟩)
   | (go_at_call 10; (with_reducible refine (CPs.out _ HW.out).mono ?_); rintro e w3 ⟨p3, rfl, b3⟩; have BB := hid b3; have HW3 := hid (HP.out _ _ HW.out b3); clear b3)
   | (go_at_call 10; (with_reducible refine (CPb.out _ HW3.out).mono ?_); rintro e w4 ⟨p4, rfl, b4⟩; have BB4 := hid (BB.out.trans (b4.mono BB.out.size)); have HW4 := hid (HP.out _ _ HW3.out b4); clear b4)
   | (go_at_call 6; refine (HAW.out _ HW4.out).mono ?_; rintro e w1 ⟨rfl, b1⟩; have BB5 := hid (BB4.out.trans (b1.mono BB4.out.size)); clear b1)
  go_ret
  exact ⟨rfl, BB5.out⟩
 | ok psl r1 =>
 rw [hR1] at CPs
 replace CPs : Hid (∀ (W : World), Pw W → Calls Tryd.prog 10 #[.string s] W fun e w' => ∃ p, e = .returned (.tuple #[p, .int .i64 0]) ∧ PtW w' p psl ∧ Below W.heap.size W w') := CPs
 cases hR2 : T13.prsT t.data.toList with
 | err er =>
  have hne : (er != 0) = true := bne_iff_ne.2 (T13.prsT_err hR2)
  rw [hR2] at CPt
  replace CPt : Hid (∀ (W : World), Pw W → Calls Tryd.prog 10 #[.string t] W fun e w' => ∃ p, e = .returned (.tuple #[p, .int .i64 er]) ∧ Below W.heap.size W w') := hid (fun W h => (CPt.out W h).mono fun e w' h => ⟨_, h.choose_spec.1, h.choose_spec.2.2⟩)
  clear HText HParse HTText HTNames HExpand hw hPw hl hm hR1 hR2
  go_enter Tryd.func4, Tryd.ntmps4
  go_wp2_with first
   | (go_at_call 5; (with_reducible refine F1.out.mono ?_); rintro e w1 ⟨rfl, rfl⟩)
   | (go_at_call 5; (with_reducible refine F2.out.mono ?_); rintro e w1 ⟨rfl, rfl⟩)
   | (go_at_call 10; (with_reducible refine (CPs.out _ HW.out).mono ?_); rintro e w3 ⟨p3, rfl, -, b3⟩; have BB := hid b3; have HW3 := hid (HP.out _ _ HW.out b3); clear b3)
   | (go_at_call 10; (with_reducible refine (CPt.out _ HW3.out).mono ?_); rintro e w4 ⟨p4, rfl, b4⟩; have BB4 := hid (BB.out.trans (b4.mono BB.out.size)); have HW4 := hid (HP.out _ _ HW3.out b4); clear b4)
   | (go_at_call 6; refine (HAW.out _ HW4.out).mono ?_; rintro e w1 ⟨rfl, b1⟩; have BB5 := hid (BB4.out.trans (b1.mono BB4.out.size)); clear b1)
  go_ret
  exact ⟨rfl, BB5.out⟩
 | ok psm r2 =>
 rw [hR2] at CPt
 replace CPt : Hid (∀ (W : World), Pw W → Calls Tryd.prog 10 #[.string t] W fun e w' => ∃ p, e = .returned (.tuple #[p, .int .i64 0]) ∧ PtW w' p psm ∧ Below W.heap.size W w') := CPt
 obtain ⟨hwl, hcl⟩ := T13.prsT_wf hR1
 obtain ⟨hwm, -⟩ := T13.prsT_wf hR2
 have hzl := T13.prsT_size hR1
 have hzm := T13.prsT_size hR2
 rw [show s.data.toList.length = s.size from rfl] at hzl
 rw [show t.data.toList.length = t.size from rfl] at hzm
 have hcnl := T13.cntL_le psl 1 hwl
 have hcnm := T13.cntL_le psm 1 hwm
 obtain ⟨Rr, hRr, hRt⟩ := T13.both_txt hwl hwm
 have HOF := hid (fun (W : World) (hv : VR W v l) => ROf_any v l W hv (fun p hp => (okl p hp).1) (by have := hf1.1; omega))
 have hES := of_s hf1.2
 have hxl : (ofV l).length ≤ 20 := Nat.le_trans (of_len l).2 (by have := hf1.1; omega)
 have hml : m.length ≤ 20 := by have := hf2.1; omega
 obtain ⟨x, hx⟩ : ∃ x, ofV l = x := ⟨_, rfl⟩
 rw [hx] at HOF hES hxl
 obtain ⟨NS, hNS⟩ : ∃ NS, sortL (T13.namL psl) = NS := ⟨_, rfl⟩
 have hag := agree_say (more := m) (a := x) hwl (by omega)
 rw [hNS] at hag
 have hoK : ∀ p ∈ otherV NS m x, p.1.length ≤ 100 ∧ p.2.length ≤ 100 := fun p hp => (other_mem hp).elim (fun h => hf2.2 p h) (fun h => hES.2.2 p h)
 have hol : (otherV NS m x).length ≤ 40 := Nat.le_trans (other_len NS m x) (by omega)
 have hES2 := of_s hoK
 have HOT := hid (fun (q : Value) (W : World) (hv : VR W q (otherV NS m x)) => ROf_any q (otherV NS m x) W hv (fun p hp => by have := (hoK p hp).1; unfold maxLen; omega) (by omega))
 obtain ⟨y, hy⟩ : ∃ y, ofV (otherV NS m x) = y := ⟨_, rfl⟩
 rw [hy] at HOT hES2 hag
 obtain ⟨Ql, hQl⟩ : ∃ q : ByteArray, q.data.toList = T13.txtL psl := ⟨ba _, ba_data _⟩
 obtain ⟨Qm, hQm⟩ : ∃ q : ByteArray, q.data.toList = T13.txtL psm := ⟨ba _, ba_data _⟩
 have hql : Ql.size ≤ 1000 := by rw [← len_eq13, hQl]; omega
 have hqm : Qm.size ≤ 1000 := by rw [← len_eq13, hQm]; omega
 obtain ⟨QQ, hQQ⟩ : ∃ QQ : ByteArray, Ql ++ Qm = QQ := ⟨_, rfl⟩
 have hQQl : QQ.data.toList = T13.txtL psl ++ T13.txtL psm := by rw [← hQQ, data_app13, hQl, hQm]
 have hQQs : QQ.size ≤ 2000 := by rw [← len_eq13, hQQl, List.length_append, ← hQl, ← hQm, len_eq13, len_eq13]; omega
 have CNM := hid (fun (p : Value) (W : World) (h : Pw W) (hp : PtW W p psl) => HTNames p psl W h hp hwl (by omega))
 rw [hNS] at CNM
 have CTl := hid (fun (p : Value) (W : World) (h : Pw W) (hp : PtW W p psl) => HTText p psl Ql W h hp hwl (by omega) (by omega) hQl)
 have CTm := hid (fun (p : Value) (W : World) (h : Pw W) (hp : PtW W p psm) => HTText p psm Qm W h hp hwm (by omega) (by omega) hQm)
 have CE1 := hid (fun (p q : Value) (W : World) (h : Pw W) (hp : PtW W p psl) (hv : VR W q x) => HExpand p q psl x W h hp hwl (by omega) hv hES)
 have CE2 := hid (fun (p q : Value) (W : World) (h : Pw W) (hp : PtW W p psl) (hv : VR W q y) => HExpand p q psl y W h hp hwl (by omega) hv hES2)
 have CE3 := hid (fun (p q : Value) (W : World) (h : Pw W) (hp : PtW W p psm) (hv : VR W q x) => HExpand p q psm x W h hp hwm (by omega) hv hES)
 have CT3 := hid (fun (q : Value) (W : World) (h : Pw W) (hv : VR W q x) => HText QQ q x W h (by omega) hv hES)
 have hX3 : sayX (lastV x) QQ.data.toList = thenL (lastV x) (sayL (lastV x) [] psl) psm := by
  unfold sayX
  rw [hQQl, hRr]
  exact say_both hwl hcl hwm hRr
 rw [hX3] at CT3
 rw [hag] at CE2
 have HM := hid hm
 have HL := hid hl
 obtain ⟨A3, cp3, hu, hc3, hm3, -⟩ := id hm
 unfold maxLen at hm3
 subst hu
 obtain ⟨n3, hn3⟩ : ∃ n3, m.length = n3 := ⟨_, rfl⟩
 have HN3 := hid hn3
 obtain ⟨n2, hn2⟩ : ∃ n2, x.length = n2 := ⟨_, rfl⟩
 have HN2 := hid hn2
 rw [hn3] at hc3 HM hml F2 ⊢
 rw [hn2] at hxl
 clear HText HParse HTText HTNames HExpand hw hPw hl hm hR1 hR2 hwl hcl hwm hzl hzm hcnl hcnm hRr hRt hx hNS hag hoK hol hES2 hy hQl hQm hQQl hQQs hX3 hES okl okm hf1 hf2 hs1 ht1 hn3 hn2
 cases hR : sayL (lastV x) [] psl with
 | err e1 k1 y1 =>
  rw [hR] at CE1 CE2 CT3
  have hne1 : (e1 != 0) = true := bne_iff_ne.2 (sayL_ne psl [] hR)
  have hee := int_self e1
  have hee2 : (e1 != e1) = false := by unfold bne; rw [hee]; rfl
  obtain ⟨Z, iz, hZ⟩ : ∃ (Z : ByteArray) (iz : Int), SayO (sayL (lastV x) [] psm) = .tuple #[.string Z, .int .i64 iz] := by cases sayL (lastV x) [] psm <;> exact ⟨_, _, rfl⟩
  rw [hZ] at CE3
  replace CE1 : Hid (∀ (p q : Value) (W : World), Pw W → PtW W p psl → VR W q x → Calls Tryd.prog 11 #[p, q] W fun e w' => e = .returned (.tuple #[.string ⟨#[]⟩, .int .i64 e1]) ∧ Below W.heap.size W w') := CE1
  replace CE2 : Hid (∀ (p q : Value) (W : World), Pw W → PtW W p psl → VR W q y → Calls Tryd.prog 11 #[p, q] W fun e w' => e = .returned (.tuple #[.string ⟨#[]⟩, .int .i64 e1]) ∧ Below W.heap.size W w') := CE2
  replace CT3 : Hid (∀ (q : Value) (W : World), Pw W → VR W q x → Calls Tryd.prog 8 #[.string QQ, q] W fun e w' => e = .returned (.tuple #[.string ⟨#[]⟩, .int .i64 e1]) ∧ Below W.heap.size W w') := CT3
  clear hR hZ
  go_enter Tryd.func4, Tryd.ntmps4
  go_wp2_with first
   | (go_at_call 5; (with_reducible refine F1.out.mono ?_); rintro e w1 ⟨rfl, rfl⟩)
   | (go_at_call 5; (with_reducible refine F2.out.mono ?_); rintro e w1 ⟨rfl, rfl⟩)
   | (go_at_call 10; (with_reducible refine (CPs.out _ HW.out).mono ?_); rintro e w3 ⟨p3, rfl, hp3, b3⟩; have HPL := hid hp3; have BB := hid b3; replace HW := hid (HP.out _ _ HW.out b3); replace HM := hid (HM.out.below b3); replace HL := hid (HL.out.below b3); clear hp3 b3)
   | (go_at_call 10; (with_reducible refine (CPt.out _ HW.out).mono ?_); rintro e w4 ⟨p4, rfl, hp4, b4⟩; have HPM := hid hp4; replace HPL := hid (PtW.below HPL.out b4); replace BB := hid (BB.out.trans (b4.mono BB.out.size)); replace HW := hid (HP.out _ _ HW.out b4); replace HM := hid (HM.out.below b4); replace HL := hid (HL.out.below b4); clear hp4 b4)
   | (go_at_call 7; refine (HOF.out _ HL.out).mono ?_; rintro e w5 ⟨v5, rfl, hv5, b5⟩; have HX := hid hv5; replace HPM := hid (PtW.below HPM.out b5); replace HPL := hid (PtW.below HPL.out b5); replace BB := hid (BB.out.trans (b5.mono BB.out.size)); replace HW := hid (HP.out _ _ HW.out b5); replace HM := hid (HM.out.below b5); clear hv5 b5)
   | (go_at_call 13; refine (CNM.out _ _ HW.out HPL.out).mono ?_; rintro e w6 ⟨v6, rfl, hv6, b6⟩; have HNS := hid hv6; replace HX := hid (HX.out.below b6); replace HPM := hid (PtW.below HPM.out b6); replace HPL := hid (PtW.below HPL.out b6); replace BB := hid (BB.out.trans (b6.mono BB.out.size)); replace HW := hid (HP.out _ _ HW.out b6); replace HM := hid (HM.out.below b6); clear hv6 b6)
  obtain ⟨A5, cp5, hv5, hc5, hm5, -⟩ := id HX.out
  unfold maxLen at hm5
  rw [HN2.out] at hv5 hc5
  subst hv5
  have HRD6 := hid (show World.ownsRow w6 w6.heap.size 43 2 (.slice none 0 0) 0 (cellsV (oneV NS m 0)) from ⟨rfl, .inl ⟨rfl, rfl⟩⟩)
  go_loopw [15, 16] (fun s15 si wr => ∃ (i k : Nat), i ≤ n3 ∧ si = .int .i64 (i : Int) ∧ k ≤ 40 ∧ Hid (wr.ownsRow w6.heap.size 43 2 s15 k (cellsV (oneV NS m i))) ∧ Hid (Below w6.heap.size w6 wr)) (fun _ si _ => n3 - (intOf si).toNat)
  case atStart => exact ⟨0, 0, Nat.zero_le _, rfl, Nat.zero_le _, HRD6, hid (Below.refl _ _)⟩
  case round =>
   clear HRD6
   obtain ⟨i, k, hi3, rfl, hk40, HO, HB⟩ := hrel
   by_cases hlt : i < n3
   ·have hil : i < m.length := by rw [HN3.out]; exact hlt
    have hiz : (i : Int) < (n3 : Int) := by omega
    have hic : (i : Int) < (cp3 : Int) := by omega
    obtain ⟨vb, vo, hA, q0, q1⟩ := vr_at (v := .bool false) (HM.out.below HB.out) i hil
    have hst := out_steps NS m i hil
    have hIN := RIn_any v6 NS (ba (m[i]'hil).1) wr (HNS.out.below HB.out)
    rw [ba_data] at hIN
    have hcel : cellsV [m[i]'hil] = [.string (ba (m[i]'hil).1), .string (ba (m[i]'hil).2)] := rfl
    have hbs := HB.out.size
    subst hA
    by_cases hin : (m[i]'hil).1 ∈ NS
    ·have HST : Hid (oneV NS m (i + 1) = oneV NS m i) := hid (by unfold oneV; rw [hst, if_pos hin, List.append_nil])
     rw [decide_eq_true hin] at hIN
     have HIN := hid hIN
     generalize ba (m[i]'hil).1 = Kq at q0 HIN
     generalize ba (m[i]'hil).2 = Vq at q1
     clear hst hIN hcel hin
     go_wp2_with (go_at_call 14; refine HIN.out.mono ?_; rintro e w7 ⟨rfl, rfl⟩)
     go_roundw
     case rel => exact ⟨i + 1, k, by omega, by go_num, hk40, by rw [HST.out]; exact HO, HB⟩
     case measure => simp [intOf]; omega
    ·have hnew : cellsV (oneV NS m (i + 1)) = cellsV (oneV NS m i) ++ [.string (ba (m[i]'hil).1), .string (ba (m[i]'hil).2)] := by
      rw [← hcel, ← cellsV_app]
      congr 1
      unfold oneV
      rw [hst, if_neg hin]
     have hkl : k + 1 ≤ 40 := by
      have h1 := HO.out.1
      rw [cellsV_len] at h1
      have h2 : (oneV NS m (i + 1)).length ≤ 40 := Nat.le_trans (one_len NS m (i + 1)) (by rw [HN3.out]; omega)
      have h3 := congrArg List.length hnew
      rw [List.length_append, cellsV_len, cellsV_len] at h3
      simp only [List.length_cons, List.length_nil] at h3
      omega
     rw [decide_eq_false hin] at hIN
     have HIN := hid hIN
     have HNEW := hid hnew
     generalize ba (m[i]'hil).1 = Kq at q0 HIN HNEW
     generalize ba (m[i]'hil).2 = Vq at q1 HNEW
     obtain ⟨YS, hYS⟩ : ∃ YS, cellsV (oneV NS m i) = YS := ⟨_, rfl⟩
     rw [hYS] at HO HNEW
     clear hst hIN hcel hin hnew hYS
     go_wp2_with first
      | (go_at_call 14; refine HIN.out.mono ?_; rintro e w7 ⟨rfl, rfl⟩)
      | (at_builtin; refine wpList_append_own_at _ rfl _ _ 22 rfl w6.heap.size 43 i0 _ 2 32 Tryd.underlying22 hi hz0 hz1 hz2 rfl (by decide) u15 k YS rfl (HO.out.alloc _) _ 1 1 [.string Kq, .string Vq] rfl rfl (news_blk #[.string Kq, .string Vq] (alloc_at _ _)) (two_oneS _ _) (by unfold maxLen; omega) (by omega) (by simp; omega) ?_; intro s9 W9 ho9 hg9 hn9 hk9; have HB9 := hid (((HB.out.alloc HB.out.size _).grown hg9 (by simp; omega) fun q hq => (HO.out.lt q hq).1) : Below w6.heap.size w6 W9); have HO9 := hid ho9; clear ho9 hg9 hn9 hk9)
     go_roundw
     case rel => exact ⟨i + 1, k + 1, by omega, by go_num, hkl, by rw [HNEW.out]; exact HO9, HB9⟩
     case measure => simp [intOf]; omega
   ·obtain rfl : i = n3 := by omega
    have HO1 : Hid (wr.ownsRow w6.heap.size 43 2 u15 k (cellsV (twoV14 NS m x 0))) := hid (by have h1 := HO.out; unfold twoV14; rw [List.take_zero, List.filter_nil, List.append_nil, HN3.out]; exact h1)
    have HB1 := HB
    obtain ⟨k0, hk0e⟩ : ∃ k0, k = k0 := ⟨_, rfl⟩
    rw [hk0e] at HO1 hk40
    have hk0 : k0 ≤ 40 := hk40
    clear hk0e HO HB
    go_wp2
    go_loopw [15, 17] (fun s15 si wr => ∃ (i k : Nat), i ≤ n2 ∧ si = .int .i64 (i : Int) ∧ k ≤ 40 ∧ Hid (wr.ownsRow w6.heap.size 43 2 s15 k (cellsV (twoV14 NS m x i))) ∧ Hid (Below w6.heap.size w6 wr)) (fun _ si _ => n2 - (intOf si).toNat)
    case atStart => exact ⟨0, k0, Nat.zero_le _, rfl, hk0, HO1, HB1⟩
    case round =>
     clear HO1 HB1
     obtain ⟨i, k, hi3, rfl, hk40, HO, HB⟩ := hrel
     by_cases hlt : i < n2
     ·have hil : i < x.length := by rw [HN2.out]; exact hlt
      have hiz : (i : Int) < (n2 : Int) := by omega
      have hic : (i : Int) < (cp5 : Int) := by omega
      obtain ⟨vb, vo, hA, q0, q1⟩ := vr_at (v := .bool false) (HX.out.below HB.out) i hil
      have hst := in_steps NS x i hil
      have hIN := RIn_any v6 NS (ba (x[i]'hil).1) wr (HNS.out.below HB.out)
      rw [ba_data] at hIN
      have hcel : cellsV [x[i]'hil] = [.string (ba (x[i]'hil).1), .string (ba (x[i]'hil).2)] := rfl
      have hbs := HB.out.size
      subst hA
      by_cases hin : (x[i]'hil).1 ∈ NS
      ·have hnew : cellsV (twoV14 NS m x (i + 1)) = cellsV (twoV14 NS m x i) ++ [.string (ba (x[i]'hil).1), .string (ba (x[i]'hil).2)] := by
        rw [← hcel, ← cellsV_app]
        congr 1
        unfold twoV14
        rw [hst, if_pos hin, List.append_assoc]
       have hkl : k + 1 ≤ 40 := by
        have h1 := HO.out.1
        rw [cellsV_len] at h1
        have h2 : (twoV14 NS m x (i + 1)).length ≤ 40 := Nat.le_trans (two_len NS m x (i + 1)) (by rw [HN3.out]; rw [HN2.out]; omega)
        have h3 := congrArg List.length hnew
        rw [List.length_append, cellsV_len, cellsV_len] at h3
        simp only [List.length_cons, List.length_nil] at h3
        omega
       rw [decide_eq_true hin] at hIN
       have HIN := hid hIN
       have HNEW := hid hnew
       generalize ba (x[i]'hil).1 = Kq at q0 HIN HNEW
       generalize ba (x[i]'hil).2 = Vq at q1 HNEW
       obtain ⟨YS, hYS⟩ : ∃ YS, cellsV (twoV14 NS m x i) = YS := ⟨_, rfl⟩
       rw [hYS] at HO HNEW
       clear hst hIN hcel hin hnew hYS
       go_wp2_with first
        | (go_at_call 14; refine HIN.out.mono ?_; rintro e w7 ⟨rfl, rfl⟩)
        | (at_builtin; refine wpList_append_own_at _ rfl _ _ 22 rfl w6.heap.size 43 i0 _ 2 32 Tryd.underlying22 hi hz0 hz1 hz2 rfl (by decide) u15 k YS rfl (HO.out.alloc _) _ 1 1 [.string Kq, .string Vq] rfl rfl (news_blk #[.string Kq, .string Vq] (alloc_at _ _)) (two_oneS _ _) (by unfold maxLen; omega) (by omega) (by simp; omega) ?_; intro s9 W9 ho9 hg9 hn9 hk9; have HB9 := hid (((HB.out.alloc HB.out.size _).grown hg9 (by simp; omega) fun q hq => (HO.out.lt q hq).1) : Below w6.heap.size w6 W9); have HO9 := hid ho9; clear ho9 hg9 hn9 hk9)
       go_roundw
       case rel => exact ⟨i + 1, k + 1, by omega, by go_num, hkl, by rw [HNEW.out]; exact HO9, HB9⟩
       case measure => simp [intOf]; omega
      ·have HST : Hid (twoV14 NS m x (i + 1) = twoV14 NS m x i) := hid (by unfold twoV14; rw [hst, if_neg hin, List.append_nil])
       rw [decide_eq_false hin] at hIN
       have HIN := hid hIN
       generalize ba (x[i]'hil).1 = Kq at q0 HIN
       generalize ba (x[i]'hil).2 = Vq at q1
       clear hst hIN hcel hin
       go_wp2_with (go_at_call 14; refine HIN.out.mono ?_; rintro e w7 ⟨rfl, rfl⟩)
       go_roundw
       case rel => exact ⟨i + 1, k, by omega, by go_num, hk40, by rw [HST.out]; exact HO, HB⟩
       case measure => simp [intOf]; omega
     ·obtain rfl : i = n2 := by omega
      have hvo := vr_of_owns HO.out
      have HVO : Hid (VR wr u15 (otherV NS m x)) := hid (by have h1 := hvo.1; rw [← HN2.out, two_all] at h1; exact h1)
      replace HPM := hid (PtW.below HPM.out HB.out)
      replace HPL := hid (PtW.below HPL.out HB.out)
      replace HX := hid (HX.out.below HB.out)
      replace HW := hid (HP.out _ _ HW.out HB.out)
      replace BB := hid (BB.out.trans (Below.mono HB.out BB.out.size))
      clear hvo HO HB
      go_wp2_with first
       | (go_at_call 7; refine (HOT.out _ _ HVO.out).mono ?_; rintro e wa ⟨va, rfl, hva, ba1⟩; have HY := hid hva; replace HPM := hid (PtW.below HPM.out ba1); replace HPL := hid (PtW.below HPL.out ba1); replace HX := hid (HX.out.below ba1); replace BB := hid (BB.out.trans (Below.mono ba1 BB.out.size)); replace HW := hid (HP.out _ _ HW.out ba1); clear hva ba1)
       | (go_at_call 11; (with_reducible refine (CE1.out _ _ _ HW.out HPL.out HX.out).mono ?_); rintro e wb ⟨rfl, bb1⟩; replace HY := hid (HY.out.below bb1); replace HPM := hid (PtW.below HPM.out bb1); replace HPL := hid (PtW.below HPL.out bb1); replace HX := hid (HX.out.below bb1); replace BB := hid (BB.out.trans (Below.mono bb1 BB.out.size)); replace HW := hid (HP.out _ _ HW.out bb1); clear bb1)
       | (go_at_call 11; (with_reducible refine (CE2.out _ _ _ HW.out HPL.out HY.out).mono ?_); rintro e wc ⟨rfl, bc1⟩; replace HY := hid (HY.out.below bc1); replace HPM := hid (PtW.below HPM.out bc1); replace HPL := hid (PtW.below HPL.out bc1); replace HX := hid (HX.out.below bc1); replace BB := hid (BB.out.trans (Below.mono bc1 BB.out.size)); replace HW := hid (HP.out _ _ HW.out bc1); clear bc1)
       | (go_at_call 11; (with_reducible refine (CE3.out _ _ _ HW.out HPM.out HX.out).mono ?_); rintro e wd ⟨rfl, bd1⟩; replace HPM := hid (PtW.below HPM.out bd1); replace HPL := hid (PtW.below HPL.out bd1); replace HX := hid (HX.out.below bd1); replace BB := hid (BB.out.trans (Below.mono bd1 BB.out.size)); replace HW := hid (HP.out _ _ HW.out bd1); clear bd1)
       | (go_at_call 15; (with_reducible refine (CTl.out _ _ HW.out HPL.out).mono ?_); rintro e we ⟨rfl, be1⟩; replace HPM := hid (PtW.below HPM.out be1); replace HPL := hid (PtW.below HPL.out be1); replace HX := hid (HX.out.below be1); replace BB := hid (BB.out.trans (Below.mono be1 BB.out.size)); replace HW := hid (HP.out _ _ HW.out be1); clear be1)
       | (go_at_call 15; (with_reducible refine (CTm.out _ _ HW.out HPM.out).mono ?_); rintro e wf ⟨rfl, bf1⟩; replace HPM := hid (PtW.below HPM.out bf1); replace HPL := hid (PtW.below HPL.out bf1); replace HX := hid (HX.out.below bf1); replace BB := hid (BB.out.trans (Below.mono bf1 BB.out.size)); replace HW := hid (HP.out _ _ HW.out bf1); clear bf1)
       | (go_at_call 8; refine (CT3.out _ _ HW.out HX.out).mono ?_; rintro e wg ⟨rfl, bg1⟩; replace HPM := hid (PtW.below HPM.out bg1); replace HPL := hid (PtW.below HPL.out bg1); replace HX := hid (HX.out.below bg1); replace BB := hid (BB.out.trans (Below.mono bg1 BB.out.size)); replace HW := hid (HP.out _ _ HW.out bg1); clear bg1)
       | (go_at_call 6; refine (HAW.out _ HW.out).mono ?_; rintro e wh ⟨rfl, bh1⟩; replace BB := hid (BB.out.trans (Below.mono bh1 BB.out.size)); clear bh1)
      go_ret
      exact ⟨by simp, BB.out⟩
 | ok T1 =>
  have hT1 := sayL_short hR
  rw [hR] at CE1 CE2 CT3
  have CT3 : Hid (∀ (q : Value) (W : World), Pw W → VR W q x → Calls Tryd.prog 8 #[.string QQ, q] W fun e w' => e = .returned (SayO (sayL (lastV x) T1 psm)) ∧ Below W.heap.size W w') := CT3
  obtain ⟨X1, hX1⟩ : ∃ X1, ba T1 = X1 := ⟨_, rfl⟩
  have hX1l : X1.data.toList = T1 := by rw [← hX1, ba_data]
  have hX1s : X1.size ≤ 8192 := by rw [← len_eq13, hX1l]; exact hT1
  replace CE1 : Hid (∀ (p q : Value) (W : World), Pw W → PtW W p psl → VR W q x → Calls Tryd.prog 11 #[p, q] W fun e w' => e = .returned (.tuple #[.string X1, .int .i64 0]) ∧ Below W.heap.size W w') := hid (by rw [← hX1]; exact CE1.out)
  replace CE2 : Hid (∀ (p q : Value) (W : World), Pw W → PtW W p psl → VR W q y → Calls Tryd.prog 11 #[p, q] W fun e w' => e = .returned (.tuple #[.string X1, .int .i64 0]) ∧ Below W.heap.size W w') := hid (by rw [← hX1]; exact CE2.out)
  have hss := str_self X1
  have hss2 : (X1.toList != X1.toList) = false := by unfold bne; rw [hss]; rfl
  have hso := sayL_out (E := lastV x) psm T1 []
  cases hR3 : sayL (lastV x) [] psm with
  | err e2 k2 y2 =>
   have h3 := hso.2.2 e2 k2 y2 (Nat.zero_le _) hR3
   rw [hR3] at CE3
   replace CE3 : Hid (∀ (p q : Value) (W : World), Pw W → PtW W p psm → VR W q x → Calls Tryd.prog 11 #[p, q] W fun e w' => e = .returned (.tuple #[.string ⟨#[]⟩, .int .i64 e2]) ∧ Below W.heap.size W w') := CE3
   have h29 := sayL_err psm [] hR3
   rcases h3 with h3 | h3
   ·rw [h3] at CT3
    replace CT3 : Hid (∀ (q : Value) (W : World), Pw W → VR W q x → Calls Tryd.prog 8 #[.string QQ, q] W fun e w' => e = .returned (.tuple #[.string ⟨#[]⟩, .int .i64 e2]) ∧ Below W.heap.size W w') := CT3
    have hne2 : (e2 != 0) = true := bne_iff_ne.2 (by omega)
    have hee := int_self e2
    clear hR hR3 h3 hso h29 hX1 hX1l hT1
    go_enter Tryd.func4, Tryd.ntmps4
    go_wp2_with first
     | (go_at_call 5; (with_reducible refine F1.out.mono ?_); rintro e w1 ⟨rfl, rfl⟩)
     | (go_at_call 5; (with_reducible refine F2.out.mono ?_); rintro e w1 ⟨rfl, rfl⟩)
     | (go_at_call 10; (with_reducible refine (CPs.out _ HW.out).mono ?_); rintro e w3 ⟨p3, rfl, hp3, b3⟩; have HPL := hid hp3; have BB := hid b3; replace HW := hid (HP.out _ _ HW.out b3); replace HM := hid (HM.out.below b3); replace HL := hid (HL.out.below b3); clear hp3 b3)
     | (go_at_call 10; (with_reducible refine (CPt.out _ HW.out).mono ?_); rintro e w4 ⟨p4, rfl, hp4, b4⟩; have HPM := hid hp4; replace HPL := hid (PtW.below HPL.out b4); replace BB := hid (BB.out.trans (b4.mono BB.out.size)); replace HW := hid (HP.out _ _ HW.out b4); replace HM := hid (HM.out.below b4); replace HL := hid (HL.out.below b4); clear hp4 b4)
     | (go_at_call 7; refine (HOF.out _ HL.out).mono ?_; rintro e w5 ⟨v5, rfl, hv5, b5⟩; have HX := hid hv5; replace HPM := hid (PtW.below HPM.out b5); replace HPL := hid (PtW.below HPL.out b5); replace BB := hid (BB.out.trans (b5.mono BB.out.size)); replace HW := hid (HP.out _ _ HW.out b5); replace HM := hid (HM.out.below b5); clear hv5 b5)
     | (go_at_call 13; refine (CNM.out _ _ HW.out HPL.out).mono ?_; rintro e w6 ⟨v6, rfl, hv6, b6⟩; have HNS := hid hv6; replace HX := hid (HX.out.below b6); replace HPM := hid (PtW.below HPM.out b6); replace HPL := hid (PtW.below HPL.out b6); replace BB := hid (BB.out.trans (b6.mono BB.out.size)); replace HW := hid (HP.out _ _ HW.out b6); replace HM := hid (HM.out.below b6); clear hv6 b6)
    obtain ⟨A5, cp5, hv5, hc5, hm5, -⟩ := id HX.out
    unfold maxLen at hm5
    rw [HN2.out] at hv5 hc5
    subst hv5
    have HRD6 := hid (show World.ownsRow w6 w6.heap.size 43 2 (.slice none 0 0) 0 (cellsV (oneV NS m 0)) from ⟨rfl, .inl ⟨rfl, rfl⟩⟩)
    go_loopw [15, 16] (fun s15 si wr => ∃ (i k : Nat), i ≤ n3 ∧ si = .int .i64 (i : Int) ∧ k ≤ 40 ∧ Hid (wr.ownsRow w6.heap.size 43 2 s15 k (cellsV (oneV NS m i))) ∧ Hid (Below w6.heap.size w6 wr)) (fun _ si _ => n3 - (intOf si).toNat)
    case atStart => exact ⟨0, 0, Nat.zero_le _, rfl, Nat.zero_le _, HRD6, hid (Below.refl _ _)⟩
    case round =>
     clear HRD6
     obtain ⟨i, k, hi3, rfl, hk40, HO, HB⟩ := hrel
     by_cases hlt : i < n3
     ·have hil : i < m.length := by rw [HN3.out]; exact hlt
      have hiz : (i : Int) < (n3 : Int) := by omega
      have hic : (i : Int) < (cp3 : Int) := by omega
      obtain ⟨vb, vo, hA, q0, q1⟩ := vr_at (v := .bool false) (HM.out.below HB.out) i hil
      have hst := out_steps NS m i hil
      have hIN := RIn_any v6 NS (ba (m[i]'hil).1) wr (HNS.out.below HB.out)
      rw [ba_data] at hIN
      have hcel : cellsV [m[i]'hil] = [.string (ba (m[i]'hil).1), .string (ba (m[i]'hil).2)] := rfl
      have hbs := HB.out.size
      subst hA
      by_cases hin : (m[i]'hil).1 ∈ NS
      ·have HST : Hid (oneV NS m (i + 1) = oneV NS m i) := hid (by unfold oneV; rw [hst, if_pos hin, List.append_nil])
       rw [decide_eq_true hin] at hIN
       have HIN := hid hIN
       generalize ba (m[i]'hil).1 = Kq at q0 HIN
       generalize ba (m[i]'hil).2 = Vq at q1
       clear hst hIN hcel hin
       go_wp2_with (go_at_call 14; refine HIN.out.mono ?_; rintro e w7 ⟨rfl, rfl⟩)
       go_roundw
       case rel => exact ⟨i + 1, k, by omega, by go_num, hk40, by rw [HST.out]; exact HO, HB⟩
       case measure => simp [intOf]; omega
      ·have hnew : cellsV (oneV NS m (i + 1)) = cellsV (oneV NS m i) ++ [.string (ba (m[i]'hil).1), .string (ba (m[i]'hil).2)] := by
        rw [← hcel, ← cellsV_app]
        congr 1
        unfold oneV
        rw [hst, if_neg hin]
       have hkl : k + 1 ≤ 40 := by
        have h1 := HO.out.1
        rw [cellsV_len] at h1
        have h2 : (oneV NS m (i + 1)).length ≤ 40 := Nat.le_trans (one_len NS m (i + 1)) (by rw [HN3.out]; omega)
        have h3 := congrArg List.length hnew
        rw [List.length_append, cellsV_len, cellsV_len] at h3
        simp only [List.length_cons, List.length_nil] at h3
        omega
       rw [decide_eq_false hin] at hIN
       have HIN := hid hIN
       have HNEW := hid hnew
       generalize ba (m[i]'hil).1 = Kq at q0 HIN HNEW
       generalize ba (m[i]'hil).2 = Vq at q1 HNEW
       obtain ⟨YS, hYS⟩ : ∃ YS, cellsV (oneV NS m i) = YS := ⟨_, rfl⟩
       rw [hYS] at HO HNEW
       clear hst hIN hcel hin hnew hYS
       go_wp2_with first
        | (go_at_call 14; refine HIN.out.mono ?_; rintro e w7 ⟨rfl, rfl⟩)
        | (at_builtin; refine wpList_append_own_at _ rfl _ _ 22 rfl w6.heap.size 43 i0 _ 2 32 Tryd.underlying22 hi hz0 hz1 hz2 rfl (by decide) u15 k YS rfl (HO.out.alloc _) _ 1 1 [.string Kq, .string Vq] rfl rfl (news_blk #[.string Kq, .string Vq] (alloc_at _ _)) (two_oneS _ _) (by unfold maxLen; omega) (by omega) (by simp; omega) ?_; intro s9 W9 ho9 hg9 hn9 hk9; have HB9 := hid (((HB.out.alloc HB.out.size _).grown hg9 (by simp; omega) fun q hq => (HO.out.lt q hq).1) : Below w6.heap.size w6 W9); have HO9 := hid ho9; clear ho9 hg9 hn9 hk9)
       go_roundw
       case rel => exact ⟨i + 1, k + 1, by omega, by go_num, hkl, by rw [HNEW.out]; exact HO9, HB9⟩
       case measure => simp [intOf]; omega
     ·obtain rfl : i = n3 := by omega
      have HO1 : Hid (wr.ownsRow w6.heap.size 43 2 u15 k (cellsV (twoV14 NS m x 0))) := hid (by have h1 := HO.out; unfold twoV14; rw [List.take_zero, List.filter_nil, List.append_nil, HN3.out]; exact h1)
      have HB1 := HB
      obtain ⟨k0, hk0e⟩ : ∃ k0, k = k0 := ⟨_, rfl⟩
      rw [hk0e] at HO1 hk40
      have hk0 : k0 ≤ 40 := hk40
      clear hk0e HO HB
      go_wp2
      go_loopw [15, 17] (fun s15 si wr => ∃ (i k : Nat), i ≤ n2 ∧ si = .int .i64 (i : Int) ∧ k ≤ 40 ∧ Hid (wr.ownsRow w6.heap.size 43 2 s15 k (cellsV (twoV14 NS m x i))) ∧ Hid (Below w6.heap.size w6 wr)) (fun _ si _ => n2 - (intOf si).toNat)
      case atStart => exact ⟨0, k0, Nat.zero_le _, rfl, hk0, HO1, HB1⟩
      case round =>
       clear HO1 HB1
       obtain ⟨i, k, hi3, rfl, hk40, HO, HB⟩ := hrel
       by_cases hlt : i < n2
       ·have hil : i < x.length := by rw [HN2.out]; exact hlt
        have hiz : (i : Int) < (n2 : Int) := by omega
        have hic : (i : Int) < (cp5 : Int) := by omega
        obtain ⟨vb, vo, hA, q0, q1⟩ := vr_at (v := .bool false) (HX.out.below HB.out) i hil
        have hst := in_steps NS x i hil
        have hIN := RIn_any v6 NS (ba (x[i]'hil).1) wr (HNS.out.below HB.out)
        rw [ba_data] at hIN
        have hcel : cellsV [x[i]'hil] = [.string (ba (x[i]'hil).1), .string (ba (x[i]'hil).2)] := rfl
        have hbs := HB.out.size
        subst hA
        by_cases hin : (x[i]'hil).1 ∈ NS
        ·have hnew : cellsV (twoV14 NS m x (i + 1)) = cellsV (twoV14 NS m x i) ++ [.string (ba (x[i]'hil).1), .string (ba (x[i]'hil).2)] := by
          rw [← hcel, ← cellsV_app]
          congr 1
          unfold twoV14
          rw [hst, if_pos hin, List.append_assoc]
         have hkl : k + 1 ≤ 40 := by
          have h1 := HO.out.1
          rw [cellsV_len] at h1
          have h2 : (twoV14 NS m x (i + 1)).length ≤ 40 := Nat.le_trans (two_len NS m x (i + 1)) (by rw [HN3.out]; rw [HN2.out]; omega)
          have h3 := congrArg List.length hnew
          rw [List.length_append, cellsV_len, cellsV_len] at h3
          simp only [List.length_cons, List.length_nil] at h3
          omega
         rw [decide_eq_true hin] at hIN
         have HIN := hid hIN
         have HNEW := hid hnew
         generalize ba (x[i]'hil).1 = Kq at q0 HIN HNEW
         generalize ba (x[i]'hil).2 = Vq at q1 HNEW
         obtain ⟨YS, hYS⟩ : ∃ YS, cellsV (twoV14 NS m x i) = YS := ⟨_, rfl⟩
         rw [hYS] at HO HNEW
         clear hst hIN hcel hin hnew hYS
         go_wp2_with first
          | (go_at_call 14; refine HIN.out.mono ?_; rintro e w7 ⟨rfl, rfl⟩)
          | (at_builtin; refine wpList_append_own_at _ rfl _ _ 22 rfl w6.heap.size 43 i0 _ 2 32 Tryd.underlying22 hi hz0 hz1 hz2 rfl (by decide) u15 k YS rfl (HO.out.alloc _) _ 1 1 [.string Kq, .string Vq] rfl rfl (news_blk #[.string Kq, .string Vq] (alloc_at _ _)) (two_oneS _ _) (by unfold maxLen; omega) (by omega) (by simp; omega) ?_; intro s9 W9 ho9 hg9 hn9 hk9; have HB9 := hid (((HB.out.alloc HB.out.size _).grown hg9 (by simp; omega) fun q hq => (HO.out.lt q hq).1) : Below w6.heap.size w6 W9); have HO9 := hid ho9; clear ho9 hg9 hn9 hk9)
         go_roundw
         case rel => exact ⟨i + 1, k + 1, by omega, by go_num, hkl, by rw [HNEW.out]; exact HO9, HB9⟩
         case measure => simp [intOf]; omega
        ·have HST : Hid (twoV14 NS m x (i + 1) = twoV14 NS m x i) := hid (by unfold twoV14; rw [hst, if_neg hin, List.append_nil])
         rw [decide_eq_false hin] at hIN
         have HIN := hid hIN
         generalize ba (x[i]'hil).1 = Kq at q0 HIN
         generalize ba (x[i]'hil).2 = Vq at q1
         clear hst hIN hcel hin
         go_wp2_with (go_at_call 14; refine HIN.out.mono ?_; rintro e w7 ⟨rfl, rfl⟩)
         go_roundw
         case rel => exact ⟨i + 1, k, by omega, by go_num, hk40, by rw [HST.out]; exact HO, HB⟩
         case measure => simp [intOf]; omega
       ·obtain rfl : i = n2 := by omega
        have hvo := vr_of_owns HO.out
        have HVO : Hid (VR wr u15 (otherV NS m x)) := hid (by have h1 := hvo.1; rw [← HN2.out, two_all] at h1; exact h1)
        replace HPM := hid (PtW.below HPM.out HB.out)
        replace HPL := hid (PtW.below HPL.out HB.out)
        replace HX := hid (HX.out.below HB.out)
        replace HW := hid (HP.out _ _ HW.out HB.out)
        replace BB := hid (BB.out.trans (Below.mono HB.out BB.out.size))
        clear hvo HO HB
        go_wp2_with first
         | (go_at_call 7; refine (HOT.out _ _ HVO.out).mono ?_; rintro e wa ⟨va, rfl, hva, ba1⟩; have HY := hid hva; replace HPM := hid (PtW.below HPM.out ba1); replace HPL := hid (PtW.below HPL.out ba1); replace HX := hid (HX.out.below ba1); replace BB := hid (BB.out.trans (Below.mono ba1 BB.out.size)); replace HW := hid (HP.out _ _ HW.out ba1); clear hva ba1)
         | (go_at_call 11; (with_reducible refine (CE1.out _ _ _ HW.out HPL.out HX.out).mono ?_); rintro e wb ⟨rfl, bb1⟩; replace HY := hid (HY.out.below bb1); replace HPM := hid (PtW.below HPM.out bb1); replace HPL := hid (PtW.below HPL.out bb1); replace HX := hid (HX.out.below bb1); replace BB := hid (BB.out.trans (Below.mono bb1 BB.out.size)); replace HW := hid (HP.out _ _ HW.out bb1); clear bb1)
         | (go_at_call 11; (with_reducible refine (CE2.out _ _ _ HW.out HPL.out HY.out).mono ?_); rintro e wc ⟨rfl, bc1⟩; replace HY := hid (HY.out.below bc1); replace HPM := hid (PtW.below HPM.out bc1); replace HPL := hid (PtW.below HPL.out bc1); replace HX := hid (HX.out.below bc1); replace BB := hid (BB.out.trans (Below.mono bc1 BB.out.size)); replace HW := hid (HP.out _ _ HW.out bc1); clear bc1)
         | (go_at_call 11; (with_reducible refine (CE3.out _ _ _ HW.out HPM.out HX.out).mono ?_); rintro e wd ⟨rfl, bd1⟩; replace HPM := hid (PtW.below HPM.out bd1); replace HPL := hid (PtW.below HPL.out bd1); replace HX := hid (HX.out.below bd1); replace BB := hid (BB.out.trans (Below.mono bd1 BB.out.size)); replace HW := hid (HP.out _ _ HW.out bd1); clear bd1)
         | (go_at_call 15; (with_reducible refine (CTl.out _ _ HW.out HPL.out).mono ?_); rintro e we ⟨rfl, be1⟩; replace HPM := hid (PtW.below HPM.out be1); replace HPL := hid (PtW.below HPL.out be1); replace HX := hid (HX.out.below be1); replace BB := hid (BB.out.trans (Below.mono be1 BB.out.size)); replace HW := hid (HP.out _ _ HW.out be1); clear be1)
         | (go_at_call 15; (with_reducible refine (CTm.out _ _ HW.out HPM.out).mono ?_); rintro e wf ⟨rfl, bf1⟩; replace HPM := hid (PtW.below HPM.out bf1); replace HPL := hid (PtW.below HPL.out bf1); replace HX := hid (HX.out.below bf1); replace BB := hid (BB.out.trans (Below.mono bf1 BB.out.size)); replace HW := hid (HP.out _ _ HW.out bf1); clear bf1)
         | (go_at_call 8; refine (CT3.out _ _ HW.out HX.out).mono ?_; rintro e wg ⟨rfl, bg1⟩; replace HPM := hid (PtW.below HPM.out bg1); replace HPL := hid (PtW.below HPL.out bg1); replace HX := hid (HX.out.below bg1); replace BB := hid (BB.out.trans (Below.mono bg1 BB.out.size)); replace HW := hid (HP.out _ _ HW.out bg1); clear bg1)
         | (go_at_call 6; refine (HAW.out _ HW.out).mono ?_; rintro e wh ⟨rfl, bh1⟩; replace BB := hid (BB.out.trans (Below.mono bh1 BB.out.size)); clear bh1)
        go_ret
        exact ⟨by simp, BB.out⟩
   ·rw [h3] at CT3
    replace CT3 : Hid (∀ (q : Value) (W : World), Pw W → VR W q x → Calls Tryd.prog 8 #[.string QQ, q] W fun e w' => e = .returned (.tuple #[.string ⟨#[]⟩, .int .i64 9]) ∧ Below W.heap.size W w') := CT3
    clear hR hR3 h3 hso hX1 hX1l hT1
    rcases h29 with rfl | rfl
    ·go_enter Tryd.func4, Tryd.ntmps4
     go_wp2_with first
      | (go_at_call 5; (with_reducible refine F1.out.mono ?_); rintro e w1 ⟨rfl, rfl⟩)
      | (go_at_call 5; (with_reducible refine F2.out.mono ?_); rintro e w1 ⟨rfl, rfl⟩)
      | (go_at_call 10; (with_reducible refine (CPs.out _ HW.out).mono ?_); rintro e w3 ⟨p3, rfl, hp3, b3⟩; have HPL := hid hp3; have BB := hid b3; replace HW := hid (HP.out _ _ HW.out b3); replace HM := hid (HM.out.below b3); replace HL := hid (HL.out.below b3); clear hp3 b3)
      | (go_at_call 10; (with_reducible refine (CPt.out _ HW.out).mono ?_); rintro e w4 ⟨p4, rfl, hp4, b4⟩; have HPM := hid hp4; replace HPL := hid (PtW.below HPL.out b4); replace BB := hid (BB.out.trans (b4.mono BB.out.size)); replace HW := hid (HP.out _ _ HW.out b4); replace HM := hid (HM.out.below b4); replace HL := hid (HL.out.below b4); clear hp4 b4)
      | (go_at_call 7; refine (HOF.out _ HL.out).mono ?_; rintro e w5 ⟨v5, rfl, hv5, b5⟩; have HX := hid hv5; replace HPM := hid (PtW.below HPM.out b5); replace HPL := hid (PtW.below HPL.out b5); replace BB := hid (BB.out.trans (b5.mono BB.out.size)); replace HW := hid (HP.out _ _ HW.out b5); replace HM := hid (HM.out.below b5); clear hv5 b5)
      | (go_at_call 13; refine (CNM.out _ _ HW.out HPL.out).mono ?_; rintro e w6 ⟨v6, rfl, hv6, b6⟩; have HNS := hid hv6; replace HX := hid (HX.out.below b6); replace HPM := hid (PtW.below HPM.out b6); replace HPL := hid (PtW.below HPL.out b6); replace BB := hid (BB.out.trans (b6.mono BB.out.size)); replace HW := hid (HP.out _ _ HW.out b6); replace HM := hid (HM.out.below b6); clear hv6 b6)
     obtain ⟨A5, cp5, hv5, hc5, hm5, -⟩ := id HX.out
     unfold maxLen at hm5
     rw [HN2.out] at hv5 hc5
     subst hv5
     have HRD6 := hid (show World.ownsRow w6 w6.heap.size 43 2 (.slice none 0 0) 0 (cellsV (oneV NS m 0)) from ⟨rfl, .inl ⟨rfl, rfl⟩⟩)
     go_loopw [15, 16] (fun s15 si wr => ∃ (i k : Nat), i ≤ n3 ∧ si = .int .i64 (i : Int) ∧ k ≤ 40 ∧ Hid (wr.ownsRow w6.heap.size 43 2 s15 k (cellsV (oneV NS m i))) ∧ Hid (Below w6.heap.size w6 wr)) (fun _ si _ => n3 - (intOf si).toNat)
     case atStart => exact ⟨0, 0, Nat.zero_le _, rfl, Nat.zero_le _, HRD6, hid (Below.refl _ _)⟩
     case round =>
      clear HRD6
      obtain ⟨i, k, hi3, rfl, hk40, HO, HB⟩ := hrel
      by_cases hlt : i < n3
      ·have hil : i < m.length := by rw [HN3.out]; exact hlt
       have hiz : (i : Int) < (n3 : Int) := by omega
       have hic : (i : Int) < (cp3 : Int) := by omega
       obtain ⟨vb, vo, hA, q0, q1⟩ := vr_at (v := .bool false) (HM.out.below HB.out) i hil
       have hst := out_steps NS m i hil
       have hIN := RIn_any v6 NS (ba (m[i]'hil).1) wr (HNS.out.below HB.out)
       rw [ba_data] at hIN
       have hcel : cellsV [m[i]'hil] = [.string (ba (m[i]'hil).1), .string (ba (m[i]'hil).2)] := rfl
       have hbs := HB.out.size
       subst hA
       by_cases hin : (m[i]'hil).1 ∈ NS
       ·have HST : Hid (oneV NS m (i + 1) = oneV NS m i) := hid (by unfold oneV; rw [hst, if_pos hin, List.append_nil])
        rw [decide_eq_true hin] at hIN
        have HIN := hid hIN
        generalize ba (m[i]'hil).1 = Kq at q0 HIN
        generalize ba (m[i]'hil).2 = Vq at q1
        clear hst hIN hcel hin
        go_wp2_with (go_at_call 14; refine HIN.out.mono ?_; rintro e w7 ⟨rfl, rfl⟩)
        go_roundw
        case rel => exact ⟨i + 1, k, by omega, by go_num, hk40, by rw [HST.out]; exact HO, HB⟩
        case measure => simp [intOf]; omega
       ·have hnew : cellsV (oneV NS m (i + 1)) = cellsV (oneV NS m i) ++ [.string (ba (m[i]'hil).1), .string (ba (m[i]'hil).2)] := by
         rw [← hcel, ← cellsV_app]
         congr 1
         unfold oneV
         rw [hst, if_neg hin]
        have hkl : k + 1 ≤ 40 := by
         have h1 := HO.out.1
         rw [cellsV_len] at h1
         have h2 : (oneV NS m (i + 1)).length ≤ 40 := Nat.le_trans (one_len NS m (i + 1)) (by rw [HN3.out]; omega)
         have h3 := congrArg List.length hnew
         rw [List.length_append, cellsV_len, cellsV_len] at h3
         simp only [List.length_cons, List.length_nil] at h3
         omega
        rw [decide_eq_false hin] at hIN
        have HIN := hid hIN
        have HNEW := hid hnew
        generalize ba (m[i]'hil).1 = Kq at q0 HIN HNEW
        generalize ba (m[i]'hil).2 = Vq at q1 HNEW
        obtain ⟨YS, hYS⟩ : ∃ YS, cellsV (oneV NS m i) = YS := ⟨_, rfl⟩
        rw [hYS] at HO HNEW
        clear hst hIN hcel hin hnew hYS
        go_wp2_with first
         | (go_at_call 14; refine HIN.out.mono ?_; rintro e w7 ⟨rfl, rfl⟩)
         | (at_builtin; refine wpList_append_own_at _ rfl _ _ 22 rfl w6.heap.size 43 i0 _ 2 32 Tryd.underlying22 hi hz0 hz1 hz2 rfl (by decide) u15 k YS rfl (HO.out.alloc _) _ 1 1 [.string Kq, .string Vq] rfl rfl (news_blk #[.string Kq, .string Vq] (alloc_at _ _)) (two_oneS _ _) (by unfold maxLen; omega) (by omega) (by simp; omega) ?_; intro s9 W9 ho9 hg9 hn9 hk9; have HB9 := hid (((HB.out.alloc HB.out.size _).grown hg9 (by simp; omega) fun q hq => (HO.out.lt q hq).1) : Below w6.heap.size w6 W9); have HO9 := hid ho9; clear ho9 hg9 hn9 hk9)
        go_roundw
        case rel => exact ⟨i + 1, k + 1, by omega, by go_num, hkl, by rw [HNEW.out]; exact HO9, HB9⟩
        case measure => simp [intOf]; omega
      ·obtain rfl : i = n3 := by omega
       have HO1 : Hid (wr.ownsRow w6.heap.size 43 2 u15 k (cellsV (twoV14 NS m x 0))) := hid (by have h1 := HO.out; unfold twoV14; rw [List.take_zero, List.filter_nil, List.append_nil, HN3.out]; exact h1)
       have HB1 := HB
       obtain ⟨k0, hk0e⟩ : ∃ k0, k = k0 := ⟨_, rfl⟩
       rw [hk0e] at HO1 hk40
       have hk0 : k0 ≤ 40 := hk40
       clear hk0e HO HB
       go_wp2
       go_loopw [15, 17] (fun s15 si wr => ∃ (i k : Nat), i ≤ n2 ∧ si = .int .i64 (i : Int) ∧ k ≤ 40 ∧ Hid (wr.ownsRow w6.heap.size 43 2 s15 k (cellsV (twoV14 NS m x i))) ∧ Hid (Below w6.heap.size w6 wr)) (fun _ si _ => n2 - (intOf si).toNat)
       case atStart => exact ⟨0, k0, Nat.zero_le _, rfl, hk0, HO1, HB1⟩
       case round =>
        clear HO1 HB1
        obtain ⟨i, k, hi3, rfl, hk40, HO, HB⟩ := hrel
        by_cases hlt : i < n2
        ·have hil : i < x.length := by rw [HN2.out]; exact hlt
         have hiz : (i : Int) < (n2 : Int) := by omega
         have hic : (i : Int) < (cp5 : Int) := by omega
         obtain ⟨vb, vo, hA, q0, q1⟩ := vr_at (v := .bool false) (HX.out.below HB.out) i hil
         have hst := in_steps NS x i hil
         have hIN := RIn_any v6 NS (ba (x[i]'hil).1) wr (HNS.out.below HB.out)
         rw [ba_data] at hIN
         have hcel : cellsV [x[i]'hil] = [.string (ba (x[i]'hil).1), .string (ba (x[i]'hil).2)] := rfl
         have hbs := HB.out.size
         subst hA
         by_cases hin : (x[i]'hil).1 ∈ NS
         ·have hnew : cellsV (twoV14 NS m x (i + 1)) = cellsV (twoV14 NS m x i) ++ [.string (ba (x[i]'hil).1), .string (ba (x[i]'hil).2)] := by
           rw [← hcel, ← cellsV_app]
           congr 1
           unfold twoV14
           rw [hst, if_pos hin, List.append_assoc]
          have hkl : k + 1 ≤ 40 := by
           have h1 := HO.out.1
           rw [cellsV_len] at h1
           have h2 : (twoV14 NS m x (i + 1)).length ≤ 40 := Nat.le_trans (two_len NS m x (i + 1)) (by rw [HN3.out]; rw [HN2.out]; omega)
           have h3 := congrArg List.length hnew
           rw [List.length_append, cellsV_len, cellsV_len] at h3
           simp only [List.length_cons, List.length_nil] at h3
           omega
          rw [decide_eq_true hin] at hIN
          have HIN := hid hIN
          have HNEW := hid hnew
          generalize ba (x[i]'hil).1 = Kq at q0 HIN HNEW
          generalize ba (x[i]'hil).2 = Vq at q1 HNEW
          obtain ⟨YS, hYS⟩ : ∃ YS, cellsV (twoV14 NS m x i) = YS := ⟨_, rfl⟩
          rw [hYS] at HO HNEW
          clear hst hIN hcel hin hnew hYS
          go_wp2_with first
           | (go_at_call 14; refine HIN.out.mono ?_; rintro e w7 ⟨rfl, rfl⟩)
           | (at_builtin; refine wpList_append_own_at _ rfl _ _ 22 rfl w6.heap.size 43 i0 _ 2 32 Tryd.underlying22 hi hz0 hz1 hz2 rfl (by decide) u15 k YS rfl (HO.out.alloc _) _ 1 1 [.string Kq, .string Vq] rfl rfl (news_blk #[.string Kq, .string Vq] (alloc_at _ _)) (two_oneS _ _) (by unfold maxLen; omega) (by omega) (by simp; omega) ?_; intro s9 W9 ho9 hg9 hn9 hk9; have HB9 := hid (((HB.out.alloc HB.out.size _).grown hg9 (by simp; omega) fun q hq => (HO.out.lt q hq).1) : Below w6.heap.size w6 W9); have HO9 := hid ho9; clear ho9 hg9 hn9 hk9)
          go_roundw
          case rel => exact ⟨i + 1, k + 1, by omega, by go_num, hkl, by rw [HNEW.out]; exact HO9, HB9⟩
          case measure => simp [intOf]; omega
         ·have HST : Hid (twoV14 NS m x (i + 1) = twoV14 NS m x i) := hid (by unfold twoV14; rw [hst, if_neg hin, List.append_nil])
          rw [decide_eq_false hin] at hIN
          have HIN := hid hIN
          generalize ba (x[i]'hil).1 = Kq at q0 HIN
          generalize ba (x[i]'hil).2 = Vq at q1
          clear hst hIN hcel hin
          go_wp2_with (go_at_call 14; refine HIN.out.mono ?_; rintro e w7 ⟨rfl, rfl⟩)
          go_roundw
          case rel => exact ⟨i + 1, k, by omega, by go_num, hk40, by rw [HST.out]; exact HO, HB⟩
          case measure => simp [intOf]; omega
        ·obtain rfl : i = n2 := by omega
         have hvo := vr_of_owns HO.out
         have HVO : Hid (VR wr u15 (otherV NS m x)) := hid (by have h1 := hvo.1; rw [← HN2.out, two_all] at h1; exact h1)
         replace HPM := hid (PtW.below HPM.out HB.out)
         replace HPL := hid (PtW.below HPL.out HB.out)
         replace HX := hid (HX.out.below HB.out)
         replace HW := hid (HP.out _ _ HW.out HB.out)
         replace BB := hid (BB.out.trans (Below.mono HB.out BB.out.size))
         clear hvo HO HB
         go_wp2_with first
          | (go_at_call 7; refine (HOT.out _ _ HVO.out).mono ?_; rintro e wa ⟨va, rfl, hva, ba1⟩; have HY := hid hva; replace HPM := hid (PtW.below HPM.out ba1); replace HPL := hid (PtW.below HPL.out ba1); replace HX := hid (HX.out.below ba1); replace BB := hid (BB.out.trans (Below.mono ba1 BB.out.size)); replace HW := hid (HP.out _ _ HW.out ba1); clear hva ba1)
          | (go_at_call 11; (with_reducible refine (CE1.out _ _ _ HW.out HPL.out HX.out).mono ?_); rintro e wb ⟨rfl, bb1⟩; replace HY := hid (HY.out.below bb1); replace HPM := hid (PtW.below HPM.out bb1); replace HPL := hid (PtW.below HPL.out bb1); replace HX := hid (HX.out.below bb1); replace BB := hid (BB.out.trans (Below.mono bb1 BB.out.size)); replace HW := hid (HP.out _ _ HW.out bb1); clear bb1)
          | (go_at_call 11; (with_reducible refine (CE2.out _ _ _ HW.out HPL.out HY.out).mono ?_); rintro e wc ⟨rfl, bc1⟩; replace HY := hid (HY.out.below bc1); replace HPM := hid (PtW.below HPM.out bc1); replace HPL := hid (PtW.below HPL.out bc1); replace HX := hid (HX.out.below bc1); replace BB := hid (BB.out.trans (Below.mono bc1 BB.out.size)); replace HW := hid (HP.out _ _ HW.out bc1); clear bc1)
          | (go_at_call 11; (with_reducible refine (CE3.out _ _ _ HW.out HPM.out HX.out).mono ?_); rintro e wd ⟨rfl, bd1⟩; replace HPM := hid (PtW.below HPM.out bd1); replace HPL := hid (PtW.below HPL.out bd1); replace HX := hid (HX.out.below bd1); replace BB := hid (BB.out.trans (Below.mono bd1 BB.out.size)); replace HW := hid (HP.out _ _ HW.out bd1); clear bd1)
          | (go_at_call 15; (with_reducible refine (CTl.out _ _ HW.out HPL.out).mono ?_); rintro e we ⟨rfl, be1⟩; replace HPM := hid (PtW.below HPM.out be1); replace HPL := hid (PtW.below HPL.out be1); replace HX := hid (HX.out.below be1); replace BB := hid (BB.out.trans (Below.mono be1 BB.out.size)); replace HW := hid (HP.out _ _ HW.out be1); clear be1)
          | (go_at_call 15; (with_reducible refine (CTm.out _ _ HW.out HPM.out).mono ?_); rintro e wf ⟨rfl, bf1⟩; replace HPM := hid (PtW.below HPM.out bf1); replace HPL := hid (PtW.below HPL.out bf1); replace HX := hid (HX.out.below bf1); replace BB := hid (BB.out.trans (Below.mono bf1 BB.out.size)); replace HW := hid (HP.out _ _ HW.out bf1); clear bf1)
          | (go_at_call 8; refine (CT3.out _ _ HW.out HX.out).mono ?_; rintro e wg ⟨rfl, bg1⟩; replace HPM := hid (PtW.below HPM.out bg1); replace HPL := hid (PtW.below HPL.out bg1); replace HX := hid (HX.out.below bg1); replace BB := hid (BB.out.trans (Below.mono bg1 BB.out.size)); replace HW := hid (HP.out _ _ HW.out bg1); clear bg1)
          | (go_at_call 6; refine (HAW.out _ HW.out).mono ?_; rintro e wh ⟨rfl, bh1⟩; replace BB := hid (BB.out.trans (Below.mono bh1 BB.out.size)); clear bh1)
         go_ret
         exact ⟨by simp, BB.out⟩
    ·go_enter Tryd.func4, Tryd.ntmps4
     go_wp2_with first
      | (go_at_call 5; (with_reducible refine F1.out.mono ?_); rintro e w1 ⟨rfl, rfl⟩)
      | (go_at_call 5; (with_reducible refine F2.out.mono ?_); rintro e w1 ⟨rfl, rfl⟩)
      | (go_at_call 10; (with_reducible refine (CPs.out _ HW.out).mono ?_); rintro e w3 ⟨p3, rfl, hp3, b3⟩; have HPL := hid hp3; have BB := hid b3; replace HW := hid (HP.out _ _ HW.out b3); replace HM := hid (HM.out.below b3); replace HL := hid (HL.out.below b3); clear hp3 b3)
      | (go_at_call 10; (with_reducible refine (CPt.out _ HW.out).mono ?_); rintro e w4 ⟨p4, rfl, hp4, b4⟩; have HPM := hid hp4; replace HPL := hid (PtW.below HPL.out b4); replace BB := hid (BB.out.trans (b4.mono BB.out.size)); replace HW := hid (HP.out _ _ HW.out b4); replace HM := hid (HM.out.below b4); replace HL := hid (HL.out.below b4); clear hp4 b4)
      | (go_at_call 7; refine (HOF.out _ HL.out).mono ?_; rintro e w5 ⟨v5, rfl, hv5, b5⟩; have HX := hid hv5; replace HPM := hid (PtW.below HPM.out b5); replace HPL := hid (PtW.below HPL.out b5); replace BB := hid (BB.out.trans (b5.mono BB.out.size)); replace HW := hid (HP.out _ _ HW.out b5); replace HM := hid (HM.out.below b5); clear hv5 b5)
      | (go_at_call 13; refine (CNM.out _ _ HW.out HPL.out).mono ?_; rintro e w6 ⟨v6, rfl, hv6, b6⟩; have HNS := hid hv6; replace HX := hid (HX.out.below b6); replace HPM := hid (PtW.below HPM.out b6); replace HPL := hid (PtW.below HPL.out b6); replace BB := hid (BB.out.trans (b6.mono BB.out.size)); replace HW := hid (HP.out _ _ HW.out b6); replace HM := hid (HM.out.below b6); clear hv6 b6)
     obtain ⟨A5, cp5, hv5, hc5, hm5, -⟩ := id HX.out
     unfold maxLen at hm5
     rw [HN2.out] at hv5 hc5
     subst hv5
     have HRD6 := hid (show World.ownsRow w6 w6.heap.size 43 2 (.slice none 0 0) 0 (cellsV (oneV NS m 0)) from ⟨rfl, .inl ⟨rfl, rfl⟩⟩)
     go_loopw [15, 16] (fun s15 si wr => ∃ (i k : Nat), i ≤ n3 ∧ si = .int .i64 (i : Int) ∧ k ≤ 40 ∧ Hid (wr.ownsRow w6.heap.size 43 2 s15 k (cellsV (oneV NS m i))) ∧ Hid (Below w6.heap.size w6 wr)) (fun _ si _ => n3 - (intOf si).toNat)
     case atStart => exact ⟨0, 0, Nat.zero_le _, rfl, Nat.zero_le _, HRD6, hid (Below.refl _ _)⟩
     case round =>
      clear HRD6
      obtain ⟨i, k, hi3, rfl, hk40, HO, HB⟩ := hrel
      by_cases hlt : i < n3
      ·have hil : i < m.length := by rw [HN3.out]; exact hlt
       have hiz : (i : Int) < (n3 : Int) := by omega
       have hic : (i : Int) < (cp3 : Int) := by omega
       obtain ⟨vb, vo, hA, q0, q1⟩ := vr_at (v := .bool false) (HM.out.below HB.out) i hil
       have hst := out_steps NS m i hil
       have hIN := RIn_any v6 NS (ba (m[i]'hil).1) wr (HNS.out.below HB.out)
       rw [ba_data] at hIN
       have hcel : cellsV [m[i]'hil] = [.string (ba (m[i]'hil).1), .string (ba (m[i]'hil).2)] := rfl
       have hbs := HB.out.size
       subst hA
       by_cases hin : (m[i]'hil).1 ∈ NS
       ·have HST : Hid (oneV NS m (i + 1) = oneV NS m i) := hid (by unfold oneV; rw [hst, if_pos hin, List.append_nil])
        rw [decide_eq_true hin] at hIN
        have HIN := hid hIN
        generalize ba (m[i]'hil).1 = Kq at q0 HIN
        generalize ba (m[i]'hil).2 = Vq at q1
        clear hst hIN hcel hin
        go_wp2_with (go_at_call 14; refine HIN.out.mono ?_; rintro e w7 ⟨rfl, rfl⟩)
        go_roundw
        case rel => exact ⟨i + 1, k, by omega, by go_num, hk40, by rw [HST.out]; exact HO, HB⟩
        case measure => simp [intOf]; omega
       ·have hnew : cellsV (oneV NS m (i + 1)) = cellsV (oneV NS m i) ++ [.string (ba (m[i]'hil).1), .string (ba (m[i]'hil).2)] := by
         rw [← hcel, ← cellsV_app]
         congr 1
         unfold oneV
         rw [hst, if_neg hin]
        have hkl : k + 1 ≤ 40 := by
         have h1 := HO.out.1
         rw [cellsV_len] at h1
         have h2 : (oneV NS m (i + 1)).length ≤ 40 := Nat.le_trans (one_len NS m (i + 1)) (by rw [HN3.out]; omega)
         have h3 := congrArg List.length hnew
         rw [List.length_append, cellsV_len, cellsV_len] at h3
         simp only [List.length_cons, List.length_nil] at h3
         omega
        rw [decide_eq_false hin] at hIN
        have HIN := hid hIN
        have HNEW := hid hnew
        generalize ba (m[i]'hil).1 = Kq at q0 HIN HNEW
        generalize ba (m[i]'hil).2 = Vq at q1 HNEW
        obtain ⟨YS, hYS⟩ : ∃ YS, cellsV (oneV NS m i) = YS := ⟨_, rfl⟩
        rw [hYS] at HO HNEW
        clear hst hIN hcel hin hnew hYS
        go_wp2_with first
         | (go_at_call 14; refine HIN.out.mono ?_; rintro e w7 ⟨rfl, rfl⟩)
         | (at_builtin; refine wpList_append_own_at _ rfl _ _ 22 rfl w6.heap.size 43 i0 _ 2 32 Tryd.underlying22 hi hz0 hz1 hz2 rfl (by decide) u15 k YS rfl (HO.out.alloc _) _ 1 1 [.string Kq, .string Vq] rfl rfl (news_blk #[.string Kq, .string Vq] (alloc_at _ _)) (two_oneS _ _) (by unfold maxLen; omega) (by omega) (by simp; omega) ?_; intro s9 W9 ho9 hg9 hn9 hk9; have HB9 := hid (((HB.out.alloc HB.out.size _).grown hg9 (by simp; omega) fun q hq => (HO.out.lt q hq).1) : Below w6.heap.size w6 W9); have HO9 := hid ho9; clear ho9 hg9 hn9 hk9)
        go_roundw
        case rel => exact ⟨i + 1, k + 1, by omega, by go_num, hkl, by rw [HNEW.out]; exact HO9, HB9⟩
        case measure => simp [intOf]; omega
      ·obtain rfl : i = n3 := by omega
       have HO1 : Hid (wr.ownsRow w6.heap.size 43 2 u15 k (cellsV (twoV14 NS m x 0))) := hid (by have h1 := HO.out; unfold twoV14; rw [List.take_zero, List.filter_nil, List.append_nil, HN3.out]; exact h1)
       have HB1 := HB
       obtain ⟨k0, hk0e⟩ : ∃ k0, k = k0 := ⟨_, rfl⟩
       rw [hk0e] at HO1 hk40
       have hk0 : k0 ≤ 40 := hk40
       clear hk0e HO HB
       go_wp2
       go_loopw [15, 17] (fun s15 si wr => ∃ (i k : Nat), i ≤ n2 ∧ si = .int .i64 (i : Int) ∧ k ≤ 40 ∧ Hid (wr.ownsRow w6.heap.size 43 2 s15 k (cellsV (twoV14 NS m x i))) ∧ Hid (Below w6.heap.size w6 wr)) (fun _ si _ => n2 - (intOf si).toNat)
       case atStart => exact ⟨0, k0, Nat.zero_le _, rfl, hk0, HO1, HB1⟩
       case round =>
        clear HO1 HB1
        obtain ⟨i, k, hi3, rfl, hk40, HO, HB⟩ := hrel
        by_cases hlt : i < n2
        ·have hil : i < x.length := by rw [HN2.out]; exact hlt
         have hiz : (i : Int) < (n2 : Int) := by omega
         have hic : (i : Int) < (cp5 : Int) := by omega
         obtain ⟨vb, vo, hA, q0, q1⟩ := vr_at (v := .bool false) (HX.out.below HB.out) i hil
         have hst := in_steps NS x i hil
         have hIN := RIn_any v6 NS (ba (x[i]'hil).1) wr (HNS.out.below HB.out)
         rw [ba_data] at hIN
         have hcel : cellsV [x[i]'hil] = [.string (ba (x[i]'hil).1), .string (ba (x[i]'hil).2)] := rfl
         have hbs := HB.out.size
         subst hA
         by_cases hin : (x[i]'hil).1 ∈ NS
         ·have hnew : cellsV (twoV14 NS m x (i + 1)) = cellsV (twoV14 NS m x i) ++ [.string (ba (x[i]'hil).1), .string (ba (x[i]'hil).2)] := by
           rw [← hcel, ← cellsV_app]
           congr 1
           unfold twoV14
           rw [hst, if_pos hin, List.append_assoc]
          have hkl : k + 1 ≤ 40 := by
           have h1 := HO.out.1
           rw [cellsV_len] at h1
           have h2 : (twoV14 NS m x (i + 1)).length ≤ 40 := Nat.le_trans (two_len NS m x (i + 1)) (by rw [HN3.out]; rw [HN2.out]; omega)
           have h3 := congrArg List.length hnew
           rw [List.length_append, cellsV_len, cellsV_len] at h3
           simp only [List.length_cons, List.length_nil] at h3
           omega
          rw [decide_eq_true hin] at hIN
          have HIN := hid hIN
          have HNEW := hid hnew
          generalize ba (x[i]'hil).1 = Kq at q0 HIN HNEW
          generalize ba (x[i]'hil).2 = Vq at q1 HNEW
          obtain ⟨YS, hYS⟩ : ∃ YS, cellsV (twoV14 NS m x i) = YS := ⟨_, rfl⟩
          rw [hYS] at HO HNEW
          clear hst hIN hcel hin hnew hYS
          go_wp2_with first
           | (go_at_call 14; refine HIN.out.mono ?_; rintro e w7 ⟨rfl, rfl⟩)
           | (at_builtin; refine wpList_append_own_at _ rfl _ _ 22 rfl w6.heap.size 43 i0 _ 2 32 Tryd.underlying22 hi hz0 hz1 hz2 rfl (by decide) u15 k YS rfl (HO.out.alloc _) _ 1 1 [.string Kq, .string Vq] rfl rfl (news_blk #[.string Kq, .string Vq] (alloc_at _ _)) (two_oneS _ _) (by unfold maxLen; omega) (by omega) (by simp; omega) ?_; intro s9 W9 ho9 hg9 hn9 hk9; have HB9 := hid (((HB.out.alloc HB.out.size _).grown hg9 (by simp; omega) fun q hq => (HO.out.lt q hq).1) : Below w6.heap.size w6 W9); have HO9 := hid ho9; clear ho9 hg9 hn9 hk9)
          go_roundw
          case rel => exact ⟨i + 1, k + 1, by omega, by go_num, hkl, by rw [HNEW.out]; exact HO9, HB9⟩
          case measure => simp [intOf]; omega
         ·have HST : Hid (twoV14 NS m x (i + 1) = twoV14 NS m x i) := hid (by unfold twoV14; rw [hst, if_neg hin, List.append_nil])
          rw [decide_eq_false hin] at hIN
          have HIN := hid hIN
          generalize ba (x[i]'hil).1 = Kq at q0 HIN
          generalize ba (x[i]'hil).2 = Vq at q1
          clear hst hIN hcel hin
          go_wp2_with (go_at_call 14; refine HIN.out.mono ?_; rintro e w7 ⟨rfl, rfl⟩)
          go_roundw
          case rel => exact ⟨i + 1, k, by omega, by go_num, hk40, by rw [HST.out]; exact HO, HB⟩
          case measure => simp [intOf]; omega
        ·obtain rfl : i = n2 := by omega
         have hvo := vr_of_owns HO.out
         have HVO : Hid (VR wr u15 (otherV NS m x)) := hid (by have h1 := hvo.1; rw [← HN2.out, two_all] at h1; exact h1)
         replace HPM := hid (PtW.below HPM.out HB.out)
         replace HPL := hid (PtW.below HPL.out HB.out)
         replace HX := hid (HX.out.below HB.out)
         replace HW := hid (HP.out _ _ HW.out HB.out)
         replace BB := hid (BB.out.trans (Below.mono HB.out BB.out.size))
         clear hvo HO HB
         go_wp2_with first
          | (go_at_call 7; refine (HOT.out _ _ HVO.out).mono ?_; rintro e wa ⟨va, rfl, hva, ba1⟩; have HY := hid hva; replace HPM := hid (PtW.below HPM.out ba1); replace HPL := hid (PtW.below HPL.out ba1); replace HX := hid (HX.out.below ba1); replace BB := hid (BB.out.trans (Below.mono ba1 BB.out.size)); replace HW := hid (HP.out _ _ HW.out ba1); clear hva ba1)
          | (go_at_call 11; (with_reducible refine (CE1.out _ _ _ HW.out HPL.out HX.out).mono ?_); rintro e wb ⟨rfl, bb1⟩; replace HY := hid (HY.out.below bb1); replace HPM := hid (PtW.below HPM.out bb1); replace HPL := hid (PtW.below HPL.out bb1); replace HX := hid (HX.out.below bb1); replace BB := hid (BB.out.trans (Below.mono bb1 BB.out.size)); replace HW := hid (HP.out _ _ HW.out bb1); clear bb1)
          | (go_at_call 11; (with_reducible refine (CE2.out _ _ _ HW.out HPL.out HY.out).mono ?_); rintro e wc ⟨rfl, bc1⟩; replace HY := hid (HY.out.below bc1); replace HPM := hid (PtW.below HPM.out bc1); replace HPL := hid (PtW.below HPL.out bc1); replace HX := hid (HX.out.below bc1); replace BB := hid (BB.out.trans (Below.mono bc1 BB.out.size)); replace HW := hid (HP.out _ _ HW.out bc1); clear bc1)
          | (go_at_call 11; (with_reducible refine (CE3.out _ _ _ HW.out HPM.out HX.out).mono ?_); rintro e wd ⟨rfl, bd1⟩; replace HPM := hid (PtW.below HPM.out bd1); replace HPL := hid (PtW.below HPL.out bd1); replace HX := hid (HX.out.below bd1); replace BB := hid (BB.out.trans (Below.mono bd1 BB.out.size)); replace HW := hid (HP.out _ _ HW.out bd1); clear bd1)
          | (go_at_call 15; (with_reducible refine (CTl.out _ _ HW.out HPL.out).mono ?_); rintro e we ⟨rfl, be1⟩; replace HPM := hid (PtW.below HPM.out be1); replace HPL := hid (PtW.below HPL.out be1); replace HX := hid (HX.out.below be1); replace BB := hid (BB.out.trans (Below.mono be1 BB.out.size)); replace HW := hid (HP.out _ _ HW.out be1); clear be1)
          | (go_at_call 15; (with_reducible refine (CTm.out _ _ HW.out HPM.out).mono ?_); rintro e wf ⟨rfl, bf1⟩; replace HPM := hid (PtW.below HPM.out bf1); replace HPL := hid (PtW.below HPL.out bf1); replace HX := hid (HX.out.below bf1); replace BB := hid (BB.out.trans (Below.mono bf1 BB.out.size)); replace HW := hid (HP.out _ _ HW.out bf1); clear bf1)
          | (go_at_call 8; refine (CT3.out _ _ HW.out HX.out).mono ?_; rintro e wg ⟨rfl, bg1⟩; replace HPM := hid (PtW.below HPM.out bg1); replace HPL := hid (PtW.below HPL.out bg1); replace HX := hid (HX.out.below bg1); replace BB := hid (BB.out.trans (Below.mono bg1 BB.out.size)); replace HW := hid (HP.out _ _ HW.out bg1); clear bg1)
          | (go_at_call 6; refine (HAW.out _ HW.out).mono ?_; rintro e wh ⟨rfl, bh1⟩; replace BB := hid (BB.out.trans (Below.mono bh1 BB.out.size)); clear bh1)
         go_ret
         exact ⟨by simp, BB.out⟩
  | ok T2 =>
   have hT2 := sayL_short hR3
   rw [hR3] at CE3
   obtain ⟨X2, hX2⟩ : ∃ X2, ba T2 = X2 := ⟨_, rfl⟩
   have hX2l : X2.data.toList = T2 := by rw [← hX2, ba_data]
   have hX2s : X2.size ≤ 8192 := by rw [← len_eq13, hX2l]; exact hT2
   replace CE3 : Hid (∀ (p q : Value) (W : World), Pw W → PtW W p psm → VR W q x → Calls Tryd.prog 11 #[p, q] W fun e w' => e = .returned (.tuple #[.string X2, .int .i64 0]) ∧ Below W.heap.size W w') := hid (by rw [← hX2]; exact CE3.out)
   have hl1 : T1.length = X1.size := by rw [← hX1l, len_eq13]
   have hl2 : T2.length = X2.size := by rw [← hX2l, len_eq13]
   by_cases hbig : 8192 < X1.size + X2.size
   ·rw [hso.2.1 T2 hR3 (by omega) hT1] at CT3
    replace CT3 : Hid (∀ (q : Value) (W : World), Pw W → VR W q x → Calls Tryd.prog 8 #[.string QQ, q] W fun e w' => e = .returned (.tuple #[.string ⟨#[]⟩, .int .i64 9]) ∧ Below W.heap.size W w') := CT3
    have hbz : (8192 : Int) < (X1.size : Int) + (X2.size : Int) := by omega
    clear hR hR3 hso hX1 hX1l hT1 hX2 hX2l hT2 hl1 hl2 hbig
    go_enter Tryd.func4, Tryd.ntmps4
    go_wp2_with first
     | (go_at_call 5; (with_reducible refine F1.out.mono ?_); rintro e w1 ⟨rfl, rfl⟩)
     | (go_at_call 5; (with_reducible refine F2.out.mono ?_); rintro e w1 ⟨rfl, rfl⟩)
     | (go_at_call 10; (with_reducible refine (CPs.out _ HW.out).mono ?_); rintro e w3 ⟨p3, rfl, hp3, b3⟩; have HPL := hid hp3; have BB := hid b3; replace HW := hid (HP.out _ _ HW.out b3); replace HM := hid (HM.out.below b3); replace HL := hid (HL.out.below b3); clear hp3 b3)
     | (go_at_call 10; (with_reducible refine (CPt.out _ HW.out).mono ?_); rintro e w4 ⟨p4, rfl, hp4, b4⟩; have HPM := hid hp4; replace HPL := hid (PtW.below HPL.out b4); replace BB := hid (BB.out.trans (b4.mono BB.out.size)); replace HW := hid (HP.out _ _ HW.out b4); replace HM := hid (HM.out.below b4); replace HL := hid (HL.out.below b4); clear hp4 b4)
     | (go_at_call 7; refine (HOF.out _ HL.out).mono ?_; rintro e w5 ⟨v5, rfl, hv5, b5⟩; have HX := hid hv5; replace HPM := hid (PtW.below HPM.out b5); replace HPL := hid (PtW.below HPL.out b5); replace BB := hid (BB.out.trans (b5.mono BB.out.size)); replace HW := hid (HP.out _ _ HW.out b5); replace HM := hid (HM.out.below b5); clear hv5 b5)
     | (go_at_call 13; refine (CNM.out _ _ HW.out HPL.out).mono ?_; rintro e w6 ⟨v6, rfl, hv6, b6⟩; have HNS := hid hv6; replace HX := hid (HX.out.below b6); replace HPM := hid (PtW.below HPM.out b6); replace HPL := hid (PtW.below HPL.out b6); replace BB := hid (BB.out.trans (b6.mono BB.out.size)); replace HW := hid (HP.out _ _ HW.out b6); replace HM := hid (HM.out.below b6); clear hv6 b6)
    obtain ⟨A5, cp5, hv5, hc5, hm5, -⟩ := id HX.out
    unfold maxLen at hm5
    rw [HN2.out] at hv5 hc5
    subst hv5
    have HRD6 := hid (show World.ownsRow w6 w6.heap.size 43 2 (.slice none 0 0) 0 (cellsV (oneV NS m 0)) from ⟨rfl, .inl ⟨rfl, rfl⟩⟩)
    go_loopw [15, 16] (fun s15 si wr => ∃ (i k : Nat), i ≤ n3 ∧ si = .int .i64 (i : Int) ∧ k ≤ 40 ∧ Hid (wr.ownsRow w6.heap.size 43 2 s15 k (cellsV (oneV NS m i))) ∧ Hid (Below w6.heap.size w6 wr)) (fun _ si _ => n3 - (intOf si).toNat)
    case atStart => exact ⟨0, 0, Nat.zero_le _, rfl, Nat.zero_le _, HRD6, hid (Below.refl _ _)⟩
    case round =>
     clear HRD6
     obtain ⟨i, k, hi3, rfl, hk40, HO, HB⟩ := hrel
     by_cases hlt : i < n3
     ·have hil : i < m.length := by rw [HN3.out]; exact hlt
      have hiz : (i : Int) < (n3 : Int) := by omega
      have hic : (i : Int) < (cp3 : Int) := by omega
      obtain ⟨vb, vo, hA, q0, q1⟩ := vr_at (v := .bool false) (HM.out.below HB.out) i hil
      have hst := out_steps NS m i hil
      have hIN := RIn_any v6 NS (ba (m[i]'hil).1) wr (HNS.out.below HB.out)
      rw [ba_data] at hIN
      have hcel : cellsV [m[i]'hil] = [.string (ba (m[i]'hil).1), .string (ba (m[i]'hil).2)] := rfl
      have hbs := HB.out.size
      subst hA
      by_cases hin : (m[i]'hil).1 ∈ NS
      ·have HST : Hid (oneV NS m (i + 1) = oneV NS m i) := hid (by unfold oneV; rw [hst, if_pos hin, List.append_nil])
       rw [decide_eq_true hin] at hIN
       have HIN := hid hIN
       generalize ba (m[i]'hil).1 = Kq at q0 HIN
       generalize ba (m[i]'hil).2 = Vq at q1
       clear hst hIN hcel hin
       go_wp2_with (go_at_call 14; refine HIN.out.mono ?_; rintro e w7 ⟨rfl, rfl⟩)
       go_roundw
       case rel => exact ⟨i + 1, k, by omega, by go_num, hk40, by rw [HST.out]; exact HO, HB⟩
       case measure => simp [intOf]; omega
      ·have hnew : cellsV (oneV NS m (i + 1)) = cellsV (oneV NS m i) ++ [.string (ba (m[i]'hil).1), .string (ba (m[i]'hil).2)] := by
        rw [← hcel, ← cellsV_app]
        congr 1
        unfold oneV
        rw [hst, if_neg hin]
       have hkl : k + 1 ≤ 40 := by
        have h1 := HO.out.1
        rw [cellsV_len] at h1
        have h2 : (oneV NS m (i + 1)).length ≤ 40 := Nat.le_trans (one_len NS m (i + 1)) (by rw [HN3.out]; omega)
        have h3 := congrArg List.length hnew
        rw [List.length_append, cellsV_len, cellsV_len] at h3
        simp only [List.length_cons, List.length_nil] at h3
        omega
       rw [decide_eq_false hin] at hIN
       have HIN := hid hIN
       have HNEW := hid hnew
       generalize ba (m[i]'hil).1 = Kq at q0 HIN HNEW
       generalize ba (m[i]'hil).2 = Vq at q1 HNEW
       obtain ⟨YS, hYS⟩ : ∃ YS, cellsV (oneV NS m i) = YS := ⟨_, rfl⟩
       rw [hYS] at HO HNEW
       clear hst hIN hcel hin hnew hYS
       go_wp2_with first
        | (go_at_call 14; refine HIN.out.mono ?_; rintro e w7 ⟨rfl, rfl⟩)
        | (at_builtin; refine wpList_append_own_at _ rfl _ _ 22 rfl w6.heap.size 43 i0 _ 2 32 Tryd.underlying22 hi hz0 hz1 hz2 rfl (by decide) u15 k YS rfl (HO.out.alloc _) _ 1 1 [.string Kq, .string Vq] rfl rfl (news_blk #[.string Kq, .string Vq] (alloc_at _ _)) (two_oneS _ _) (by unfold maxLen; omega) (by omega) (by simp; omega) ?_; intro s9 W9 ho9 hg9 hn9 hk9; have HB9 := hid (((HB.out.alloc HB.out.size _).grown hg9 (by simp; omega) fun q hq => (HO.out.lt q hq).1) : Below w6.heap.size w6 W9); have HO9 := hid ho9; clear ho9 hg9 hn9 hk9)
       go_roundw
       case rel => exact ⟨i + 1, k + 1, by omega, by go_num, hkl, by rw [HNEW.out]; exact HO9, HB9⟩
       case measure => simp [intOf]; omega
     ·obtain rfl : i = n3 := by omega
      have HO1 : Hid (wr.ownsRow w6.heap.size 43 2 u15 k (cellsV (twoV14 NS m x 0))) := hid (by have h1 := HO.out; unfold twoV14; rw [List.take_zero, List.filter_nil, List.append_nil, HN3.out]; exact h1)
      have HB1 := HB
      obtain ⟨k0, hk0e⟩ : ∃ k0, k = k0 := ⟨_, rfl⟩
      rw [hk0e] at HO1 hk40
      have hk0 : k0 ≤ 40 := hk40
      clear hk0e HO HB
      go_wp2
      go_loopw [15, 17] (fun s15 si wr => ∃ (i k : Nat), i ≤ n2 ∧ si = .int .i64 (i : Int) ∧ k ≤ 40 ∧ Hid (wr.ownsRow w6.heap.size 43 2 s15 k (cellsV (twoV14 NS m x i))) ∧ Hid (Below w6.heap.size w6 wr)) (fun _ si _ => n2 - (intOf si).toNat)
      case atStart => exact ⟨0, k0, Nat.zero_le _, rfl, hk0, HO1, HB1⟩
      case round =>
       clear HO1 HB1
       obtain ⟨i, k, hi3, rfl, hk40, HO, HB⟩ := hrel
       by_cases hlt : i < n2
       ·have hil : i < x.length := by rw [HN2.out]; exact hlt
        have hiz : (i : Int) < (n2 : Int) := by omega
        have hic : (i : Int) < (cp5 : Int) := by omega
        obtain ⟨vb, vo, hA, q0, q1⟩ := vr_at (v := .bool false) (HX.out.below HB.out) i hil
        have hst := in_steps NS x i hil
        have hIN := RIn_any v6 NS (ba (x[i]'hil).1) wr (HNS.out.below HB.out)
        rw [ba_data] at hIN
        have hcel : cellsV [x[i]'hil] = [.string (ba (x[i]'hil).1), .string (ba (x[i]'hil).2)] := rfl
        have hbs := HB.out.size
        subst hA
        by_cases hin : (x[i]'hil).1 ∈ NS
        ·have hnew : cellsV (twoV14 NS m x (i + 1)) = cellsV (twoV14 NS m x i) ++ [.string (ba (x[i]'hil).1), .string (ba (x[i]'hil).2)] := by
          rw [← hcel, ← cellsV_app]
          congr 1
          unfold twoV14
          rw [hst, if_pos hin, List.append_assoc]
         have hkl : k + 1 ≤ 40 := by
          have h1 := HO.out.1
          rw [cellsV_len] at h1
          have h2 : (twoV14 NS m x (i + 1)).length ≤ 40 := Nat.le_trans (two_len NS m x (i + 1)) (by rw [HN3.out]; rw [HN2.out]; omega)
          have h3 := congrArg List.length hnew
          rw [List.length_append, cellsV_len, cellsV_len] at h3
          simp only [List.length_cons, List.length_nil] at h3
          omega
         rw [decide_eq_true hin] at hIN
         have HIN := hid hIN
         have HNEW := hid hnew
         generalize ba (x[i]'hil).1 = Kq at q0 HIN HNEW
         generalize ba (x[i]'hil).2 = Vq at q1 HNEW
         obtain ⟨YS, hYS⟩ : ∃ YS, cellsV (twoV14 NS m x i) = YS := ⟨_, rfl⟩
         rw [hYS] at HO HNEW
         clear hst hIN hcel hin hnew hYS
         go_wp2_with first
          | (go_at_call 14; refine HIN.out.mono ?_; rintro e w7 ⟨rfl, rfl⟩)
          | (at_builtin; refine wpList_append_own_at _ rfl _ _ 22 rfl w6.heap.size 43 i0 _ 2 32 Tryd.underlying22 hi hz0 hz1 hz2 rfl (by decide) u15 k YS rfl (HO.out.alloc _) _ 1 1 [.string Kq, .string Vq] rfl rfl (news_blk #[.string Kq, .string Vq] (alloc_at _ _)) (two_oneS _ _) (by unfold maxLen; omega) (by omega) (by simp; omega) ?_; intro s9 W9 ho9 hg9 hn9 hk9; have HB9 := hid (((HB.out.alloc HB.out.size _).grown hg9 (by simp; omega) fun q hq => (HO.out.lt q hq).1) : Below w6.heap.size w6 W9); have HO9 := hid ho9; clear ho9 hg9 hn9 hk9)
         go_roundw
         case rel => exact ⟨i + 1, k + 1, by omega, by go_num, hkl, by rw [HNEW.out]; exact HO9, HB9⟩
         case measure => simp [intOf]; omega
        ·have HST : Hid (twoV14 NS m x (i + 1) = twoV14 NS m x i) := hid (by unfold twoV14; rw [hst, if_neg hin, List.append_nil])
         rw [decide_eq_false hin] at hIN
         have HIN := hid hIN
         generalize ba (x[i]'hil).1 = Kq at q0 HIN
         generalize ba (x[i]'hil).2 = Vq at q1
         clear hst hIN hcel hin
         go_wp2_with (go_at_call 14; refine HIN.out.mono ?_; rintro e w7 ⟨rfl, rfl⟩)
         go_roundw
         case rel => exact ⟨i + 1, k, by omega, by go_num, hk40, by rw [HST.out]; exact HO, HB⟩
         case measure => simp [intOf]; omega
       ·obtain rfl : i = n2 := by omega
        have hvo := vr_of_owns HO.out
        have HVO : Hid (VR wr u15 (otherV NS m x)) := hid (by have h1 := hvo.1; rw [← HN2.out, two_all] at h1; exact h1)
        replace HPM := hid (PtW.below HPM.out HB.out)
        replace HPL := hid (PtW.below HPL.out HB.out)
        replace HX := hid (HX.out.below HB.out)
        replace HW := hid (HP.out _ _ HW.out HB.out)
        replace BB := hid (BB.out.trans (Below.mono HB.out BB.out.size))
        clear hvo HO HB
        go_wp2_with first
         | (go_at_call 7; refine (HOT.out _ _ HVO.out).mono ?_; rintro e wa ⟨va, rfl, hva, ba1⟩; have HY := hid hva; replace HPM := hid (PtW.below HPM.out ba1); replace HPL := hid (PtW.below HPL.out ba1); replace HX := hid (HX.out.below ba1); replace BB := hid (BB.out.trans (Below.mono ba1 BB.out.size)); replace HW := hid (HP.out _ _ HW.out ba1); clear hva ba1)
         | (go_at_call 11; (with_reducible refine (CE1.out _ _ _ HW.out HPL.out HX.out).mono ?_); rintro e wb ⟨rfl, bb1⟩; replace HY := hid (HY.out.below bb1); replace HPM := hid (PtW.below HPM.out bb1); replace HPL := hid (PtW.below HPL.out bb1); replace HX := hid (HX.out.below bb1); replace BB := hid (BB.out.trans (Below.mono bb1 BB.out.size)); replace HW := hid (HP.out _ _ HW.out bb1); clear bb1)
         | (go_at_call 11; (with_reducible refine (CE2.out _ _ _ HW.out HPL.out HY.out).mono ?_); rintro e wc ⟨rfl, bc1⟩; replace HY := hid (HY.out.below bc1); replace HPM := hid (PtW.below HPM.out bc1); replace HPL := hid (PtW.below HPL.out bc1); replace HX := hid (HX.out.below bc1); replace BB := hid (BB.out.trans (Below.mono bc1 BB.out.size)); replace HW := hid (HP.out _ _ HW.out bc1); clear bc1)
         | (go_at_call 11; (with_reducible refine (CE3.out _ _ _ HW.out HPM.out HX.out).mono ?_); rintro e wd ⟨rfl, bd1⟩; replace HPM := hid (PtW.below HPM.out bd1); replace HPL := hid (PtW.below HPL.out bd1); replace HX := hid (HX.out.below bd1); replace BB := hid (BB.out.trans (Below.mono bd1 BB.out.size)); replace HW := hid (HP.out _ _ HW.out bd1); clear bd1)
         | (go_at_call 15; (with_reducible refine (CTl.out _ _ HW.out HPL.out).mono ?_); rintro e we ⟨rfl, be1⟩; replace HPM := hid (PtW.below HPM.out be1); replace HPL := hid (PtW.below HPL.out be1); replace HX := hid (HX.out.below be1); replace BB := hid (BB.out.trans (Below.mono be1 BB.out.size)); replace HW := hid (HP.out _ _ HW.out be1); clear be1)
         | (go_at_call 15; (with_reducible refine (CTm.out _ _ HW.out HPM.out).mono ?_); rintro e wf ⟨rfl, bf1⟩; replace HPM := hid (PtW.below HPM.out bf1); replace HPL := hid (PtW.below HPL.out bf1); replace HX := hid (HX.out.below bf1); replace BB := hid (BB.out.trans (Below.mono bf1 BB.out.size)); replace HW := hid (HP.out _ _ HW.out bf1); clear bf1)
         | (go_at_call 8; refine (CT3.out _ _ HW.out HX.out).mono ?_; rintro e wg ⟨rfl, bg1⟩; replace HPM := hid (PtW.below HPM.out bg1); replace HPL := hid (PtW.below HPL.out bg1); replace HX := hid (HX.out.below bg1); replace BB := hid (BB.out.trans (Below.mono bg1 BB.out.size)); replace HW := hid (HP.out _ _ HW.out bg1); clear bg1)
         | (go_at_call 6; refine (HAW.out _ HW.out).mono ?_; rintro e wh ⟨rfl, bh1⟩; replace BB := hid (BB.out.trans (Below.mono bh1 BB.out.size)); clear bh1)
        go_ret
        exact ⟨by simp, BB.out⟩
   ·rw [hso.1 T2 hR3 (by omega) hT1] at CT3
    obtain ⟨X3, hX3⟩ : ∃ X3 : ByteArray, X1 ++ X2 = X3 := ⟨_, rfl⟩
    have hX3b : ba (T1 ++ T2) = X3 := by rw [← hX3]; exact bytes_ext13 (by rw [ba_data, data_app13, hX1l, hX2l])
    replace CT3 : Hid (∀ (q : Value) (W : World), Pw W → VR W q x → Calls Tryd.prog 8 #[.string QQ, q] W fun e w' => e = .returned (.tuple #[.string X3, .int .i64 0]) ∧ Below W.heap.size W w') := hid (by rw [← hX3b]; exact CT3.out)
    have hbz : (X1.size : Int) + (X2.size : Int) ≤ 8192 := by omega
    have hs3 := str_self X3
    clear hR hR3 hso hX1 hX1l hT1 hX2 hX2l hT2 hl1 hl2 hbig hX3b
    go_enter Tryd.func4, Tryd.ntmps4
    go_wp2_with first
     | (go_at_call 5; (with_reducible refine F1.out.mono ?_); rintro e w1 ⟨rfl, rfl⟩)
     | (go_at_call 5; (with_reducible refine F2.out.mono ?_); rintro e w1 ⟨rfl, rfl⟩)
     | (go_at_call 10; (with_reducible refine (CPs.out _ HW.out).mono ?_); rintro e w3 ⟨p3, rfl, hp3, b3⟩; have HPL := hid hp3; have BB := hid b3; replace HW := hid (HP.out _ _ HW.out b3); replace HM := hid (HM.out.below b3); replace HL := hid (HL.out.below b3); clear hp3 b3)
     | (go_at_call 10; (with_reducible refine (CPt.out _ HW.out).mono ?_); rintro e w4 ⟨p4, rfl, hp4, b4⟩; have HPM := hid hp4; replace HPL := hid (PtW.below HPL.out b4); replace BB := hid (BB.out.trans (b4.mono BB.out.size)); replace HW := hid (HP.out _ _ HW.out b4); replace HM := hid (HM.out.below b4); replace HL := hid (HL.out.below b4); clear hp4 b4)
     | (go_at_call 7; refine (HOF.out _ HL.out).mono ?_; rintro e w5 ⟨v5, rfl, hv5, b5⟩; have HX := hid hv5; replace HPM := hid (PtW.below HPM.out b5); replace HPL := hid (PtW.below HPL.out b5); replace BB := hid (BB.out.trans (b5.mono BB.out.size)); replace HW := hid (HP.out _ _ HW.out b5); replace HM := hid (HM.out.below b5); clear hv5 b5)
     | (go_at_call 13; refine (CNM.out _ _ HW.out HPL.out).mono ?_; rintro e w6 ⟨v6, rfl, hv6, b6⟩; have HNS := hid hv6; replace HX := hid (HX.out.below b6); replace HPM := hid (PtW.below HPM.out b6); replace HPL := hid (PtW.below HPL.out b6); replace BB := hid (BB.out.trans (b6.mono BB.out.size)); replace HW := hid (HP.out _ _ HW.out b6); replace HM := hid (HM.out.below b6); clear hv6 b6)
    obtain ⟨A5, cp5, hv5, hc5, hm5, -⟩ := id HX.out
    unfold maxLen at hm5
    rw [HN2.out] at hv5 hc5
    subst hv5
    have HRD6 := hid (show World.ownsRow w6 w6.heap.size 43 2 (.slice none 0 0) 0 (cellsV (oneV NS m 0)) from ⟨rfl, .inl ⟨rfl, rfl⟩⟩)
    go_loopw [15, 16] (fun s15 si wr => ∃ (i k : Nat), i ≤ n3 ∧ si = .int .i64 (i : Int) ∧ k ≤ 40 ∧ Hid (wr.ownsRow w6.heap.size 43 2 s15 k (cellsV (oneV NS m i))) ∧ Hid (Below w6.heap.size w6 wr)) (fun _ si _ => n3 - (intOf si).toNat)
    case atStart => exact ⟨0, 0, Nat.zero_le _, rfl, Nat.zero_le _, HRD6, hid (Below.refl _ _)⟩
    case round =>
     clear HRD6
     obtain ⟨i, k, hi3, rfl, hk40, HO, HB⟩ := hrel
     by_cases hlt : i < n3
     ·have hil : i < m.length := by rw [HN3.out]; exact hlt
      have hiz : (i : Int) < (n3 : Int) := by omega
      have hic : (i : Int) < (cp3 : Int) := by omega
      obtain ⟨vb, vo, hA, q0, q1⟩ := vr_at (v := .bool false) (HM.out.below HB.out) i hil
      have hst := out_steps NS m i hil
      have hIN := RIn_any v6 NS (ba (m[i]'hil).1) wr (HNS.out.below HB.out)
      rw [ba_data] at hIN
      have hcel : cellsV [m[i]'hil] = [.string (ba (m[i]'hil).1), .string (ba (m[i]'hil).2)] := rfl
      have hbs := HB.out.size
      subst hA
      by_cases hin : (m[i]'hil).1 ∈ NS
      ·have HST : Hid (oneV NS m (i + 1) = oneV NS m i) := hid (by unfold oneV; rw [hst, if_pos hin, List.append_nil])
       rw [decide_eq_true hin] at hIN
       have HIN := hid hIN
       generalize ba (m[i]'hil).1 = Kq at q0 HIN
       generalize ba (m[i]'hil).2 = Vq at q1
       clear hst hIN hcel hin
       go_wp2_with (go_at_call 14; refine HIN.out.mono ?_; rintro e w7 ⟨rfl, rfl⟩)
       go_roundw
       case rel => exact ⟨i + 1, k, by omega, by go_num, hk40, by rw [HST.out]; exact HO, HB⟩
       case measure => simp [intOf]; omega
      ·have hnew : cellsV (oneV NS m (i + 1)) = cellsV (oneV NS m i) ++ [.string (ba (m[i]'hil).1), .string (ba (m[i]'hil).2)] := by
        rw [← hcel, ← cellsV_app]
        congr 1
        unfold oneV
        rw [hst, if_neg hin]
       have hkl : k + 1 ≤ 40 := by
        have h1 := HO.out.1
        rw [cellsV_len] at h1
        have h2 : (oneV NS m (i + 1)).length ≤ 40 := Nat.le_trans (one_len NS m (i + 1)) (by rw [HN3.out]; omega)
        have h3 := congrArg List.length hnew
        rw [List.length_append, cellsV_len, cellsV_len] at h3
        simp only [List.length_cons, List.length_nil] at h3
        omega
       rw [decide_eq_false hin] at hIN
       have HIN := hid hIN
       have HNEW := hid hnew
       generalize ba (m[i]'hil).1 = Kq at q0 HIN HNEW
       generalize ba (m[i]'hil).2 = Vq at q1 HNEW
       obtain ⟨YS, hYS⟩ : ∃ YS, cellsV (oneV NS m i) = YS := ⟨_, rfl⟩
       rw [hYS] at HO HNEW
       clear hst hIN hcel hin hnew hYS
       go_wp2_with first
        | (go_at_call 14; refine HIN.out.mono ?_; rintro e w7 ⟨rfl, rfl⟩)
        | (at_builtin; refine wpList_append_own_at _ rfl _ _ 22 rfl w6.heap.size 43 i0 _ 2 32 Tryd.underlying22 hi hz0 hz1 hz2 rfl (by decide) u15 k YS rfl (HO.out.alloc _) _ 1 1 [.string Kq, .string Vq] rfl rfl (news_blk #[.string Kq, .string Vq] (alloc_at _ _)) (two_oneS _ _) (by unfold maxLen; omega) (by omega) (by simp; omega) ?_; intro s9 W9 ho9 hg9 hn9 hk9; have HB9 := hid (((HB.out.alloc HB.out.size _).grown hg9 (by simp; omega) fun q hq => (HO.out.lt q hq).1) : Below w6.heap.size w6 W9); have HO9 := hid ho9; clear ho9 hg9 hn9 hk9)
       go_roundw
       case rel => exact ⟨i + 1, k + 1, by omega, by go_num, hkl, by rw [HNEW.out]; exact HO9, HB9⟩
       case measure => simp [intOf]; omega
     ·obtain rfl : i = n3 := by omega
      have HO1 : Hid (wr.ownsRow w6.heap.size 43 2 u15 k (cellsV (twoV14 NS m x 0))) := hid (by have h1 := HO.out; unfold twoV14; rw [List.take_zero, List.filter_nil, List.append_nil, HN3.out]; exact h1)
      have HB1 := HB
      obtain ⟨k0, hk0e⟩ : ∃ k0, k = k0 := ⟨_, rfl⟩
      rw [hk0e] at HO1 hk40
      have hk0 : k0 ≤ 40 := hk40
      clear hk0e HO HB
      go_wp2
      go_loopw [15, 17] (fun s15 si wr => ∃ (i k : Nat), i ≤ n2 ∧ si = .int .i64 (i : Int) ∧ k ≤ 40 ∧ Hid (wr.ownsRow w6.heap.size 43 2 s15 k (cellsV (twoV14 NS m x i))) ∧ Hid (Below w6.heap.size w6 wr)) (fun _ si _ => n2 - (intOf si).toNat)
      case atStart => exact ⟨0, k0, Nat.zero_le _, rfl, hk0, HO1, HB1⟩
      case round =>
       clear HO1 HB1
       obtain ⟨i, k, hi3, rfl, hk40, HO, HB⟩ := hrel
       by_cases hlt : i < n2
       ·have hil : i < x.length := by rw [HN2.out]; exact hlt
        have hiz : (i : Int) < (n2 : Int) := by omega
        have hic : (i : Int) < (cp5 : Int) := by omega
        obtain ⟨vb, vo, hA, q0, q1⟩ := vr_at (v := .bool false) (HX.out.below HB.out) i hil
        have hst := in_steps NS x i hil
        have hIN := RIn_any v6 NS (ba (x[i]'hil).1) wr (HNS.out.below HB.out)
        rw [ba_data] at hIN
        have hcel : cellsV [x[i]'hil] = [.string (ba (x[i]'hil).1), .string (ba (x[i]'hil).2)] := rfl
        have hbs := HB.out.size
        subst hA
        by_cases hin : (x[i]'hil).1 ∈ NS
        ·have hnew : cellsV (twoV14 NS m x (i + 1)) = cellsV (twoV14 NS m x i) ++ [.string (ba (x[i]'hil).1), .string (ba (x[i]'hil).2)] := by
          rw [← hcel, ← cellsV_app]
          congr 1
          unfold twoV14
          rw [hst, if_pos hin, List.append_assoc]
         have hkl : k + 1 ≤ 40 := by
          have h1 := HO.out.1
          rw [cellsV_len] at h1
          have h2 : (twoV14 NS m x (i + 1)).length ≤ 40 := Nat.le_trans (two_len NS m x (i + 1)) (by rw [HN3.out]; rw [HN2.out]; omega)
          have h3 := congrArg List.length hnew
          rw [List.length_append, cellsV_len, cellsV_len] at h3
          simp only [List.length_cons, List.length_nil] at h3
          omega
         rw [decide_eq_true hin] at hIN
         have HIN := hid hIN
         have HNEW := hid hnew
         generalize ba (x[i]'hil).1 = Kq at q0 HIN HNEW
         generalize ba (x[i]'hil).2 = Vq at q1 HNEW
         obtain ⟨YS, hYS⟩ : ∃ YS, cellsV (twoV14 NS m x i) = YS := ⟨_, rfl⟩
         rw [hYS] at HO HNEW
         clear hst hIN hcel hin hnew hYS
         go_wp2_with first
          | (go_at_call 14; refine HIN.out.mono ?_; rintro e w7 ⟨rfl, rfl⟩)
          | (at_builtin; refine wpList_append_own_at _ rfl _ _ 22 rfl w6.heap.size 43 i0 _ 2 32 Tryd.underlying22 hi hz0 hz1 hz2 rfl (by decide) u15 k YS rfl (HO.out.alloc _) _ 1 1 [.string Kq, .string Vq] rfl rfl (news_blk #[.string Kq, .string Vq] (alloc_at _ _)) (two_oneS _ _) (by unfold maxLen; omega) (by omega) (by simp; omega) ?_; intro s9 W9 ho9 hg9 hn9 hk9; have HB9 := hid (((HB.out.alloc HB.out.size _).grown hg9 (by simp; omega) fun q hq => (HO.out.lt q hq).1) : Below w6.heap.size w6 W9); have HO9 := hid ho9; clear ho9 hg9 hn9 hk9)
         go_roundw
         case rel => exact ⟨i + 1, k + 1, by omega, by go_num, hkl, by rw [HNEW.out]; exact HO9, HB9⟩
         case measure => simp [intOf]; omega
        ·have HST : Hid (twoV14 NS m x (i + 1) = twoV14 NS m x i) := hid (by unfold twoV14; rw [hst, if_neg hin, List.append_nil])
         rw [decide_eq_false hin] at hIN
         have HIN := hid hIN
         generalize ba (x[i]'hil).1 = Kq at q0 HIN
         generalize ba (x[i]'hil).2 = Vq at q1
         clear hst hIN hcel hin
         go_wp2_with (go_at_call 14; refine HIN.out.mono ?_; rintro e w7 ⟨rfl, rfl⟩)
         go_roundw
         case rel => exact ⟨i + 1, k, by omega, by go_num, hk40, by rw [HST.out]; exact HO, HB⟩
         case measure => simp [intOf]; omega
       ·obtain rfl : i = n2 := by omega
        have hvo := vr_of_owns HO.out
        have HVO : Hid (VR wr u15 (otherV NS m x)) := hid (by have h1 := hvo.1; rw [← HN2.out, two_all] at h1; exact h1)
        replace HPM := hid (PtW.below HPM.out HB.out)
        replace HPL := hid (PtW.below HPL.out HB.out)
        replace HX := hid (HX.out.below HB.out)
        replace HW := hid (HP.out _ _ HW.out HB.out)
        replace BB := hid (BB.out.trans (Below.mono HB.out BB.out.size))
        clear hvo HO HB
        go_wp2_with first
         | (go_at_call 7; refine (HOT.out _ _ HVO.out).mono ?_; rintro e wa ⟨va, rfl, hva, ba1⟩; have HY := hid hva; replace HPM := hid (PtW.below HPM.out ba1); replace HPL := hid (PtW.below HPL.out ba1); replace HX := hid (HX.out.below ba1); replace BB := hid (BB.out.trans (Below.mono ba1 BB.out.size)); replace HW := hid (HP.out _ _ HW.out ba1); clear hva ba1)
         | (go_at_call 11; (with_reducible refine (CE1.out _ _ _ HW.out HPL.out HX.out).mono ?_); rintro e wb ⟨rfl, bb1⟩; replace HY := hid (HY.out.below bb1); replace HPM := hid (PtW.below HPM.out bb1); replace HPL := hid (PtW.below HPL.out bb1); replace HX := hid (HX.out.below bb1); replace BB := hid (BB.out.trans (Below.mono bb1 BB.out.size)); replace HW := hid (HP.out _ _ HW.out bb1); clear bb1)
         | (go_at_call 11; (with_reducible refine (CE2.out _ _ _ HW.out HPL.out HY.out).mono ?_); rintro e wc ⟨rfl, bc1⟩; replace HY := hid (HY.out.below bc1); replace HPM := hid (PtW.below HPM.out bc1); replace HPL := hid (PtW.below HPL.out bc1); replace HX := hid (HX.out.below bc1); replace BB := hid (BB.out.trans (Below.mono bc1 BB.out.size)); replace HW := hid (HP.out _ _ HW.out bc1); clear bc1)
         | (go_at_call 11; (with_reducible refine (CE3.out _ _ _ HW.out HPM.out HX.out).mono ?_); rintro e wd ⟨rfl, bd1⟩; replace HPM := hid (PtW.below HPM.out bd1); replace HPL := hid (PtW.below HPL.out bd1); replace HX := hid (HX.out.below bd1); replace BB := hid (BB.out.trans (Below.mono bd1 BB.out.size)); replace HW := hid (HP.out _ _ HW.out bd1); clear bd1)
         | (go_at_call 15; (with_reducible refine (CTl.out _ _ HW.out HPL.out).mono ?_); rintro e we ⟨rfl, be1⟩; replace HPM := hid (PtW.below HPM.out be1); replace HPL := hid (PtW.below HPL.out be1); replace HX := hid (HX.out.below be1); replace BB := hid (BB.out.trans (Below.mono be1 BB.out.size)); replace HW := hid (HP.out _ _ HW.out be1); clear be1)
         | (go_at_call 15; (with_reducible refine (CTm.out _ _ HW.out HPM.out).mono ?_); rintro e wf ⟨rfl, bf1⟩; replace HPM := hid (PtW.below HPM.out bf1); replace HPL := hid (PtW.below HPL.out bf1); replace HX := hid (HX.out.below bf1); replace BB := hid (BB.out.trans (Below.mono bf1 BB.out.size)); replace HW := hid (HP.out _ _ HW.out bf1); clear bf1)
         | (go_at_call 8; refine (CT3.out _ _ HW.out HX.out).mono ?_; rintro e wg ⟨rfl, bg1⟩; replace HPM := hid (PtW.below HPM.out bg1); replace HPL := hid (PtW.below HPL.out bg1); replace HX := hid (HX.out.below bg1); replace BB := hid (BB.out.trans (Below.mono bg1 BB.out.size)); replace HW := hid (HP.out _ _ HW.out bg1); clear bg1)
         | (go_at_call 6; refine (HAW.out _ HW.out).mono ?_; rintro e wh ⟨rfl, bh1⟩; replace BB := hid (BB.out.trans (Below.mono bh1 BB.out.size)); clear bh1)
        go_ret
        exact ⟨by simp, BB.out⟩
end
end
end Go.Proofs.YtkcilmmaggmmoaaDoor
