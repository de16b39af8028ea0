/- RefNod3 -/
import Derived.StillTailTactics
import Derived.Test.YtkcilmmaggmmoaaGreatDoorNT2
import Derived.Test.YtkcilmmaggmmoaaGreatDoorNT7
set_option linter.unusedVariables false
set_option linter.unusedSimpArgs false
set_option maxRecDepth 100000
set_option maxHeartbeats 16000000
open Go.Lib (hid)
namespace Go.Proofs.YtkcilmmaggmmoaaGreatDoor
namespace N8
end N8
namespace Nw
end Nw
end Go.Proofs.YtkcilmmaggmmoaaGreatDoor
namespace Go.Proofs.YtkcilmmaggmmoaaGreatDoor
section
open Go.RowKit Go.Sort
open Nw N8
theorem region_tail {P : Program} {id : Nat} {Q : Exit → Act → World → Prop} {a : Act} {w : World} {l : List Oper} (n : Nat) (hm : P.follows .mixedOrders = true) (hB : Region.lexTailB .any l.toArray n = true)
  (h : ∀ w9 : World, w9 = w.drew → wpStill P l.toArray w9 (fun a' => wpList P l.toArray Q (l.drop n) a' w9) (l.take n) a) : (Code.region id l.toArray true).wp P Q a w :=
 wp_region_still_tail n hm hB (h w.drew rfl)
def Boxed2 (w0 w : World) (d e : Nd) (c0 c1 c2 c3 u0 u1 u2 u3 : Value) : Prop :=
 Below w0.heap.size w0 w ∧ Row4 w w0.heap.size 25 c0 c1 c2 c3 ∧ Row4 w (w0.heap.size + 1) 25 u0 u1 u2 u3 ∧ NdW w d c0 c1 c2 c3 ∧ NdW w e u0 u1 u2 u3
theorem Boxed2.make {w : World} {d e : Nd} {c0 c1 c2 c3 u0 u1 u2 u3 : Value} (h : NdW w d c0 c1 c2 c3) (g : NdW w e u0 u1 u2 u3) :
  Boxed2 w ((w.alloc (.cells #[c0, c1, c2, c3] 25)).alloc (.cells #[u0, u1, u2, u3] 25)) d e c0 c1 c2 c3 u0 u1 u2 u3 := by
 have hb1 : Below w.heap.size w (w.alloc (.cells #[c0, c1, c2, c3] 25)) := (Below.refl _ _).alloc (Nat.le_refl _) _
 have hb : Below w.heap.size w ((w.alloc (.cells #[c0, c1, c2, c3] 25)).alloc (.cells #[u0, u1, u2, u3] 25)) := hb1.alloc hb1.size _
 refine ⟨hb, (Row4.make w _ _ _ _ _).alloc _, ?_, h.below hb, g.below hb⟩
 have := Row4.make (w.alloc (.cells #[c0, c1, c2, c3] 25)) 25 u0 u1 u2 u3
 rw [show (w.alloc (.cells #[c0, c1, c2, c3] 25)).heap.size = w.heap.size + 1 by simp] at this
 exact this
theorem Boxed2.go {w0 w w' : World} {d e : Nd} {c0 c1 c2 c3 u0 u1 u2 u3 : Value} (h : Boxed2 w0 w d e c0 c1 c2 c3 u0 u1 u2 u3) (hb : Below w.heap.size w w') : Boxed2 w0 w' d e c0 c1 c2 c3 u0 u1 u2 u3 :=
 ⟨belowNext h.1 hb, h.2.1.below hb h.2.1.lt, h.2.2.1.below hb h.2.2.1.lt, h.2.2.2.1.below hb, h.2.2.2.2.below hb⟩
theorem below_drew (w : World) : Below w.heap.size w w.drew := ⟨rfl, rfl, rfl, Nat.le_refl _, fun _ _ => rfl⟩
theorem sameL_ne {ds es : List Nd} (h : ds.length ≠ es.length) : sameL ds es = false := Bool.eq_false_iff.2 fun e => h (sameL_len e)
theorem sameL_no : ∀ {ds es : List Nd} {j : Nat} (h : j < ds.length) (g : j < es.length), sameT (ds[j]'h) (es[j]'g) = false → sameL ds es = false
 | d :: ds, e :: es, 0, _, _, hs => by
  have hs' : sameT d e = false := hs
  rw [sameL, hs']; rfl
 | d :: ds, e :: es, j + 1, h, g, hs => by
  have hs' : sameT (ds[j]'(Nat.lt_of_succ_lt_succ h)) (es[j]'(Nat.lt_of_succ_lt_succ g)) = false := hs
  rw [sameL, sameL_no _ _ hs', Bool.and_false]
theorem sameL_all : ∀ {ds es : List Nd}, ds.length = es.length → (∀ (j : Nat) (h : j < ds.length) (g : j < es.length), sameT (ds[j]'h) (es[j]'g) = true) → sameL ds es = true
 | [], [], _, _ => rfl
 | d :: ds, e :: es, hl, h => by
  have h0 : sameT d e = true := h 0 (Nat.succ_pos _) (Nat.succ_pos _)
  rw [sameL, h0, sameL_all (Nat.succ.inj hl) fun j hj gj => h (j + 1) (Nat.succ_lt_succ hj) (Nat.succ_lt_succ gj)]; rfl
 | [], _ :: _, hl, _ => by cases hl
 | _ :: _, [], hl, _ => by cases hl
theorem RSame_q (v u : Value) (l m : List L8) (w : World) (h : Rd w v l) (k : Rd w u m) (b : Bool) (hb : decide (l = m) = b) :
  Calls Tryz.prog 11 #[v, u] w fun e w' => e = .returned (.bool b) ∧ Below w.heap.size w w' := by
 subst hb; exact RSame_any v u l m w h k
theorem toList_beq {x y : L8} (h : x ≠ y) : ((ba x).toList == (ba y).toList) = false := by rw [ba_list, ba_list]; exact beq_eq_false_iff_ne.2 h
theorem toList_bne {x y : L8} (h : x ≠ y) : ((ba x).toList != (ba y).toList) = true := by rw [ba_list, ba_list]; exact bne_iff_ne.2 h
theorem RSameT_any (N : Nat) : ∀ (d e : Nd), cntT d ≤ N → ∀ (r : Bool), sameT d e = r → ∀ (c0 c1 c2 c3 u0 u1 u2 u3 : Value) (w : World), NdW w d c0 c1 c2 c3 → NdW w e u0 u1 u2 u3 →
  Calls Tryz.prog 10 #[.agg #[c0, c1, c2, c3], .agg #[u0, u1, u2, u3]] w fun x w' => x = .returned (.bool r) ∧ Below w.heap.size w w' := by
 induction N with
 | zero => intro d _ h; have := cntT_pos d; omega
 | succ N ih =>
  intro d e hN r hr c0 c1 c2 c3 u0 u1 u2 u3 w hd he
  cases d with
  | mk k t ks ds =>
   cases e with
   | mk k' t' ks' es =>
    have HB0 := hid (Boxed2.make hd he)
    obtain ⟨rfl, rfl, hks, A, cap, rfl, hcap, hm, _, _⟩ := hd.parts
    obtain ⟨rfl, rfl, hks', A', cap', rfl, hcap', hm', _, _⟩ := he.parts
    have HIH := hid ih
    have hcN : cntL ds ≤ N := by rw [cntT] at hN; omega
    have HCN := hid hcN
    rw [sameT] at hr
    have HR0 := hid hr
    obtain ⟨n, hn⟩ : ∃ n, ds.length = n := ⟨_, rfl⟩
    have HN := hid hn
    obtain ⟨n', hn'⟩ : ∃ n', es.length = n' := ⟨_, rfl⟩
    have HN' := hid hn'
    rw [hn] at HB0 hcap ⊢
    rw [hn'] at HB0 hcap' ⊢
    unfold maxLen at hm hm'
    have hn63 : n ≤ 9223372036854775807 := by omega
    have hn63' : n' ≤ 9223372036854775807 := by omega
    clear ih hd he hn hn' hcN hN hr hks hks'
    by_cases hk : k = k'
    ·subst hk
     have p1 : (k != k) = false := by simp
     by_cases ht : t = t'
     ·subst ht
      obtain ⟨T, hT⟩ : ∃ T, ba t = T := ⟨_, rfl⟩
      rw [hT] at HB0 ⊢
      have p2 : (T.toList != T.toList) = false := by simp
      by_cases hkk : ks = ks'
      ·subst hkk
       have HKS := hid (fun W hW hW' => RSame_q c2 u2 ks ks W hW hW' true (decide_eq_true rfl))
       by_cases hnn : n = n'
       ·subst hnn
        clear hT
        go_enter Tryz.func10, Tryz.ntmps10
        obtain ⟨x0, x1, x2, x3⟩ := HB0.out.2.1.cells
        obtain ⟨y0, y1, y2, y3⟩ := HB0.out.2.2.1.cells
        go_wp2_with fail
        refine (HKS.out _ HB0.out.2.2.2.1.parts.2.2.1 HB0.out.2.2.2.2.parts.2.2.1).mono ?_
        rintro x w1 ⟨rfl, hb1⟩
        have HB1 := hid (HB0.out.go hb1)
        clear hb1 x0 x1 x2 x3 y0 y1 y2 y3
        obtain ⟨x0, x1, x2, x3⟩ := HB1.out.2.1.cells
        obtain ⟨y0, y1, y2, y3⟩ := HB1.out.2.2.1.cells
        go_wp2
        clear x0 x1 x2 x3 y0 y1 y2 y3
        go_loopw [5] (fun si wr => ∃ j : Nat, j ≤ n ∧ si = .int .i64 (j : Int) ∧ Hid (Boxed2 w wr (.mk k t ks ds) (.mk k t ks es) (.int .i64 k) (.string T) c2 (.slice A n cap) (.int .i64 k) (.string T) u2 (.slice A' n cap')) ∧ Hid (∀ (l : Nat) (h : l < ds.length) (g : l < es.length), l < j → sameT (ds[l]'h) (es[l]'g) = true)) (fun si _ => n - (intOf si).toNat)
        case atStart => exact ⟨0, Nat.zero_le _, rfl, HB1, hid fun i _ _ h => absurd h (Nat.not_lt_zero _)⟩
        case round =>
         clear HB0 HB1
         obtain ⟨j, hj, rfl, HB, HK⟩ := hrel
         by_cases hlt : j < n
         ·have hjl : j < ds.length := by rw [HN.out]; exact hlt
          have hjl' : j < es.length := by rw [HN'.out]; exact hlt
          have hjz : (j : Int) < (n : Int) := by omega
          have hck : cntT (ds[j]'hjl) ≤ cntL ds := cntL_mem (List.getElem_mem hjl)
          have hcall := HIH.out (ds[j]'hjl) (es[j]'hjl') (by have := HCN.out; omega)
          obtain ⟨z0, z1, z2, z3⟩ := HB.out.2.1.cells
          go_wp2
          refine region_tail 10 (by kernel_rfl) (by kernel_rfl) ?_
          intro w9 hw9
          simp only [List.take_succ_cons, List.take_zero, List.drop_succ_cons, List.drop_zero]
          have HB9 := hid (HB.out.go (w' := w9) (by rw [hw9]; exact below_drew _))
          clear hw9 z0 z1 z2 z3
          obtain ⟨x0, x1, x2, x3⟩ := HB9.out.2.1.cells
          obtain ⟨y0, y1, y2, y3⟩ := HB9.out.2.2.1.cells
          obtain ⟨b, o, e0, e1, e2, e3, rfl, hb, v0, v1, v2, v3, hnd⟩ := HB9.out.2.2.2.1.kid j hjl
          obtain ⟨b', o', f0, f1, f2, f3, rfl, hb', q0, q1, q2, q3, hnd'⟩ := HB9.out.2.2.2.2.kid j hjl'
          rcases Bool.eq_false_or_eq_true (sameT (ds[j]'hjl) (es[j]'hjl')) with hs | hs
          ·have HR := hid (hcall true hs e0 e1 e2 e3 f0 f1 f2 f3 w9 hnd hnd')
           have HSS := hid hs
           clear hnd hnd' hck hcall hs
           repeat still_step
           refine wpStill_nil ?_
           go_wp2_with (go_at_call 10; refine HR.out.mono ?_; rintro x w2 ⟨rfl, hb2⟩)
           have HB2 := hid (HB9.out.go hb2)
           clear hb2
           go_roundw
           case measure => simp [intOf]; omega
           case rel =>
            refine ⟨j + 1, by omega, by go_num, HB2, hid fun l hl gl hli => ?_⟩
            rcases Nat.lt_succ_iff_lt_or_eq.1 hli with h | rfl
            ·exact HK.out l hl gl h
            ·exact HSS.out
          ·have HR := hid (hcall false hs e0 e1 e2 e3 f0 f1 f2 f3 w9 hnd hnd')
           have HE : Hid (r = false) := hid (by rw [← HR0.out, sameL_no hjl hjl' hs, Bool.and_false])
           clear hnd hnd' hck hcall hs
           repeat still_step
           refine wpStill_nil ?_
           go_wp2_with (go_at_call 10; refine HR.out.mono ?_; rintro x w2 ⟨rfl, hb2⟩)
           go_ret
           exact ⟨ret_b HE.out.symm, (HB9.out.go hb2).1⟩
         ·obtain rfl : j = n := by omega
          have HE : Hid (r = true) := hid (by rw [← HR0.out, sameL_all (HN.out.trans HN'.out.symm) fun l hl gl => HK.out l hl gl (by rw [← HN.out]; exact hl)]; simp)
          obtain ⟨x0, x1, x2, x3⟩ := HB.out.2.1.cells
          go_wp2
          go_ret
          exact ⟨ret_b HE.out.symm, HB.out.1⟩
       ·have HE : Hid (r = false) := hid (by rw [← HR0.out, sameL_ne (by rw [HN.out, HN'.out]; exact hnn), Bool.and_false])
        have p4 : ((n : Int) != (n' : Int)) = true := bne_iff_ne.2 (by omega)
        clear hT
        go_enter Tryz.func10, Tryz.ntmps10
        go_wp2_with fail
        refine (HKS.out _ HB0.out.2.2.2.1.parts.2.2.1 HB0.out.2.2.2.2.parts.2.2.1).mono ?_
        rintro x w1 ⟨rfl, hb1⟩
        have HB1 := hid (HB0.out.go hb1)
        clear hb1
        obtain ⟨x0, x1, x2, x3⟩ := HB1.out.2.1.cells
        obtain ⟨y0, y1, y2, y3⟩ := HB1.out.2.2.1.cells
        go_wp2
        go_ret
        exact ⟨ret_b HE.out.symm, HB1.out.1⟩
      ·have HKS := hid (fun W hW hW' => RSame_q c2 u2 ks ks' W hW hW' false (decide_eq_false hkk))
       have HE : Hid (r = false) := hid (by rw [← HR0.out, decide_eq_false hkk, Bool.and_false, Bool.false_and])
       clear hT hkk
       go_enter Tryz.func10, Tryz.ntmps10
       go_wp2_with fail
       refine (HKS.out _ HB0.out.2.2.2.1.parts.2.2.1 HB0.out.2.2.2.2.parts.2.2.1).mono ?_
       rintro x w1 ⟨rfl, hb1⟩
       have HB1 := hid (HB0.out.go hb1)
       clear hb1
       go_wp2
       go_ret
       exact ⟨ret_b HE.out.symm, HB1.out.1⟩
     ·have HE : Hid (r = false) := hid (by rw [← HR0.out, decide_eq_false ht, Bool.and_false, Bool.false_and, Bool.false_and])
      obtain ⟨T, hT⟩ : ∃ T, ba t = T := ⟨_, rfl⟩
      obtain ⟨T', hT'⟩ : ∃ T', ba t' = T' := ⟨_, rfl⟩
      have p2 : (T.toList != T'.toList) = true := by rw [← hT, ← hT']; exact toList_bne ht
      have p3 : (T.toList == T'.toList) = false := by rw [← hT, ← hT']; exact toList_beq ht
      have p1 : (k != k) = false := by simp
      rw [hT, hT'] at HB0 ⊢
      clear hT hT' ht
      go_enter Tryz.func10, Tryz.ntmps10
      go_wp2
      go_ret
      exact ⟨ret_b HE.out.symm, HB0.out.1⟩
    ·have HE : Hid (r = false) := hid (by rw [← HR0.out, decide_eq_false hk, Bool.false_and, Bool.false_and, Bool.false_and])
     have p1 : (k != k') = true := bne_iff_ne.2 hk
     clear hk
     go_enter Tryz.func10, Tryz.ntmps10
     go_wp2
     go_ret
     exact ⟨ret_b HE.out.symm, HB0.out.1⟩
end
end Go.Proofs.YtkcilmmaggmmoaaGreatDoor
