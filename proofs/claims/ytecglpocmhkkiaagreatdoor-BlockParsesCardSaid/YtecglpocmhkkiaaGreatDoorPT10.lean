/- NamRsame, RefNod3, NamIn, ShelfS, NamInP -/
import Derived.ChangeAlike
import Derived.RegionTactic
import Derived.Shelf.Lay
import Derived.Shelf.Slices.CompactS
import Derived.Shelf.Slices.In.SortNone
import Derived.Shelf.Slices.Turned
import Derived.Shelf.Sort.Plain
import Derived.Shelf.Spec.SlicesGrow
import Derived.StillTailTactics
import Derived.Test.YtecglpocmhkkiaaGreatDoorPT4
import Derived.Test.YtecglpocmhkkiaaGreatDoorPT5
import Derived.Test.YtecglpocmhkkiaaGreatDoorProg
set_option linter.unusedVariables false
set_option linter.unusedSimpArgs false
set_option maxRecDepth 100000
set_option maxHeartbeats 16000000
open Go.Lib (hid)
namespace Go.Proofs.YtecglpocmhkkiaaGreatDoor
section
open Go.RowKit Go.Sort
open Nw
theorem ret_bool {a b : Bool} (h : a = b) : Ending.returned (.bool a) = .returned (.bool b) := by rw [h]
theorem str_ne_true {x y : L8} (h : x ≠ y) : ((ba x).toList == (ba y).toList) = false := by rw [ba_list, ba_list]; exact beq_eq_false_iff_ne.2 h
theorem str_ne_false {x : L8} : ((ba x).toList == (ba x).toList) = true := by simp
theorem RSame_any (v u : Value) (l m : List L8) (w : World) (h : Rd w v l) (k : Rd w u m) :
  Calls Tryz.prog 22 #[v, u] w fun e w' => e = .returned (.bool (decide (l = m))) ∧ Below w.heap.size w w' := by
 obtain ⟨a, cap, rfl, h1, h2, h3⟩ := h
 obtain ⟨a2, cap2, rfl, k1, k2, k3⟩ := k
 unfold maxLen at h2 k2
 by_cases hlen : l.length = m.length
 ·obtain ⟨n, hn⟩ : ∃ n, n = l.length := ⟨_, rfl⟩
  have hm : n = m.length := by omega
  have HN : Hid (n = l.length ∧ n = m.length) := hid ⟨hn, hm⟩
  rw [← hn, ← hm]
  rw [← hn] at h1
  rw [← hm] at k1
  clear hn hm hlen
  go_enter Tryz.func22, Tryz.ntmps22
  go_wp2
  go_loopw [5] (fun i wr => ∃ k : Nat, k ≤ n ∧ i = .int .i64 k ∧ (∀ j (hj : j < l.length) (hj' : j < m.length), j < k → l[j] = m[j]) ∧ Below w.heap.size w wr) (fun i _ => n - (intOf i).toNat)
  case atStart => exact ⟨0, Nat.zero_le _, rfl, fun j _ _ h => absurd h (Nat.not_lt_zero _), Below.refl _ _⟩
  case round =>
   obtain ⟨k, hk, rfl, hall, hbel⟩ := hrel
   have HA := hid hall; clear hall
   have HB := hid hbel; clear hbel
   by_cases hlt : k < n
   ·have hl : Hid (k < l.length) := hid (by have := HN.out.1; omega)
    have hm : Hid (k < m.length) := hid (by have := HN.out.2; omega)
    rcases h3 with ⟨rfl, _⟩ | ⟨b, o, rfl, h4, h5⟩
    ·exact absurd hl.out (Nat.not_lt_zero _)
    rcases k3 with ⟨rfl, _⟩ | ⟨b2, o2, rfl, k4, k5⟩
    ·exact absurd hm.out (Nat.not_lt_zero _)
    have hc := (HB.out.cell (p := ⟨b, o + k, none⟩) h4).trans (h5 k hl.out)
    have kc := (HB.out.cell (p := ⟨b2, o2 + k, none⟩) k4).trans (k5 k hm.out)
    clear h5 k5
    have hltz : (k : Int) < (n : Int) := by omega
    by_cases he : l[k]'hl.out = m[k]'hm.out
    ·have HE := hid he
     have b1 := str_ne_false (x := l[k]'hl.out)
     rw [← he] at kc
     clear he
     generalize ba (l[k]'hl.out) = x at hc kc b1
     go_wp2
     go_quiet (fail)
     go_wp2
     go_roundw
     case rel =>
      refine ⟨k + 1, by omega, by go_num, fun j hj hj' hjk => ?_, ?_⟩
      ·rcases Nat.lt_succ_iff_lt_or_eq.1 hjk with h | rfl
       ·exact HA.out j hj hj' h
       ·exact HE.out
      ·exact HB.out.trans ((below_drewN _ _).mono HB.out.size)
     case measure => simp [intOf]; omega
    ·have HE := hid he
     have b1 := str_ne_true he
     clear he
     generalize ba (l[k]'hl.out) = x at hc b1
     generalize ba (m[k]'hm.out) = y at kc b1
     go_wp2
     go_quiet (fail)
     go_wp2
     go_ret
     exact ⟨ret_bool (decide_eq_false fun e => HE.out (by subst e; rfl)).symm, HB.out.trans ((below_drewN _ _).mono HB.out.size)⟩
   ·go_wp2
    go_ret
    refine ⟨ret_bool (decide_eq_true (List.ext_getElem (by rw [← HN.out.1, ← HN.out.2]) fun j hj hj' => HA.out j hj hj' ?_)).symm, HB.out⟩
    have := HN.out.1
    omega
 ·have H : Hid (l ≠ m) := hid fun e => hlen (by rw [e])
  have hz : ¬ (l.length : Int) = (m.length : Int) := by omega
  go_enter Tryz.func22, Tryz.ntmps22
  go_wp2
  go_ret
  exact ⟨ret_bool (decide_eq_false H.out).symm, Below.refl _ _⟩
end
section
open Go.RowKit Go.Sort
open Nw N8
theorem region_tail {P : Program} {id : Nat} {Q : Exit → Act → World → Prop} {a : Act} {w : World} {l : List Oper} (n : Nat) (hm : P.follows .mixedOrders = true) (hB : Region.lexTailB .any l.toArray n = true)
  (h : ∀ w9 : World, w9 = w.drew → wpStill P l.toArray w9 (fun a' => wpList P l.toArray Q (l.drop n) a' w9) (l.take n) a) : (Code.region id l.toArray true).wp P Q a w :=
 wp_region_still_tail n hm hB (h w.drew rfl)
def Boxed2 (w0 w : World) (d e : Nd) (c0 c1 c2 c3 u0 u1 u2 u3 : Value) : Prop :=
 Below w0.heap.size w0 w ∧ Row4 w w0.heap.size 26 c0 c1 c2 c3 ∧ Row4 w (w0.heap.size + 1) 26 u0 u1 u2 u3 ∧ NdW w d c0 c1 c2 c3 ∧ NdW w e u0 u1 u2 u3
theorem Boxed2.make {w : World} {d e : Nd} {c0 c1 c2 c3 u0 u1 u2 u3 : Value} (h : NdW w d c0 c1 c2 c3) (g : NdW w e u0 u1 u2 u3) :
  Boxed2 w ((w.alloc (.cells #[c0, c1, c2, c3] 26)).alloc (.cells #[u0, u1, u2, u3] 26)) d e c0 c1 c2 c3 u0 u1 u2 u3 := by
 have hb1 : Below w.heap.size w (w.alloc (.cells #[c0, c1, c2, c3] 26)) := (Below.refl _ _).alloc (Nat.le_refl _) _
 have hb : Below w.heap.size w ((w.alloc (.cells #[c0, c1, c2, c3] 26)).alloc (.cells #[u0, u1, u2, u3] 26)) := hb1.alloc hb1.size _
 refine ⟨hb, (Row4.make w _ _ _ _ _).alloc _, ?_, h.below hb, g.below hb⟩
 have := Row4.make (w.alloc (.cells #[c0, c1, c2, c3] 26)) 26 u0 u1 u2 u3
 rw [show (w.alloc (.cells #[c0, c1, c2, c3] 26)).heap.size = w.heap.size + 1 by simp] at this
 exact this
theorem Boxed2.go {w0 w w' : World} {d e : Nd} {c0 c1 c2 c3 u0 u1 u2 u3 : Value} (h : Boxed2 w0 w d e c0 c1 c2 c3 u0 u1 u2 u3) (hb : Below w.heap.size w w') : Boxed2 w0 w' d e c0 c1 c2 c3 u0 u1 u2 u3 :=
 ⟨belowNext h.1 hb, h.2.1.below hb h.2.1.lt, h.2.2.1.below hb h.2.2.1.lt, h.2.2.2.1.below hb, h.2.2.2.2.below hb⟩
theorem below_drew (w : World) : Below w.heap.size w w.drew := ⟨rfl, rfl, rfl, Nat.le_refl _, fun _ _ => rfl⟩
theorem sameL_ne {ds es : List Nd} (h : ds.length ≠ es.length) : sameL ds es = false := Bool.eq_false_iff.2 fun e => h (sameL_len e)
theorem sameL_no : ∀ {ds es : List Nd} {j : Nat} (h : j < ds.length) (g : j < es.length), sameT (ds[j]'h) (es[j]'g) = false → sameL ds es = false
 | d :: ds, e :: es, 0, _, _, hs => by
  have hs' : sameT d e = false := hs
  rw [sameL, hs']; rfl
 | d :: ds, e :: es, j + 1, h, g, hs => by
  have hs' : sameT (ds[j]'(Nat.lt_of_succ_lt_succ h)) (es[j]'(Nat.lt_of_succ_lt_succ g)) = false := hs
  rw [sameL, sameL_no _ _ hs', Bool.and_false]
theorem sameL_all : ∀ {ds es : List Nd}, ds.length = es.length → (∀ (j : Nat) (h : j < ds.length) (g : j < es.length), sameT (ds[j]'h) (es[j]'g) = true) → sameL ds es = true
 | [], [], _, _ => rfl
 | d :: ds, e :: es, hl, h => by
  have h0 : sameT d e = true := h 0 (Nat.succ_pos _) (Nat.succ_pos _)
  rw [sameL, h0, sameL_all (Nat.succ.inj hl) fun j hj gj => h (j + 1) (Nat.succ_lt_succ hj) (Nat.succ_lt_succ gj)]; rfl
 | [], _ :: _, hl, _ => by cases hl
 | _ :: _, [], hl, _ => by cases hl
theorem RSame_q (v u : Value) (l m : List L8) (w : World) (h : Rd w v l) (k : Rd w u m) (b : Bool) (hb : decide (l = m) = b) :
  Calls Tryz.prog 22 #[v, u] w fun e w' => e = .returned (.bool b) ∧ Below w.heap.size w w' := by
 subst hb; exact RSame_any v u l m w h k
theorem toList_beq {x y : L8} (h : x ≠ y) : ((ba x).toList == (ba y).toList) = false := by rw [ba_list, ba_list]; exact beq_eq_false_iff_ne.2 h
theorem toList_bne {x y : L8} (h : x ≠ y) : ((ba x).toList != (ba y).toList) = true := by rw [ba_list, ba_list]; exact bne_iff_ne.2 h
theorem RSameT_any (N : Nat) : ∀ (d e : Nd), cntT d ≤ N → ∀ (r : Bool), sameT d e = r → ∀ (c0 c1 c2 c3 u0 u1 u2 u3 : Value) (w : World), NdW w d c0 c1 c2 c3 → NdW w e u0 u1 u2 u3 →
  Calls Tryz.prog 9 #[.agg #[c0, c1, c2, c3], .agg #[u0, u1, u2, u3]] w fun x w' => x = .returned (.bool r) ∧ Below w.heap.size w w' := by
 induction N with
 | zero => intro d _ h; have := cntT_pos d; omega
 | succ N ih =>
  intro d e hN r hr c0 c1 c2 c3 u0 u1 u2 u3 w hd he
  cases d with
  | mk k t ks ds =>
   cases e with
   | mk k' t' ks' es =>
    have HB0 := hid (Boxed2.make hd he)
    obtain ⟨rfl, rfl, hks, A, cap, rfl, hcap, hm, _, _⟩ := hd.parts
    obtain ⟨rfl, rfl, hks', A', cap', rfl, hcap', hm', _, _⟩ := he.parts
    have HIH := hid ih
    have hcN : cntL ds ≤ N := by rw [cntT] at hN; omega
    have HCN := hid hcN
    rw [sameT] at hr
    have HR0 := hid hr
    obtain ⟨n, hn⟩ : ∃ n, ds.length = n := ⟨_, rfl⟩
    have HN := hid hn
    obtain ⟨n', hn'⟩ : ∃ n', es.length = n' := ⟨_, rfl⟩
    have HN' := hid hn'
    rw [hn] at HB0 hcap ⊢
    rw [hn'] at HB0 hcap' ⊢
    unfold maxLen at hm hm'
    have hn63 : n ≤ 9223372036854775807 := by omega
    have hn63' : n' ≤ 9223372036854775807 := by omega
    clear ih hd he hn hn' hcN hN hr hks hks'
    by_cases hk : k = k'
    ·subst hk
     have p1 : (k != k) = false := by simp
     by_cases ht : t = t'
     ·subst ht
      obtain ⟨T, hT⟩ : ∃ T, ba t = T := ⟨_, rfl⟩
      rw [hT] at HB0 ⊢
      have p2 : (T.toList != T.toList) = false := by simp
      by_cases hkk : ks = ks'
      ·subst hkk
       have HKS := hid (fun W hW hW' => RSame_q c2 u2 ks ks W hW hW' true (decide_eq_true rfl))
       by_cases hnn : n = n'
       ·subst hnn
        clear hT
        go_enter Tryz.func9, Tryz.ntmps9
        obtain ⟨x0, x1, x2, x3⟩ := HB0.out.2.1.cells
        obtain ⟨y0, y1, y2, y3⟩ := HB0.out.2.2.1.cells
        go_wp2_with fail
        refine (HKS.out _ HB0.out.2.2.2.1.parts.2.2.1 HB0.out.2.2.2.2.parts.2.2.1).mono ?_
        rintro x w1 ⟨rfl, hb1⟩
        have HB1 := hid (HB0.out.go hb1)
        clear hb1 x0 x1 x2 x3 y0 y1 y2 y3
        obtain ⟨x0, x1, x2, x3⟩ := HB1.out.2.1.cells
        obtain ⟨y0, y1, y2, y3⟩ := HB1.out.2.2.1.cells
        go_wp2
        clear x0 x1 x2 x3 y0 y1 y2 y3
        go_loopw [5] (fun si wr => ∃ j : Nat, j ≤ n ∧ si = .int .i64 (j : Int) ∧ Hid (Boxed2 w wr (.mk k t ks ds) (.mk k t ks es) (.int .i64 k) (.string T) c2 (.slice A n cap) (.int .i64 k) (.string T) u2 (.slice A' n cap')) ∧ Hid (∀ (l : Nat) (h : l < ds.length) (g : l < es.length), l < j → sameT (ds[l]'h) (es[l]'g) = true)) (fun si _ => n - (intOf si).toNat)
        case atStart => exact ⟨0, Nat.zero_le _, rfl, HB1, hid fun i _ _ h => absurd h (Nat.not_lt_zero _)⟩
        case round =>
         clear HB0 HB1
         obtain ⟨j, hj, rfl, HB, HK⟩ := hrel
         by_cases hlt : j < n
         ·have hjl : j < ds.length := by rw [HN.out]; exact hlt
          have hjl' : j < es.length := by rw [HN'.out]; exact hlt
          have hjz : (j : Int) < (n : Int) := by omega
          have hck : cntT (ds[j]'hjl) ≤ cntL ds := cntL_mem (List.getElem_mem hjl)
          have hcall := HIH.out (ds[j]'hjl) (es[j]'hjl') (by have := HCN.out; omega)
          obtain ⟨z0, z1, z2, z3⟩ := HB.out.2.1.cells
          go_wp2
          refine region_tail 10 (by kernel_rfl) (by kernel_rfl) ?_
          intro w9 hw9
          simp only [List.take_succ_cons, List.take_zero, List.drop_succ_cons, List.drop_zero]
          have HB9 := hid (HB.out.go (w' := w9) (by rw [hw9]; exact below_drew _))
          clear hw9 z0 z1 z2 z3
          obtain ⟨x0, x1, x2, x3⟩ := HB9.out.2.1.cells
          obtain ⟨y0, y1, y2, y3⟩ := HB9.out.2.2.1.cells
          obtain ⟨b, o, e0, e1, e2, e3, rfl, hb, v0, v1, v2, v3, hnd⟩ := HB9.out.2.2.2.1.kid j hjl
          obtain ⟨b', o', f0, f1, f2, f3, rfl, hb', q0, q1, q2, q3, hnd'⟩ := HB9.out.2.2.2.2.kid j hjl'
          rcases Bool.eq_false_or_eq_true (sameT (ds[j]'hjl) (es[j]'hjl')) with hs | hs
          ·have HR := hid (hcall true hs e0 e1 e2 e3 f0 f1 f2 f3 w9 hnd hnd')
           have HSS := hid hs
           clear hnd hnd' hck hcall hs
           repeat still_step
           refine wpStill_nil ?_
           go_wp2_with (go_at_call 9; refine HR.out.mono ?_; rintro x w2 ⟨rfl, hb2⟩)
           have HB2 := hid (HB9.out.go hb2)
           clear hb2
           go_roundw
           case measure => simp [intOf]; omega
           case rel =>
            refine ⟨j + 1, by omega, by go_num, HB2, hid fun l hl gl hli => ?_⟩
            rcases Nat.lt_succ_iff_lt_or_eq.1 hli with h | rfl
            ·exact HK.out l hl gl h
            ·exact HSS.out
          ·have HR := hid (hcall false hs e0 e1 e2 e3 f0 f1 f2 f3 w9 hnd hnd')
           have HE : Hid (r = false) := hid (by rw [← HR0.out, sameL_no hjl hjl' hs, Bool.and_false])
           clear hnd hnd' hck hcall hs
           repeat still_step
           refine wpStill_nil ?_
           go_wp2_with (go_at_call 9; refine HR.out.mono ?_; rintro x w2 ⟨rfl, hb2⟩)
           go_ret
           exact ⟨ret_b HE.out.symm, (HB9.out.go hb2).1⟩
         ·obtain rfl : j = n := by omega
          have HE : Hid (r = true) := hid (by rw [← HR0.out, sameL_all (HN.out.trans HN'.out.symm) fun l hl gl => HK.out l hl gl (by rw [← HN.out]; exact hl)]; simp)
          obtain ⟨x0, x1, x2, x3⟩ := HB.out.2.1.cells
          go_wp2
          go_ret
          exact ⟨ret_b HE.out.symm, HB.out.1⟩
       ·have HE : Hid (r = false) := hid (by rw [← HR0.out, sameL_ne (by rw [HN.out, HN'.out]; exact hnn), Bool.and_false])
        have p4 : ((n : Int) != (n' : Int)) = true := bne_iff_ne.2 (by omega)
        clear hT
        go_enter Tryz.func9, Tryz.ntmps9
        go_wp2_with fail
        refine (HKS.out _ HB0.out.2.2.2.1.parts.2.2.1 HB0.out.2.2.2.2.parts.2.2.1).mono ?_
        rintro x w1 ⟨rfl, hb1⟩
        have HB1 := hid (HB0.out.go hb1)
        clear hb1
        obtain ⟨x0, x1, x2, x3⟩ := HB1.out.2.1.cells
        obtain ⟨y0, y1, y2, y3⟩ := HB1.out.2.2.1.cells
        go_wp2
        go_ret
        exact ⟨ret_b HE.out.symm, HB1.out.1⟩
      ·have HKS := hid (fun W hW hW' => RSame_q c2 u2 ks ks' W hW hW' false (decide_eq_false hkk))
       have HE : Hid (r = false) := hid (by rw [← HR0.out, decide_eq_false hkk, Bool.and_false, Bool.false_and])
       clear hT hkk
       go_enter Tryz.func9, Tryz.ntmps9
       go_wp2_with fail
       refine (HKS.out _ HB0.out.2.2.2.1.parts.2.2.1 HB0.out.2.2.2.2.parts.2.2.1).mono ?_
       rintro x w1 ⟨rfl, hb1⟩
       have HB1 := hid (HB0.out.go hb1)
       clear hb1
       go_wp2
       go_ret
       exact ⟨ret_b HE.out.symm, HB1.out.1⟩
     ·have HE : Hid (r = false) := hid (by rw [← HR0.out, decide_eq_false ht, Bool.and_false, Bool.false_and, Bool.false_and])
      obtain ⟨T, hT⟩ : ∃ T, ba t = T := ⟨_, rfl⟩
      obtain ⟨T', hT'⟩ : ∃ T', ba t' = T' := ⟨_, rfl⟩
      have p2 : (T.toList != T'.toList) = true := by rw [← hT, ← hT']; exact toList_bne ht
      have p3 : (T.toList == T'.toList) = false := by rw [← hT, ← hT']; exact toList_beq ht
      have p1 : (k != k) = false := by simp
      rw [hT, hT'] at HB0 ⊢
      clear hT hT' ht
      go_enter Tryz.func9, Tryz.ntmps9
      go_wp2
      go_ret
      exact ⟨ret_b HE.out.symm, HB0.out.1⟩
    ·have HE : Hid (r = false) := hid (by rw [← HR0.out, decide_eq_false hk, Bool.false_and, Bool.false_and, Bool.false_and])
     have p1 : (k != k') = true := bne_iff_ne.2 hk
     clear hk
     go_enter Tryz.func9, Tryz.ntmps9
     go_wp2
     go_ret
     exact ⟨ret_b HE.out.symm, HB0.out.1⟩
end
section
open Go.RowKit Go.Sort
open Nw
theorem RIn_any (v : Value) (l : List L8) (s : ByteArray) (w : World) (h : Rd w v l) :
  Calls Tryz.prog 67 #[v, .string s] w fun e w' => e = .returned (.bool (decide (s.data.toList ∈ l))) ∧ w = w' := by
 obtain ⟨a, cap, rfl, h1, h2, h3⟩ := h
 unfold maxLen at h2
 go_enter Tryz.func67, Tryz.ntmps67
 go_wp2
 go_loop [5] (fun i => ∃ k : Nat, k ≤ l.length ∧ i = .int .i64 k ∧ ∀ j (hj : j < l.length), j < k → l[j] ≠ s.data.toList) (fun i => l.length - (intOf i).toNat)
 case atStart => exact ⟨0, Nat.zero_le _, rfl, fun j _ h => absurd h (Nat.not_lt_zero _)⟩
 case round =>
  obtain ⟨k, hk, rfl, hall⟩ := hrel
  have HA := hid hall; clear hall
  by_cases hlt : k < l.length
  ·rcases h3 with ⟨rfl, _⟩ | ⟨b, o, rfl, h4, h5⟩
   ·exact absurd hlt (Nat.not_lt_zero _)
   have hc := h5 k hlt
   clear h5
   by_cases he : l[k] = s.data.toList
   ·have HE := hid he
    have b1 := str_eq_true he
    clear he
    generalize ba l[k] = x at hc b1
    go_wp2
    go_ret
    exact ⟨ret_bool (decide_eq_true (by rw [← HE.out]; exact List.getElem_mem _)).symm, rfl⟩
   ·have HE := hid he
    have b1 := str_eq_false he
    clear he
    generalize ba l[k] = x at hc b1
    go_wp2
    go_round
    case rel =>
     refine ⟨k + 1, by omega, by go_num, fun j hj hjk => ?_⟩
     rcases Nat.lt_succ_iff_lt_or_eq.1 hjk with h | rfl
     ·exact HA.out j hj h
     ·exact HE.out
    case measure => simp [intOf]; omega
  ·go_wp2
   go_ret
   refine ⟨ret_bool (decide_eq_false fun hm => ?_).symm, rfl⟩
   obtain ⟨j, hj, e⟩ := List.mem_iff_getElem.1 hm
   exact HA.out j hj (by omega) e
end
end Go.Proofs.YtecglpocmhkkiaaGreatDoor
namespace Go.Proofs
open Go.Shelf
def Tryz.lays190_ren : Go.Shelf.Ren := ⟨fun | 190 => 156 | 125 => 169 | 258 => 168 | 128 => 184 | 129 => 185 | 302 => 175 | 303 => 176 | 304 => 177 | 305 => 178 | 306 => 179 | 307 => 180 | 308 => 181 | 309 => 182 | 310 => 183 | 333 => 190 | 329 => 191 | 330 => 192 | 334 => 193 | 335 => 194 | 336 => 195 | 344 => 197 | n => n, fun | 31 => 23 | 9 => 9 | 3 => 3 | 46 => 122 | 0 => 0 | 51 => 133 | 53 => 177 | 4 => 4 | 183 => 170 | 182 => 169 | 131 => 76 | 5 => 5 | 218 => 178 | 222 => 182 | 228 => 185 | 229 => 80 | n => n, fun | n => n⟩
theorem Tryz.lays190 : Go.Proofs.Lays.n190 Tryz.prog Tryz.lays190_ren := {
 mixed := by kernel_rfl
 f125 := Tryz.func169.trans (congrArg some (by kernel_rfl))
 f128 := Tryz.func184.trans (congrArg some (by kernel_rfl))
 f129 := Tryz.func185.trans (congrArg some (by kernel_rfl))
 f190 := Tryz.func156.trans (congrArg some (by kernel_rfl))
 f258 := Tryz.func168.trans (congrArg some (by kernel_rfl))
 f302 := Tryz.func175.trans (congrArg some (by kernel_rfl))
 f303 := Tryz.func176.trans (congrArg some (by kernel_rfl))
 f304 := Tryz.func177.trans (congrArg some (by kernel_rfl))
 f305 := Tryz.func178.trans (congrArg some (by kernel_rfl))
 f306 := Tryz.func179.trans (congrArg some (by kernel_rfl))
 f307 := Tryz.func180.trans (congrArg some (by kernel_rfl))
 f308 := Tryz.func181.trans (congrArg some (by kernel_rfl))
 f309 := Tryz.func182.trans (congrArg some (by kernel_rfl))
 f310 := Tryz.func183.trans (congrArg some (by kernel_rfl))
 f329 := Tryz.func191.trans (congrArg some (by kernel_rfl))
 f330 := Tryz.func192.trans (congrArg some (by kernel_rfl))
 f333 := Tryz.func190.trans (congrArg some (by kernel_rfl))
 f334 := Tryz.func193.trans (congrArg some (by kernel_rfl))
 f335 := Tryz.func194.trans (congrArg some (by kernel_rfl))
 f336 := Tryz.func195.trans (congrArg some (by kernel_rfl))
 f344 := Tryz.func197.trans (congrArg some (by kernel_rfl))
 t0 := Tryz.underlying0
 a0 := Tryz.isAgg0
 z0 := Tryz.sizeOf0
 v0 := Tryz.zeroValue0
 t3 := Tryz.underlying3
 a3 := Tryz.isAgg3
 z3 := Tryz.sizeOf3
 v3 := Tryz.zeroValue3
 t4 := Tryz.underlying4
 a4 := Tryz.isAgg4
 z4 := Tryz.sizeOf4
 v4 := Tryz.zeroValue4
 t5 := Tryz.underlying5
 a5 := Tryz.isAgg5
 z5 := Tryz.sizeOf5
 v5 := Tryz.zeroValue5
 t9 := Tryz.underlying9
 a9 := Tryz.isAgg9
 z9 := Tryz.sizeOf9
 v9 := Tryz.zeroValue9
 t31 := Tryz.underlying23
 a31 := Tryz.isAgg23
 z31 := Tryz.sizeOf23
 v31 := Tryz.zeroValue23
 t46 := Tryz.underlying122
 a46 := Tryz.isAgg122
 z46 := Tryz.sizeOf122
 v46 := Tryz.zeroValue122
 t51 := Tryz.underlying133
 a51 := Tryz.isAgg133
 z51 := Tryz.sizeOf133
 v51 := Tryz.zeroValue133
 t53 := Tryz.underlying177
 a53 := Tryz.isAgg177
 z53 := Tryz.sizeOf177
 v53 := Tryz.zeroValue177
 t131 := Tryz.underlying76
 a131 := Tryz.isAgg76
 z131 := Tryz.sizeOf76
 v131 := Tryz.zeroValue76
 t182 := Tryz.underlying169
 a182 := Tryz.isAgg169
 z182 := Tryz.sizeOf169
 v182 := Tryz.zeroValue169
 t183 := Tryz.underlying170
 a183 := Tryz.isAgg170
 z183 := Tryz.sizeOf170
 v183 := Tryz.zeroValue170
 t218 := Tryz.underlying178
 a218 := Tryz.isAgg178
 z218 := Tryz.sizeOf178
 v218 := Tryz.zeroValue178
 t222 := Tryz.underlying182
 a222 := Tryz.isAgg182
 z222 := Tryz.sizeOf182
 v222 := Tryz.zeroValue182
 t228 := Tryz.underlying185
 a228 := Tryz.isAgg185
 z228 := Tryz.sizeOf185
 v228 := Tryz.zeroValue185
 t229 := Tryz.underlying80
 a229 := Tryz.isAgg80
 z229 := Tryz.sizeOf80
 v229 := Tryz.zeroValue80 }
open Go.Sort Go.RowKit in
theorem Tryz.slices_Sort_string (blk off cap : Nat) (ss : List (List UInt8)) (w : World) (hH : Holds encStr w blk off ss.toArray) (hblk : blk < w.heap.size) (hsz : ss.length < 4611686018427387904) :
  Calls Tryz.prog 156 #[.slice (some ⟨blk, off, none⟩) ss.length cap] w fun e w' =>
   e = .returned (.tuple #[]) ∧ ∃ n os, w' = grow (putRow encStr (Sort.ahead w n) blk off (ss.mergeSort fun x y => decide (x ≤ y)).toArray) os := Any.slices_Sort_string Tryz.lays190 blk off cap ss w hH hblk hsz
def Tryz.lays110_ren : Go.Shelf.Ren := ⟨fun | 110 => 114 | 109 => 132 | n => n, fun | 31 => 23 | 9 => 9 | 4 => 4 | 3 => 3 | 0 => 0 | n => n, fun | n => n⟩
theorem Tryz.lays110 : Go.Proofs.Lays.n110 Tryz.prog Tryz.lays110_ren := {
 mixed := by kernel_rfl
 f109 := Tryz.func132.trans (congrArg some (by kernel_rfl))
 f110 := Tryz.func114.trans (congrArg some (by kernel_rfl))
 t0 := Tryz.underlying0
 a0 := Tryz.isAgg0
 z0 := Tryz.sizeOf0
 v0 := Tryz.zeroValue0
 t3 := Tryz.underlying3
 a3 := Tryz.isAgg3
 z3 := Tryz.sizeOf3
 v3 := Tryz.zeroValue3
 t4 := Tryz.underlying4
 a4 := Tryz.isAgg4
 z4 := Tryz.sizeOf4
 v4 := Tryz.zeroValue4
 t9 := Tryz.underlying9
 a9 := Tryz.isAgg9
 z9 := Tryz.sizeOf9
 v9 := Tryz.zeroValue9
 t31 := Tryz.underlying23
 a31 := Tryz.isAgg23
 z31 := Tryz.sizeOf23
 v31 := Tryz.zeroValue23 }
open Go.Lib in
theorem Tryz.slices_Contains_string (b off n c : Nat) (zs : List ByteArray) (x : ByteArray) (w : World) (hz : n ≤ zs.length) (hbig : n ≤ 9223372036854775807) (hc : ∀ j, j < zs.length → w.cell? ⟨b, off + j, none⟩ = some (.string (zs.getD j ByteArray.empty))) :
  Calls Tryz.prog 114 #[.slice (some ⟨b, off, none⟩) n c, .string x] w fun e w' => e = .returned (.bool (Lib.containsS (zs.take n) x)) ∧ w' = w := Any.slices_Contains_string Tryz.lays110 b off n c zs x w hz hbig hc
open Go.Lib in
theorem Tryz.slices_Contains_string_empty (a : Option Addr) (c : Nat) (x : ByteArray) (w : World) :
  Calls Tryz.prog 114 #[.slice a 0 c, .string x] w fun e w' => e = .returned (.bool false) ∧ w' = w := Any.slices_Contains_string_empty Tryz.lays110 a c x w
def Tryz.lays194_ren : Go.Shelf.Ren := ⟨fun | 194 => 157 | n => n, fun | 31 => 23 | 9 => 9 | 3 => 3 | 4 => 4 | 0 => 0 | n => n, fun | n => n⟩
theorem Tryz.lays194 : Go.Proofs.Lays.n194 Tryz.prog Tryz.lays194_ren := {
 mixed := by kernel_rfl
 f194 := Tryz.func157.trans (congrArg some (by kernel_rfl))
 t0 := Tryz.underlying0
 a0 := Tryz.isAgg0
 z0 := Tryz.sizeOf0
 v0 := Tryz.zeroValue0
 t3 := Tryz.underlying3
 a3 := Tryz.isAgg3
 z3 := Tryz.sizeOf3
 v3 := Tryz.zeroValue3
 t4 := Tryz.underlying4
 a4 := Tryz.isAgg4
 z4 := Tryz.sizeOf4
 v4 := Tryz.zeroValue4
 t9 := Tryz.underlying9
 a9 := Tryz.isAgg9
 z9 := Tryz.sizeOf9
 v9 := Tryz.zeroValue9
 t31 := Tryz.underlying23
 a31 := Tryz.isAgg23
 z31 := Tryz.sizeOf23
 v31 := Tryz.zeroValue23 }
open Go.RowKit Go.Lib Go.Sort in
theorem Tryz.slices_Compact_string (blk off cap : Nat) (zs : List (List UInt8)) (w : World) (hH : Holds encStr w blk off zs.toArray) (hsz : zs.length ≤ 9223372036854775807) (hcap : zs.length ≤ cap) :
  Calls Tryz.prog 157 #[.slice (some ⟨blk, off, none⟩) zs.length cap] w fun e w' => e = .returned (.slice (some ⟨blk, off, none⟩) (Lib.compact zs).length cap) ∧ ∃ q, w' = putRow encStr (Sort.ahead w q) blk off (Lib.compact zs ++ List.replicate (zs.length - (Lib.compact zs).length) []).toArray := Any.slices_Compact_string Tryz.lays194 blk off cap zs w hH hsz hcap
open Go.RowKit Go.Lib Go.Sort in
theorem Tryz.slices_Compact_string_empty (a : Option Addr) (cap : Nat) (w : World) :
  Calls Tryz.prog 157 #[.slice a 0 cap] w fun e w' => e = .returned (.slice a 0 cap) ∧ w' = w := Any.slices_Compact_string_empty Tryz.lays194 a cap w
open Go.RowKit Go.Sort in
theorem Tryz.slices_Sort_string_none (p : Option Addr) (cap : Nat) (w : World) :
  Calls Tryz.prog 156 #[.slice p 0 cap] w fun e w' => e = .returned (.tuple #[]) ∧ w' = w := Any.slices_Sort_string_none Tryz.lays190 p cap w
def Tryz.lays8n4_ren : Go.Shelf.Ren := ⟨fun | 4 => 158 | n => n, fun | 22 => 23 | 25 => 9 | 3 => 3 | 4 => 4 | 9 => 9 | 20 => 20 | 0 => 0 | n => n, fun | n => n⟩
theorem Tryz.lays8n4 : Go.Proofs.Lays8.n4 Tryz.prog Tryz.lays8n4_ren := {
 mixed := by kernel_rfl
 f4 := ⟨Tryz.f158.name, by decide, Tryz.func158.trans (congrArg some (by kernel_rfl))⟩
 t0 := Tryz.underlying0
 a0 := Tryz.isAgg0
 z0 := Tryz.sizeOf0
 v0 := Tryz.zeroValue0
 t3 := Tryz.underlying3
 a3 := Tryz.isAgg3
 z3 := Tryz.sizeOf3
 v3 := Tryz.zeroValue3
 t4 := Tryz.underlying4
 a4 := Tryz.isAgg4
 z4 := Tryz.sizeOf4
 v4 := Tryz.zeroValue4
 t9 := Tryz.underlying9
 a9 := Tryz.isAgg9
 z9 := Tryz.sizeOf9
 v9 := Tryz.zeroValue9
 t20 := Tryz.underlying20
 a20 := Tryz.isAgg20
 z20 := Tryz.sizeOf20
 v20 := Tryz.zeroValue20
 t22 := Tryz.underlying23
 a22 := Tryz.isAgg23
 z22 := Tryz.sizeOf23
 v22 := Tryz.zeroValue23 }
open Go.RowKit in
theorem Tryz.slices_Grow_room (base : Option Addr) (l c n : Nat) (w : World) (hlc : l ≤ c) (hc63 : c ≤ 9223372036854775807) (hn63 : n ≤ 9223372036854775807) (hroom : l + n ≤ c) :
  Calls Tryz.prog 158 #[.slice base l c, .int .i64 n] w fun e w' => e = .returned (.slice base l c) ∧ w' = w := Any8.slices_Grow_room Tryz.lays8n4 base l c n w hlc hc63 hn63 hroom
open Go.RowKit Go.Lib in
theorem Tryz.slices_Grow_grow (i0 : TypeInfo) (z : Value) (hi0 : Tryz.prog.info? 9 = some i0) (hz0 : i0.zero = some z) (hs0 : 0 < i0.size)
  (base : Option Addr) (l c n : Nat) (cs : List Value) (w : World) (hlc : l ≤ c) (hroom : c < l + n) (hbig : (l + n) * i0.bytes ≤ 140737488355328) (h63 : l + n ≤ 4611686018427387904)
  (hcl : cs.length = c * i0.size) (hnil : base = none → c = 0) (hcs : ∀ a, base = some a → ∀ j v, cs[j]? = some v → w.cell? (a.add j) = some v) :
  Calls Tryz.prog 158 #[.slice base l c, .int .i64 n] w fun e w' =>
   e = .returned (.slice (some ⟨w.heap.size, 0, none⟩) l (grownCap w (l + n) c 9)) ∧
   w' = w.drew.alloc (.cells (cs.toArray ++ Builtin.zeroCells z.cells (l + n - c) ++ Builtin.zeroCells z.cells (grownCap w (l + n) c 9 - (l + n))) 9) := Any8.slices_Grow_grow Tryz.lays8n4 i0 z hi0 hz0 hs0 base l c n cs w hlc hroom hbig h63 hcl hnil hcs
end Go.Proofs
namespace Go.Proofs.YtecglpocmhkkiaaGreatDoor
section
open Go.RowKit Go.Sort
open Nw
theorem containsS_mem (l : List L8) (s : ByteArray) : Lib.containsS ((l.map ba).take l.length) s = decide (s.data.toList ∈ l) := by
 rw [List.take_of_length_le (by simp)]
 rw [Bool.eq_iff_iff, Lib.containsS_iff, decide_eq_true_eq]
 constructor
 ·intro h
  obtain ⟨x, hx, rfl⟩ := List.mem_map.1 h
  rwa [ba_data]
 ·intro h; exact List.mem_map.2 ⟨_, h, ba_of s⟩
theorem In_any (v : Value) (l : List L8) (s : ByteArray) (w : World) (h : Rd w v l) :
  Calls Tryz.prog 93 #[v, .string s] w fun e w' => e = .returned (.bool (decide (s.data.toList ∈ l))) ∧ w = w' := by
 rcases h.cases with ⟨a, cap, rfl, rfl, _⟩ | ⟨b, o, cap, rfl, h1, h2, h3, h4⟩
 ·have hcon := Tryz.slices_Contains_string_empty a cap s w
  go_enter Tryz.func93, Tryz.ntmps93
  go_wp2_with (go_at_call 114; refine hcon.mono ?_; rintro e w' ⟨rfl, rfl⟩)
  go_ret
  exact ⟨ret_bool (by simp), rfl⟩
 ·have hcon := Tryz.slices_Contains_string b o l.length cap (l.map ba) s w (by simp) (by unfold maxLen at h2; omega) (fun j hj => by rw [map_ba l j hj]; exact h4 j (by simpa using hj))
  rw [containsS_mem] at hcon
  clear h h4
  generalize decide (s.data.toList ∈ l) = r at hcon ⊢
  go_enter Tryz.func93, Tryz.ntmps93
  go_wp2_with (go_at_call 114; refine hcon.mono ?_; rintro e w' ⟨rfl, rfl⟩)
  go_ret
  exact ⟨rfl, rfl⟩
end
end Go.Proofs.YtecglpocmhkkiaaGreatDoor
