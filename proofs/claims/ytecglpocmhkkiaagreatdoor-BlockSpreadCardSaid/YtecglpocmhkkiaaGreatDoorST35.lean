/- BloRdB -/
import Derived.Test.YtecglpocmhkkiaaGreatDoorST34
set_option linter.unusedVariables false
set_option linter.unusedSimpArgs false
set_option maxRecDepth 100000
set_option maxHeartbeats 16000000
open Go.Lib (hid)
namespace Go.Proofs.YtecglpocmhkkiaaGreatDoor
section
open Go.RowKit Go.Sort
open Nw N8 Q6 F9 B10 Go.ChangeShapes Go.WideShapes
def BOf (N : Nat) : Prop := ∀ (w0 : World) (g : Nat) (sl : Value) (n : Nat) (w : World) (M : List Ln) (p : Nat) (x : Ln) (l : List Ln), SomeMax w0 → RD w0 g sl n w M p → M.drop p = x :: l → 2 * big (x :: l) + 1 ≤ N →
  Calls Tryz.prog 35 #[.pointer (some ⟨g, 0, none⟩)] w (Out w0 g sl n M p (p + 1) x.ind (blkB (x :: l)) w)
theorem OutC.shift {w0 : World} {g n p lvl : Nat} {sl : Value} {M : List Ln} {R : Res} {E : Int} {W : World} {N : Nd → Prop} (h : OutC w0 g sl n M (p + 1) (p + 1) lvl R E W N) : OutC w0 g sl n M p (p + 1) lvl (R.more 1) E W N := by
 obtain ⟨M', p', h1, h2⟩ := h
 refine ⟨M', p', h1, ?_⟩
 rcases h2 with ⟨h2, h3, h4, d, h5, h6⟩ | ⟨h2, y, t, h3, h4⟩
 ·refine .inl ⟨h2, h3, h4, d, ?_, h6⟩
  have := h5.more 1
  rwa [show 1 + (p' - (p + 1)) = p' - p by omega] at this
 ·exact .inr ⟨h2, y, t, by rw [h3]; rfl, h4⟩
theorem OutC.low {w0 : World} {g n p lo lo' lvl lvl' : Nat} {sl : Value} {M : List Ln} {R : Res} {E : Int} {W : World} {N : Nd → Prop} (h : OutC w0 g sl n M p lo lvl R E W N) (hl : lo' ≤ lo) (hv : lvl' ≤ lvl) : OutC w0 g sl n M p lo' lvl' R E W N := by
 obtain ⟨M', p', h1, h2⟩ := h
 refine ⟨M', p', h1, ?_⟩
 rcases h2 with ⟨h2, h3, h4, d, h5, h6⟩ | h2
 ·exact .inl ⟨h2, by omega, h4, d, h5.le hv, h6⟩
 ·exact .inr h2
theorem out_on {w0 w W1 W2 : World} {g n p lo lvl : Nat} {sl : Value} {M M2 : List Ln} {R : Res} {E : Int} {k : Int} {t : ByteArray} {a : Option Addr} {i c : Nat} {A : Option Addr} {m q : Nat} (h : RD w0 g sl n w M2 p) (hk1 : KP g sl w W1) (hs : w.heap.size + 1 ≤ W1.heap.size) (hk2 : KP g sl W1 W2)
  (hc : OutC w0 g sl n M p lo lvl R E W2 (fun d => NdC (fun b => W1.heap.size ≤ b ∧ b < W2.heap.size) W2 d (.int .i64 k) (.string t) (.slice a i c) (.slice A m q))) :
  Out w0 g sl n M p lo lvl R w (.returned (.tuple #[.agg #[.int .i64 k, .string t, .slice a i c, .slice A m q], .int .i64 E])) (p4 W2 w.heap.size (.int .i64 k) (.string t) (.slice a i c) (.slice A m q)) :=
 out_end h (hk1.trans hk2) (hc.imp (fun M' p' h' => h') fun d hd => NdC.keep (fun b hx => ⟨⟨by have := hx.1; omega, hx.2⟩, rfl⟩) _ hd)
theorem RD.row4 {w0 w W1 W2 : World} {g n p b : Nat} {sl : Value} {M : List Ln} {c0 c1 c2 c3 : Value} (h : RD w0 g sl n w M p) (hk : KP g sl W1 W2) (hb : w.heap.size ≤ b) (hr : Row4 W1 b 26 c0 c1 c2 c3) : Row4 W2 b 26 c0 c1 c2 c3 :=
 (hk.block b hr.lt (by have := h.lt; omega) fun e => by have := (h.own b e).2; omega).trans hr
section
variable {w0 w : World} {g n p : Nat} {sl : Value} {M : List Ln}
theorem readInner_nul (h : RD w0 g sl n w M p) (least : Nat) (hr : innR least (M.drop p) = .ok nul 0) (hc : p = n ∨ ∃ x l, M.drop p = x :: l ∧ x.ind < least) :
  Calls Tryz.prog 90 #[.pointer (some ⟨g, 0, none⟩), .int .i64 (least : Int)] w (Out w0 g sl n M p p least (innR least (M.drop p)) w) := by
 have hn := h.n_le
 have hgw := h.lt
 have hb0 : Below w.heap.size w (w.alloc (.cells #[.int .i64 0, .string ⟨#[]⟩, .slice none 0 0, .slice none 0 0] 26)) := (Below.refl _ _).alloc (Nat.le_refl _) _
 have hD0 := h.go hb0
 have HR0 := hid (Row4.make w 26 (.int .i64 0) (.string ⟨#[]⟩) (.slice none 0 0) (.slice none 0 0))
 have HB0 := hid hb0
 have HD := hid h
 have HD0 := hid hD0
 have HRR := hid hr
 obtain ⟨c0, c1, -⟩ := hD0.cells
 obtain ⟨a, c, rfl⟩ := h.shape
 rcases hc with hpn | ⟨x, l, hx, hlt⟩
 ·have HQ := hid (fun m => isDone_q hD0 true (decide_eq_true hpn) m)
  clear hr hD0 h hb0 hpn
  go_enter Tryz.func90, Tryz.ntmps90
  go_wp2
  generalize w.alloc (.cells #[.int .i64 0, .string ⟨#[]⟩, .slice none 0 0, .slice none 0 0] 26) = W1 at *
  go_quiet (first | (go_at_call 34; exact HQ.out _))
  have HX := hid (HR0.out.below (below_drewN W1 nq) HR0.out.lt)
  have HK : Hid (KP g (.slice a n c) w (W1.drewN nq)) := hid ((KP.of HB0.out).go (below_drewN _ _))
  have HD2 := hid (HD0.out.go (below_drewN W1 nq))
  generalize W1.drewN nq = W2 at *
  clear c0 c1
  obtain ⟨r0, r1, r2, r3⟩ := HX.out.cells
  obtain ⟨fr0, fr1, fr2, fr3⟩ := HX.out.frozen
  go_wp2
  refine bodyPost_ret (v := .tuple #[.agg #[.int .i64 0, .string ⟨#[]⟩, .slice none 0 0, .slice none 0 0], .int .i64 0]) (by simp [results, Tryz.results90, go_sem, r0, r1, r2, r3]) rfl ?_
  refine out_end HD.out HK.out ⟨M, p, HD2.out, .inl ⟨rfl, Nat.le_refl _, rfl, nul, .inl (by rw [HRR.out, Nat.sub_self]), nd_nul _ _⟩⟩
 ·have hpn := h.at_lt hx
  have hpl : p < M.length := by rw [h.2.1.1]; exact hpn
  obtain ⟨B, cap, hsl, hcap, hcm, ⟨x0, x1, x2⟩, -⟩ := hD0.row hpl
  have hMx : M[p]'hpl = x := by
   rw [List.drop_eq_getElem_cons hpl] at hx
   injection hx
  rw [hMx] at x1
  injection hsl with hsl _ hcc
  subst hsl
  subst hcc
  have HQ := hid (fun m => isDone_q hD0 false (decide_eq_false (by omega)) m)
  have ltz : (x.ind : Int) < (least : Int) := by omega
  have pz : (0 : Int) ≤ (p : Int) := by omega
  have pn : (p : Int) < (n : Int) := by omega
  obtain ⟨I, hI⟩ : ∃ I : Int, (x.ind : Int) = I := ⟨_, rfl⟩
  rw [hI] at x1 ltz
  clear hr hD0 h hb0 hx hlt hMx x0 x2 hI
  go_enter Tryz.func90, Tryz.ntmps90
  go_wp2
  generalize w.alloc (.cells #[.int .i64 0, .string ⟨#[]⟩, .slice none 0 0, .slice none 0 0] 26) = W1 at *
  go_quiet (first | (go_at_call 34; exact HQ.out _))
  have HX := hid (HR0.out.below (below_drewN W1 nq) HR0.out.lt)
  have HK : Hid (KP g (.slice (some ⟨B, 0, none⟩) n c) w (W1.drewN nq)) := hid ((KP.of HB0.out).go (below_drewN _ _))
  have HD2 := hid (HD0.out.go (below_drewN W1 nq))
  generalize W1.drewN nq = W2 at *
  clear c0 c1 x1
  obtain ⟨r0, r1, r2, r3⟩ := HX.out.cells
  obtain ⟨fr0, fr1, fr2, fr3⟩ := HX.out.frozen
  go_wp2
  refine bodyPost_ret (v := .tuple #[.agg #[.int .i64 0, .string ⟨#[]⟩, .slice none 0 0, .slice none 0 0], .int .i64 0]) (by simp [results, Tryz.results90, go_sem, r0, r1, r2, r3]) rfl ?_
  refine out_end HD.out HK.out ⟨M, p, HD2.out, .inl ⟨rfl, Nat.le_refl _, rfl, nul, .inl (by rw [HRR.out, Nat.sub_self]), nd_nul _ _⟩⟩
theorem readInner_blk {N : Nat} (ih : BOf N) (hm : SomeMax w0) (h : RD w0 g sl n w M p) (least : Nat) {x : Ln} {l : List Ln} (hx : M.drop p = x :: l) (hN : 2 * big (x :: l) + 1 ≤ N) (hlt : least ≤ x.ind) :
  Calls Tryz.prog 90 #[.pointer (some ⟨g, 0, none⟩), .int .i64 (least : Int)] w (Out w0 g sl n M p p least (blkB (x :: l)) w) := by
 have hn := h.n_le
 have hgw := h.lt
 have hb0 : Below w.heap.size w (w.alloc (.cells #[.int .i64 0, .string ⟨#[]⟩, .slice none 0 0, .slice none 0 0] 26)) := (Below.refl _ _).alloc (Nat.le_refl _) _
 have hs0 : (w.alloc (.cells #[.int .i64 0, .string ⟨#[]⟩, .slice none 0 0, .slice none 0 0] 26)).heap.size = w.heap.size + 1 := by simp
 have hD0 := h.go hb0
 have HR0 := hid (Row4.make w 26 (.int .i64 0) (.string ⟨#[]⟩) (.slice none 0 0) (.slice none 0 0))
 have HB0 := hid hb0
 have HS0 := hid hs0
 have HD := hid h
 have HD0 := hid hD0
 have HLT := hid hlt
 obtain ⟨c0, c1, -⟩ := hD0.cells
 obtain ⟨a, c, rfl⟩ := h.shape
 have hpn := h.at_lt hx
 have hpl : p < M.length := by rw [h.2.1.1]; exact hpn
 obtain ⟨B, cap, hsl, hcap, hcm, ⟨x0, x1, x2⟩, -⟩ := hD0.row hpl
 have hMx : M[p]'hpl = x := by
  rw [List.drop_eq_getElem_cons hpl] at hx
  injection hx
 rw [hMx] at x1
 injection hsl with hsl _ hcc
 subst hsl
 subst hcc
 have HQ := hid (fun m => isDone_q hD0 false (decide_eq_false (by omega)) m)
 have HBK : Hid (∀ W, RD w0 g (.slice (some ⟨B, 0, none⟩) n c) n W M p → Calls Tryz.prog 35 #[.pointer (some ⟨g, 0, none⟩)] W (Out w0 g (.slice (some ⟨B, 0, none⟩) n c) n M p (p + 1) x.ind (blkB (x :: l)) W)) := hid fun W hW => ih w0 g _ n W M p x l hm hW hx hN
 have ltz : ¬ (x.ind : Int) < (least : Int) := by omega
 have pz : (0 : Int) ≤ (p : Int) := by omega
 have pn : (p : Int) < (n : Int) := by omega
 obtain ⟨I, hI⟩ : ∃ I : Int, (x.ind : Int) = I := ⟨_, rfl⟩
 rw [hI] at x1 ltz
 obtain ⟨R, hR⟩ : ∃ R, blkB (x :: l) = R := ⟨_, rfl⟩
 rw [hR] at HBK ⊢
 clear hR hD0 h hb0 hx hlt hMx x0 x2 hI hs0 ih hN
 go_enter Tryz.func90, Tryz.ntmps90
 go_wp2
 generalize w.alloc (.cells #[.int .i64 0, .string ⟨#[]⟩, .slice none 0 0, .slice none 0 0] 26) = W1 at *
 go_quiet (first | (go_at_call 34; exact HQ.out _))
 have HX := hid (HR0.out.below (below_drewN W1 nq) HR0.out.lt)
 have HK : Hid (KP g (.slice (some ⟨B, 0, none⟩) n c) w (W1.drewN nq)) := hid ((KP.of HB0.out).go (below_drewN _ _))
 have HD2 := hid (HD0.out.go (below_drewN W1 nq))
 have HS2 : Hid (w.heap.size + 1 ≤ (W1.drewN nq).heap.size) := hid (by rw [← HS0.out]; exact Nat.le_refl _)
 generalize W1.drewN nq = W2 at *
 clear c0 c1 x1
 go_wp2_with fail
 refine (HBK.out _ HD2.out).mono ?_
 rintro e w3 ⟨k, t, a, i, cc, A, m, q, E, rfl, hk, hc⟩
 have HX3 := hid (HD.out.row4 hk (Nat.le_refl _) HX.out)
 have HK3 := hid hk
 have HC := hid hc
 clear hk hc
 obtain ⟨r0, r1, r2, r3⟩ := HX3.out.cells
 obtain ⟨fr0, fr1, fr2, fr3⟩ := HX3.out.frozen
 go_wp2
 refine bodyPost_ret (v := .tuple #[.agg #[.int .i64 k, .string t, .slice a i cc, .slice A m q], .int .i64 E]) (by simp [results, Tryz.results90, go_sem, r0, r1, r2, r3]) rfl ?_
 exact out_on HD.out HK.out HS2.out HK3.out (HC.out.low (by omega) HLT.out)
theorem readInner_any {N : Nat} (ih : BOf N) (hm : SomeMax w0) (h : RD w0 g sl n w M p) (least : Nat) (hN : 2 * big (M.drop p) + 1 ≤ N) :
  Calls Tryz.prog 90 #[.pointer (some ⟨g, 0, none⟩), .int .i64 (least : Int)] w (Out w0 g sl n M p p least (innR least (M.drop p)) w) := by
 cases hx : M.drop p with
 | nil =>
  have h1 : p = n := by
   have h2 := h.2.1.1
   have h3 := h.2.1.2.1
   have h4 := congrArg List.length hx
   rw [List.length_drop] at h4
   have h5 : M.length - p = 0 := h4
   omega
  have := readInner_nul h least (by rw [hx]; rfl) (.inl h1)
  rwa [hx] at this
 | cons x l =>
  rw [hx] at hN
  by_cases hlt : x.ind < least
  ·have := readInner_nul h least (by rw [hx, inn_cons, if_pos hlt]) (.inr ⟨x, l, hx, hlt⟩)
   rwa [hx] at this
  ·have := readInner_blk ih hm h least hx hN (by omega)
   rwa [← if_neg (c := x.ind < least) (t := Res.ok nul 0) (e := blkB (x :: l)) hlt, ← inn_cons] at this
end
end
end Go.Proofs.YtecglpocmhkkiaaGreatDoor
