/- BloRdI -/
import Derived.Test.YtecglpocmhkkiaaGreatDoorET16
import Derived.Test.YtecglpocmhkkiaaGreatDoorET44
set_option linter.unusedVariables false
set_option linter.unusedSimpArgs false
set_option maxRecDepth 100000
set_option maxHeartbeats 16000000
open Go.Lib (hid)
namespace Go.Proofs.YtecglpocmhkkiaaGreatDoor
open Go.RowKit Go.Sort
open Nw N8 Q6 F9 B10 Go.ChangeShapes Go.WideShapes
theorem blk_of : ∀ N, BOf N
 | 0 => fun w0 g sl n w M p x l hm h hx hN => absurd hN (by omega)
 | N + 1 => fun w0 g sl n w M p x l hm h hx hN =>
  readBlock_any (N := N) (fun w0 g sl n w M p x l hm h hx hh hN => readSeq_any (blk_of N) hm h hx hh hN) (fun w0 g sl n w M p x l hm h hx he hN => readMap_any (blk_of N) hm h hx he hN) hm h hx (by omega)
namespace B10
theorem fine_nul10 : Fine nul := .mk (by decide) (by decide) (by simp [formB]) (fun h => by cases h) fun d h => by cases h
def parM : List Ln → Nd × Nat × Int
 | [] => (nul, 0, 0)
 | x :: l => parK (x :: l) (blkB (x :: l))
theorem gets_end {n : Nat} {R : Res} {d : Nd} {j : Nat} (h : Gets n R d j []) : R = .ok d j := by
 rcases h with h | ⟨y, t, -, h2, -⟩
 ·exact h
 ·cases h2
theorem gets_left {n : Nat} {L : List Ln} {R : Res} {d : Nd} {j : Nat} {y : Ln} {t : List Ln} (h : Gets n R d j (y :: t)) (hd : L.drop j = y :: t) : parK L R = (nul, y.no, 3) := by
 rcases h with h | ⟨z, r, h1, h2, -⟩
 ·rw [h]
  unfold parK
  show (match L.drop j with | y :: _ => _ | [] => _) = _
  rw [hd]
 ·injection h2 with h2 _
  rw [h1, h2]; rfl
end B10
def AllC (w0 : World) (g : Nat) (sl : Value) (n : Nat) (L : List Ln) (E : Int) (W : World) (N : Nd → Prop) : Prop :=
 ∃ (M' : List Ln) (p' : Nat), RD w0 g sl n W M' p' ∧ ((E = 0 ∧ ∃ d, N d ∧ Fine d ∧ parM L = if okT 2000 d then (d, 0, 0) else (nul, 0, 9)) ∨ (E ≠ 0 ∧ ∃ y t, parM L = (nul, y.no, E) ∧ M'.drop p' = y :: t))
def GivesA (w0 : World) (g : Nat) (sl : Value) (n : Nat) (L : List Ln) (w : World) (e : Ending) (w' : World) : Prop :=
 ∃ (k : Int) (t : ByteArray) (a : Option Addr) (i c : Nat) (A : Option Addr) (m q : Nat) (E : Int), e = .returned (.tuple #[.agg #[.int .i64 k, .string t, .slice a i c, .slice A m q], .int .i64 E]) ∧ KP g sl w w' ∧
  AllC w0 g sl n L E w' (fun d => NdC (fun b => w.heap.size ≤ b ∧ b < w'.heap.size) w' d (.int .i64 k) (.string t) (.slice a i c) (.slice A m q))
section
variable {w0 w W : World} {g n : Nat} {sl : Value} {L M2 : List Ln} {E : Int}
theorem all_end {k : Int} {t : ByteArray} {a : Option Addr} {i c : Nat} {A : Option Addr} {m q p : Nat} (h : RD w0 g sl n w M2 p) (hk : KP g sl w W)
  (hc : AllC w0 g sl n L E W (fun d => NdC (fun b => w.heap.size + 1 ≤ b ∧ b < W.heap.size) W d (.int .i64 k) (.string t) (.slice a i c) (.slice A m q))) :
  GivesA w0 g sl n L w (.returned (.tuple #[.agg #[.int .i64 k, .string t, .slice a i c, .slice A m q], .int .i64 E])) (p4 W w.heap.size (.int .i64 k) (.string t) (.slice a i c) (.slice A m q)) := by
 refine ⟨k, t, a, i, c, A, m, q, E, rfl, hk.box (Nat.le_refl _) _ _ _ _, ?_⟩
 obtain ⟨M', p', h1, h2⟩ := hc
 refine ⟨M', p', h.box h1 (Nat.le_refl _) _ _ _ _, ?_⟩
 rcases h2 with ⟨h2, d, h3, h4⟩ | h2
 ·exact .inl ⟨h2, d, NdC.keep (fun b hx => ⟨⟨by have := hx.1; omega, by rw [p4_size]; exact hx.2⟩, p4_oth b (by have := hx.1; omega) _ _ _ _⟩) _ h3, h4⟩
 ·exact .inr h2
theorem readAll_any (hm : SomeMax w0) (h : RD w0 g sl n w L 0) :
  Calls Tryz.prog 17 #[.pointer (some ⟨g, 0, none⟩)] w (GivesA w0 g sl n L w) := by
 have hb0 : Below w.heap.size w (w.alloc (.cells #[.int .i64 0, .string ⟨#[]⟩, .slice none 0 0, .slice none 0 0] 26)) := (Below.refl _ _).alloc (Nat.le_refl _) _
 have hs0 : (w.alloc (.cells #[.int .i64 0, .string ⟨#[]⟩, .slice none 0 0, .slice none 0 0] 26)).heap.size = w.heap.size + 1 := by simp
 have hD0 := h.go hb0
 have HR0 := hid (Row4.make w 26 (.int .i64 0) (.string ⟨#[]⟩) (.slice none 0 0) (.slice none 0 0))
 have HB0 := hid hb0
 have HS0 := hid hs0
 have HD := hid h
 have HD0 := hid hD0
 have HMX := hid hm
 have hln := h.2.1.1
 by_cases hn : 0 = n
 ·have HL : Hid (L = []) := hid (List.length_eq_zero_iff.1 (by omega))
  have HDN := hid (isDone_any hD0 true (decide_eq_true hn))
  clear hb0 hs0 hD0 h hm hln hn
  go_enter Tryz.func17, Tryz.ntmps17
  go_wp2_with fail
  generalize w.alloc (.cells #[.int .i64 0, .string ⟨#[]⟩, .slice none 0 0, .slice none 0 0] 26) = W1 at *
  refine HDN.out.mono ?_
  rintro e w1 ⟨rfl, q, rfl⟩
  have HX := hid (HR0.out.below (below_drewN W1 q) HR0.out.lt)
  have HK : Hid (KP g sl w (W1.drewN q)) := hid ((KP.of HB0.out).go (below_drewN _ _))
  have HD2 := hid (HD0.out.go (below_drewN W1 q))
  generalize W1.drewN q = W2 at *
  obtain ⟨r0, r1, r2, r3⟩ := HX.out.cells
  obtain ⟨fr0, fr1, fr2, fr3⟩ := HX.out.frozen
  go_wp2
  refine bodyPost_ret (v := .tuple #[.agg #[.int .i64 0, .string ⟨#[]⟩, .slice none 0 0, .slice none 0 0], .int .i64 0]) (by simp [results, Tryz.results17, go_sem, r0, r1, r2, r3]) rfl ?_
  exact all_end HD.out HK.out ⟨L, 0, HD2.out, .inl ⟨rfl, nul, nd_nul _ _, fine_nul10, by rw [HL.out]; exact (if_pos (by decide)).symm⟩⟩
 ·obtain ⟨x, l, hx⟩ := h.more_ (p := 0) (by omega)
  have hx' : L = x :: l := hx
  have HLX := hid hx'
  have HDN := hid (isDone_any hD0 false (decide_eq_false hn))
  have HBK := hid (fun W (hW : RD w0 g sl n W L 0) => blk_of (2 * big (x :: l) + 1) w0 g sl n W L 0 x l hm hW hx (Nat.le_refl _))
  clear hb0 hs0 hD0 h hm hln hn hx hx'
  go_enter Tryz.func17, Tryz.ntmps17
  go_wp2_with fail
  generalize w.alloc (.cells #[.int .i64 0, .string ⟨#[]⟩, .slice none 0 0, .slice none 0 0] 26) = W1 at *
  refine HDN.out.mono ?_
  rintro e w1 ⟨rfl, q, rfl⟩
  have HX := hid (HR0.out.below (below_drewN W1 q) HR0.out.lt)
  have HK : Hid (KP g sl w (W1.drewN q)) := hid ((KP.of HB0.out).go (below_drewN _ _))
  have HD2 := hid (HD0.out.go (below_drewN W1 q))
  have HS2 : Hid (w.heap.size + 1 ≤ (W1.drewN q).heap.size) := hid (by rw [← HS0.out]; exact Nat.le_refl _)
  generalize W1.drewN q = W2 at *
  go_wp2_with fail
  refine (HBK.out _ HD2.out).mono ?_
  rintro e w4 ⟨k, t, a, i, cc, A, m, q, E, rfl, hk, hc⟩
  have hal : Below w4.heap.size w4 (w4.alloc (.cells #[.int .i64 k, .string t, .slice a i cc, .slice A m q] 26)) := (Below.refl _ _).alloc (Nat.le_refl _) _
  have HK5 := hid ((HK.out.trans hk).alloc (.cells #[.int .i64 k, .string t, .slice a i cc, .slice A m q] 26))
  have HC5 : Hid (OutC w0 g sl n L 0 1 x.ind (blkB (x :: l)) E (w4.alloc (.cells #[.int .i64 k, .string t, .slice a i cc, .slice A m q] 26)) (fun d => NdC (fun b => w.heap.size + 1 ≤ b ∧ b < (w4.alloc (.cells #[.int .i64 k, .string t, .slice a i cc, .slice A m q] 26)).heap.size) (w4.alloc (.cells #[.int .i64 k, .string t, .slice a i cc, .slice A m q] 26)) d (.int .i64 k) (.string t) (.slice a i cc) (.slice A m q))) := hid
   (hc.imp (fun M' p' h' => h'.go hal) fun d hd => NdC.keep (fun b hb => ⟨⟨Nat.le_trans HS2.out hb.1, Nat.lt_of_lt_of_le hb.2 hal.size⟩, hal.block b hb.2⟩) _ hd)
  have HXN := hid (Row4.make w4 26 (.int .i64 k) (.string t) (.slice a i cc) (.slice A m q))
  have HXR := hid (HD.out.row4 (hk.alloc (.cells #[.int .i64 k, .string t, .slice a i cc, .slice A m q] 26)) (Nat.le_refl _) HX.out)
  clear hk hc hal HBK HX HK HD2
  go_upto_region 4 with fail
  generalize w4.alloc (.cells #[.int .i64 k, .string t, .slice a i cc, .slice A m q] 26) = W5 at *
  generalize w4.heap.size = nb at *
  by_cases hE : E = 0
  ·subst hE
   obtain ⟨M', p', h1, h2⟩ := HC5.out
   have h3 : 1 ≤ p' ∧ M'.drop p' = L.drop p' ∧ ∃ d, Gets x.ind (blkB (x :: l)) d (p' - 0) (M'.drop p') ∧ NdC (fun b => w.heap.size + 1 ≤ b ∧ b < W5.heap.size) W5 d (.int .i64 k) (.string t) (.slice a i cc) (.slice A m q) := by
    rcases h2 with ⟨-, h3⟩ | ⟨h3, -⟩
    ·exact h3
    ·exact absurd rfl h3
   have HD5 := hid h1
   have H3 := hid h3
   clear h1 h2 h3 HC5
   by_cases hpn : p' = n
   ·have HDN2 := hid (isDone_any HD5.out true (decide_eq_true hpn))
    have HNIL : Hid (M'.drop p' = []) := hid (HD5.out.last hpn)
    go_wp2_with fail
    refine HDN2.out.mono ?_
    rintro e w6 ⟨rfl, q6, rfl⟩
    have HXN6 := hid (HXN.out.below (below_drewN W5 q6) HXN.out.lt)
    have HXR6 := hid (HXR.out.below (below_drewN W5 q6) HXR.out.lt)
    have HK6 := hid (HK5.out.go (below_drewN W5 q6))
    have HD6 := hid (HD5.out.go (below_drewN W5 q6))
    have H6 : Hid (∃ d, Gets x.ind (blkB (x :: l)) d p' [] ∧ NdC (fun b => w.heap.size + 1 ≤ b ∧ b < (W5.drewN q6).heap.size) (W5.drewN q6) d (.int .i64 k) (.string t) (.slice a i cc) (.slice A m q)) := hid (by
     obtain ⟨-, -, d, h4, h5⟩ := H3.out
     rw [HNIL.out] at h4
     exact ⟨d, h4, NdC.keep (S := fun b => w.heap.size + 1 ≤ b ∧ b < W5.heap.size) (T := fun b => w.heap.size + 1 ≤ b ∧ b < (W5.drewN q6).heap.size) (w := W5) (w' := W5.drewN q6) (fun b hb => ⟨hb, (below_drewN W5 q6).block b hb.2⟩) _ h5⟩)
    clear HDN2 HXN HXR HK5 H3
    generalize W5.drewN q6 = W6 at *
    obtain ⟨z0, z1, z2, z3⟩ := HXN6.out.cells
    obtain ⟨r0, r1, r2, r3⟩ := HXR6.out.cells
    obtain ⟨fr0, fr1, fr2, fr3⟩ := HXR6.out.frozen
    go_wp2
    refine bodyPost_ret (v := .tuple #[.agg #[.int .i64 k, .string t, .slice a i cc, .slice A m q], .int .i64 0]) (by simp [results, Tryz.results17, go_sem, r0, r1, r2, r3]) rfl ?_
    obtain ⟨d, h4, h5⟩ := H6.out
    have h6 := gets_end h4
    refine all_end HD.out HK6.out ⟨M', p', HD6.out, .inl ⟨rfl, d, h5, (blk_fine h6).1, ?_⟩⟩
    rw [HLX.out]
    show parK (x :: l) (blkB (x :: l)) = _
    rw [h6]
    exact parK_end (by have h7 := HD5.out.2.1.1; have h8 := HD.out.2.1.1; rw [HLX.out] at h8; omega)
   ·obtain ⟨y, tt, hy⟩ := HD5.out.more_ hpn
    have HY := hid hy
    have HDN2 := hid (isDone_any HD5.out false (decide_eq_false hpn))
    clear hy
    go_wp2_with fail
    refine HDN2.out.mono ?_
    rintro e w6 ⟨rfl, q6, rfl⟩
    have HXR6 := hid (HXR.out.below (below_drewN W5 q6) HXR.out.lt)
    have HK6 := hid (HK5.out.go (below_drewN W5 q6))
    have HD6 := hid (HD5.out.go (below_drewN W5 q6))
    clear HDN2 HXN HXR HK5
    generalize W5.drewN q6 = W6 at *
    obtain ⟨r0, r1, r2, r3⟩ := HXR6.out.cells
    obtain ⟨fr0, fr1, fr2, fr3⟩ := HXR6.out.frozen
    go_wp2
    refine bodyPost_ret (v := .tuple #[.agg #[.int .i64 0, .string ⟨#[]⟩, .slice none 0 0, .slice none 0 0], .int .i64 3]) (by simp [results, Tryz.results17, go_sem, r0, r1, r2, r3]) rfl ?_
    refine all_end HD.out HK6.out ⟨M', p', HD6.out, .inr ⟨by decide, y, tt, ?_, HY.out⟩⟩
    obtain ⟨-, h4, d, h5, -⟩ := H3.out
    rw [HY.out] at h5
    rw [HLX.out]
    exact gets_left h5 (by rw [← HLX.out, Nat.sub_zero, ← h4, HY.out])
  ·have eb : (E == 0) = false := beq_eq_false_iff_ne.2 hE
   have HE := hid hE
   clear hE HXN
   obtain ⟨r0, r1, r2, r3⟩ := HXR.out.cells
   obtain ⟨fr0, fr1, fr2, fr3⟩ := HXR.out.frozen
   go_wp2
   refine bodyPost_ret (v := .tuple #[.agg #[.int .i64 0, .string ⟨#[]⟩, .slice none 0 0, .slice none 0 0], .int .i64 E]) (by simp [results, Tryz.results17, go_sem, r0, r1, r2, r3]) rfl ?_
   obtain ⟨M', p', h1, h2⟩ := HC5.out
   rcases h2 with ⟨h3, -⟩ | ⟨h3, y, tt, h4, h5⟩
   ·exact absurd h3 HE.out
   ·refine all_end HD.out HK5.out ⟨M', p', h1, .inr ⟨h3, y, tt, ?_, h5⟩⟩
    rw [HLX.out]
    show parK (x :: l) (blkB (x :: l)) = _
    rw [h4]; rfl
end
end Go.Proofs.YtecglpocmhkkiaaGreatDoor
