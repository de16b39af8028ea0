/- SubEach, SubNod -/
import Derived.Test.YtkcilmmaggmmoaaGreatDoorNT17
import Derived.Test.YtkcilmmaggmmoaaGreatDoorNT19
import Derived.Test.YtkcilmmaggmmoaaGreatDoorNT23
import Derived.Test.YtkcilmmaggmmoaaGreatDoorNT33
import Derived.Test.YtkcilmmaggmmoaaGreatDoorNT40
import Derived.Test.YtkcilmmaggmmoaaGreatDoorNT41
import Derived.Test.YtkcilmmaggmmoaaGreatDoorNT45
import Derived.Test.YtkcilmmaggmmoaaGreatDoorNT5
set_option linter.unusedVariables false
set_option linter.unusedSimpArgs false
set_option maxRecDepth 100000
set_option maxHeartbeats 16000000
open Go.Lib (hid)
namespace Go.Proofs.YtkcilmmaggmmoaaGreatDoor
namespace N8
end N8
namespace Nw
end Nw
namespace S14
end S14
namespace T13
end T13
namespace V12
end V12
end Go.Proofs.YtkcilmmaggmmoaaGreatDoor
namespace Go.Proofs.YtkcilmmaggmmoaaGreatDoor
open Go.RowKit Go.Sort
open Nw V12 S14
open N8 (Nd TR ER ERs)
namespace S14
def trS (R : SR) : TR := match R with
 | .ok x => .ok x
 | .err e _ _ => .err e
def erN (R : ER) : NR := match R with
 | .ok d => .ok d
 | .err e => .err e
def ersN (R : ERs) : NRs := match R with
 | .ok d => .ok d
 | .err e => .err e
mutual
theorem sayN_each (E : Env) : ∀ d : Nd, N8.Fine d → sayN E d = erN (N8.eachT (fun t => trS (sayX E t)) d)
 | .mk k t ks ds, hf => by
  rw [sayN_eq, N8.eachT]
  by_cases hk : k = 1
  ·subst hk
   have h2 : ks = [] ∧ ds = [] := by
    cases hf with
    | mk h0 h3 hf hk hdd => unfold N8.formB at hf; simp at hf; exact hf
   obtain ⟨rfl, rfl⟩ := h2
   rw [if_pos rfl, if_pos rfl, sayNs]
   cases sayX E t <;> rfl
  ·rw [if_neg hk, if_neg hk, headN, sayNs_each E ds (by cases hf with | mk _ _ _ _ hdd => exact hdd)]
   cases N8.eachL (fun t => trS (sayX E t)) ds <;> rfl
theorem sayNs_each (E : Env) : ∀ ds : List Nd, (∀ d ∈ ds, N8.Fine d) → sayNs E ds = ersN (N8.eachL (fun t => trS (sayX E t)) ds)
 | [], _ => by rw [sayNs, N8.eachL]; rfl
 | d :: ds, h => by
  rw [sayNs, N8.eachL, sayN_each E d (h d (List.mem_cons_self ..)), sayNs_each E ds fun e he => h e (List.mem_cons_of_mem _ he)]
  cases N8.eachT (fun t => trS (sayX E t)) d with
  | err e => rfl
  | ok d' => cases N8.eachL (fun t => trS (sayX E t)) ds <;> rfl
end
end S14
theorem texto_say {E : Env} {s : L8} {e : Ending} (h : e = .returned (SayO (sayX E s))) : Ech.TextO (trS (sayX E s)) e := by
 subst h
 cases hs : sayX E s with
 | ok x => rfl
 | err n a b => exact ⟨sayX_ne hs, _, rfl⟩
def N14 (W W3 : World) (d : Nd) (c0 c1 c2 c3 v : Value) : Prop :=
 Below W.heap.size W W3 ∧ Row4 W3 W.heap.size 25 c0 c1 c2 c3 ∧ W3.cell? ⟨W.heap.size + 1, 0, none⟩ = some v ∧ Row4 W3 (W.heap.size + 2) 25 (.int .i64 0) (.string ⟨#[]⟩) (.slice none 0 0) (.slice none 0 0) ∧ NdC (· < W.heap.size) W3 d c0 c1 c2 c3
theorem N14.go {W W3 W4 : World} {d : Nd} {c0 c1 c2 c3 v : Value} (h : N14 W W3 d c0 c1 c2 c3 v) (hb : Below W3.heap.size W3 W4) : N14 W W4 d c0 c1 c2 c3 v :=
 ⟨h.1.trans (hb.mono h.1.size), h.2.1.below hb h.2.1.lt, (hb.cell (cell_lt h.2.2.1)).trans h.2.2.1, h.2.2.2.1.below hb h.2.2.2.1.lt, NdC.keep (fun b hlt => ⟨hlt, hb.block b (Nat.lt_of_lt_of_le hlt h.1.size)⟩) d h.2.2.2.2⟩
theorem N14.make {W : World} {d : Nd} {c0 c1 c2 c3 v : Value} (h : NdW W d c0 c1 c2 c3) (t : TypeId) :
  N14 W (((W.alloc (.cells #[c0, c1, c2, c3] 25)).alloc (.cells #[v] t)).alloc (.cells #[.int .i64 0, .string ⟨#[]⟩, .slice none 0 0, .slice none 0 0] 25)) d c0 c1 c2 c3 v := by
 have b1 : Below W.heap.size W (W.alloc (.cells #[c0, c1, c2, c3] 25)) := (Below.refl _ _).alloc (Nat.le_refl _) _
 have b2 : Below W.heap.size W ((W.alloc (.cells #[c0, c1, c2, c3] 25)).alloc (.cells #[v] t)) := b1.alloc (by simp) _
 have b3 : Below W.heap.size W (((W.alloc (.cells #[c0, c1, c2, c3] 25)).alloc (.cells #[v] t)).alloc (.cells #[.int .i64 0, .string ⟨#[]⟩, .slice none 0 0, .slice none 0 0] 25)) := b2.alloc (by simp; omega) _
 refine ⟨b3, ((Row4.make W _ _ _ _ _).alloc _).alloc _, ?_, ?_, NdC.keep (fun b hb => ⟨hb, b3.block b hb⟩) d h⟩
 ·refine cells_alloc ?_
  have h1 := heap_alloc_new (W.alloc (.cells #[c0, c1, c2, c3] 25)) (.cells #[v] t)
  rw [show (W.alloc (.cells #[c0, c1, c2, c3] 25)).heap.size = W.heap.size + 1 by simp] at h1
  exact cell_of_row _ _ 0 _ t (0, 0) h1
 ·have h1 := Row4.make ((W.alloc (.cells #[c0, c1, c2, c3] 25)).alloc (.cells #[v] t)) 25 (.int .i64 0) (.string ⟨#[]⟩) (.slice none 0 0) (.slice none 0 0)
  rw [show ((W.alloc (.cells #[c0, c1, c2, c3] 25)).alloc (.cells #[v] t)).heap.size = W.heap.size + 2 by simp] at h1
  exact h1
section
variable (Pw : World → Prop) (hPw : ∀ w w', Pw w → Below w.heap.size w w' → Pw w')
variable (HText : ∀ (s : ByteArray) (v : Value) (x : List KV) (W : World), Pw W → s.size ≤ 100000 → VR W v x → EnvS x → Calls Tryz.prog 16 #[.string s, v] W fun e w' => e = .returned (SayO (sayX (lastV x) s.data.toList)) ∧ Below W.heap.size W w')
variable (HWalk : ∀ (d : Nd) (c0 c1 c2 c3 : Value) (w : World), N8.Fine d → N8.cntT d ≤ 65536 → NdW w d c0 c1 c2 c3 → Calls Tryz.prog 33 #[.agg #[c0, c1, c2, c3]] w fun e w' => e = .returned (.bool true) ∧ Below w.heap.size w w')
def CloW (p : Addr) (v : Value) (x : List KV) (W : World) : Prop := Pw W ∧ W.cell? p = some v ∧ VR W v x
include hPw in
theorem CloW.go {p : Addr} {v : Value} {x : List KV} (w w' : World) (h : CloW Pw p v x w) (hb : Below w.heap.size w w') : CloW Pw p v x w' :=
 ⟨hPw _ _ h.1 hb, hb.cell (cell_lt h.2.1) |>.trans h.2.1, h.2.2.below hb⟩
include HText in
theorem clo14_any (p : Addr) (v : Value) (x : List KV) (hx : EnvS x) (s : ByteArray) (W : World) (h : CloW Pw p v x W) (hs : s.data.toList.length ≤ 100000) :
  Calls Tryz.prog 19 #[.string s, .pointer (some p)] W fun e W' => Ech.TextO (trS (sayX (lastV x) s.data.toList)) e ∧ Below W.heap.size W W' := by
 have HT := HText s v x W h.1 (by simpa using hs) h.2.2 hx
 have hc := h.2.1
 obtain ⟨a, cap, rfl, -⟩ := h.2.2
 have HSY := hid (fun (e : Ending) (he : e = .returned (SayO (sayX (lastV x) s.data.toList))) => texto_say he)
 generalize hL : x.length = L at *
 generalize sayX (lastV x) s.data.toList = R at *
 clear h hs hx
 cases R with
 | ok t =>
  simp only [SayO] at HT
  go_enter Tryz.func19, Tryz.ntmps19
  go_wp2_with fail
  refine HT.mono ?_
  rintro e w2 ⟨rfl, hb2⟩
  go_wp2
  go_ret2
  exact ⟨HSY.out _ rfl, hb2⟩
 | err n k y =>
  simp only [SayO] at HT
  go_enter Tryz.func19, Tryz.ntmps19
  go_wp2_with fail
  refine HT.mono ?_
  rintro e w2 ⟨rfl, hb2⟩
  go_wp2
  go_ret2
  exact ⟨HSY.out _ rfl, hb2⟩
include hPw HText HWalk
theorem Node14_any (d : Nd) (c0 c1 c2 c3 v : Value) (x : List KV) (W : World) (hw : Pw W) (hd : NdW W d c0 c1 c2 c3) (hs : N8.smallT d 100 = true) (hv : VR W v x) (hx : EnvS x) :
  Calls Tryz.prog 8 #[.agg #[c0, c1, c2, c3], v] W (GivesNW (sayN (lastV x) d) W) := by
 have hsm := small_facts hs
 have hf : N8.Fine d := by
  unfold N8.smallT at hs
  rw [Bool.and_eq_true] at hs
  exact N8.ok_fine hs.1
 rw [sayN_each _ d hf]
 obtain ⟨k, s, a, n, q, A, m, r, rfl, rfl, rfl, rfl⟩ := NdC.cellsOk (show NdC (fun b => b < W.heap.size) W d c0 c1 c2 c3 from hd)
 obtain ⟨va, cap, hva, -⟩ := id hv
 generalize hL : x.length = L at hva
 subst hva
 have HB := hid (N14.make (v := .slice va L cap) hd 26)
 have hE := Ech.Each_any (CloW Pw ⟨W.heap.size + 1, 0, none⟩ (.slice va L cap) x) (CloW.go Pw hPw) (fun l => l.length ≤ 100000) (fun t => trS (sayX (lastV x) t)) (some ⟨W.heap.size + 1, 0, none⟩)
  (fun s W1 h1 h2 => clo14_any Pw HText _ _ x hx s W1 h1 h2) HWalk (· < W.heap.size) d hf (by have := hsm.1; omega) (fun t ht => by have := hsm.2 t ht; omega) _ _ _ _ _ ⟨hPw _ _ hw HB.out.1, HB.out.2.2.1, hv.below HB.out.1⟩ (fun b hb => Nat.lt_of_lt_of_le hb HB.out.1.size) HB.out.2.2.2.2
 clear hf hsm hs hx hv hd hw hPw HText HWalk hL
 obtain ⟨x0, x1, x2, x3⟩ := HB.out.2.1.cells
 cases hR : N8.eachT (fun t => trS (sayX (lastV x) t)) d with
 | ok d' =>
  rw [hR] at hE
  simp only [Ech.RepO] at hE
  clear hR
  go_enter Tryz.func8, Tryz.ntmps8
  go_wp2_with fail
  refine hE.mono ?_
  rintro e w4 ⟨⟨r0, r1, r2, r3, rfl, hrn⟩, hb4⟩
  obtain ⟨k2, s2, a2, n2, q2, A2, m2, r2', rfl, rfl, rfl, rfl⟩ := NdC.cellsOk hrn
  have HX := hid hrn
  have HZ := hid HB.out.2.2.2.1.lt
  have HB4 := hid (HB.out.go hb4)
  obtain ⟨z0, z1, z2, z3⟩ := HB4.out.2.2.2.1.cells
  obtain ⟨f0, f1, f2, f3⟩ := HB4.out.2.2.2.1.frozen
  clear hb4 hrn hE x0 x1 x2 x3
  go_wp2
  have hbb : Below W.heap.size w4 (Ech.put4 w4 (W.heap.size + 2) (.int .i64 k2) (.string s2) (.slice a2 n2 q2) (.slice A2 m2 r2')) := Ech.below_put4 (Below.refl _ _) (by omega) _ _ _ _
  refine bodyPost_ret (v := .tuple #[.agg #[.int .i64 k2, .string s2, .slice a2 n2 q2, .slice A2 m2 r2'], .int .i64 0]) (by simp [results, Tryz.results8, go_sem, z0, z1, z2, z3]) rfl ⟨_, _, _, _, rfl, ?_, HB4.out.1.trans hbb⟩
  have hk : NdC (· < w4.heap.size) (Ech.put4 w4 (W.heap.size + 2) (.int .i64 k2) (.string s2) (.slice a2 n2 q2) (.slice A2 m2 r2')) d' (.int .i64 k2) (.string s2) (.slice a2 n2 q2) (.slice A2 m2 r2') := by
   refine NdC.keep (fun b hb => ?_) d' HX.out
   have hz := HZ.out
   rcases hb with hb | ⟨h1, h2⟩
   ·have hb' : b < W.heap.size := hb
    exact ⟨by have := HB4.out.1.size; omega, Ech.put4_oth b (by omega) _ _ _ _⟩
   ·exact ⟨h2, Ech.put4_oth b (by omega) _ _ _ _⟩
  exact hk.all fun b hb => by rw [Ech.put4_size]; exact hb
 | err n0 =>
  rw [hR] at hE
  simp only [Ech.RepO] at hE
  clear hR
  go_enter Tryz.func8, Tryz.ntmps8
  go_wp2_with fail
  refine hE.mono ?_
  rintro e w4 ⟨⟨hn0, rfl⟩, hb4⟩
  have HB4 := hid (HB.out.go hb4)
  obtain ⟨z0, z1, z2, z3⟩ := HB4.out.2.2.2.1.cells
  obtain ⟨f0, f1, f2, f3⟩ := HB4.out.2.2.2.1.frozen
  clear hb4 hn0 hE x0 x1 x2 x3
  go_wp2
  have hbb : Below W.heap.size w4 (Ech.put4 w4 (W.heap.size + 2) (.int .i64 0) (.string ⟨#[]⟩) (.slice none 0 0) (.slice none 0 0)) := Ech.below_put4 (Below.refl _ _) (by omega) _ _ _ _
  refine bodyPost_ret (v := .tuple #[.agg #[.int .i64 0, .string ⟨#[]⟩, .slice none 0 0, .slice none 0 0], .int .i64 n0]) (by simp [results, Tryz.results8, go_sem, z0, z1, z2, z3]) rfl ⟨rfl, HB4.out.1.trans hbb⟩
end
end Go.Proofs.YtkcilmmaggmmoaaGreatDoor
namespace Go.Proofs.YtkcilmmaggmmoaaGreatDoor
section
open Go.RowKit Go.Sort
open Nw T13 V12 S14 Go.ChangeShapes Go.WideShapes
open N8 (Nd)
theorem nmF_mem (ts : List L8) (x : L8) : x ∈ ts.flatMap nmF ↔ x ∈ allN ts := by
 unfold allN
 rw [List.mem_flatMap, List.mem_flatMap]
 constructor
 ·rintro ⟨t, ht, hx⟩
  exact ⟨t, ht, ((sortL_facts _).2 x).1 hx⟩
 ·rintro ⟨t, ht, hx⟩
  exact ⟨t, ht, ((sortL_facts _).2 x).2 hx⟩
section
variable (Pw : World → Prop) (hPw : ∀ w w', Pw w → Below w.heap.size w w' → Pw w')
variable (HParse : ∀ (s : ByteArray) (W : World), Pw W → s.size ≤ 100000 → Calls Tryz.prog 22 #[.string s] W (GivesP (T13.prsT s.data.toList) W))
variable (HNamesP : ∀ (v : Value) (ps : List Pt) (W : World), Pw W → PtW W v ps → WfL 1 ps → cntL ps ≤ 100000 → Calls Tryz.prog 23 #[v] W fun e w' => ∃ v', e = .returned v' ∧ Rd w' v' (sortL (namL ps)) ∧ Below W.heap.size W w')
variable (HWalk : ∀ (d : Nd) (c0 c1 c2 c3 : Value) (w : World), N8.Fine d → N8.cntT d ≤ 65536 → NdW w d c0 c1 c2 c3 → Calls Tryz.prog 33 #[.agg #[c0, c1, c2, c3]] w fun e w' => e = .returned (.bool true) ∧ Below w.heap.size w w')
include hPw HParse HNamesP HWalk
theorem Names14_any (d : Nd) (c0 c1 c2 c3 : Value) (W : World) (hw : Pw W) (hd : NdW W d c0 c1 c2 c3) (hs : N8.smallT d 100 = true) :
  Calls Tryz.prog 12 #[.agg #[c0, c1, c2, c3]] W fun e w' => ∃ v', e = .returned v' ∧ Rd w' v' (namXs [] (N8.textsT d)) ∧ Below W.heap.size W w' := by
 have hsm := small_facts hs
 have hf : N8.Fine d := by
  unfold N8.smallT at hs
  rw [Bool.and_eq_true] at hs
  exact N8.ok_fine hs.1
 have htl := N8.textsT_len d
 rw [namXs_of (N8.textsT d) ((N8.textsT d).flatMap nmF) (nmF_mem _)]
 obtain ⟨k, s, a, n, q, A, m, r, rfl, rfl, rfl, rfl⟩ := NdC.cellsOk (show NdC (fun b => b < W.heap.size) W d c0 c1 c2 c3 from hd)
 obtain ⟨W2, hW2⟩ : ∃ W2, (W.alloc (.cells #[.int .i64 k, .string s, .slice a n q, .slice A m r] 25)).alloc (.cells #[.slice none 0 0] 22) = W2 := ⟨_, rfl⟩
 have hb1 : Below W.heap.size W (W.alloc (.cells #[.int .i64 k, .string s, .slice a n q, .slice A m r] 25)) := (Below.refl _ _).alloc (Nat.le_refl _) _
 have hb2 : Below W.heap.size W W2 := by rw [← hW2]; exact hb1.alloc (by simp) _
 have hr4 : Row4 W2 W.heap.size 25 (.int .i64 k) (.string s) (.slice a n q) (.slice A m r) := by rw [← hW2]; exact (Row4.make W _ _ _ _ _).alloc _
 have hbx : W2.heap[W.heap.size + 1]? = some (.cells #[.slice none 0 0] 22 (0, 0)) := by
  rw [← hW2]
  have h1 := heap_alloc_new (W.alloc (.cells #[.int .i64 k, .string s, .slice a n q, .slice A m r] 25)) (.cells #[.slice none 0 0] 22)
  rw [show (W.alloc (.cells #[.int .i64 k, .string s, .slice a n q, .slice A m r] 25)).heap.size = W.heap.size + 1 by simp] at h1
  exact h1
 have hsz2 : W2.heap.size = W.heap.size + 2 := by rw [← hW2]; simp
 have hpa : PA14 W (W.heap.size + 1) [] W2 := ⟨hb2, by omega, .slice none 0 0, hbx, ⟨rfl, .inl ⟨rfl, rfl⟩⟩, by intro e; cases e⟩
 have hold : Col.Old (· < W.heap.size) (W.heap.size + 1) W2 := by
  intro b hb
  have hb' : b < W.heap.size := hb
  refine ⟨by omega, fun hc => ?_⟩
  rcases hc with e | ⟨u, hu, hub⟩
  ·omega
  ·rw [cell_of_row W2 _ 0 _ _ (0, 0) hbx] at hu
   injection hu with hu
   subst hu
   cases hub
 have hE := Col.Each_col W.heap.size (W.heap.size + 1) (PA14 W (W.heap.size + 1)) pa_pc pa_keep (fun l => l.length ≤ 1000) nmF
  (fun s a V h1 h2 h3 => ncol_any Pw hPw HParse HNamesP W hw (W.heap.size + 1) s a V h1 h2 h3) HWalk (· < W.heap.size) d hf (by have := hsm.1; omega) (fun t ht => by have := hsm.2 t ht; omega) [] (by
   have := nmF_all (N8.textsT d) hsm.2
   have := hsm.1
   rw [List.length_nil]; omega) _ _ _ _ W2 hpa hold (NdC.keep (fun b hb => ⟨hb, hb2.block b hb⟩) d hd)
 have hflen : ((N8.textsT d).flatMap nmF).length ≤ 100000 := by
  have := nmF_all (N8.textsT d) hsm.2
  have := hsm.1
  omega
 rw [List.nil_append] at hE
 obtain ⟨L, hL⟩ : ∃ L, (N8.textsT d).flatMap nmF = L := ⟨_, rfl⟩
 rw [hL] at hE hflen ⊢
 have HE := hid hE
 have HSO := hid (fun (V : World) (u : Value) (hr : Rd V u L) => Sorted_own u L V hr (by omega))
 have HR4 := hid hr4
 have HW2 := hid hW2
 obtain ⟨S, hS⟩ : ∃ S, sortL L = S := ⟨_, rfl⟩
 rw [hS] at HSO ⊢
 clear hsm hf htl hd hs hw hPw HParse HNamesP HWalk hb1 hb2 hbx hsz2 hpa hold hE hL hflen hr4 hS
 obtain ⟨x0, x1, x2, x3⟩ := HR4.out.cells
 go_enter Tryz.func12, Tryz.ntmps12
 go_wp2_with first
  | (go_at_call 18; (try rw [HW2.out]); refine HE.out.mono ?_; rintro e W3 ⟨⟨r0, r1, r2, r3, rfl⟩, hpa, -⟩; obtain ⟨hb3, hg3, u, hbx3, hown3, -⟩ := hpa; obtain ⟨ua, uc, rfl⟩ := own_shape hown3; have hcu := cell_of_row W3 _ 0 _ _ (0, 0) hbx3; have HB3 := hid hb3; have HRD := hid (rd_of_owns hown3); clear hb3 hg3 hbx3 hown3)
  | (go_at_call 24; refine (HSO.out _ _ HRD.out).mono ?_; rintro e W4 ⟨v4, rfl, ho4, hb4⟩; have HR5 := hid (rd_of_owns ho4); have HB5 := hid (HB3.out.trans (hb4.mono HB3.out.size)); clear ho4 hb4)
 go_ret
 exact ⟨_, rfl, HR5.out, HB5.out⟩
end
theorem ops8_of_laid1 {W : World} (h : laidMet Tryz.prog [("longshore/tmpl.operators", Rows.laid_longshore_tmpl_operators)] W) : Ops8 W := by
 obtain ⟨ps, ⟨g1, t1, cs1, f1, p1, q1, hg1, ht1, hv1, hd1, _, _⟩, _, _⟩ := h
 obtain rfl := Option.some.inj (gOps.symm.trans hg1)
 obtain rfl := Option.some.inj (tOps.symm.trans ht1)
 obtain ⟨xs, m, _, hx, hl, hn, hi⟩ := DataW.trod_array Tryz.underlying138 hd1
 have hx1 := congrArg Prod.fst hx
 simp only [Rows.laid_longshore_tmpl_operators, DataW.agg.injEq] at hx1
 rw [cOps] at hl
 intro k hk
 have hik := hi k hk
 rw [cStr, Nat.mul_one] at hik
 have hkc : k < cs1.toList.length := by omega
 rw [List.drop_eq_getElem_cons hkc] at hik
 have hkx : k < xs.length := by omega
 rw [List.getElem?_eq_getElem hkx] at hik
 have hy : (xs.map (·.1))[k]? = some (.lit (.string (markL (k : Int)))) := by
  rw [← hx1]
  match k, hk with
  | 0, _ => rfl
  | 1, _ => rfl
  | 2, _ => rfl
  | 3, _ => rfl
  | 4, _ => rfl
  | 5, _ => rfl
  | 6, _ => rfl
  | 7, _ => rfl
 rw [List.getElem?_map, List.getElem?_eq_getElem hkx, Option.map_some] at hy
 have he := str_cell hik (Option.some.inj hy)
 rw [World.var?_cell hg1 hv1 k]
 have h2 : cs1[k]? = some (cs1.toList[k]'hkc) := by rw [← Array.getElem?_toList, List.getElem?_eq_getElem hkc]
 rw [h2, he]
 rfl
theorem ops8_keep (w w' : World) (h : Ops8 w) (hb : Below w.heap.size w w') : Ops8 w' := h.keep hb
theorem get14 (v : Value) (x : List KV) (nm : L8) (W : World) (h : Ops8 W) (hv : VR W v x) (hx : x.length ≤ 1000000) :
  Calls Tryz.prog 75 #[v, .string (ba nm)] W fun e w' => e = .returned (.tuple #[.string (ba ((lastV x nm).getD [])), .bool (lastV x nm).isSome]) ∧ Below W.heap.size W w' := by
 have := Get_any v x hx (ba nm) W hv
 rw [ba_data] at this
 exact this
theorem text14 (s : ByteArray) (v : Value) (x : List KV) (W : World) (h : Ops8 W) (hs : s.size ≤ 100000) (hv : VR W v x) (hx : EnvS x) :
  Calls Tryz.prog 16 #[.string s, v] W fun e w' => e = .returned (SayO (sayX (lastV x) s.data.toList)) ∧ Below W.heap.size W w' :=
 Text14_any Ops8 ops8_keep get14 (fun s W h hs => Parse13_any s W h hs) s v x W h hs hv hx
theorem SubstNodes_row (d : Nd) (l : List KV) (v c0 c1 c2 c3 : Value) (w : World) (hw : Ops8 w) (hd : NdW w d c0 c1 c2 c3) (hl : VR w v l) (okl : KVok l) : Calls Tryz.prog 3 #[.agg #[c0, c1, c2, c3], v] w fun e w' => e = .returned (.bool true) ∧ Below w.heap.size w w' :=
 SubstNodes_walk Ops8 ops8_keep text14 (fun s W hs => RParse13_any s W hs)
  (fun s v x W hs hv hx => RText14 (fun s W hs => RParse13_any s W hs) x (fun n z h => Nat.le_trans (hx.val h) (by decide)) s hs v W hv)
  (fun d c0 c1 c2 c3 v x W h hd hs hv hx => Node14_any Ops8 ops8_keep text14 (fun d c0 c1 c2 c3 w hf hc hd => isWalkable_any d hf hc c0 c1 c2 c3 w hd) d c0 c1 c2 c3 v x W h hd hs hv hx)
  (fun d c0 c1 c2 c3 W h hd hs => Names14_any Ops8 ops8_keep (fun s W h hs => Parse13_any s W h hs) (fun v ps W _ h2 h3 h4 => Names13_any v ps W h2 h3 h4) (fun d c0 c1 c2 c3 w hf hc hd => isWalkable_any d hf hc c0 c1 c2 c3 w hd) d c0 c1 c2 c3 W h hd hs)
  d c0 c1 c2 c3 l v w hw hd hl okl
end
end Go.Proofs.YtkcilmmaggmmoaaGreatDoor
