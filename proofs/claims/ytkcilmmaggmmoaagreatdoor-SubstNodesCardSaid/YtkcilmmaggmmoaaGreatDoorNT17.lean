/- NodKd, EchMem, NodForm -/
import Derived.Deep.RegionHeld3
import Derived.Lib.SliceRun
import Derived.Maps.AppendAt
import Derived.Test.YtkcilmmaggmmoaaGreatDoorNT1
import Derived.Test.YtkcilmmaggmmoaaGreatDoorNT11
import Derived.Test.YtkcilmmaggmmoaaGreatDoorNT16
import Derived.Test.YtkcilmmaggmmoaaGreatDoorNT6
set_option linter.unusedVariables false
set_option linter.unusedSimpArgs false
set_option maxRecDepth 100000
set_option maxHeartbeats 16000000
open Go.Lib (hid)
namespace Go.Proofs.YtkcilmmaggmmoaaGreatDoor
namespace N8
end N8
namespace Nw
end Nw
end Go.Proofs.YtkcilmmaggmmoaaGreatDoor
namespace Go.Proofs.YtkcilmmaggmmoaaGreatDoor
section
open Go.RowKit Go.Sort
open Nw N8 Go.ChangeShapes Go.WideShapes
def Kd (w : World) (v : Value) (ds : List Nd) : Prop :=
 ∃ (A : Option Addr) (cap : Nat), v = .slice A ds.length cap ∧ ds.length ≤ cap ∧ cap ≤ maxLen ∧ (A = none → cap = 0) ∧ NdK (· < w.heap.size) w ds A 0
theorem Kd.below {w w' : World} {v : Value} {ds : List Nd} (h : Kd w v ds) (hb : Below w.heap.size w w') : Kd w' v ds := by
 obtain ⟨A, cap, h1, h2, h3, h4, h5⟩ := h
 exact ⟨A, cap, h1, h2, h3, h4, NdK.keep (fun b hlt => ⟨Nat.lt_of_lt_of_le hlt hb.size, hb.block b hlt⟩) ds h5⟩
theorem Kd.kid {w : World} {A : Option Addr} {n cap : Nat} {ds : List Nd} (h : Kd w (.slice A n cap) ds) (j : Nat) (hj : j < ds.length) :
  ∃ (b o : Nat) (e0 e1 e2 e3 : Value), A = some ⟨b, o, none⟩ ∧ b < w.heap.size ∧ w.cell? ⟨b, o + j * 4, none⟩ = some e0 ∧ w.cell? ⟨b, o + j * 4 + 1, none⟩ = some e1 ∧
    w.cell? ⟨b, o + j * 4 + 2, none⟩ = some e2 ∧ w.cell? ⟨b, o + j * 4 + 3, none⟩ = some e3 ∧ NdW w (ds[j]'hj) e0 e1 e2 e3 := by
 obtain ⟨A', cap', h1, -, -, -, h5⟩ := h
 have hAe : A = A' := by injection h1
 subst hAe
 have := NdK.at_ h5 j hj
 rw [Nat.zero_add] at this
 exact this
theorem NdW.kd {w : World} {k : Int} {t : L8} {ks : List L8} {ds : List Nd} {c0 c1 c2 c3 : Value} (h : NdW w (.mk k t ks ds) c0 c1 c2 c3) : Kd w c3 ds := by
 unfold NdW at h
 rw [NdC] at h
 obtain ⟨-, -, -, h⟩ := h
 exact h
theorem Kd.shape {w : World} {v : Value} {ds : List Nd} (h : Kd w v ds) : ∃ (A : Option Addr) (cap : Nat), v = .slice A ds.length cap ∧ ds.length ≤ cap ∧ cap ≤ maxLen := by
 obtain ⟨A, cap, h1, h2, h3, -⟩ := h
 exact ⟨A, cap, h1, h2, h3⟩
theorem kids_cnt (d : Nd) : d.kids.length ≤ cntT d := by
 cases d with
 | mk k t ks ds =>
  have := cntL_len ds
  show ds.length ≤ _
  rw [cntT]; omega
end
section
open Go.RowKit Go.Sort
open Nw N8 Go.ChangeShapes Go.WideShapes
theorem flat4_set : ∀ (l : List Q4) (j : Nat) (q : Q4), ((((flat4 l).set (j * 4) q.a).set (j * 4 + 1) q.b).set (j * 4 + 2) q.c).set (j * 4 + 3) q.d = flat4 (l.set j q)
 | [], _, _ => rfl
 | p :: l, 0, q => rfl
 | p :: l, j + 1, q => by
  have := flat4_set l j q
  rw [List.set_cons_succ, flat4, flat4, show (j + 1) * 4 = j * 4 + 4 by omega, ← this]
  rfl
theorem list_q {P : Nat → Q4 → Prop} : ∀ (n : Nat), (∀ i, i < n → ∃ d, P i d) → ∃ ds : List Q4, ds.length = n ∧ ∀ (i : Nat) (h : i < ds.length), P i (ds[i]'h)
 | 0, _ => ⟨[], rfl, fun i h => absurd h (Nat.not_lt_zero _)⟩
 | n + 1, h => by
  obtain ⟨ds, hl, hp⟩ := list_q n fun i hi => h i (by omega)
  obtain ⟨d, hd⟩ := h n (by omega)
  refine ⟨ds ++ [d], by rw [List.length_append, hl]; rfl, fun i hi => ?_⟩
  by_cases hin : i < ds.length
  ·rw [List.getElem_append_left hin]; exact hp i hin
  ·have : i = n := by rw [List.length_append] at hi; have : i < ds.length + 1 := hi; omega
   subst this
   rw [List.getElem_append_right (by omega)]
   simp only [hl, Nat.sub_self, List.getElem_cons_zero]
   exact hd
theorem KdS.quads {S : Nat → Prop} {w : World} {v : Value} {ds : List Nd} (h : KdS S w v ds) :
  ∃ qs : List Q4, qs.length = ds.length ∧ (∀ (j : Nat) (h : j < qs.length) (g : j < ds.length), NdQ S w (ds[j]'g) (qs[j]'h)) ∧
   ∀ (A : Addr) (n cap : Nat), v = .slice (some A) n cap → ∀ i u, (flat4 qs)[i]? = some u → w.cell? (A.add i) = some u := by
 obtain ⟨A, cap, rfl, h1, h2, h3, h4⟩ := h
 have key : ∀ j, j < ds.length → ∃ q : Q4, ∃ (b o : Nat), A = some ⟨b, o, none⟩ ∧ w.cell? ⟨b, o + j * 4, none⟩ = some q.a ∧ w.cell? ⟨b, o + j * 4 + 1, none⟩ = some q.b ∧
   w.cell? ⟨b, o + j * 4 + 2, none⟩ = some q.c ∧ w.cell? ⟨b, o + j * 4 + 3, none⟩ = some q.d ∧ ∀ g : j < ds.length, NdQ S w (ds[j]'g) q := by
  intro j hj
  obtain ⟨b, o, c0, c1, c2, c3, hA, hS, e0, e1, e2, e3, hd⟩ := NdK.at_ h4 j hj
  rw [Nat.zero_add] at e0 e1 e2 e3
  exact ⟨⟨c0, c1, c2, c3⟩, b, o, hA, e0, e1, e2, e3, fun _ => hd⟩
 obtain ⟨qs, hl, hp⟩ := list_q ds.length key
 refine ⟨qs, hl, fun j hj g => ?_, fun A' n' cap' hA' i u hu => ?_⟩
 ·obtain ⟨b, o, _, _, _, _, _, hd⟩ := hp j hj
  exact hd g
 ·injection hA' with hA' _ _
  obtain ⟨j, hj, hc⟩ := flat4_inv qs i u hu
  obtain ⟨b, o, hA, e0, e1, e2, e3, _⟩ := hp j hj
  rw [hA] at hA'
  injection hA' with hA'
  subst hA'
  rw [add_plain]
  rcases hc with ⟨rfl, rfl⟩ | ⟨rfl, rfl⟩ | ⟨rfl, rfl⟩ | ⟨rfl, rfl⟩
  ·exact e0
  ·exact e1
  ·exact e2
  ·exact e3
theorem CloneN_any (S : Nat → Prop) (v : Value) (ds : List Nd) (w : World) (hS : ∀ b, S b → b < w.heap.size) (h : KdS S w v ds) (hl : ds.length ≤ 100000) :
  Calls Tryz.prog 49 #[v] w fun e w' => ∃ v', e = .returned v' ∧ (∃ qs, KO S w.heap.size w' v' qs ds) ∧ Below w.heap.size w w' := by
 obtain ⟨qs, hq, hqd, hqc⟩ := h.quads
 obtain ⟨A, cap, rfl, h1, h2, h3, -⟩ := h
 cases A with
 | none =>
  have hc0 := h3 rfl
  subst hc0
  have hd0 : ds = [] := List.length_eq_zero_iff.1 (by omega)
  subst hd0
  obtain rfl : qs = [] := List.length_eq_zero_iff.1 hq
  clear hqd hqc
  have q23 : ∀ (w : World) (a : Option Addr) (n c n' c' : Nat), (binOp .eql 23 (.slice a n c) (.slice none n' c')).run Tryz.prog w = .ok (.bool a.isNone) w := fun w a n c n' c' => Lib.run_eql_slice_nil w _ _ a n c n' c' Tryz.underlying23
  go_enter Tryz.func49, Tryz.ntmps49
  go_wp2
  go_ret
  exact ⟨_, rfl, ⟨[], World.ownsRow_nil _ _ _ _, rfl, fun j hj => absurd hj (Nat.not_lt_zero _)⟩, Below.refl _ _⟩
 | some A =>
  obtain ⟨i0, hi, hz0, hz1, hz2⟩ := infoN
  have HQC := hid (hqc A ds.length cap rfl)
  have HQD := hid hqd
  have HONE := hid (flat4_one hq hqd)
  have HFL : Hid ((flat4 qs).length = ds.length * 4) := hid (by rw [flat4_len, hq])
  have HS := hid hS
  have HQ := hid hq
  obtain ⟨n, hn⟩ : ∃ n, ds.length = n := ⟨_, rfl⟩
  have HN := hid hn
  rw [hn] at h1 hl HFL ⊢
  obtain ⟨X, hX⟩ : ∃ X, flat4 qs = X := ⟨_, rfl⟩
  have HX := hid hX
  rw [hX] at HQC HONE HFL
  clear hq hqd hqc hS hn hX h3
  unfold maxLen at h2
  have q23 : ∀ (w : World) (a : Option Addr) (n c n' c' : Nat), (binOp .eql 23 (.slice a n c) (.slice none n' c')).run Tryz.prog w = .ok (.bool a.isNone) w := fun w a n c n' c' => Lib.run_eql_slice_nil w _ _ a n c n' c' Tryz.underlying23
  go_enter Tryz.func49, Tryz.ntmps49
  go_wp2_with (at_builtin; refine wpList_append_own _ rfl _ _ 23 rfl w.heap.size 25 i0 _ 4 72 Tryz.underlying23 hi hz0 hz1 hz2 rfl (by decide) _ _ _ rfl (World.ownsRow_made w #[] 0 (Nat.le_refl _) (Nat.zero_le _) (by simp)) A n cap X rfl ?qc1 ?qc2 ?qc3 ?qc4 ?qc5 ?qc6 ?_)
  case qc1 => exact HFL.out
  case qc2 =>
   intro j u hj
   exact cells_alloc (HQC.out j u hj)
  case qc3 => exact HONE.out
  case qc4 => rw [Nat.zero_add]; unfold maxLen; omega
  case qc5 => rw [Nat.zero_add]; omega
  case qc6 => simp
  intro v' w1 hown hgrow hnil
  have HO := hid hown
  have HB : Hid (Below w.heap.size w w1) := hid (((Below.refl _ w).alloc (Nat.le_refl _) _).grown hgrow (by simp) (by intro k hk; simp [Value.ownBlock] at hk; omega))
  clear hown hgrow hnil
  go_wp2
  go_ret
  refine ⟨v', rfl, ⟨qs, by rw [HN.out, HX.out]; simpa using HO.out, HQ.out, fun j hj g => NdC.old (HQD.out j hj g) HS.out HB.out⟩, HB.out⟩
def put4at (w : World) (g o : Nat) (a b c d : Value) : World := (((w.setCell ⟨g, o, none⟩ a).setCell ⟨g, o + 1, none⟩ b).setCell ⟨g, o + 2, none⟩ c).setCell ⟨g, o + 3, none⟩ d
theorem put4at_oth {w : World} {g o : Nat} (b : Nat) (hb : b ≠ g) (a' b' c' d' : Value) : (put4at w g o a' b' c' d').heap[b]? = w.heap[b]? := by
 unfold put4at
 rw [Below.heap_setCell _ _ _ _ (by show b ≠ g; omega), Below.heap_setCell _ _ _ _ (by show b ≠ g; omega), Below.heap_setCell _ _ _ _ (by show b ≠ g; omega), Below.heap_setCell _ _ _ _ (by show b ≠ g; omega)]
theorem below_put4at {B : Nat} {w w' : World} {g o : Nat} (h : Below B w w') (hg : B ≤ g) (a b c d : Value) : Below B w (put4at w' g o a b c d) :=
 (((h.setCell (p := ⟨g, o, none⟩) hg a).setCell (p := ⟨g, o + 1, none⟩) hg b).setCell (p := ⟨g, o + 2, none⟩) hg c).setCell (p := ⟨g, o + 3, none⟩) hg d
theorem KO.stored {S : Nat → Prop} {base : Nat} {w : World} {g cap n : Nat} {qs : List Q4} {ds : List Nd} (h : KO S base w (.slice (some ⟨g, 0, none⟩) n cap) qs ds) (hn : ds.length = n) (hS : ∀ b, S b → b ≠ g) (j : Nat) (hj : j < ds.length) (e : Nd) (q : Q4) (he : NdQ S w e q) :
  KO S base (put4at w g (j * 4) q.a q.b q.c q.d) (.slice (some ⟨g, 0, none⟩) n cap) (qs.set j q) (ds.set j e) := by
 obtain ⟨h1, h2, h3⟩ := h
 rw [hn] at h1
 have hk : ∀ b, S b → S b ∧ (put4at w g (j * 4) q.a q.b q.c q.d).heap[b]? = w.heap[b]? := fun b hb => ⟨hb, put4at_oth b (hS b hb) _ _ _ _⟩
 refine ⟨?_, by rw [List.length_set, List.length_set, h2], fun i hi gi => ?_⟩
 ·rw [List.length_set, ← flat4_set, hn]
  exact ((((h1.stored _ _).1.stored _ _).1.stored _ _).1.stored _ _).1
 ·by_cases hij : j = i
  ·subst hij
   rw [List.getElem_set_self, List.getElem_set_self]
   exact NdC.keep hk e he
  ·rw [List.getElem_set_ne hij, List.getElem_set_ne hij]
   exact NdC.keep hk _ (h3 i (by rw [List.length_set] at hi; exact hi) (by rw [List.length_set] at gi; exact gi))
theorem KO.form {S : Nat → Prop} {base : Nat} {w : World} {v : Value} {qs : List Q4} {ds : List Nd} (h : KO S base w v qs ds) (hd : 0 < ds.length) : ∃ g cap, v = .slice (some ⟨g, 0, none⟩) ds.length cap ∧ base ≤ g ∧ g < w.heap.size ∧ ds.length ≤ cap ∧ cap ≤ maxLen := by
 rcases h.1.2 with ⟨_, h0⟩ | ⟨g, cap, cur, h1, h2, h3, h4, h5, _⟩
 ·omega
 ·exact ⟨g, cap, h1, h2, (h.1.lt g (by rw [h1]; rfl)).2, h4, h5⟩
theorem KO.at_ {S : Nat → Prop} {base : Nat} {w : World} {g cap n : Nat} {qs : List Q4} {ds : List Nd} (h : KO S base w (.slice (some ⟨g, 0, none⟩) n cap) qs ds) (hn : ds.length = n) (j : Nat) (hj : j < ds.length) :
  (∃ e0 e1 e2 e3, w.cell? ⟨g, j * 4, none⟩ = some e0 ∧ w.cell? ⟨g, j * 4 + 1, none⟩ = some e1 ∧ w.cell? ⟨g, j * 4 + 2, none⟩ = some e2 ∧ w.cell? ⟨g, j * 4 + 3, none⟩ = some e3 ∧ NdC S w (ds[j]'hj) e0 e1 e2 e3) ∧
  w.frozen? ⟨g, j * 4, none⟩ = false ∧ w.frozen? ⟨g, j * 4 + 1, none⟩ = false ∧ w.frozen? ⟨g, j * 4 + 2, none⟩ = false ∧ w.frozen? ⟨g, j * 4 + 3, none⟩ = false := by
 obtain ⟨h1, h2, h3⟩ := h
 rw [hn] at h1
 have hq : j < qs.length := by rw [h2]; exact hj
 obtain ⟨f0, f1, f2, f3⟩ := flat4_get qs j hq
 exact ⟨⟨_, _, _, _, (h1.cellAt (j * 4) (by omega)).trans f0, (h1.cellAt (j * 4 + 1) (by omega)).trans f1, (h1.cellAt (j * 4 + 2) (by omega)).trans f2, (h1.cellAt (j * 4 + 3) (by omega)).trans f3, h3 j hq hj⟩,
  h1.frozenAt _, h1.frozenAt _, h1.frozenAt _, h1.frozenAt _⟩
end
section
open Go.RowKit Go.Sort
open Nw N8 Go.ChangeShapes Go.WideShapes
theorem Sorted_rd {v : Value} {l : List L8} {w : World} (h : Rd w v l) (hb : l.length ≤ 4398046511103) :
  Calls Tryz.prog 24 #[v] w fun e w' => ∃ v', e = .returned v' ∧ Rd w' v' (sortL l) ∧ Below w.heap.size w w' :=
 (Sorted_own v l w h hb).mono fun e w' ⟨v', h1, h2, h3⟩ => ⟨v', h1, rd_of_owns h2, h3⟩
theorem hasForm_any (d : Nd) (hf : Fine d) (hc : cntT d ≤ 100000) (c0 c1 c2 c3 : Value) (w : World) (hd : NdW w d c0 c1 c2 c3) :
  Calls Tryz.prog 78 #[.agg #[c0, c1, c2, c3]] w fun e w' => e = .returned (.bool true) ∧ Below w.heap.size w w' := by
 have HB0 := hid (Boxed.make hd)
 have hkc := kids_cnt d
 cases hf with
 | @mk k t ks ds h0 h3 hf hk hdd =>
  obtain ⟨rfl, rfl, hks, A, cap, rfl, hcap, hm, -, -⟩ := hd.parts
  obtain ⟨a, kcap, rfl, hkc2, hkm⟩ := rd_slice hks
  have hds : ds.length ≤ 100000 := Nat.le_trans hkc hc
  obtain ⟨x0, x1, x2, x3⟩ := HB0.out.2.1.cells
  unfold formB at hf
  unfold maxLen at hm hkm
  clear hdd hd hkc hc
  have hk4 : k = 0 ∨ k = 1 ∨ k = 2 ∨ k = 3 := by omega
  rcases hk4 with rfl | rfl | rfl | rfl
  ·simp at hf
   obtain ⟨⟨rfl, rfl⟩, rfl⟩ := hf
   rw [show ba [] = ⟨#[]⟩ from rfl] at HB0 x1 ⊢
   clear hk h0 h3 hks
   go_enter Tryz.func78, Tryz.ntmps78
   go_wp2
   go_ret
   exact ⟨rfl, HB0.out.1⟩
  ·simp at hf
   obtain ⟨rfl, rfl⟩ := hf
   clear hk h0 h3 hks
   obtain ⟨T, hT⟩ : ∃ T, ba t = T := ⟨_, rfl⟩
   rw [hT] at HB0 x0 x1 x2 x3 ⊢
   clear hT
   go_enter Tryz.func78, Tryz.ntmps78
   go_wp2
   go_ret
   exact ⟨rfl, HB0.out.1⟩
  ·simp at hf
   obtain ⟨rfl, rfl⟩ := hf
   rw [show ba [] = ⟨#[]⟩ from rfl] at HB0 x1 ⊢
   clear hk h0 h3 hks
   generalize ds.length = n at *
   go_enter Tryz.func78, Tryz.ntmps78
   go_wp2
   go_ret
   exact ⟨rfl, HB0.out.1⟩
  ·simp at hf
   obtain rfl := hf
   obtain ⟨h1, h2⟩ := hk rfl
   have HK := hid hks
   have hn : ks.length ≤ 100000 := by omega
   have HSO := hid (fun W (hW : Rd W (.slice a ks.length kcap) ks) => Sorted_rd hW (by omega))
   have HL : Hid ((sortL ks).length = ds.length) := hid (by rw [h2, h1])
   rw [show ba [] = ⟨#[]⟩ from rfl] at HB0 x1 ⊢
   have HB1 := hid (HB0.out.go (below_drew _))
   obtain ⟨n, hnn⟩ : ∃ n, ds.length = n := ⟨_, rfl⟩
   have h1n := h1.trans hnn
   rw [hnn] at HL
   rw [h1n] at HSO hkc2
   simp only [h1n, hnn] at HB0 HB1 x1 x2 x3 HK hcap hn hds ⊢
   clear h0 h3 hks h1 h2 hk hnn h1n
   go_enter Tryz.func78, Tryz.ntmps78
   go_wp2_with fail
   have hS1 : ((w.alloc (.cells #[.int .i64 3, .string ⟨#[]⟩, .slice a n kcap, .slice A n cap] 25)).drew).cell? ⟨w.heap.size, 1, none⟩ = some (.string ⟨#[]⟩) ∧ ((w.alloc (.cells #[.int .i64 3, .string ⟨#[]⟩, .slice a n kcap, .slice A n cap] 25)).drew).cell? ⟨w.heap.size, 2, none⟩ = some (.slice a n kcap) ∧ ((w.alloc (.cells #[.int .i64 3, .string ⟨#[]⟩, .slice a n kcap, .slice A n cap] 25)).drew).cell? ⟨w.heap.size, 3, none⟩ = some (.slice A n cap) := ⟨x1, x2, x3⟩
   go_region_held3 (fun W => W.cell? ⟨w.heap.size, 1, none⟩ = some (.string ⟨#[]⟩) ∧ W.cell? ⟨w.heap.size, 2, none⟩ = some (.slice a n kcap) ∧ W.cell? ⟨w.heap.size, 3, none⟩ = some (.slice A n cap)) (first | exact hS1 | assumption)
    (first | (go_at_call 24; refine (HSO.out _ HB1.out.keys).mono ?_; rintro e w2 ⟨v2, rfl, hr2, hb2⟩; have HB2 := hid (HB1.out.go hb2); have hS2 := HB2.out.2.1.cells.2; obtain ⟨a2, c2, rfl, -, -⟩ := rd_slice hr2))
   all_goals
    rw [HL.out]
    go_wp2
    go_ret
    exact ⟨ret_b (by simp), HB2.out.1⟩
def FormedOf (N : Nat) : Prop := ∀ (d : Nd), cntT d ≤ N → Fine d → cntT d ≤ 100000 → ∀ (c0 c1 c2 c3 : Value) (w : World), NdW w d c0 c1 c2 c3 →
  Calls Tryz.prog 65 #[.agg #[c0, c1, c2, c3]] w fun e w' => e = .returned (.bool true) ∧ Below w.heap.size w w'
theorem notFormed_any (d : Nd) (c0 c1 c2 c3 : Value) (w : World) (hd : NdW w d c0 c1 c2 c3)
  (h : ∀ W, NdW W d c0 c1 c2 c3 → Calls Tryz.prog 65 #[.agg #[c0, c1, c2, c3]] W fun e w' => e = .returned (.bool true) ∧ Below W.heap.size W w') :
  Calls Tryz.prog 80 #[.agg #[c0, c1, c2, c3]] w fun e w' => e = .returned (.bool false) ∧ Below w.heap.size w w' := by
 have HB0 := hid (Boxed.make hd)
 have HR := hid (h _ HB0.out.2.2)
 obtain ⟨x0, x1, x2, x3⟩ := HB0.out.2.1.cells
 clear hd h
 go_enter Tryz.func80, Tryz.ntmps80
 go_wp2_with (go_at_call 65; refine HR.out.mono ?_; rintro e w2 ⟨rfl, hb2⟩)
 go_ret
 exact ⟨rfl, (HB0.out.go hb2).1⟩
theorem IndexFunc_any (N : Nat) (ih : FormedOf N) (ds : List Nd) (hN : cntL ds ≤ N) (hc : cntL ds ≤ 100000) (hf : ∀ d ∈ ds, Fine d) (v : Value) (w : World) (hd : Kd w v ds) :
  Calls Tryz.prog 105 #[v, .func (.func 80) #[] #[]] w fun x w' => x = .returned (.int .i64 (-1)) ∧ Below w.heap.size w w' := by
 have eg : ∀ args w, (callFunc 80 args).run Tryz.prog w = .ok (.enter 80 args) w := enters_of Tryz.func80 (by kernel_rfl) rfl
 have HD0 := hid hd
 obtain ⟨A, cap, rfl, hcap, hm⟩ := hd.shape
 have HIH := hid ih
 have HCN := hid (And.intro hN (And.intro hc hf))
 obtain ⟨n, hn⟩ : ∃ n, ds.length = n := ⟨_, rfl⟩
 have HN := hid hn
 rw [hn] at HD0 hcap ⊢
 unfold maxLen at hm
 have hn63 : n ≤ 9223372036854775807 := by omega
 have HB0 : Hid (Below w.heap.size w w) := hid (Below.refl _ _)
 clear ih hd hn hN hc hf
 go_enter Tryz.func105, Tryz.ntmps105
 go_wp2
 go_loopw [5, 8] (fun s5 si wr => ∃ (i : Nat), i ≤ n ∧ si = .int .i64 (i : Int) ∧ Hid (Below w.heap.size w wr)) (fun _ si _ => n - (intOf si).toNat)
 case atStart => exact ⟨0, Nat.zero_le _, rfl, HB0⟩
 case round =>
  clear HB0
  obtain ⟨i, hi, rfl, HB⟩ := hrel
  by_cases hin : i < n
  ·have hil : i < ds.length := by rw [HN.out]; exact hin
   have hiz : (i : Int) < (n : Int) := by omega
   obtain ⟨b, o, e0, e1, e2, e3, rfl, hb, y0, y1, y2, y3, hnd⟩ := (HD0.out.below HB.out).kid i hil
   obtain ⟨k1, s1, a1, n1, q1, A1, m1, r1, rfl, rfl, rfl, rfl⟩ := ndw_shape hnd
   have hck : cntT (ds[i]'hil) ≤ cntL ds := cntL_mem (List.getElem_mem hil)
   have HR := hid (notFormed_any (ds[i]'hil) _ _ _ _ wr hnd fun W hW => HIH.out (ds[i]'hil) (Nat.le_trans hck HCN.out.1) (HCN.out.2.2 _ (List.getElem_mem hil)) (Nat.le_trans hck HCN.out.2.1) _ _ _ _ W hW)
   clear hnd hck
   go_wp2_with (go_at_fn 80; refine HR.out.mono ?_; rintro e w2 ⟨rfl, hb2⟩)
   have HB2 := hid (belowNext HB.out hb2)
   clear hb2
   go_roundw
   case measure => simp [intOf]; omega
   case rel => exact ⟨i + 1, by omega, by go_num, HB2⟩
  ·obtain rfl : i = n := by omega
   go_wp2
   go_ret
   exact ⟨rfl, HB.out⟩
theorem isFormed_any (N : Nat) : FormedOf N := by
 induction N with
 | zero => intro d h; have := cntT_pos d; omega
 | succ N ih =>
  intro d hN hf hc c0 c1 c2 c3 w hd
  have HB0 := hid (Boxed.make hd)
  have HH := hid (fun W hW => hasForm_any d hf hc c0 c1 c2 c3 W hW)
  obtain ⟨x0, x1, x2, x3⟩ := HB0.out.2.1.cells
  cases hf with
  | @mk k t ks ds h0 h3 hf' hk hdd =>
   rw [cntT] at hN hc
   have HI := hid (fun W hW => IndexFunc_any N ih ds (by omega) (by omega) hdd c3 W hW)
   clear hd ih h0 h3 hf' hk hdd hN hc
   have HCF : Hid (∀ W, Kd W c3 ds → Calls Tryz.prog 79 #[c3, .func (.func 80) #[] #[]] W fun x w' => x = .returned (.bool false) ∧ Below W.heap.size W w') := hid (by
    intro W hW
    have hr := HI.out W hW
    obtain ⟨A, cap, rfl, -, -⟩ := hW.shape
    clear x0 x1 x2 x3
    generalize ds.length = n at *
    go_enter Tryz.func79, Tryz.ntmps79
    go_wp2_with (go_at_call 105; refine hr.mono ?_; rintro e w2 ⟨rfl, hb2⟩)
    go_ret
    exact ⟨rfl, hb2⟩)
   go_enter Tryz.func65, Tryz.ntmps65
   go_wp2_with fail
   refine (HH.out _ HB0.out.2.2).mono ?_
   rintro e w2 ⟨rfl, hb2⟩
   have HB2 := hid (HB0.out.go hb2)
   clear hb2 x0 x1 x2 x3
   obtain ⟨x0, x1, x2, x3⟩ := HB2.out.2.1.cells
   go_wp2_with fail
   refine (HCF.out _ HB2.out.2.2.kd).mono ?_
   rintro e w3 ⟨rfl, hb3⟩
   go_wp2
   go_ret
   exact ⟨rfl, (HB2.out.go hb3).1⟩
theorem isWithin_any (d : Nd) (hf : Fine d) (nodes nest : Int) (hc : (cntT d : Int) ≤ nodes) (hd9 : (depT d : Int) ≤ nest) (hn : nodes ≤ 99999) (c0 c1 c2 c3 : Value) (w : World) (hd : NdW w d c0 c1 c2 c3) :
  Calls Tryz.prog 47 #[.agg #[c0, c1, c2, c3], .int .i64 nodes, .int .i64 nest] w fun e w' => e = .returned (.bool true) ∧ Below w.heap.size w w' := by
 have HB0 := hid (Boxed.make hd)
 have hp := cntT_pos d
 have el : IntKind.i64.wrap (nodes + 1) = nodes + 1 := IntWalk.i64_in _ (by omega)
 have HM := hid (measure_any (cntT d) d (Nat.le_refl _) (nodes + 1) (by omega) (by omega) c0 c1 c2 c3 _ HB0.out.2.2)
 have HF := hid (fun W hW => isFormed_any (cntT d) d (Nat.le_refl _) hf (by omega) c0 c1 c2 c3 W hW)
 obtain ⟨x0, x1, x2, x3⟩ := HB0.out.2.1.cells
 obtain ⟨C, hC⟩ : ∃ C, (cntT d : Int) = C := ⟨_, rfl⟩
 obtain ⟨D, hD⟩ : ∃ D, (depT d : Int) = D := ⟨_, rfl⟩
 obtain ⟨M, hM⟩ : ∃ M, nodes + 1 = M := ⟨_, rfl⟩
 rw [hC, hD, hM] at HM
 rw [hC] at hc
 rw [hD] at hd9
 rw [hM] at el
 clear hd hf hp hC hD
 go_enter Tryz.func47, Tryz.ntmps47
 go_wp2_with fail
 refine HM.out.mono ?_
 rintro e w2 ⟨rfl, hb2⟩
 have HB2 := hid (HB0.out.go hb2)
 clear hb2 x0 x1 x2 x3
 obtain ⟨x0, x1, x2, x3⟩ := HB2.out.2.1.cells
 go_wp2_with fail
 refine (HF.out _ HB2.out.2.2).mono ?_
 rintro e w3 ⟨rfl, hb3⟩
 go_wp2
 go_ret
 exact ⟨rfl, (HB2.out.go hb3).1⟩
theorem isWalkable_any (d : Nd) (hf : Fine d) (hc : cntT d ≤ 65536) (c0 c1 c2 c3 : Value) (w : World) (hd : NdW w d c0 c1 c2 c3) :
  Calls Tryz.prog 33 #[.agg #[c0, c1, c2, c3]] w fun e w' => e = .returned (.bool true) ∧ Below w.heap.size w w' := by
 have HB0 := hid (Boxed.make hd)
 have hdc := depT_cnt _ d (Nat.le_refl _)
 have HM := hid (isWithin_any d hf 65536 65536 (by omega) (by omega) (by omega) c0 c1 c2 c3 _ HB0.out.2.2)
 obtain ⟨x0, x1, x2, x3⟩ := HB0.out.2.1.cells
 clear hd hf hdc hc
 go_enter Tryz.func33, Tryz.ntmps33
 go_wp2_with (go_at_call 47; refine HM.out.mono ?_; rintro e w2 ⟨rfl, hb2⟩)
 go_ret
 exact ⟨rfl, (HB0.out.go hb2).1⟩
end
end Go.Proofs.YtkcilmmaggmmoaaGreatDoor
