/- EchMath, EchRep, ColRep -/
import Derived.Test.YtkcilmmaggmmoaaGreatDoorNT1
import Derived.Test.YtkcilmmaggmmoaaGreatDoorNT17
set_option linter.unusedVariables false
set_option linter.unusedSimpArgs false
set_option maxRecDepth 100000
set_option maxHeartbeats 16000000
namespace Go.Proofs.YtkcilmmaggmmoaaGreatDoor
namespace Ech
end Ech
namespace N8
end N8
namespace Nw
end Nw
end Go.Proofs.YtkcilmmaggmmoaaGreatDoor
namespace Go.Proofs.YtkcilmmaggmmoaaGreatDoor
namespace N8
open Nw
inductive TR where
 | ok (x : L8)
 | err (e : Int)
inductive ER where
 | ok (d : Nd)
 | err (e : Int)
inductive ERs where
 | ok (ds : List Nd)
 | err (e : Int)
def textR : TR → ER
 | .ok x => .ok (.mk 1 x [] [])
 | .err e => .err e
def kidsR (k : Int) (ks : List L8) : ERs → ER
 | .ok r => .ok (.mk k [] ks r)
 | .err e => .err e
def moreR (d : Nd) : ERs → ERs
 | .ok r => .ok (d :: r)
 | .err e => .err e
def consR : ER → ERs → ERs
 | .err e, _ => .err e
 | .ok d, R => moreR d R
mutual
def eachT (F : L8 → TR) : Nd → ER
 | .mk k t ks ds => if k = 1 then textR (F t) else kidsR k ks (eachL F ds)
def eachL (F : L8 → TR) : List Nd → ERs
 | [] => .ok []
 | d :: ds => consR (eachT F d) (eachL F ds)
end
theorem eachL_cons_ok {F : L8 → TR} {d d' : Nd} {ds r : List Nd} : eachL F (d :: ds) = .ok r → ∃ d' r', eachT F d = .ok d' ∧ eachL F ds = .ok r' ∧ r = d' :: r' := by
 intro h
 rw [eachL] at h
 cases h1 : eachT F d with
 | err e => rw [h1] at h; cases h
 | ok d' =>
  cases h2 : eachL F ds with
  | err e => rw [h1, h2] at h; cases h
  | ok r' =>
   rw [h1, h2] at h
   injection h with h
   exact ⟨d', r', rfl, rfl, h.symm⟩
theorem eachL_snoc {F : L8 → TR} {d d' : Nd} (hd : eachT F d = .ok d') : ∀ (a r : List Nd), eachL F a = .ok r → eachL F (a ++ [d]) = .ok (r ++ [d'])
 | [], r, h => by
  rw [eachL] at h; injection h with h; subst h
  show eachL F [d] = .ok [d']
  rw [eachL, eachL, hd]; rfl
 | c :: a, r, h => by
  obtain ⟨c', r', h1, h2, rfl⟩ := eachL_cons_ok (d' := c) h
  show eachL F (c :: (a ++ [d])) = .ok (c' :: (r' ++ [d']))
  rw [eachL, h1, eachL_snoc hd a r' h2]; rfl
theorem eachL_stop {F : L8 → TR} {d : Nd} {e : Int} (hd : eachT F d = .err e) (b : List Nd) : ∀ (a r : List Nd), eachL F a = .ok r → eachL F (a ++ d :: b) = .err e
 | [], r, h => by
  show eachL F (d :: b) = .err e
  rw [eachL, hd]; rfl
 | c :: a, r, h => by
  obtain ⟨c', r', h1, h2, rfl⟩ := eachL_cons_ok (d' := c) h
  show eachL F (c :: (a ++ d :: b)) = .err e
  rw [eachL, h1, eachL_stop hd b a r' h2]; rfl
theorem eachT_kids {F : L8 → TR} {k : Int} (hk : k ≠ 1) (t : L8) (ks : List L8) (ds : List Nd) : eachT F (.mk k t ks ds) = kidsR k ks (eachL F ds) := by rw [eachT, if_neg hk]
theorem half_set {r ds : List Nd} {j : Nat} (h : j < ds.length) (hr : r.length = j) (d : Nd) : (r ++ ds.drop j).set j d = (r ++ [d]) ++ ds.drop (j + 1) := by
 rw [List.set_append_right _ _ (by rw [hr]; exact Nat.le_refl _), hr, Nat.sub_self, List.drop_eq_getElem_cons h, List.set_cons_zero, List.append_assoc]; rfl
theorem half_len {r ds : List Nd} {j : Nat} (h : j ≤ ds.length) (hr : r.length = j) : (r ++ ds.drop j).length = ds.length := by
 rw [List.length_append, List.length_drop, hr]; omega
theorem textsL_kid {x : L8} : ∀ {ds : List Nd} {d : Nd}, d ∈ ds → x ∈ textsT d → x ∈ textsL ds
 | c :: ds, d, h, hx => by
  rw [textsL]
  rcases List.mem_cons.1 h with rfl | h
  ·exact List.mem_append.2 (.inl hx)
  ·exact List.mem_append.2 (.inr (textsL_kid h hx))
end N8
end Go.Proofs.YtkcilmmaggmmoaaGreatDoor
namespace Go.Proofs.YtkcilmmaggmmoaaGreatDoor
open Go.RowKit Go.Sort
open Nw N8 Go.ChangeShapes Go.WideShapes
namespace Ech
def put4 (w : World) (g : Nat) (a b c d : Value) : World := (((w.setCell ⟨g, 0, none⟩ a).setCell ⟨g, 1, none⟩ b).setCell ⟨g, 2, none⟩ c).setCell ⟨g, 3, none⟩ d
theorem put4_oth {w : World} {g : Nat} (b : Nat) (hb : b ≠ g) (a' b' c' d' : Value) : (put4 w g a' b' c' d').heap[b]? = w.heap[b]? := by
 unfold put4
 rw [Below.heap_setCell _ _ _ _ (by show b ≠ g; omega), Below.heap_setCell _ _ _ _ (by show b ≠ g; omega), Below.heap_setCell _ _ _ _ (by show b ≠ g; omega), Below.heap_setCell _ _ _ _ (by show b ≠ g; omega)]
theorem put4_size (w : World) (g : Nat) (a b c d : Value) : (put4 w g a b c d).heap.size = w.heap.size := by unfold put4; simp
theorem below_put4 {B : Nat} {w w' : World} {g : Nat} (h : Below B w w') (hg : B ≤ g) (a b c d : Value) : Below B w (put4 w' g a b c d) :=
 (((h.setCell (p := ⟨g, 0, none⟩) hg a).setCell (p := ⟨g, 1, none⟩) hg b).setCell (p := ⟨g, 2, none⟩) hg c).setCell (p := ⟨g, 3, none⟩) hg d
theorem put4at_size (w : World) (g o : Nat) (a b c d : Value) : (put4at w g o a b c d).heap.size = w.heap.size := by unfold put4at; simp
def Old (S : Nat → Prop) (w : World) : Prop := ∀ b, S b → b < w.heap.size
def Now (S : Nat → Prop) (w w' : World) (b : Nat) : Prop := S b ∨ (w.heap.size ≤ b ∧ b < w'.heap.size)
theorem Old.go {S : Nat → Prop} {w w' : World} (h : Old S w) (hs : w.heap.size ≤ w'.heap.size) : Old S w' := fun b hb => Nat.lt_of_lt_of_le (h b hb) hs
def RX (S : Nat → Prop) (w W : World) (d : Nd) (c0 c1 c2 c3 : Value) : Prop :=
 Old S w ∧ Below w.heap.size w W ∧ Row4 W w.heap.size 25 c0 c1 c2 c3 ∧ Row4 W (w.heap.size + 1) 25 (.int .i64 0) (.string ⟨#[]⟩) (.slice none 0 0) (.slice none 0 0) ∧ NdC S W d c0 c1 c2 c3
section
variable {S : Nat → Prop} {w W W' : World} {d : Nd} {c0 c1 c2 c3 : Value}
theorem RX.size (h : RX S w W d c0 c1 c2 c3) : w.heap.size + 2 ≤ W.heap.size := h.2.2.2.1.lt
theorem RX.far (h : RX S w W d c0 c1 c2 c3) (hb : Below (w.heap.size + 2) W W') : RX S w W' d c0 c1 c2 c3 := by
 refine ⟨h.1, h.2.1.trans (hb.mono (by omega)), (hb.block _ (by omega)).trans h.2.2.1, (hb.block _ (by omega)).trans h.2.2.2.1, NdC.keep (fun b hs => ⟨hs, hb.block b ?_⟩) d h.2.2.2.2⟩
 have := h.1 b hs
 omega
theorem RX.go (h : RX S w W d c0 c1 c2 c3) (hb : Below W.heap.size W W') : RX S w W' d c0 c1 c2 c3 := h.far (hb.mono h.size)
theorem RX.make (hS : Old S w) (h : NdC S w d c0 c1 c2 c3) : RX S w ((w.alloc (.cells #[c0, c1, c2, c3] 25)).alloc (.cells #[.int .i64 0, .string ⟨#[]⟩, .slice none 0 0, .slice none 0 0] 25)) d c0 c1 c2 c3 := by
 have hb1 : Below w.heap.size w (w.alloc (.cells #[c0, c1, c2, c3] 25)) := (Below.refl _ _).alloc (Nat.le_refl _) _
 have hb2 : Below w.heap.size w ((w.alloc (.cells #[c0, c1, c2, c3] 25)).alloc (.cells #[.int .i64 0, .string ⟨#[]⟩, .slice none 0 0, .slice none 0 0] 25)) := hb1.alloc (by simp) _
 refine ⟨hS, hb2, (Row4.make w _ _ _ _ _).alloc _, ?_, NdC.keep (fun b hb => ⟨hb, hb2.block b (hS b hb)⟩) d h⟩
 have := Row4.make (w.alloc (.cells #[c0, c1, c2, c3] 25)) 25 (.int .i64 0) (.string ⟨#[]⟩) (.slice none 0 0) (.slice none 0 0)
 rw [show (w.alloc (.cells #[c0, c1, c2, c3] 25)).heap.size = w.heap.size + 1 by simp] at this
 exact this
end
theorem ndx_text (S : Nat → Prop) (w : World) (s : ByteArray) : NdC S w (.mk 1 s.data.toList [] []) (.int .i64 1) (.string s) (.slice none 0 0) (.slice none 0 0) := by
 rw [NdC]
 refine ⟨rfl, by rw [ba_of], ⟨none, 0, rfl, Nat.zero_le _, Nat.zero_le _, .inl ⟨rfl, fun _ => rfl⟩⟩, none, 0, rfl, Nat.zero_le _, Nat.zero_le _, fun _ => rfl, ?_⟩
 rw [NdK]; trivial
def Own (S : Nat → Prop) (w W : World) (v : Value) (b : Nat) : Prop := S b ∨ (w.heap.size + 2 ≤ b ∧ b < W.heap.size ∧ v.ownBlock ≠ some b)
def LS (S : Nat → Prop) (w W : World) (d : Nd) (c0 c1 c2 c3 : Value) (v : Value) (M : List Nd) : Prop :=
 RX S w W d c0 c1 c2 c3 ∧ ∃ qs, KO (Own S w W v) (w.heap.size + 2) W v qs M
section
variable {S : Nat → Prop} {w W W' : World} {d : Nd} {c0 c1 c2 c3 v : Value} {M : List Nd}
theorem LS.go (h : LS S w W d c0 c1 c2 c3 v M) (hx : Below W.heap.size W W') : LS S w W' d c0 c1 c2 c3 v M := by
 obtain ⟨h1, qs, h2⟩ := h
 have hs := h1.size
 refine ⟨h1.go hx, qs, h2.keep (fun b hb => ?_) fun b hb => ?_⟩
 ·rcases hb with hb | ⟨a1, a2, a3⟩
  ·have hb2 := h1.1 b hb
   exact ⟨.inl hb, hx.block b (by omega)⟩
  ·exact ⟨.inr ⟨a1, Nat.lt_of_lt_of_le a2 hx.size, a3⟩, hx.block b a2⟩
 ·have hl := h2.1.lt b hb
  exact hx.block b hl.2
theorem LS.put {h cap n : Nat} (hl : LS S w W d c0 c1 c2 c3 (.slice (some ⟨h, 0, none⟩) n cap) M) (hn : M.length = n) (j : Nat) (hj : j < M.length) (e : Nd) (q : Q4) (w1 : World) (hw1 : h < w1.heap.size) (hw2 : w.heap.size + 2 ≤ w1.heap.size) (he : NdC (Now S w1 W) W e q.a q.b q.c q.d) :
  LS S w (put4at W h (j * 4) q.a q.b q.c q.d) d c0 c1 c2 c3 (.slice (some ⟨h, 0, none⟩) n cap) (M.set j e) := by
 obtain ⟨h1, qs, h2⟩ := hl
 have hbh : w.heap.size + 2 ≤ h := (h2.1.lt h rfl).1
 have hO : ∀ b, Own S w W (.slice (some ⟨h, 0, none⟩) n cap) b → b ≠ h := by
  intro b hb
  rcases hb with hb | ⟨_, _, a3⟩
  ·have := h1.1 b hb; omega
  ·rintro rfl; exact a3 rfl
 refine ⟨h1.far (below_put4at (Below.refl _ _) hbh _ _ _ _), qs.set j q, ?_⟩
 have hk := h2.stored hn hO j hj e q (NdC.keep (fun b hb => ⟨?_, rfl⟩) e he)
 ·exact hk.keep (fun b hb => ⟨by unfold Own; rw [put4at_size]; exact hb, rfl⟩) fun _ _ => rfl
 ·rcases hb with hb | ⟨a1, a2⟩
  ·exact .inl hb
  ·refine .inr ⟨by omega, a2, fun e => ?_⟩
   have e' : some h = some b := e
   injection e' with e'
   omega
theorem LS.done {k : Int} {t : L8} {ks : List L8} {ds M : List Nd} (h : LS S w W (.mk k t ks ds) (.int .i64 k) c1 c2 c3 v M) :
  Below w.heap.size w (put4 W (w.heap.size + 1) (.int .i64 k) (.string ⟨#[]⟩) c2 v) ∧ NdC (Now S w (put4 W (w.heap.size + 1) (.int .i64 k) (.string ⟨#[]⟩) c2 v)) (put4 W (w.heap.size + 1) (.int .i64 k) (.string ⟨#[]⟩) c2 v) (.mk k [] ks M) (.int .i64 k) (.string ⟨#[]⟩) c2 v := by
 obtain ⟨h1, qs, h2⟩ := h
 have hs := h1.size
 have hbb : Below (w.heap.size + 1) W (put4 W (w.heap.size + 1) (.int .i64 k) (.string ⟨#[]⟩) c2 v) := below_put4 (Below.refl _ _) (Nat.le_refl _) _ _ _ _
 refine ⟨h1.2.1.trans (hbb.mono (by omega)), ?_⟩
 have hT : NdC (fun b => S b ∨ (w.heap.size + 2 ≤ b ∧ b < W.heap.size)) W (.mk k [] ks M) (.int .i64 k) (.string ⟨#[]⟩) c2 v := by
  rw [NdC]
  have h3 := h1.2.2.2.2
  rw [NdC] at h3
  refine ⟨rfl, rfl, h3.2.2.1.keep fun b hb => ⟨.inl hb, rfl⟩, ?_⟩
  exact h2.kdS (fun b hb => hb.imp id fun x => ⟨x.1, x.2.1⟩) fun b hb => .inr (h2.1.lt b hb)
 refine NdC.keep (fun b hb => ?_) _ hT
 rcases hb with hb | ⟨a1, a2⟩
 ·exact ⟨.inl hb, hbb.block b (by have := h1.1 b hb; omega)⟩
 ·exact ⟨.inr ⟨by omega, by rw [put4_size]; exact a2⟩, put4_oth b (by omega) _ _ _ _⟩
end
def TextO (R : TR) (e : Ending) : Prop := match R with
 | .ok x => e = .returned (.tuple #[.string (ba x), .int .i64 0])
 | .err n => n ≠ 0 ∧ ∃ q : ByteArray, e = .returned (.tuple #[.string q, .int .i64 n])
def RepO (S : Nat → Prop) (w : World) (R : ER) (e : Ending) (w' : World) : Prop := match R with
 | .ok d' => ∃ c0 c1 c2 c3, e = .returned (.tuple #[.agg #[c0, c1, c2, c3], .int .i64 0]) ∧ NdC (Now S w w') w' d' c0 c1 c2 c3
 | .err n => n ≠ 0 ∧ e = .returned (.tuple #[.agg #[.int .i64 0, .string ⟨#[]⟩, .slice none 0 0, .slice none 0 0], .int .i64 n])
end Ech
end Go.Proofs.YtkcilmmaggmmoaaGreatDoor
namespace Go.Proofs.YtkcilmmaggmmoaaGreatDoor
open Go.RowKit Go.Sort
open Nw N8 Go.ChangeShapes Go.WideShapes
namespace Col
open Ech (put4 put4_oth put4_size below_put4 put4at_size)
def Cl (g : Nat) (w : World) (b : Nat) : Prop := b = g ∨ ∃ v, w.cell? ⟨g, 0, none⟩ = some v ∧ v.ownBlock = some b
theorem cell_heap {w w' : World} {p : Addr} (h : w'.heap[p.block]? = w.heap[p.block]?) : w'.cell? p = w.cell? p := by unfold World.cell?; rw [h]
theorem Cl.same {g : Nat} {w w' : World} (h : w'.heap[g]? = w.heap[g]?) (b : Nat) : Cl g w' b ↔ Cl g w b := by
 unfold Cl
 rw [cell_heap (p := ⟨g, 0, none⟩) h]
def Tm (g : Nat) (w : World) (b : Nat) : Prop := b < w.heap.size ∧ ¬ Cl g w b
def Pc (g : Nat) (w : World) : Prop := ∀ b, Cl g w b → b < w.heap.size
theorem Pc.lt {g : Nat} {w : World} (h : Pc g w) : g < w.heap.size := h g (.inl rfl)
structure Kx (g : Nat) (w w' : World) : Prop where
 os : w'.os = w.os
 tape : w'.tape = w.tape
 output : w'.output = w.output
 size : w.heap.size ≤ w'.heap.size
 block : ∀ b, Tm g w b → w'.heap[b]? = w.heap[b]?
 own : ∀ b, Cl g w' b → Cl g w b ∨ (w.heap.size ≤ b ∧ b < w'.heap.size)
theorem Kx.refl (g : Nat) (w : World) : Kx g w w := ⟨rfl, rfl, rfl, Nat.le_refl _, fun _ _ => rfl, fun _ h => .inl h⟩
theorem Kx.tm {g : Nat} {w w' : World} (h : Kx g w w') {b : Nat} (hb : Tm g w b) : Tm g w' b :=
 ⟨Nat.lt_of_lt_of_le hb.1 h.size, fun hc => (h.own b hc).elim hb.2 fun x => by have := hb.1; omega⟩
theorem Kx.trans {g : Nat} {w w1 w2 : World} (h : Kx g w w1) (k : Kx g w1 w2) : Kx g w w2 :=
 ⟨k.os.trans h.os, k.tape.trans h.tape, k.output.trans h.output, Nat.le_trans h.size k.size, fun b hb => (k.block b (h.tm hb)).trans (h.block b hb), fun b hb => by
  rcases k.own b hb with x | x
  ·rcases h.own b x with y | y
   ·exact .inl y
   ·exact .inr ⟨y.1, Nat.lt_of_lt_of_le y.2 k.size⟩
  ·exact .inr ⟨Nat.le_trans h.size x.1, x.2⟩⟩
theorem Pc.go {g : Nat} {w w' : World} (h : Pc g w) (k : Kx g w w') : Pc g w' := fun b hb => (k.own b hb).elim (fun x => Nat.lt_of_lt_of_le (h b x) k.size) fun x => x.2
theorem Kx.below {g : Nat} {w W W' : World} (h : Kx g w W) (hg : g < w.heap.size) (hb : Below w.heap.size W W') : Kx g w W' :=
 ⟨hb.os.trans h.os, hb.tape.trans h.tape, hb.output.trans h.output, Nat.le_trans h.size hb.size, fun b hbb => (hb.block b hbb.1).trans (h.block b hbb), fun b hc => by
  rcases h.own b ((Cl.same (hb.block g hg) b).1 hc) with x | x
  ·exact .inl x
  ·exact .inr ⟨x.1, Nat.lt_of_lt_of_le x.2 hb.size⟩⟩
theorem Tm.below {g B b : Nat} {W W' : World} (h : Tm g W b) (hg : g < B) (hb : Below B W W') : Tm g W' b :=
 ⟨Nat.lt_of_lt_of_le h.1 hb.size, fun hc => h.2 ((Cl.same (hb.block g hg) b).1 hc)⟩
theorem Tm.new {g b : Nat} {W W' : World} (h : Pc g W) (hb : Below W.heap.size W W') (h1 : W.heap.size ≤ b) (h2 : b < W'.heap.size) : Tm g W' b :=
 ⟨h2, fun hc => by have := h b ((Cl.same (hb.block g h.lt) b).1 hc); omega⟩
def Old (S : Nat → Prop) (g : Nat) (w : World) : Prop := ∀ b, S b → Tm g w b
def Now (S : Nat → Prop) (g : Nat) (w w' : World) (b : Nat) : Prop := S b ∨ (w.heap.size ≤ b ∧ Tm g w' b)
theorem Old.go {S : Nat → Prop} {g : Nat} {w w' : World} (h : Old S g w) (hs : Kx g w w') : Old S g w' := fun b hb => hs.tm (h b hb)
def RX (S : Nat → Prop) (g : Nat) (w W : World) (d : Nd) (c0 c1 c2 c3 : Value) : Prop :=
 Old S g w ∧ Pc g w ∧ Kx g w W ∧ Row4 W w.heap.size 25 c0 c1 c2 c3 ∧ Row4 W (w.heap.size + 1) 25 (.int .i64 0) (.string ⟨#[]⟩) (.slice none 0 0) (.slice none 0 0) ∧ Tm g W w.heap.size ∧ Tm g W (w.heap.size + 1) ∧ NdC S W d c0 c1 c2 c3
section
variable {S : Nat → Prop} {g : Nat} {w W W' : World} {d : Nd} {c0 c1 c2 c3 : Value}
theorem RX.size (h : RX S g w W d c0 c1 c2 c3) : w.heap.size + 2 ≤ W.heap.size := h.2.2.2.2.1.lt
theorem RX.far (h : RX S g w W d c0 c1 c2 c3) (hb : Below (w.heap.size + 2) W W') : RX S g w W' d c0 c1 c2 c3 := by
 have hg := h.2.1.lt
 refine ⟨h.1, h.2.1, h.2.2.1.below hg (hb.mono (by omega)), (hb.block _ (by omega)).trans h.2.2.2.1, (hb.block _ (by omega)).trans h.2.2.2.2.1, h.2.2.2.2.2.1.below (by omega) hb, h.2.2.2.2.2.2.1.below (by omega) hb, NdC.keep (fun b hs => ⟨hs, hb.block b ?_⟩) d h.2.2.2.2.2.2.2⟩
 have := (h.1 b hs).1
 omega
theorem RX.go (h : RX S g w W d c0 c1 c2 c3) (hk : Kx g W W') : RX S g w W' d c0 c1 c2 c3 :=
 ⟨h.1, h.2.1, h.2.2.1.trans hk, (hk.block _ h.2.2.2.2.2.1).trans h.2.2.2.1, (hk.block _ h.2.2.2.2.2.2.1).trans h.2.2.2.2.1, hk.tm h.2.2.2.2.2.1, hk.tm h.2.2.2.2.2.2.1, NdC.keep (fun b hs => ⟨hs, hk.block b (h.2.2.1.tm (h.1 b hs))⟩) d h.2.2.2.2.2.2.2⟩
theorem RX.make (hS : Old S g w) (hp : Pc g w) (h : NdC S w d c0 c1 c2 c3) : RX S g w ((w.alloc (.cells #[c0, c1, c2, c3] 25)).alloc (.cells #[.int .i64 0, .string ⟨#[]⟩, .slice none 0 0, .slice none 0 0] 25)) d c0 c1 c2 c3 := by
 have hb1 : Below w.heap.size w (w.alloc (.cells #[c0, c1, c2, c3] 25)) := (Below.refl _ _).alloc (Nat.le_refl _) _
 have hb2 : Below w.heap.size w ((w.alloc (.cells #[c0, c1, c2, c3] 25)).alloc (.cells #[.int .i64 0, .string ⟨#[]⟩, .slice none 0 0, .slice none 0 0] 25)) := hb1.alloc (by simp) _
 have hz : ((w.alloc (.cells #[c0, c1, c2, c3] 25)).alloc (.cells #[.int .i64 0, .string ⟨#[]⟩, .slice none 0 0, .slice none 0 0] 25)).heap.size = w.heap.size + 2 := by simp
 refine ⟨hS, hp, (Kx.refl g w).below hp.lt hb2, (Row4.make w _ _ _ _ _).alloc _, ?_, Tm.new hp hb2 (Nat.le_refl _) (by rw [hz]; omega), Tm.new hp hb2 (Nat.le_succ _) (by rw [hz]; omega), NdC.keep (fun b hb => ⟨hb, hb2.block b (hS b hb).1⟩) d h⟩
 have := Row4.make (w.alloc (.cells #[c0, c1, c2, c3] 25)) 25 (.int .i64 0) (.string ⟨#[]⟩) (.slice none 0 0) (.slice none 0 0)
 rw [show (w.alloc (.cells #[c0, c1, c2, c3] 25)).heap.size = w.heap.size + 1 by simp] at this
 exact this
end
def Own (S : Nat → Prop) (g : Nat) (w W : World) (v : Value) (b : Nat) : Prop := S b ∨ (w.heap.size + 2 ≤ b ∧ Tm g W b ∧ v.ownBlock ≠ some b)
def LS (S : Nat → Prop) (g : Nat) (w W : World) (d : Nd) (c0 c1 c2 c3 : Value) (v : Value) (M : List Nd) : Prop :=
 RX S g w W d c0 c1 c2 c3 ∧ (∀ b, v.ownBlock = some b → Tm g W b) ∧ ∃ qs, KO (Own S g w W v) (w.heap.size + 2) W v qs M
section
variable {S : Nat → Prop} {g : Nat} {w W W' : World} {d : Nd} {c0 c1 c2 c3 v : Value} {M : List Nd}
theorem LS.go (h : LS S g w W d c0 c1 c2 c3 v M) (hx : Kx g W W') : LS S g w W' d c0 c1 c2 c3 v M := by
 obtain ⟨h1, ht, qs, h2⟩ := h
 refine ⟨h1.go hx, fun b hb => hx.tm (ht b hb), qs, h2.keep (fun b hb => ?_) fun b hb => hx.block b (ht b hb)⟩
 rcases hb with hb | ⟨a1, a2, a3⟩
 ·exact ⟨.inl hb, hx.block b (h1.2.2.1.tm (h1.1 b hb))⟩
 ·exact ⟨.inr ⟨a1, hx.tm a2, a3⟩, hx.block b a2⟩
theorem LS.put {h cap n : Nat} (hl : LS S g w W d c0 c1 c2 c3 (.slice (some ⟨h, 0, none⟩) n cap) M) (hn : M.length = n) (j : Nat) (hj : j < M.length) (e : Nd) (q : Q4) (w1 : World) (hw1 : h < w1.heap.size) (hw2 : w.heap.size + 2 ≤ w1.heap.size) (he : NdC (Now S g w1 W) W e q.a q.b q.c q.d) :
  LS S g w (put4at W h (j * 4) q.a q.b q.c q.d) d c0 c1 c2 c3 (.slice (some ⟨h, 0, none⟩) n cap) (M.set j e) := by
 obtain ⟨h1, ht, qs, h2⟩ := hl
 have hbh : w.heap.size + 2 ≤ h := (h2.1.lt h rfl).1
 have hg := h1.2.1.lt
 have hbb : Below (w.heap.size + 2) W (put4at W h (j * 4) q.a q.b q.c q.d) := below_put4at (Below.refl _ _) hbh _ _ _ _
 have hO : ∀ b, Own S g w W (.slice (some ⟨h, 0, none⟩) n cap) b → b ≠ h := by
  intro b hb
  rcases hb with hb | ⟨_, _, a3⟩
  ·have := (h1.1 b hb).1; omega
  ·rintro rfl; exact a3 rfl
 refine ⟨h1.far hbb, fun b hb => (ht b hb).below (by omega) hbb, qs.set j q, ?_⟩
 have hk := h2.stored hn hO j hj e q (NdC.keep (fun b hb => ⟨?_, rfl⟩) e he)
 ·refine hk.keep (fun b hb => ⟨?_, rfl⟩) fun _ _ => rfl
  rcases hb with hb | ⟨a1, a2, a3⟩
  ·exact .inl hb
  ·exact .inr ⟨a1, a2.below (by omega) hbb, a3⟩
 ·rcases hb with hb | ⟨a1, a2⟩
  ·exact .inl hb
  ·refine .inr ⟨by omega, a2, fun e => ?_⟩
   have e' : some h = some b := e
   injection e' with e'
   omega
theorem LS.done {k : Int} {t : L8} {ks : List L8} {ds M : List Nd} (h : LS S g w W (.mk k t ks ds) (.int .i64 k) c1 c2 c3 v M) :
  Below (w.heap.size + 1) W (put4 W (w.heap.size + 1) (.int .i64 k) (.string ⟨#[]⟩) c2 v) ∧ Kx g w (put4 W (w.heap.size + 1) (.int .i64 k) (.string ⟨#[]⟩) c2 v) ∧ NdC (Now S g w (put4 W (w.heap.size + 1) (.int .i64 k) (.string ⟨#[]⟩) c2 v)) (put4 W (w.heap.size + 1) (.int .i64 k) (.string ⟨#[]⟩) c2 v) (.mk k [] ks M) (.int .i64 k) (.string ⟨#[]⟩) c2 v := by
 obtain ⟨h1, ht, qs, h2⟩ := h
 have hs := h1.size
 have hg := h1.2.1.lt
 have hbb : Below (w.heap.size + 1) W (put4 W (w.heap.size + 1) (.int .i64 k) (.string ⟨#[]⟩) c2 v) := below_put4 (Below.refl _ _) (Nat.le_refl _) _ _ _ _
 refine ⟨hbb, h1.2.2.1.below hg (hbb.mono (by omega)), ?_⟩
 have hT : NdC (fun b => S b ∨ (w.heap.size + 2 ≤ b ∧ Tm g W b)) W (.mk k [] ks M) (.int .i64 k) (.string ⟨#[]⟩) c2 v := by
  rw [NdC]
  have h3 := h1.2.2.2.2.2.2.2
  rw [NdC] at h3
  refine ⟨rfl, rfl, h3.2.2.1.keep fun b hb => ⟨.inl hb, rfl⟩, ?_⟩
  exact h2.kdS (fun b hb => hb.imp id fun x => ⟨x.1, x.2.1⟩) fun b hb => .inr ⟨(h2.1.lt b hb).1, ht b hb⟩
 refine NdC.keep (fun b hb => ?_) _ hT
 rcases hb with hb | ⟨a1, a2⟩
 ·exact ⟨.inl hb, hbb.block b (by have := (h1.1 b hb).1; omega)⟩
 ·exact ⟨.inr ⟨by omega, a2.below (by omega) hbb⟩, put4_oth b (by omega) _ _ _ _⟩
end
mutual
def visT : Nd → List L8
 | .mk k t _ ds => if k = 1 then [t] else visL ds
def visL : List Nd → List L8
 | [] => []
 | d :: ds => visT d ++ visL ds
end
mutual
theorem vis_texts : ∀ d : Nd, Fine d → visT d = textsT d
 | .mk k t ks ds, hf => by
  rw [visT, textsT]
  by_cases hk : k = 1
  ·subst hk
   have h2 : ks = [] ∧ ds = [] := by
    cases hf with
    | mk h0 h3 hf hk hdd => unfold N8.formB at hf; simp at hf; exact hf
   obtain ⟨rfl, rfl⟩ := h2
   rw [if_pos rfl, if_pos rfl, textsL]; rfl
  ·rw [if_neg hk, if_neg hk, vis_textsL ds (by cases hf with | mk _ _ _ _ hdd => exact hdd), List.nil_append]
theorem vis_textsL : ∀ ds : List Nd, (∀ d ∈ ds, Fine d) → visL ds = textsL ds
 | [], _ => by rw [visL, textsL]
 | d :: ds, h => by rw [visL, textsL, vis_texts d (h d (List.mem_cons_self ..)), vis_textsL ds fun e he => h e (List.mem_cons_of_mem _ he)]
end
theorem visL_take {ds : List Nd} {j : Nat} (h : j < ds.length) : visL (ds.take (j + 1)) = visL (ds.take j) ++ visT (ds[j]'h) := by
 induction ds generalizing j with
 | nil => exact absurd h (Nat.not_lt_zero _)
 | cons d ds ih =>
  cases j with
  | zero => rw [List.take_succ_cons, List.take_zero, List.take_zero, visL, List.getElem_cons_zero]; simp [visL]
  | succ j => rw [List.take_succ_cons, List.take_succ_cons, visL, visL, ih (Nat.lt_of_succ_lt_succ h), List.getElem_cons_succ, List.append_assoc]
theorem vis_mem {ds : List Nd} {j : Nat} (h : j < ds.length) {x : L8} (hx : x ∈ visT (ds[j]'h)) : x ∈ visL ds := by
 induction ds generalizing j with
 | nil => exact absurd h (Nat.not_lt_zero _)
 | cons d ds ih =>
  rw [visL]
  cases j with
  | zero => exact List.mem_append_left _ hx
  | succ j => exact List.mem_append_right _ (ih (Nat.lt_of_succ_lt_succ h) hx)
end Col
end Go.Proofs.YtkcilmmaggmmoaaGreatDoor
